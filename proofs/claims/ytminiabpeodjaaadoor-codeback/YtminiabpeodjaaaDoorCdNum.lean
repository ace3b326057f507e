/-
  package code: number BY ITS CONTRACT.
-/
import Derived.Test.YtminiabpeodjaaaDoorCdUtf
import Derived.Test.YtminiabpeodjaaaDoorAllA
namespace Go.Proofs.YtminiabpeodjaaaDoor
set_option linter.unusedVariables false
set_option linter.unusedSimpArgs false
open Go.RowKit
attribute [local go_sem] Oper.semAt_some

/-- What the first k signs say; none: they say nothing. -/
def numK (s : ByteArray) : Nat → Option Nat
  | 0 => some 0
  | k + 1 => match numK s k with
    | none => none
    | some n => if (s.get! k).toNat < 48 ∨ 57 < (s.get! k).toNat ∨ (0 < k ∧ n = 0) then none else if 63 < 10 * n + ((s.get! k).toNat - 48) then none else some (10 * n + ((s.get! k).toNat - 48))
theorem numK_le (s : ByteArray) : ∀ k n, numK s k = some n → n ≤ 63
  | 0, n, h => by simp [numK] at h; omega
  | k + 1, n, h => by
    unfold numK at h
    split at h
    · simp at h
    · split at h
      · simp at h
      · split at h
        · simp at h
        · simp at h; omega
theorem numK_none {s : ByteArray} {k : Nat} (h : numK s k = none) : ∀ m, k ≤ m → numK s m = none
  | 0, hm => by
    obtain rfl : k = 0 := by omega
    exact h
  | m + 1, hm => by
    by_cases e : k = m + 1
    · rw [← e]; exact h
    · unfold numK
      rw [numK_none h m (by omega)]
def numN (s : ByteArray) : Int := match numK s s.size with | some n => (n : Int) | none => 0
def numOk (s : ByteArray) : Bool := match numK s s.size with | some n => s.size != 0 | none => false
theorem num_bad {s : ByteArray} {k : Nat} (hk : k ≤ s.size) (h : numK s k = none) : numN s = 0 ∧ numOk s = false := by
  unfold numN numOk
  rw [numK_none h s.size hk]
  exact ⟨rfl, rfl⟩
set_option maxRecDepth 100000 in
set_option maxHeartbeats 1000000 in
theorem number_any (s : ByteArray) (hs : s.size ≤ 100000) (w : World) : Calls Tryd.prog 52 #[.string s] w fun e w' => e = .returned (.tuple #[.int .i64 (numN s), .bool (numOk s)]) ∧ Touch w w' [] := by
  have HTI : Hid (∀ p, Touch w (w.iter s p) []) := fun p => (Touch.refl w []).alloc (.stringIter s p)
  go_enter Tryd.func52, Tryd.ntmps52
  go_wp2_with fail
  go_loopw [2] (fun v wr => ∃ pos n : Nat, wr = w.iter s pos ∧ v = .int .i64 n ∧ pos ≤ s.size ∧ numK s pos = some n) (fun _ wr => s.size - wr.iterPos w.heap.size)
  case atStart => exact ⟨0, 0, rfl, rfl, Nat.zero_le _, rfl⟩
  case round =>
    obtain ⟨pos, n, rfl, rfl, hpos, hnum⟩ := hrel
    have hn63 := numK_le s pos n hnum
    by_cases hlt : pos < s.size
    · have hgt : s.get! pos = s[pos]'hlt := get_at s pos hlt
      have HS : Hid (numK s (pos + 1) = if (s.get! pos).toNat < 48 ∨ 57 < (s.get! pos).toNat ∨ (0 < pos ∧ n = 0) then none else if 63 < 10 * n + ((s.get! pos).toNat - 48) then none else some (10 * n + ((s.get! pos).toNat - 48))) := by
        show _ = _
        conv => lhs; unfold numK
        rw [hnum]
      by_cases ha : (s[pos]'hlt).toNat < 128
      · have hnx := fun ty => run_next_ascii (P := Tryd.prog) w s pos ty hlt ha
        rw [hgt] at HS
        generalize (s[pos]'hlt).toNat = c at *
        clear hgt hnum
        by_cases h48 : c < 48
        · have HB : Hid (numN s = 0 ∧ numOk s = false) := num_bad (k := pos + 1) hlt (by rw [HS.out, if_pos (.inl h48)])
          have h48' : (c : Int) < 48 := by omega
          clear HS
          go_wp2
          refine bodyPost_ret (v := .tuple #[.int .i64 0, .bool false]) (by simp [results, Tryd.results52, go_sem]) rfl ?_
          rw [HB.out.1, HB.out.2]
          exact ⟨rfl, HTI.out _⟩
        · have h48' : ¬ ((c : Int) < 48) := by omega
          by_cases h57 : 57 < c
          · have HB : Hid (numN s = 0 ∧ numOk s = false) := num_bad (k := pos + 1) hlt (by rw [HS.out, if_pos (.inr (.inl h57))])
            have h57' : (57 : Int) < c := by omega
            clear HS
            go_wp2
            refine bodyPost_ret (v := .tuple #[.int .i64 0, .bool false]) (by simp [results, Tryd.results52, go_sem]) rfl ?_
            rw [HB.out.1, HB.out.2]
            exact ⟨rfl, HTI.out _⟩
          · have h57' : ¬ ((57 : Int) < c) := by omega
            by_cases hz : 0 < pos ∧ n = 0
            · have HB : Hid (numN s = 0 ∧ numOk s = false) := num_bad (k := pos + 1) hlt (by rw [HS.out, if_pos (.inr (.inr hz))])
              have hp : (0 : Int) < pos := by omega
              obtain ⟨_, rfl⟩ := hz
              clear HS
              go_wp2
              refine bodyPost_ret (v := .tuple #[.int .i64 0, .bool false]) (by simp [results, Tryd.results52, go_sem]) rfl ?_
              rw [HB.out.1, HB.out.2]
              exact ⟨rfl, HTI.out _⟩
            · have hS2 := HS.out
              rw [if_neg (by omega)] at hS2
              have HS2 : Hid _ := hS2
              clear HS hS2
              have w1 : IntKind.i64.wrap (10 * (n : Int)) = 10 * n := by rw [IntKind.wrap_i64]; omega
              have w2 : IntKind.i32.wrap ((c : Int) - 48) = (c : Int) - 48 := by rw [IntKind.wrap_i32]; omega
              have w3 : IntKind.i64.wrap ((c : Int) - 48) = (c : Int) - 48 := by rw [IntKind.wrap_i64]; omega
              have w4 : IntKind.i64.wrap (10 * (n : Int) + ((c : Int) - 48)) = ((10 * n + (c - 48) : Nat) : Int) := by rw [IntKind.wrap_i64]; omega
              obtain ⟨q, hq⟩ : ∃ q, q = 10 * n + (c - 48) := ⟨_, rfl⟩
              rw [← hq] at w4 HS2
              have hzz : ¬ ((0 : Int) < pos) ∨ ((0 : Int) < pos ∧ ((n : Int) == 0) = false) := by
                by_cases hp : 0 < pos
                · right; refine ⟨by omega, ?_⟩; simp; omega
                · left; omega
              clear hz
              by_cases h63 : 63 < q
              · have HB : Hid (numN s = 0 ∧ numOk s = false) := num_bad (k := pos + 1) hlt (by rw [HS2.out, if_pos h63])
                have h63' : (63 : Int) < q := by omega
                clear HS2 hq
                rcases hzz with hp | ⟨hp, hp2⟩
                · go_wp2
                  refine bodyPost_ret (v := .tuple #[.int .i64 0, .bool false]) (by simp [results, Tryd.results52, go_sem]) rfl ?_
                  rw [HB.out.1, HB.out.2]
                  exact ⟨rfl, HTI.out _⟩
                · go_wp2
                  refine bodyPost_ret (v := .tuple #[.int .i64 0, .bool false]) (by simp [results, Tryd.results52, go_sem]) rfl ?_
                  rw [HB.out.1, HB.out.2]
                  exact ⟨rfl, HTI.out _⟩
              · have HB : Hid (numK s (pos + 1) = some q) := by show _ = _; rw [HS2.out, if_neg h63]
                have h63' : ¬ ((63 : Int) < q) := by omega
                clear HS2 hq
                rcases hzz with hp | ⟨hp, hp2⟩
                · go_wp2
                  go_roundw
                  case rel => exact ⟨pos + 1, q, rfl, rfl, hlt, HB.out⟩
                  case measure => simp; omega
                · go_wp2
                  go_roundw
                  case rel => exact ⟨pos + 1, q, rfl, rfl, hlt, HB.out⟩
                  case measure => simp; omega
      · have hnx := fun ty => run_next_any (P := Tryd.prog) w s pos ty hlt
        have hh := decode_high s pos hlt (by omega)
        have HB : Hid (numN s = 0 ∧ numOk s = false) := num_bad (k := pos + 1) hlt (by rw [HS.out, hgt, if_pos (.inr (.inl (by omega)))])
        generalize Utf8.decode s pos = d at *
        obtain ⟨c, m⟩ := d
        simp only at hh hnx
        have h48' : ¬ ((c : Int) < 48) := by omega
        have h57' : (57 : Int) < c := by omega
        clear HS hgt hnum
        go_wp2
        refine bodyPost_ret (v := .tuple #[.int .i64 0, .bool false]) (by simp [results, Tryd.results52, go_sem]) rfl ?_
        rw [HB.out.1, HB.out.2]
        exact ⟨rfl, HTI.out _⟩
    · have hnx := fun ty => run_next_end (P := Tryd.prog) w s pos ty hlt
      obtain rfl : pos = s.size := by omega
      by_cases he : s = ⟨#[]⟩
      · have HE : Hid (numN s = n ∧ numOk s = false) := ⟨by unfold numN; rw [hnum], by unfold numOk; rw [hnum, he]; rfl⟩
        have htl : s.toList = [] := by rw [he]; first | simp | decide | simp [ByteArray.toList_eq] | (unfold ByteArray.toList; rfl)
        clear hnum he
        go_wp2
        refine bodyPost_ret (v := .tuple #[.int .i64 n, .bool false]) (by simp [results, Tryd.results52, go_sem, htl]) rfl ?_
        rw [HE.out.1, HE.out.2]
        exact ⟨rfl, HTI.out _⟩
      · have hz : s.size ≠ 0 := fun q => he (by
          obtain ⟨d⟩ := s
          have : d = #[] := by simpa [ByteArray.size] using q
          rw [this])
        have HE : Hid (numN s = n ∧ numOk s = true) := ⟨by unfold numN; rw [hnum], by unfold numOk; rw [hnum]; simpa using hz⟩
        have htl : ¬ s.toList = [] := fun q => he (by
          have e : s.toList = s.data.toList := by simp [ByteArray.toList_eq]
          rw [e] at q
          obtain ⟨d⟩ := s
          have : d = #[] := by simpa using q
          rw [this])
        clear hnum hz
        go_wp2
        refine bodyPost_ret (v := .tuple #[.int .i64 n, .bool true]) (by simp [results, Tryd.results52, go_sem, htl]) rfl ?_
        rw [HE.out.1, HE.out.2]
        exact ⟨rfl, HTI.out _⟩

end Go.Proofs.YtminiabpeodjaaaDoor

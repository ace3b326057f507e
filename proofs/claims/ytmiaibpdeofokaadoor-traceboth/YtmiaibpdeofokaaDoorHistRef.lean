/-
  THE DOCUMENT's package rowlockref08: seen, StateOf, Before, Cut, Same, Attempts, In BY THEIR CONTRACTS.
-/
import Derived.Test.YtmiaibpdeofokaaDoorHistWrites
import Derived.Test.YtmiaibpdeofokaaDoorHistEnds
namespace Go.Proofs.YtmiaibpdeofokaaDoor
set_option linter.unusedVariables false
set_option linter.unusedSimpArgs false
open Go.RowKit Go.Maps Go.Shelf
attribute [local go_sem] Oper.semAt_some

def seenS (l : List EvD) (n : Nat) (a k : Int) : Bool := (l.take n).any fun e => e.a == a && e.k == k
theorem seenS_snoc {l : List EvD} {n : Nat} (hn : n < l.length) (a k : Int) : seenS l (n + 1) a k = (seenS l n a k || (l[n].a == a && l[n].k == k)) := by
  unfold seenS
  rw [List.take_succ_eq_append_getElem hn, List.any_append]
  simp
theorem seenS_mono {l : List EvD} {n m : Nat} (h : n ≤ m) {a k : Int} (hs : seenS l n a k = true) : seenS l m a k = true := by
  unfold seenS at hs ⊢
  rw [List.any_eq_true] at hs ⊢
  obtain ⟨e, he, h1⟩ := hs
  exact ⟨e, List.mem_of_mem_take (i := n) (by rw [List.take_take, Nat.min_eq_left h]; exact he), h1⟩

set_option maxRecDepth 100000 in
set_option maxHeartbeats 2000000 in
theorem seen_any {w : World} {ao : Option Addr} {cap : Nat} {l : List EvD} (hr : EvRow w (.slice ao l.length cap) l) (hl : l.length ≤ 1000) (n : Nat) (hn : n ≤ l.length) (a k : Int) :
    Calls Tryd.prog 47 #[.slice ao l.length cap, .int .i64 n, .int .i64 a, .int .u8 k] w fun x w' => x = .returned (.bool (seenS l n a k)) ∧ w = w' := by
  obtain ⟨N, hN⟩ : ∃ N, N = l.length := ⟨_, rfl⟩
  have HN : Hid (N = l.length) := hN
  have HR : Hid (EvRow w (.slice ao l.length cap) l) := hr
  rw [← hN] at hl hn ⊢
  clear hN hr
  obtain ⟨res, hres⟩ : ∃ r, r = seenS l n a k := ⟨_, rfl⟩
  rw [← hres]
  have HRES : Hid _ := hres
  clear hres
  go_enter Tryd.func47, Tryd.ntmps47
  go_wp2_with fail
  go_loopw [9] (fun i wr => ∃ j : Nat, i = .int .i64 j ∧ j ≤ n ∧ seenS l j a k = false ∧ wr = w) (fun i _ => n - (intOf i).toNat)
  case atStart => exact ⟨0, rfl, Nat.zero_le _, rfl, rfl⟩
  case round =>
    obtain ⟨j, rfl, hj, hno, rfl⟩ := hrel
    by_cases hlt : j < n
    · have h1 : (j : Int) < n := by omega
      have h1' : (j : Int) < N := by omega
      have h0 : (0 : Int) ≤ j := by omega
      have hjl : j < l.length := by rw [← HN.out]; omega
      obtain ⟨g, off, rfl, hg, m0, m1, m2, m3⟩ := HR.out.one j hjl
      have hsn := seenS_snoc hjl a k
      rw [hno, Bool.false_or] at hsn
      have hmo := fun h => seenS_mono (l := l) (n := j + 1) (m := n) (by omega) (a := a) (k := k) h
      rw [hsn] at hmo
      obtain ⟨e, he⟩ : ∃ e, e = l[j] := ⟨_, rfl⟩
      rw [← he] at m0 m1 m2 m3 hsn hmo
      have HSN : Hid _ := hsn
      have HMO : Hid _ := hmo
      clear he hsn hmo hno
      cases p1 : (e.a == a) with
      | false =>
        have HF : Hid (seenS l (j + 1) a k = false) := by show _ = _; rw [HSN.out, p1]; rfl
        clear HMO HSN
        go_wp2
        go_roundw
        case rel => exact ⟨j + 1, by go_num, by omega, HF.out, by simp⟩
        case measure => simp [intOf]; omega
      | true =>
        cases p2 : (e.k == k) with
        | false =>
          have HF : Hid (seenS l (j + 1) a k = false) := by show _ = _; rw [HSN.out, p1, p2]; rfl
          clear HMO HSN
          go_wp2
          go_roundw
          case rel => exact ⟨j + 1, by go_num, by omega, HF.out, by simp⟩
          case measure => simp [intOf]; omega
        | true =>
          have HT : Hid (res = true) := by show _ = _; rw [HRES.out]; exact HMO.out (by rw [p1, p2]; rfl)
          clear HMO HSN HRES
          go_wp2
          go_ret
          exact ⟨by rw [HT.out]; rfl, rfl⟩
    · obtain rfl : j = n := by omega
      have HF : Hid (res = false) := by show _ = _; rw [HRES.out]; exact hno
      clear HRES hno
      go_wp2
      go_ret
      exact ⟨by rw [HF.out]; rfl, rfl⟩

/-! ### StateOf -/
theorem told_two (l : List EvD) (x : Int) : ∀ s0 s1 : Int, (s0 = 0 ∧ s1 = 1) ∨ (s0 = s1 ∧ 2 ≤ s0) → (l.foldl (toldStep x) s0 = 0 ∧ l.foldl (toldStep x) s1 = 1) ∨ (l.foldl (toldStep x) s0 = l.foldl (toldStep x) s1 ∧ 2 ≤ l.foldl (toldStep x) s0) := by
  induction l with
  | nil => intro s0 s1 h; exact h
  | cons e l ih =>
    intro s0 s1 h
    rw [List.foldl_cons, List.foldl_cons]
    refine ih _ _ ?_
    unfold toldStep reachS
    by_cases he : e.a = x
    · simp only [if_pos he]
      repeat' split
      all_goals first | (right; exact ⟨rfl, by omega⟩) | exact h
    · simp only [if_neg he]; exact h
theorem told_one (l : List EvD) (x : Int) : l.foldl (toldStep x) 1 = max (toldS l x) 1 := by
  have h := told_two l x 0 1 (.inl ⟨rfl, rfl⟩)
  unfold toldS
  omega
theorem seen_att (l : List EvD) (n : Nat) (x : Int) : seenS l n x 1 = true ↔ x ∈ attS (l.take n) := by
  unfold seenS
  rw [attSm, List.any_eq_true]
  constructor
  · rintro ⟨e, he, h⟩; simp at h; exact ⟨e, he, h.2, h.1⟩
  · rintro ⟨e, he, h1, h2⟩; exact ⟨e, he, by simp [h1, h2]⟩

/-! ### Before, Cut, Same -/
def endS (l : List EvD) (n : Nat) (a : Int) : Bool := seenS l n a 8 || seenS l n a 9
theorem endS_snoc {l : List EvD} {n : Nat} (hn : n < l.length) (a : Int) : endS l (n + 1) a = (endS l n a || (decide (l[n].a = a) && (decide (l[n].k = 8) || decide (l[n].k = 9)))) := by
  unfold endS
  rw [seenS_snoc hn, seenS_snoc hn]
  simp only [beq_eq_decide]
  cases seenS l n a 8 <;> cases seenS l n a 9 <;> cases decide (l[n].a = a) <;> cases decide (l[n].k = 8) <;> cases decide (l[n].k = 9) <;> rfl

set_option maxRecDepth 100000 in
set_option maxHeartbeats 2000000 in
theorem sameEv (va vb : Value) (L : List EvD) (w : World) (hn : L.length ≤ 1000) (ha : EvRow w va L) (hb : EvRow w vb L) :
    Calls Tryd.prog 10 #[va, vb] w fun e w' => e = .returned (.bool true) ∧ Touch w w' [] := by
  have ra := ha
  have rb := hb
  obtain ⟨ao, ca, rfl, _⟩ := ha
  obtain ⟨bo, cb, rfl, _⟩ := hb
  obtain ⟨n, hlen⟩ : ∃ n, n = L.length := ⟨_, rfl⟩
  have HL : Hid (n = L.length) := hlen
  have RA : Hid (EvRow w (.slice ao L.length ca) L) := ra
  have RB : Hid (EvRow w (.slice bo L.length cb) L) := rb
  rw [← hlen] at hn ⊢
  clear hlen ra rb
  go_enter Tryd.func10, Tryd.ntmps10
  go_wp2_with fail
  go_loopw [5] (fun i wr => ∃ k : Nat, i = .int .i64 k ∧ k ≤ n ∧ Touch w wr []) (fun i _ => n - (intOf i).toNat)
  case atStart => exact ⟨0, rfl, Nat.zero_le _, Touch.refl _ _⟩
  case round =>
    obtain ⟨k, rfl, hk, t⟩ := hrel
    by_cases hlt : k < n
    · have h1 : (k : Int) < n := by omega
      have hkl : k < L.length := by rw [← HL.out]; exact hlt
      obtain ⟨ga, oa, rfl, hga, a0, a1, a2, a3⟩ := RA.out.one k hkl
      obtain ⟨gb, ob, rfl, hgb, b0, b1, b2, b3⟩ := RB.out.one k hkl
      obtain ⟨e, he⟩ : ∃ e, e = L[k] := ⟨_, rfl⟩
      rw [← he] at a0 a1 a2 a3 b0 b1 b2 b3
      obtain ⟨z0, z1, z2, z3⟩ := e
      simp only at a0 a1 a2 a3 b0 b1 b2 b3
      have x0 := (t.cell (p := ⟨ga, oa + k * 4, none⟩) hga (by simp)).trans a0
      have x1 := (t.cell (p := ⟨ga, oa + k * 4 + 1, none⟩) hga (by simp)).trans a1
      have x2 := (t.cell (p := ⟨ga, oa + k * 4 + 2, none⟩) hga (by simp)).trans a2
      have x3 := (t.cell (p := ⟨ga, oa + k * 4 + 3, none⟩) hga (by simp)).trans a3
      have y0 := (t.cell (p := ⟨gb, ob + k * 4, none⟩) hgb (by simp)).trans b0
      have y1 := (t.cell (p := ⟨gb, ob + k * 4 + 1, none⟩) hgb (by simp)).trans b1
      have y2 := (t.cell (p := ⟨gb, ob + k * 4 + 2, none⟩) hgb (by simp)).trans b2
      have y3 := (t.cell (p := ⟨gb, ob + k * 4 + 3, none⟩) hgb (by simp)).trans b3
      clear he a0 a1 a2 a3 b0 b1 b2 b3
      go_wp2_with fail
      go_quiet (fail)
      go_wp2
      go_roundw
      case rel => exact ⟨k + 1, by go_num, by omega, t.drewN _⟩
      case measure => simp [intOf]; omega
    · go_wp2
      go_ret
      exact ⟨rfl, t⟩
end Go.Proofs.YtmiaibpdeofokaaDoor

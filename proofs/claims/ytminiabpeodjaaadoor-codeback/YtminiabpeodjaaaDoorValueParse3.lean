/-
  Parse OF THE DOCUMENT, of every text; both tell the same.
-/
import Derived.Test.YtminiabpeodjaaaDoorValueParse2
namespace Go.Proofs.YtminiabpeodjaaaDoor
set_option linter.unusedVariables false
set_option linter.unusedSimpArgs false
open Go.RowKit Go.Shelf

/-! ### Digits, there and back -/
theorem dig_ok : ∀ d : Fin 16, hexOk (dig d.val) ∧ hexV (dig d.val) = d.val := by decide +kernel
theorem ok_dig : ∀ c : Fin 256, hexOk (UInt8.ofNat c.val) → dig (hexV (UInt8.ofNat c.val)) = UInt8.ofNat c.val := by decide +kernel
theorem ok_dig' (c : UInt8) (h : hexOk c) : dig (hexV c) = c := by
  have e : UInt8.ofNat c.toNat = c := UInt8.ofNat_toNat
  have h2 := ok_dig ⟨c.toNat, c.toNat_lt⟩
  simp only [e] at h2
  exact h2 h
theorem ok_hexC : ∀ c : Fin 256, hexOk (UInt8.ofNat c.val) → hexC (UInt8.ofNat c.val) = some (hexV (UInt8.ofNat c.val)) := by decide +kernel
theorem ok_hexC' (c : UInt8) (h : hexOk c) : hexC c = some (hexV c) := by
  have e : UInt8.ofNat c.toNat = c := UInt8.ofNat_toNat
  have h2 := ok_hexC ⟨c.toNat, c.toNat_lt⟩
  simp only [e] at h2
  exact h2 h

theorem hexN_snoc (l : List UInt8) (c : UInt8) : hexN (l ++ [c]) = hexN l * 16 + hexV c := by
  unfold hexN
  rw [List.foldl_append]
  rfl
theorem hexS_snoc (x m : Nat) : hexS x (m + 1) = hexS (x / 16) m ++ [dig (x % 16)] := by
  unfold hexS
  rw [List.range_succ, List.map_append]
  congr 1
  · apply List.map_congr_left
    intro t ht
    have ht' := List.mem_range.1 ht
    have e : 16 ^ (m + 1 - 1 - t) = 16 * 16 ^ (m - 1 - t) := by
      rw [show m + 1 - 1 - t = (m - 1 - t) + 1 by omega, Nat.pow_succ, Nat.mul_comm]
    rw [e, ← Nat.div_div_eq_div_mul]
  · simp
/-- The number of the digits of a number. -/
theorem hexN_hexS (m : Nat) : ∀ x, x < 16 ^ m → hexN (hexS x m) = x := by
  induction m with
  | zero => intro x h; simp at h; subst h; rfl
  | succ m ih =>
    intro x h
    rw [hexS_snoc, hexN_snoc, ih (x / 16) (by rw [Nat.pow_succ] at h; exact Nat.div_lt_of_lt_mul (by rw [Nat.mul_comm]; exact h))]
    have := (dig_ok ⟨x % 16, Nat.mod_lt _ (by omega)⟩).2
    simp only at this
    rw [this]
    omega
theorem hexS_ok (x m : Nat) : ∀ c ∈ hexS x m, hexOk c := by
  intro c hc
  unfold hexS at hc
  rw [List.mem_map] at hc
  obtain ⟨t, _, rfl⟩ := hc
  exact (dig_ok ⟨_, Nat.mod_lt _ (by omega)⟩).1
theorem hexS_rev (r : List UInt8) (h : ∀ c ∈ r, hexOk c) : hexS (hexN r.reverse) r.length = r.reverse := by
  induction r with
  | nil => rfl
  | cons c r ih =>
    rw [List.reverse_cons, hexN_snoc, List.length_cons]
    have hc := h c (by simp)
    have hv := hexV_lt hc
    rw [hexS_snoc]
    have e1 : (hexN r.reverse * 16 + hexV c) / 16 = hexN r.reverse := by omega
    have e2 : (hexN r.reverse * 16 + hexV c) % 16 = hexV c := by omega
    rw [e1, e2, ih (fun d hd => h d (by simp [hd])), ok_dig' c hc]
/-- The digits of the number of digits. -/
theorem hexS_hexN (l : List UInt8) (h : ∀ c ∈ l, hexOk c) : hexS (hexN l) l.length = l := by
  have := hexS_rev l.reverse (fun c hc => h c (by simpa using hc))
  simpa using this

theorem hexN_lt_take (l : List UInt8) (k : Nat) (h : ∀ c ∈ l.take k, hexOk c) : hexN (l.take k) < 16 ^ k := by
  have := hexN_lt (l.take k) h k
  rwa [List.take_of_length_le (by simp; omega)] at this

theorem p16_ok (l : List UInt8) (h : ∀ c ∈ l, hexOk c) (hl : l.length ≤ 16) : p16 0 l = .ok (hexN l) := by
  have key : ∀ k, k ≤ l.length → p16 0 l = p16 (hexN (l.take k)) (l.drop k) := by
    intro k
    induction k with
    | zero => intro _; rfl
    | succ k ih =>
      intro hk
      rw [ih (by omega)]
      have hkl : k < l.length := by omega
      rw [List.drop_eq_getElem_cons hkl]
      simp only [p16, ok_hexC' l[k] (h _ (List.getElem_mem hkl))]
      have hlt := hexN_lt l h k
      have hp : (16 : Nat) ^ k ≤ 16 ^ 15 := Nat.pow_le_pow_right (by omega) (by omega)
      rw [if_neg (by omega), hexN_take l k hkl]
  have := key l.length (Nat.le_refl _)
  rw [List.drop_length, List.take_length] at this
  exact this

/-- What the document's Parse tells. -/
def rparseV (t : ByteArray) : Option Nat := if t.size = 16 ∧ (∀ c ∈ t.data.toList, hexOk c) ∧ ofB (hexN t.data.toList) = hexN t.data.toList then some (hexN t.data.toList) else none

theorem parse_same (t : ByteArray) : parseV t = rparseV t := by
  unfold rparseV
  by_cases h : t.size = 16 ∧ (∀ c ∈ t.data.toList, hexOk c) ∧ ofB (hexN t.data.toList) = hexN t.data.toList
  · rw [if_pos h]
    obtain ⟨h1, h2, h3⟩ := h
    have hlen : t.data.toList.length = 16 := by rw [← Lib.size_eq]; exact h1
    have hp : peOf t = .ok (hexN t.data.toList) := by
      unfold peOf
      rw [if_neg (by omega)]
      exact p16_ok _ h2 (by omega)
    unfold parseV
    rw [hp]
    simp only
    rw [if_pos]
    rw [h3]
    have := hexS_hexN _ h2
    rw [hlen] at this
    rw [this]
  · rw [if_neg h]
    cases hp : parseV t with
    | none => rfl
    | some n =>
      exfalso
      apply h
      obtain ⟨h1, h2⟩ := parseV_some hp
      have hn := peOf_lt h1
      have hl : t.data.toList = hexS (ofB n) 16 := by rw [← h2]
      have hrt := rt_of n hn
      have hN : hexN (hexS (ofB n) 16) = ofB n := hexN_hexS 16 _ (by have := hrt.lt; omega)
      refine ⟨?_, ?_, ?_⟩
      · rw [← h2]; show (hexS (ofB n) 16).toArray.size = 16; simp [hexS]
      · rw [hl]; exact hexS_ok _ _
      · rw [hl, hN, ofB_idem]

theorem rparse_short (t : ByteArray) (h : t.size ≠ 16) (hm : t.size ≤ 281474976710656) (w : World) : Calls Tryd.prog 45 #[.string t] w fun e w' => e = .returned (.tuple #[.int .u64 0, .int .i64 3]) ∧ w = w' := by
  have h' : ¬ (t.size : Int) = 16 := by omega
  go_enter Tryd.func45, Tryd.ntmps45
  go_wp2
  go_ret2
  exact ⟨rfl, rfl⟩

theorem tab_at (e : Nat) (he : e < 16) (h : e < (ByteArray.mk #[48, 49, 50, 51, 52, 53, 54, 55, 56, 57, 97, 98, 99, 100, 101, 102]).size) :
    ((ByteArray.mk #[48, 49, 50, 51, 52, 53, 54, 55, 56, 57, 97, 98, 99, 100, 101, 102])[e]'h).toNat = (dig e).toNat := by
  have : e = 0 ∨ e = 1 ∨ e = 2 ∨ e = 3 ∨ e = 4 ∨ e = 5 ∨ e = 6 ∨ e = 7 ∨ e = 8 ∨ e = 9 ∨ e = 10 ∨ e = 11 ∨ e = 12 ∨ e = 13 ∨ e = 14 ∨ e = 15 := by omega
  rcases this with rfl | rfl | rfl | rfl | rfl | rfl | rfl | rfl | rfl | rfl | rfl | rfl | rfl | rfl | rfl | rfl <;> rfl

set_option maxRecDepth 100000 in
set_option maxHeartbeats 2000000 in
theorem rparse_long (t : ByteArray) (h : t.size = 16) (w : World) : Calls Tryd.prog 45 #[.string t] w fun e w' => e = .returned (parseE (rparseV t)) ∧ Touch w w' [] := by
  have hlen : t.data.toList.length = 16 := by rw [← Lib.size_eq]; exact h
  have h16 : (t.size : Int) = 16 := by omega
  go_enter Tryd.func45, Tryd.ntmps45
  go_wp2_with fail
  go_loopw [4, 5] (fun vu vi wr => ∃ (k : Nat) (a : Int), vu = .int .u64 a ∧ vi = .int .i64 k ∧ k ≤ 16 ∧ Hid (a = (hexN (t.data.toList.take k) : Nat) ∧ ∀ c ∈ t.data.toList.take k, hexOk c) ∧ Touch w wr []) (fun _ vi _ => 16 - (intOf vi).toNat)
  case atStart => exact ⟨0, 0, rfl, rfl, by omega, (⟨rfl, by simp⟩ : (0 : Int) = (hexN (t.data.toList.take 0) : Nat) ∧ ∀ c ∈ t.data.toList.take 0, hexOk c), Touch.refl _ _⟩
  case round =>
    obtain ⟨k, a, rfl, rfl, hk, hh, ht⟩ := hrel
    by_cases hlt : k < 16
    · have hlt' : (k : Int) < 16 := by omega
      obtain ⟨c, hc⟩ : ∃ c, c = t.data.toList[k]'(by omega) := ⟨_, rfl⟩
      have hci : ∀ hx, (t[k]'hx) = c := fun hx => by rw [hc]; rfl
      have HC : Hid _ := hc
      clear hc
      have HT : Hid _ := ht
      clear ht
      go_wp2_with fail
      go_loopw [6] (fun vd wr => ∃ j : Nat, vd = .int .i64 j ∧ j ≤ 16 ∧ Hid (∀ q, q < j → (dig q).toNat ≠ c.toNat) ∧ Touch w wr []) (fun vd _ => 16 - (intOf vd).toNat)
      case atStart => exact ⟨0, rfl, by omega, fun q hq => absurd hq (by omega), HT.out⟩
      case round =>
        clear HT
        obtain ⟨j, rfl, hj, hn, ht⟩ := hrel
        by_cases hj16 : j < 16
        · have hj16' : (j : Int) < 16 := by omega
          have htab : ∀ hx, ((ByteArray.mk #[48, 49, 50, 51, 52, 53, 54, 55, 56, 57, 97, 98, 99, 100, 101, 102])[j]'hx).toNat = (dig j).toNat := fun hx => tab_at j hj16 hx
          obtain ⟨dj, hdj⟩ : ∃ dj, dj = (dig j).toNat := ⟨_, rfl⟩
          rw [← hdj] at htab
          have hci2 : ∀ hx, (t[k]'hx).toNat = c.toNat := fun hx => by rw [hci hx]
          obtain ⟨cn, hcn⟩ : ∃ cn, cn = c.toNat := ⟨_, rfl⟩
          rw [← hcn] at hci2
          have HDJ : Hid _ := hdj
          have HCN : Hid _ := hcn
          clear hdj hcn hci
          by_cases heq : dj = cn
          · have heq' : ((dj : Int) != (cn : Int)) = false := by simp [heq]
            have hcj : c = dig j := by
              have : c.toNat = (dig j).toNat := by rw [← HCN.out, ← HDJ.out, heq]
              exact UInt8.toNat_inj.1 this
            have hkl : k < t.data.toList.length := by omega
            have hdk := dig_ok ⟨j, hj16⟩
            simp only at hdk
            have hlow := hexN_lt_take t.data.toList k hh.out.2
            have hpw : (16 : Nat) ^ k ≤ 16 ^ 15 := Nat.pow_le_pow_right (by omega) (by omega)
            have ha := hh.out.1
            have a0 : 0 ≤ a := by omega
            have a1 : a < 1152921504606846976 := by omega
            have HN : Hid (a * 16 + (j : Int) = (hexN (t.data.toList.take (k + 1)) : Nat) ∧ ∀ c ∈ t.data.toList.take (k + 1), hexOk c) := by
              refine (⟨?_, ?_⟩ : a * 16 + (j : Int) = (hexN (t.data.toList.take (k + 1)) : Nat) ∧ ∀ c ∈ t.data.toList.take (k + 1), hexOk c)
              · rw [hexN_take _ k hkl, ← HC.out, hcj, hdk.2, ha]
                omega
              · intro d hd
                rw [List.take_succ_eq_append_getElem hkl, List.mem_append] at hd
                rcases hd with hd | hd
                · exact hh.out.2 d hd
                · simp only [List.mem_singleton] at hd
                  rw [hd, ← HC.out, hcj]
                  exact hdk.1
            have iov : a * 16 + (j : Int) < 18446744073709551616 := by omega
            clear hcj hdk hlow hpw ha hh hn heq
            go_wp2_with fail
            go_quiet (fail)
            have HTQ : Hid _ := ht.drewN nq
            clear ht htab hci2
            go_wp2
            go_roundw
            case rel => exact ⟨k + 1, _, rfl, by go_num, by omega, HN, HTQ.out⟩
            case measure => simp [intOf]; omega
          · have heq' : ((dj : Int) != (cn : Int)) = true := by
              have : ¬ (dj : Int) = cn := by omega
              simp [this]
            have HNN : Hid (∀ q, q < j + 1 → (dig q).toNat ≠ c.toNat) := by
              intro q hq
              rcases Nat.lt_or_ge q j with h1 | h1
              · exact hn.out q h1
              · obtain rfl : q = j := by omega
                rw [← HDJ.out, ← HCN.out]
                exact heq
            clear hn heq
            go_wp2_with fail
            go_quiet (fail)
            have HTQ : Hid _ := ht.drewN nq
            clear ht htab hci2
            go_wp2
            go_roundw
            case rel => exact ⟨j + 1, by go_num, by omega, HNN, HTQ.out⟩
            case measure => simp [intOf]; omega
        · obtain rfl : j = 16 := by omega
          have HV : Hid (rparseV t = none) := by
            show rparseV t = none
            unfold rparseV
            rw [if_neg]
            rintro ⟨_, h2, _⟩
            have hkc := h2 c (by rw [HC.out]; exact List.getElem_mem _)
            exact hn.out (hexV c) (hexV_lt hkc) (by rw [ok_dig' c hkc])
          clear hn hci
          go_wp2_with fail
          go_quiet (fail)
          have HTT : Hid _ := ht.drewN nq
          clear ht
          go_wp2
          go_ret2
          exact ⟨by rw [HV.out]; rfl, HTT.out⟩
    · obtain rfl : k = 16 := by omega
      have hall : t.data.toList.take 16 = t.data.toList := List.take_of_length_le (by omega)
      have hok := hh.out.2
      have ha := hh.out.1
      rw [hall] at hok ha
      have hlow := hexN_lt_take t.data.toList 16 hh.out.2
      rw [hall] at hlow
      have hlt2 : hexN t.data.toList < 18446744073709551616 := by
        have e : (16 : Nat) ^ 16 = 18446744073709551616 := by decide
        rw [e] at hlow
        exact hlow
      have hwf : Wf64 a := by unfold Wf64; omega
      have hr := rright_any a hwf wr
      have HTT : Hid _ := ht
      have hrb : rightB a = decide (ofB (hexN t.data.toList) = hexN t.data.toList) := by
        unfold rightB
        rw [ha, Int.toNat_natCast]
        congr 1
        apply propext
        omega
      clear hlow hh hall ht
      by_cases hR : ofB (hexN t.data.toList) = hexN t.data.toList
      · rw [hrb, decide_eq_true hR] at hr
        have HV : Hid (parseE (rparseV t) = .tuple #[.int .u64 a, .int .i64 0]) := by
          show parseE (rparseV t) = _
          unfold rparseV
          rw [if_pos ⟨h, hok, hR⟩, ha]
          rfl
        clear hR hrb hwf ha hlt2 hok
        go_wp2_with fail
        refine hr.mono ?_
        rintro e w1 ⟨rfl, rfl⟩
        clear hr
        go_wp2
        go_ret2
        exact ⟨by rw [HV.out]; rfl, HTT.out⟩
      · rw [hrb, decide_eq_false hR] at hr
        have HV : Hid (rparseV t = none) := by
          show rparseV t = none
          unfold rparseV
          rw [if_neg (fun k => hR k.2.2)]
        clear hR hrb hwf ha hlt2 hok
        go_wp2_with fail
        refine hr.mono ?_
        rintro e w1 ⟨rfl, rfl⟩
        clear hr
        go_wp2
        go_ret2
        exact ⟨by rw [HV.out]; rfl, HTT.out⟩

theorem rparse_any (t : ByteArray) (hm : t.size ≤ 281474976710656) (w : World) : Calls Tryd.prog 45 #[.string t] w fun e w' => e = .returned (parseE (parseV t)) ∧ Touch w w' [] := by
  rw [parse_same]
  by_cases h : t.size = 16
  · exact rparse_long t h w
  · have e : rparseV t = none := by unfold rparseV; rw [if_neg (fun k => h k.1)]
    rw [e]
    exact (rparse_short t h hm w).mono fun _ w' hh => ⟨hh.1, hh.2 ▸ Touch.refl _ _⟩

/-- A value's text comes back. -/
theorem parse_hex (x : Nat) (h : Rt x) (hx : ofB x = x) : parseV ⟨(hexS x 16).toArray⟩ = some x := by
  rw [parse_same]
  unfold rparseV
  have e : (ByteArray.mk (hexS x 16).toArray).data.toList = hexS x 16 := by simp
  have hN : hexN (hexS x 16) = x := hexN_hexS 16 _ (by have := h.lt; omega)
  rw [e, hN, if_pos]
  refine ⟨?_, hexS_ok _ _, hx⟩
  show (hexS x 16).toArray.size = 16
  simp [hexS]

end Go.Proofs.YtminiabpeodjaaaDoor

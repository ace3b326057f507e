/-
  strconv.ParseUint at base 16, of every text.
-/
import Derived.Test.YtminiabpeodjaaaDoorValueHexAny
import Derived.Laws.Closers25
namespace Go.Proofs.YtminiabpeodjaaaDoor
set_option linter.unusedVariables false
set_option linter.unusedSimpArgs false
open Go.RowKit Go.Shelf

/-- How ParseUint ends. -/
abbrev PE := Except Bool Nat

def lw (c : UInt8) : Int := bits .or .u8 (c.toNat : Int) 32
theorem lw_bounds (c : UInt8) : 0 ≤ lw c ∧ lw c ≤ 255 := by
  have h0 := bits_lo_u8 .or (c.toNat : Int) 32
  have h1 := bits_hi_u8 .or (c.toNat : Int) 32
  unfold lw
  omega

theorem lw_letter (c : UInt8) (h0 : 97 ≤ lw c) (h1 : lw c ≤ 122) : 57 < c.toNat ∧ c.toNat ≠ 95 := by
  have h : ∀ c : Fin 256, 97 ≤ bits .or .u8 (c.val : Int) 32 → bits .or .u8 (c.val : Int) 32 ≤ 122 → 57 < c.val ∧ c.val ≠ 95 := by decide +kernel
  exact h ⟨c.toNat, c.toNat_lt⟩ h0 h1
theorem lw_low (c : UInt8) (h : c.toNat < 48) : lw c < 97 := by
  have h2 : ∀ c : Fin 256, c.val < 48 → bits .or .u8 (c.val : Int) 32 < 97 := by decide +kernel
  exact h2 ⟨c.toNat, c.toNat_lt⟩ h

/-- A byte that ParseUint takes for a digit at base 16. -/
def hexC (c : UInt8) : Option Nat :=
  if 48 ≤ c.toNat ∧ c.toNat ≤ 57 then some (c.toNat - 48) else if 97 ≤ lw c ∧ lw c ≤ 102 then some (lw c - 87).toNat else none

def p16 (acc : Nat) : List UInt8 → PE
  | [] => .ok acc
  | c :: r => match hexC c with
    | none => .error false
    | some d => if 1152921504606846976 ≤ acc then .error true else p16 (acc * 16 + d) r

def peV : PE → Value
  | .ok n => .tuple #[.int .u64 n, .nilIface]
  | .error false => .tuple #[.int .u64 0, .iface 126 (.int .i64 2)]
  | .error true => .tuple #[.int .u64 18446744073709551615, .iface 126 (.int .i64 1)]

set_option maxHeartbeats 8000000 in
set_option maxRecDepth 100000 in
theorem iparse_any (t : ByteArray) (hne : t.size ≠ 0) (hmax : t.size ≤ 9223372036854775806) (w : World) :
    Calls Tryd.prog 87 #[.string t, .int .i64 16, .int .i64 64] w fun e w' => e = .returned (peV (p16 0 t.data.toList)) ∧ Touch w w' [] := by
  have hemp : t.toList.isEmpty = false := by
    rw [← decide_eq_emptyBytes]
    exact decide_eq_false (fun h => hne (by rw [h]; rfl))
  have hcv := Lib.run_convert_string_bytes (P := Tryd.prog) w 9 39 5 t (u := .string) Tryd.underlying9 Tryd.underlying39 Tryd.underlying5
  have hB : ∀ j, j < t.size → (Lib.bytesWorld w 5 t).cell? ⟨w.heap.size, j, none⟩ = some (.int .u8 (t.data.toList.getD j 0).toNat) := fun j hj => Lib.bytesWorld_cell w 5 t j hj
  have HT : Hid (Touch w (Lib.bytesWorld w 5 t) []) := Touch.of_below (Lib.bytesWorld_below w 5 t) _
  obtain ⟨W1, hW1⟩ : ∃ W1, W1 = Lib.bytesWorld w 5 t := ⟨_, rfl⟩
  rw [← hW1] at hcv hB HT
  clear hW1
  obtain ⟨bs, hL⟩ : ∃ bs, bs = t.data.toList := ⟨_, rfl⟩
  have hLn : bs.length = t.size := by rw [hL, Lib.size_eq]
  rw [← hL] at hB ⊢
  clear hL
  have hmv : IntKind.u64.wrap (IntKind.u64.wrap 18446744073709551616 - 1) = 18446744073709551615 := by
    rw [IntKind.wrap_u64, IntKind.wrap_u64]
    decide
  go_enter Tryd.func87, Tryd.ntmps87
  go_wp2_with fail
  go_loop [12, 13, 101] (fun vu vn vi => ∃ (k acc : Nat) (a : Int), vu = .bool false ∧ vn = .int .u64 a ∧ vi = .int .i64 k ∧ k ≤ t.size ∧ Hid (a = (acc : Int) ∧ acc < 18446744073709551616 ∧ p16 0 bs = p16 acc (bs.drop k)))
    (fun _ _ vi => t.size - (intOf vi).toNat)
  case atStart => exact ⟨0, 0, 0, rfl, rfl, rfl, by omega, rfl, by omega, rfl⟩
  case round =>
    obtain ⟨k, acc, a, rfl, rfl, rfl, hk, hh⟩ := hrel
    obtain ⟨ha, hacc, hdec⟩ := hh.out
    clear hh
    have a0 : 0 ≤ a := by omega
    have a1 : a < 18446744073709551616 := by omega
    by_cases hkn : k < t.size
    · have hc := hB k hkn
      have hkl : k < bs.length := by omega
      have hdrop : bs.drop k = bs[k] :: bs.drop (k + 1) := List.drop_eq_getElem_cons hkl
      have hget : bs.getD k 0 = bs[k] := by simp [List.getD, List.getElem?_eq_getElem hkl]
      rw [hdrop] at hdec
      rw [hget] at hc
      generalize bs[k] = c at hc hdec
      have hc256 : c.toNat < 256 := c.toNat_lt
      clear hB hdrop hget
      by_cases hdig : 48 ≤ c.toNat ∧ c.toNat ≤ 57
      · have hx : hexC c = some (c.toNat - 48) := by unfold hexC; rw [if_pos hdig]
        obtain ⟨hd0, hd1⟩ := hdig
        simp only [p16, hx] at hdec
        by_cases hcut : 1152921504606846976 ≤ acc
        · rw [if_pos hcut] at hdec
          have HD : Hid _ := hdec
          have icut : 1152921504606846976 ≤ a := by omega
          clear hcut hacc ha hdec hx
          go_wp2
          go_ret2
          exact ⟨by rw [HD.out]; rfl, HT.out⟩
        · rw [if_neg hcut] at hdec
          have HN : Hid (a * 16 + ((c.toNat : Int) - 48) = ((acc * 16 + (c.toNat - 48) : Nat) : Int) ∧ acc * 16 + (c.toNat - 48) < 18446744073709551616 ∧ p16 0 bs = p16 (acc * 16 + (c.toNat - 48)) (bs.drop (k + 1))) := ⟨by omega, by omega, hdec⟩
          have icut : a < 1152921504606846976 := by omega
          have iov : a * 16 + ((c.toNat : Int) - 48) < 18446744073709551616 := by omega
          clear hcut hacc hdec ha hx
          go_wp2
          refine ⟨⟨k + 1, acc * 16 + (c.toNat - 48), a * 16 + ((c.toNat : Int) - 48), rfl, (by first | rfl | (congr 1; omega)), (by first | rfl | (congr 1; omega)), by omega, HN⟩, by simp [intOf]; omega⟩
      · have hlo := lower_any (c.toNat : Int) W1
        have hlb := lw_bounds c
        change Calls _ _ _ _ (fun e w' => e = .returned (.int .u8 (lw c)) ∧ W1 = w') at hlo
        by_cases hlet : 97 ≤ lw c ∧ lw c ≤ 102
        · have hx : hexC c = some (lw c - 87).toNat := by unfold hexC; rw [if_neg hdig, if_pos hlet]
          simp only [p16, hx] at hdec
          obtain ⟨hl0, hl1⟩ := hlet
          have h57 : 57 < c.toNat ∧ c.toNat ≠ 95 := lw_letter c hl0 (by omega)
          have h95' : ¬ (c.toNat : Int) = 95 := by omega
          have hd0 : (48 : Int) ≤ c.toNat := by omega
          have hd1 : ¬ (c.toNat : Int) ≤ 57 := by omega
          generalize lw c = l at *
          by_cases hcut : 1152921504606846976 ≤ acc
          · rw [if_pos hcut] at hdec
            have HD : Hid _ := hdec
            have icut : 1152921504606846976 ≤ a := by omega
            clear hcut hacc ha hdec hx h57 hdig
            go_wp2_with (go_at_call 91; refine hlo.mono ?_; rintro e w' ⟨rfl, rfl⟩)
            go_ret2
            exact ⟨by rw [HD.out]; rfl, HT.out⟩
          · rw [if_neg hcut] at hdec
            have HN : Hid (a * 16 + (l - 97 + 10) = ((acc * 16 + (l - 87).toNat : Nat) : Int) ∧ acc * 16 + (l - 87).toNat < 18446744073709551616 ∧ p16 0 bs = p16 (acc * 16 + (l - 87).toNat) (bs.drop (k + 1))) := ⟨by omega, by omega, hdec⟩
            have icut : a < 1152921504606846976 := by omega
            have iov : a * 16 + (l - 97 + 10) < 18446744073709551616 := by omega
            clear hcut hacc hdec ha hx h57 hdig
            go_wp2_with (go_at_call 91; refine hlo.mono ?_; rintro e w' ⟨rfl, rfl⟩)
            refine ⟨⟨k + 1, acc * 16 + (l - 87).toNat, a * 16 + (l - 97 + 10), rfl, (by first | rfl | (congr 1; omega)), (by first | rfl | (congr 1; omega)), by omega, HN⟩, by simp [intOf]; omega⟩
        · have hx : hexC c = none := by unfold hexC; rw [if_neg hdig, if_neg hlet]
          simp only [p16, hx] at hdec
          have HD : Hid _ := hdec
          clear hdec hacc ha hx
          by_cases h48 : c.toNat < 48
          · have hd0 : ¬ (48 : Int) ≤ c.toNat := by omega
            have h95' : ¬ (c.toNat : Int) = 95 := by omega
            have hll := lw_low c h48
            generalize lw c = l at *
            have hl97 : ¬ 97 ≤ l := by omega
            clear hdig hlet hll
            go_wp2_with (go_at_call 91; refine hlo.mono ?_; rintro e w' ⟨rfl, rfl⟩)
            go_ret2
            exact ⟨by rw [HD.out]; rfl, HT.out⟩
          · have hd0 : (48 : Int) ≤ c.toNat := by omega
            have hd1 : ¬ (c.toNat : Int) ≤ 57 := by omega
            by_cases h97 : 97 ≤ lw c
            · by_cases h122 : lw c ≤ 122
              · have h57 : 57 < c.toNat ∧ c.toNat ≠ 95 := lw_letter c h97 h122
                have h95' : ¬ (c.toNat : Int) = 95 := by omega
                have h103 : 103 ≤ lw c := by omega
                generalize lw c = l at *
                clear hdig hlet h57 h48
                go_wp2_with (go_at_call 91; refine hlo.mono ?_; rintro e w' ⟨rfl, rfl⟩)
                go_ret2
                exact ⟨by rw [HD.out]; rfl, HT.out⟩
              · generalize lw c = l at *
                clear hdig hlet h48
                by_cases h95 : (c.toNat : Int) = 95
                · rw [h95] at hlo
                  go_wp2_with (go_at_call 91; refine hlo.mono ?_; rintro e w' ⟨rfl, rfl⟩)
                  all_goals go_ret2
                  all_goals exact ⟨by rw [HD.out]; rfl, HT.out⟩
                · go_wp2_with (go_at_call 91; refine hlo.mono ?_; rintro e w' ⟨rfl, rfl⟩)
                  all_goals go_ret2
                  all_goals exact ⟨by rw [HD.out]; rfl, HT.out⟩
            · generalize lw c = l at *
              clear hdig hlet h48
              by_cases h95 : (c.toNat : Int) = 95
              · rw [h95] at hlo
                go_wp2_with (go_at_call 91; refine hlo.mono ?_; rintro e w' ⟨rfl, rfl⟩)
                all_goals go_ret2
                all_goals exact ⟨by rw [HD.out]; rfl, HT.out⟩
              · go_wp2_with (go_at_call 91; refine hlo.mono ?_; rintro e w' ⟨rfl, rfl⟩)
                all_goals go_ret2
                all_goals exact ⟨by rw [HD.out]; rfl, HT.out⟩
    · have hkk : k = t.size := by omega
      have HE : Hid (p16 0 bs = .ok acc) := by
        have h5 := hdec
        rw [List.drop_eq_nil_of_le (by omega)] at h5
        exact h5
      have HA : Hid _ := ha
      clear hdec hB ha hacc
      go_wp2
      go_ret2
      exact ⟨by rw [HE.out]; show _ = Ending.returned (.tuple #[.int .u64 (acc : Int), .nilIface]); rw [← HA.out]; rfl, HT.out⟩

end Go.Proofs.YtminiabpeodjaaaDoor

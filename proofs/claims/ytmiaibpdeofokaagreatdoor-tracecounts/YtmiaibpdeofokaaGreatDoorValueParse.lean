/-
  strconv.ParseUint at base 16, of a text of at most 16 small hex digits.
-/
import Derived.Test.YtmiaibpdeofokaaGreatDoorAllA
import Derived.Lib.Strings
import Derived.Lib.Walk
import Derived.Lib.ConvBytes
import Derived.Lib.AtoiAllMem
import Derived.Lib.AtoiErrMem
import Derived.Lib.Hide
import Derived.Laws.Strings3
import Derived.Laws.Closers25
import Derived.Laws.Closers25b
import Derived.Laws.BitsAllLaws
import Derived.BigCall
import Derived.BigGuard
namespace Go.Proofs.YtmiaibpdeofokaaGreatDoor
set_option linter.unusedVariables false
set_option linter.unusedSimpArgs false
open Go.RowKit

abbrev hexOk (c : UInt8) : Prop := (48 ≤ c.toNat ∧ c.toNat ≤ 57) ∨ (97 ≤ c.toNat ∧ c.toNat ≤ 102)
def hexV (c : UInt8) : Nat := if c.toNat ≤ 57 then c.toNat - 48 else c.toNat - 87
def hexN (l : List UInt8) : Nat := l.foldl (fun a c => a * 16 + hexV c) 0

theorem hexV_lt {c : UInt8} (h : hexOk c) : hexV c < 16 := by
  unfold hexOk at h
  unfold hexV
  split <;> omega
theorem hexN_take (l : List UInt8) (k : Nat) (hk : k < l.length) : hexN (l.take (k + 1)) = hexN (l.take k) * 16 + hexV l[k] := by
  unfold hexN
  rw [List.take_succ_eq_append_getElem hk, List.foldl_append]
  rfl
theorem hexN_lt (l : List UInt8) (h : ∀ c ∈ l, hexOk c) (k : Nat) : hexN (l.take k) < 16 ^ k := by
  induction k with
  | zero => simp [hexN]
  | succ k ih =>
    by_cases hk : k < l.length
    · rw [hexN_take l k hk]
      have := hexV_lt (h l[k] (List.getElem_mem hk))
      have : (16 : Nat) ^ (k + 1) = 16 ^ k * 16 := Nat.pow_succ ..
      omega
    · rw [List.take_of_length_le (by omega)] at ih ⊢
      have : (16 : Nat) ^ (k + 1) = 16 ^ k * 16 := Nat.pow_succ ..
      omega

theorem lower_any (c : Int) (w : World) : Calls Tryz.prog 155 #[.int .u8 c] w fun e w' => e = .returned (.int .u8 (bits .or .u8 c 32)) ∧ w = w' := by
  go_enter Tryz.func155, Tryz.ntmps155
  go_wp2
  go_ret
  exact ⟨rfl, rfl⟩

theorem lower_letter : ∀ c : Fin 256, 97 ≤ c.val → c.val ≤ 102 → bits .or .u8 (c.val : Int) 32 = c.val := by decide +kernel

set_option maxHeartbeats 4000000 in
set_option maxRecDepth 100000 in
theorem iparse16 (t : ByteArray) (hne : t.size ≠ 0) (hm : t.size ≤ 16) (hx : ∀ c ∈ t.data.toList, hexOk c) (w : World) :
    Calls Tryz.prog 143 #[.string t, .int .i64 16, .int .i64 64] w fun e w' => e = .returned (.tuple #[.int .u64 (hexN t.data.toList), .nilIface]) ∧ Touch w w' [] := by
  have hemp : t.toList.isEmpty = false := by
    rw [← decide_eq_emptyBytes]
    exact decide_eq_false (fun h => hne (by rw [h]; rfl))
  have hcv := Lib.run_convert_string_bytes (P := Tryz.prog) w 9 43 5 t (u := .string) Tryz.underlying9 Tryz.underlying43 Tryz.underlying5
  have hB : ∀ j, j < t.size → (Lib.bytesWorld w 5 t).cell? ⟨w.heap.size, j, none⟩ = some (.int .u8 (t.data.toList.getD j 0).toNat) := fun j hj => Lib.bytesWorld_cell w 5 t j hj
  have HT : Hid (Touch w (Lib.bytesWorld w 5 t) []) := Touch.of_below (Lib.bytesWorld_below w 5 t) _
  obtain ⟨W1, hW1⟩ : ∃ W1, W1 = Lib.bytesWorld w 5 t := ⟨_, rfl⟩
  rw [← hW1] at hcv hB HT
  clear hW1
  obtain ⟨bs, hL⟩ : ∃ bs, bs = t.data.toList := ⟨_, rfl⟩
  have hLn : bs.length = t.size := by rw [hL, Lib.size_eq]
  rw [← hL] at hB hx ⊢
  clear hL
  have HLT : Hid _ := hexN_lt bs hx
  have hmv : IntKind.u64.wrap (IntKind.u64.wrap 18446744073709551616 - 1) = 18446744073709551615 := by
    rw [IntKind.wrap_u64, IntKind.wrap_u64]
    decide
  go_enter Tryz.func143, Tryz.ntmps143
  go_wp2_with fail
  go_loop [12, 13, 101] (fun vu vn vi => ∃ (k : Nat) (a : Int), vu = .bool false ∧ vn = .int .u64 a ∧ vi = .int .i64 k ∧ k ≤ t.size ∧ Hid (a = (hexN (bs.take k) : Nat)))
    (fun _ _ vi => t.size - (intOf vi).toNat)
  case atStart => exact ⟨0, 0, rfl, rfl, rfl, by omega, rfl⟩
  case round =>
    obtain ⟨k, a, rfl, rfl, rfl, hk, hh⟩ := hrel
    by_cases hkn : k < t.size
    · have hc := hB k hkn
      have hkl : k < bs.length := by omega
      have hget : bs.getD k 0 = bs[k] := by simp [List.getD, List.getElem?_eq_getElem hkl]
      rw [hget] at hc
      have hok := hx bs[k] (List.getElem_mem hkl)
      have HS : Hid _ := hexN_take bs k hkl
      have hlt := HLT.out k
      have hp : (16 : Nat) ^ k ≤ 16 ^ 15 := Nat.pow_le_pow_right (by omega) (by omega)
      have ha := hh.out
      have a0 : 0 ≤ a := by omega
      have a1 : a < 1152921504606846976 := by omega
      generalize bs[k] = c at *
      have hc256 : c.toNat < 256 := c.toNat_lt
      clear hB hget hlt hp
      rcases hok with ⟨hd0, hd1⟩ | ⟨hd0, hd1⟩
      · have hv : hexV c = c.toNat - 48 := by unfold hexV; rw [if_pos hd1]
        have HN : Hid (a * 16 + ((c.toNat : Int) - 48) = (hexN (bs.take (k + 1)) : Nat)) := by
          show a * 16 + ((c.toNat : Int) - 48) = (hexN (bs.take (k + 1)) : Nat)
          rw [HS.out, hv, ha]
          omega
        have iov : a * 16 + ((c.toNat : Int) - 48) < 18446744073709551616 := by omega
        clear hv HS hh ha
        go_wp2
        refine ⟨⟨k + 1, a * 16 + ((c.toNat : Int) - 48), rfl, (by first | rfl | (congr 1; omega)), (by first | rfl | (congr 1; omega)), by omega, HN⟩, by simp [intOf]; omega⟩
      · have hv : hexV c = c.toNat - 87 := by unfold hexV; rw [if_neg (by omega)]
        have HN : Hid (a * 16 + ((c.toNat : Int) - 97 + 10) = (hexN (bs.take (k + 1)) : Nat)) := by
          show a * 16 + ((c.toNat : Int) - 97 + 10) = (hexN (bs.take (k + 1)) : Nat)
          rw [HS.out, hv, ha]
          omega
        have hl := lower_letter ⟨c.toNat, hc256⟩ hd0 hd1
        simp only at hl
        have hlo := lower_any (c.toNat : Int) W1
        rw [hl] at hlo
        have iov : a * 16 + ((c.toNat : Int) - 97 + 10) < 18446744073709551616 := by omega
        clear hv HS hh ha hl
        go_wp2_with (go_at_call 155; refine hlo.mono ?_; rintro e w' ⟨rfl, rfl⟩)
        refine ⟨⟨k + 1, a * 16 + ((c.toNat : Int) - 97 + 10), rfl, (by first | rfl | (congr 1; omega)), (by first | rfl | (congr 1; omega)), by omega, HN⟩, by simp [intOf]; omega⟩
    · have hkk : k = t.size := by omega
      have HE : Hid (a = (hexN bs : Nat)) := by
        have := hh.out
        rw [List.take_of_length_le (by omega)] at this
        exact this
      clear hh hB
      go_wp2
      go_ret2
      exact ⟨by rw [HE.out]; rfl, HT.out⟩

theorem parse16 (t : ByteArray) (hne : t.size ≠ 0) (hm : t.size ≤ 16) (hx : ∀ c ∈ t.data.toList, hexOk c) (w : World) :
    Calls Tryz.prog 118 #[.string t, .int .i64 16, .int .i64 64] w fun e w' => e = .returned (.tuple #[.int .u64 (hexN t.data.toList), .nilIface]) ∧ Touch w w' [] := by
  have hc := iparse16 t hne hm hx w
  generalize hexN t.data.toList = n at *
  go_enter Tryz.func118, Tryz.ntmps118
  go_wp2_with fail
  refine hc.mono ?_
  rintro e w1 ⟨rfl, t1⟩
  clear hc
  go_wp2
  go_ret2
  exact ⟨rfl, t1⟩

end Go.Proofs.YtmiaibpdeofokaaGreatDoor

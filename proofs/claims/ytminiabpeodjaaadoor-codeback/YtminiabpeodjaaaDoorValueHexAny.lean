/-
  Hex OF BOTH SIDES, of every value.
-/
import Derived.Test.YtminiabpeodjaaaDoorValueHex
import Derived.Test.YtminiabpeodjaaaDoorAllA
import Derived.Test.YtminiabpeodjaaaDoorTextLays
import Derived.Lib.Agree
namespace Go.Proofs.YtminiabpeodjaaaDoor
set_option linter.unusedVariables false
set_option linter.unusedSimpArgs false
open Go.RowKit Go.Shelf

theorem Tryd.extra105 : Builder.Extra Tryd.prog Tryd.Lays_n105_ren :=
  { sizeBuilder := by kernel_rfl
    liesBuilder := by kernel_rfl
    t5 := Tryd.Lays_n105.t5
    a5 := Tryd.Lays_n105.a5
    z5 := Tryd.Lays_n105.z5
    v5 := Tryd.Lays_n105.v5
    infoByte := by kernel_rfl
    cellsByte := by kernel_rfl
    sizeByte := by kernel_rfl
    neB5 := by decide }

theorem repeatL_one (c : Nat) : Lib.repeatL [48] c = List.replicate c (48 : UInt8) := by
  have h := Lib.repeatL_replicate 48 1 c
  simpa using h

theorem repeat_any (c : Nat) (hc : c ≤ 16) (w : World) : Calls Tryd.prog 50 #[.string ⟨#[48]⟩, .int .i64 c] w fun e w' => e = .returned (.string ⟨(List.replicate c (48 : UInt8)).toArray⟩) ∧ Touch w w' [] := by
  refine Calls.mono (Any.strings_Repeat Tryd.Lays_n105 Tryd.extra105 ⟨#[48]⟩ c w (by omega) (by show 1 * c ≤ _; omega)) fun e w' h => ⟨?_, Touch.of_below h.2 _⟩
  rw [h.1]
  have e1 : (ByteArray.mk #[48]).data.toList = [48] := rfl
  rw [e1, repeatL_one]

theorem hexS_pad (x m : Nat) (hm : m ≤ 16) (hx : x < 16 ^ m) : List.replicate (16 - m) (48 : UInt8) ++ hexS x m = hexS x 16 := by
  apply List.ext_getElem
  · simp [hexS]; omega
  · intro t h1 h2
    rw [hexS_len] at h2
    by_cases ht : t < 16 - m
    · rw [List.getElem_append_left (by simpa using ht)]
      simp only [List.getElem_replicate, hexS, List.getElem_map, List.getElem_range]
      have : x / 16 ^ (16 - 1 - t) = 0 := by
        apply Nat.div_eq_of_lt
        exact Nat.lt_of_lt_of_le hx (Nat.pow_le_pow_right (by omega) (by omega))
      rw [this]
      rfl
    · rw [List.getElem_append_right (by simpa using ht)]
      simp only [hexS, List.getElem_map, List.getElem_range, List.length_replicate]
      congr 3
      congr 1
      omega

/-- Hex, of every value. -/
theorem hex_any (v : Int) (hv : Wf64 v) (w : World) (h : Tz w) : Calls Tryd.prog 40 #[.int .u64 v] w fun e w' => e = .returned (.string ⟨(hexS (ofB v.toNat) 16).toArray⟩) ∧ Touch w w' [] := by
  have hc := canon_any v w
  have hf := fmt16 (ofB v.toNat) hv.rt.lt w h
  generalize ofB v.toNat = x at *
  clear h hv
  go_enter Tryd.func40, Tryd.ntmps40
  go_wp2_with fail
  refine hc.mono ?_
  rintro e w1 ⟨rfl, rfl⟩
  clear hc
  go_wp2_with fail
  refine hf.mono ?_
  rintro e w1 ⟨m, h1, h2, h3, h4, rfl, t1⟩
  have hl := hexS_len x m
  have hsz : (ByteArray.mk (hexS x m).toArray).size = m := by
    show (hexS x m).toArray.size = m
    simpa using hl
  have HP : Hid _ := hexS_pad x m h2 h3
  obtain ⟨S, hS⟩ : ∃ S, S = hexS x m := ⟨_, rfl⟩
  rw [← hS] at hl hsz HP ⊢
  have hrp := repeat_any (16 - m) (by omega) w1
  have em : ((16 - m : Nat) : Int) = 16 - (m : Int) := by omega
  rw [em] at hrp
  simp only [Bool.false_eq_true, if_false]
  clear hf h3 h4 hS em
  go_wp2_with fail
  refine hrp.mono ?_
  rintro e w2 ⟨rfl, t2⟩
  have HT : Hid (Touch w w2 []) := t1.trans t2 (by simp)
  clear hrp t1 t2
  go_wp2
  go_ret
  refine ⟨?_, HT.out⟩
  rw [← HP.out]
  have e : (ByteArray.mk (List.replicate (16 - m) (48 : UInt8)).toArray ++ ByteArray.mk S.toArray) = ByteArray.mk (List.replicate (16 - m) (48 : UInt8) ++ S).toArray := by
    apply ByteArray.ext
    simp
  have e' : (ByteArray.mk (Array.replicate (16 - m) (48 : UInt8)) ++ ByteArray.mk S.toArray) = ByteArray.mk (List.replicate (16 - m) (48 : UInt8) ++ S).toArray := by
    rw [← e]
    simp
  simp [e']

theorem hexS_succ (x i : Nat) : hexS x (i + 1) = dig (x / 16 ^ i % 16) :: hexS x i := by
  unfold hexS
  rw [List.range_succ_eq_map, List.map_cons, List.map_map]
  congr 1
  apply List.map_congr_left
  intro t _
  simp only [Function.comp]
  congr 3
  congr 1
  omega

theorem digit_cut (e : Nat) (he : e < 16) : (ByteArray.mk #[48, 49, 50, 51, 52, 53, 54, 55, 56, 57, 97, 98, 99, 100, 101, 102]).extract e (e + 1) = ByteArray.mk #[dig e] := by
  have : e = 0 ∨ e = 1 ∨ e = 2 ∨ e = 3 ∨ e = 4 ∨ e = 5 ∨ e = 6 ∨ e = 7 ∨ e = 8 ∨ e = 9 ∨ e = 10 ∨ e = 11 ∨ e = 12 ∨ e = 13 ∨ e = 14 ∨ e = 15 := by omega
  rcases this with rfl | rfl | rfl | rfl | rfl | rfl | rfl | rfl | rfl | rfl | rfl | rfl | rfl | rfl | rfl | rfl <;> decide +kernel

set_option maxRecDepth 100000 in
set_option maxHeartbeats 1000000 in
theorem rhex_any (v : Int) (hv : Wf64 v) (w : World) : Calls Tryd.prog 42 #[.int .u64 v] w fun e w' => e = .returned (.string ⟨(hexS (ofB v.toNat) 16).toArray⟩) ∧ w = w' := by
  have hc := rcanon_any v hv w
  have hx := hv.rt.lt
  generalize ofB v.toNat = x at *
  clear hv
  go_enter Tryd.func42, Tryd.ntmps42
  go_wp2_with fail
  refine hc.mono ?_
  rintro e w1 ⟨rfl, rfl⟩
  clear hc
  go_wp2_with fail
  go_loop [3, 4, 5] (fun vo vu vi => ∃ (k : Nat) (a : Int) (o : ByteArray), vo = .string o ∧ vu = .int .u64 a ∧ vi = .int .i64 k ∧ k ≤ 16 ∧ Hid (a = (x / 16 ^ k : Nat) ∧ o = ⟨(hexS x k).toArray⟩)) (fun _ _ vi => 16 - (intOf vi).toNat)
  case atStart => exact ⟨0, x, ⟨#[]⟩, rfl, rfl, rfl, by omega, (⟨by simp, rfl⟩ : (x : Int) = (x / 16 ^ 0 : Nat) ∧ (ByteArray.mk #[]) = ⟨(hexS x 0).toArray⟩)⟩
  case round =>
    obtain ⟨k, a, o, rfl, rfl, rfl, hk, hh⟩ := hrel
    by_cases hlt : k < 16
    · have hlt' : (k : Int) < 16 := by omega
      obtain ⟨y, hy⟩ : ∃ y, y = x / 16 ^ k := ⟨_, rfl⟩
      have hyx : y ≤ x := by rw [hy]; exact Nat.div_le_self _ _
      have hya : a = (y : Int) := by rw [hy]; exact hh.out.1
      have a0 : 0 ≤ a := by omega
      have a1 : a < 18446744073709551616 := by omega
      have d0 : 0 ≤ a % 16 := by omega
      have d1 : a % 16 < 16 := by omega
      have HD : Hid (a % 16 = (x / 16 ^ k % 16 : Nat)) := by
        show a % 16 = (x / 16 ^ k % 16 : Nat)
        rw [← hy, hya]
        omega
      have HN : Hid (a / 16 = (x / 16 ^ (k + 1) : Nat)) := by
        show a / 16 = (x / 16 ^ (k + 1) : Nat)
        rw [Nat.pow_succ, ← Nat.div_div_eq_div_mul, ← hy, hya]
        omega
      have HO : Hid _ := hh.out.2
      have hos : o.size = k := by
        rw [hh.out.2]
        show (hexS x k).toArray.size = k
        simp [hexS]
      have hnl : ¬ 9223372036854775807 < min (a % 16 + 1).toNat 16 - (a % 16).toNat + o.size := by omega
      clear hy hya hyx hh
      go_wp2
      refine ⟨⟨k + 1, _, _, rfl, rfl, by go_num, by omega, (⟨HN.out, ?_⟩ : a / 16 = (x / 16 ^ (k + 1) : Nat) ∧ _ = ByteArray.mk (hexS x (k + 1)).toArray)⟩, by simp [intOf]; omega⟩
      have ed : (a % 16).toNat = x / 16 ^ k % 16 := by rw [HD.out, Int.toNat_natCast]
      have ed1 : (a % 16 + 1).toNat = x / 16 ^ k % 16 + 1 := by omega
      rw [ed, ed1, digit_cut _ (Nat.mod_lt _ (by omega)), HO.out, hexS_succ]
      apply ByteArray.ext
      simp
    · obtain rfl : k = 16 := by omega
      have HO : Hid _ := hh.out.2
      clear hh
      go_wp2
      go_ret
      exact ⟨by rw [← HO.out]; rfl, rfl⟩

end Go.Proofs.YtminiabpeodjaaaDoor

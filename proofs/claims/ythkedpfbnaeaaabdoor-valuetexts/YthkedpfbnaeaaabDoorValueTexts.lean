/-
  ValueTexts walked.
-/
import Derived.Test.YthkedpfbnaeaaabDoorValueParse3
import Derived.Test.YthkedpfbnaeaaabDoorValueWhole
import Derived.Test.YthkedpfbnaeaaabDoorValueLive
namespace Go.Proofs.YthkedpfbnaeaaabDoor
set_option linter.unusedVariables false
set_option linter.unusedSimpArgs false
open Go.RowKit Go.Shelf

theorem parseE_form (r : Option Nat) : ∃ p q : Int, parseE r = .tuple #[.int .u64 p, .int .i64 q] := by
  cases r with
  | some n => exact ⟨n, 0, rfl⟩
  | none => exact ⟨0, 3, rfl⟩

theorem int_any (n : Int) (w : World) : ∃ (x : Int) (b : Bool), Calls Tryd.prog 5 #[.int .i64 n] w (fun e w' => e = .returned (.tuple #[.int .u64 x, .bool b]) ∧ Touch w w' []) ∧ ∀ w, Calls Tryd.prog 12 #[.int .i64 n] w (fun e w' => e = .returned (.tuple #[.int .u64 x, .bool b]) ∧ w = w') := by
  by_cases h : -9007199254740992 ≤ n ∧ n ≤ 9007199254740992
  · exact ⟨_, _, int_ok n h.1 h.2 w, fun w => rint_ok n h.1 h.2 w⟩
  · exact ⟨_, _, int_no n h w, fun w => rint_no n h w⟩

set_option maxRecDepth 100000 in
set_option maxHeartbeats 1000000 in
theorem texts_walk (n v : Int) (hv : Wf64 v) (t : ByteArray) (hm : t.size ≤ 281474976710656) (w : World) (E : Ev w) : Calls Tryd.prog 4 #[.int .i64 n, .int .u64 v, .string t] w fun e w' => e = .returned (.bool true) ∧ Touch w w' [] := by
  have HE : Hid _ := E
  obtain ⟨x, b, hi, hri⟩ := int_any n w
  have hw := fun w => whole_any v hv w
  have hrw := fun w => rwhole_any v hv w
  have hps := fun w (E : Ev w) => parse_all t hm w E
  have hrp := fun w => rparse_any t hm w
  have hhx := fun w (Z : Tz w) => hex_any v hv w Z
  have hrh := fun w => rhex_any v hv w
  have hpx := fun w (E : Ev w) => parse_all ⟨(hexS (ofB v.toNat) 16).toArray⟩ (by show (hexS (ofB v.toNat) 16).toArray.size ≤ _; simp [hexS]) w E
  rw [parse_hex _ hv.rt (ofB_idem _)] at hpx
  simp only [parseE] at hpx
  have hca := fun w => canon_any v w
  generalize ByteArray.mk (hexS (ofB v.toNat) 16).toArray = S at *
  generalize wholeV (ofB v.toNat) = r at *
  obtain ⟨r1, r2⟩ := r
  simp only [pairV] at hw hrw
  obtain ⟨p, q, epq⟩ := parseE_form (parseV t)
  rw [epq] at hps hrp
  generalize ofB v.toNat = c at *
  have HPS : Hid _ := hps
  have HRP : Hid _ := hrp
  have HHX : Hid _ := hhx
  have HRH : Hid _ := hrh
  have HPX : Hid _ := hpx
  have HCA : Hid _ := hca
  have HW : Hid _ := hw
  have HRW : Hid _ := hrw
  have HRI : Hid _ := hri
  clear E hv epq hps hrp hhx hrh hpx hca hw hrw hri
  go_enter Tryd.func4, Tryd.ntmps4
  go_wp2_with fail
  refine hi.mono ?_
  rintro e w1 ⟨rfl, t1⟩
  clear hi
  go_wp2_with fail
  refine (HRI.out w1).mono ?_
  rintro e w2 ⟨rfl, rfl⟩
  go_wp2_with fail
  refine (HW.out w1).mono ?_
  rintro e w2 ⟨rfl, t2'⟩
  have t2 : Touch w w2 [] := t1.trans t2' (by simp)
  clear t1 t2'
  go_wp2_with fail
  refine (HRW.out w2).mono ?_
  rintro e w3 ⟨rfl, rfl⟩
  go_wp2_with fail
  refine (HPS.out w2 (HE.out.touch t2)).mono ?_
  rintro e w3 ⟨rfl, t3'⟩
  have t3 : Touch w w3 [] := t2.trans t3' (by simp)
  clear t2 t3'
  go_wp2_with fail
  refine (HRP.out w3).mono ?_
  rintro e w4 ⟨rfl, t4'⟩
  have t4 : Touch w w4 [] := t3.trans t4' (by simp)
  clear t3 t4'
  go_wp2_with fail
  refine (HHX.out w4 (HE.out.touch t4).z).mono ?_
  rintro e w5 ⟨rfl, t5'⟩
  have t5 : Touch w w5 [] := t4.trans t5' (by simp)
  clear t4 t5'
  go_wp2_with fail
  refine (HPX.out w5 (HE.out.touch t5)).mono ?_
  rintro e w6 ⟨rfl, t6'⟩
  have t6 : Touch w w6 [] := t5.trans t6' (by simp)
  clear t5 t6'
  go_wp2_with fail
  refine (vlive_any w6 (HE.out.touch t6).z).mono ?_
  rintro e w7 ⟨rfl, t7'⟩
  have t7 : Touch w w7 [] := t6.trans t7' (by simp)
  clear t6 t7'
  go_wp2_with fail
  refine (HHX.out w7 (HE.out.touch t7).z).mono ?_
  rintro e w8 ⟨rfl, t8'⟩
  have t8 : Touch w w8 [] := t7.trans t8' (by simp)
  clear t7 t8'
  go_wp2_with fail
  refine (HRH.out w8).mono ?_
  rintro e w9 ⟨rfl, rfl⟩
  go_wp2_with fail
  refine (HCA.out w8).mono ?_
  rintro e w9 ⟨rfl, rfl⟩
  go_wp2
  go_ret
  exact ⟨by simp, t8⟩

end Go.Proofs.YthkedpfbnaeaaabDoor

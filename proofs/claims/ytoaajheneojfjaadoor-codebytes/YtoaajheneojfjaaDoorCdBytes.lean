/-
  CodeBytes, WALKED.
-/
import Derived.Test.YtoaajheneojfjaaDoorCdSame
import Derived.Test.YtoaajheneojfjaaDoorCdREnc
import Derived.Test.YtoaajheneojfjaaDoorCdRDec
namespace Go.Proofs.YtoaajheneojfjaaDoor
set_option linter.unusedVariables false
set_option linter.unusedSimpArgs false
open Go.RowKit
attribute [local go_sem] Oper.semAt_some

/-- What Decode comes to, of instructions that can be read. -/
def DecP (w : World) (r : Option (List InsD)) (e : Ending) (w' : World) : Prop :=
  (∃ L n, r = some L ∧ n ≤ 1000 ∧ ∃ ao cap, e = .returned (.tuple #[.slice ao n cap, .int .i64 0]) ∧ InsIn w' ao n cap L ∧ Touch w w' []) ∨ (r = none ∧ e = .returned (.tuple #[.slice none 0 0, .int .i64 3]) ∧ Touch w w' [])
theorem decP_of {w : World} {l : List Int} (hb : ByteL l) (hl : l.length ≤ 1000) {e : Ending} {w' : World} (h : DecPost w (decP l) e w') : DecP w (decP l) e w' := by
  rcases h with ⟨L, hL, v, rfl, ho, t⟩ | ⟨hL, rfl, t⟩
  · obtain ⟨h1, h2, h3⟩ := decF_is _ _ L hb hL
    obtain ⟨ao, cap, rfl, hi⟩ := insIn_of ho (fun i hi => (h1 i hi).1)
    exact .inl ⟨L, L.length, hL, by omega, ao, cap, rfl, hi, t⟩
  · exact .inr ⟨hL, rfl, t⟩
theorem insIn_nil (w : World) : InsIn w none 0 0 [] := ⟨rfl, ⟨none, 0, rfl, fun h => absurd rfl h⟩, Nat.le_refl _, by omega, by simp⟩

/-- At most 400 bytes. -/
theorem few_bytes {w : World} {ao : Option Addr} {n cap : Nat} {l : List Int} (h : BytAt w ao n cap l) : BytAt w ao (min n 400) cap (l.take 400) := by
  by_cases hn : 400 ≤ n
  · rw [Nat.min_eq_right hn]; exact h.take 400 hn
  · rw [Nat.min_eq_left (by omega), List.take_of_length_le (by rw [← h.len]; omega)]; exact h

set_option maxRecDepth 100000 in
set_option maxHeartbeats 2000000 in
theorem bytes_any {w : World} (hwd : Wds w) {ao bo : Option Addr} {n0 cap m0 cbp : Nat} {l0 : List InsD} {b0 : List Int} (hl : InsIn w ao n0 cap l0) (hb : BytAt w bo m0 cbp b0) (hbl : ByteL b0) :
    Calls Tryd.prog 4 #[.slice ao n0 cap, .slice bo m0 cbp] w fun e w' => e = .returned (.bool true) ∧ Touch w w' [] := by
  have HL : Hid (∀ W, Touch w W [] → HidC Tryd.prog 16 #[] W fun e w' => e = .returned (.bool true) ∧ Touch W w' []) := fun W t => ⟨live_any (hwd.touch t (by simp))⟩
  have HF : Hid (∀ W, Touch w W [] → HidC Tryd.prog 22 #[.slice ao n0 cap] W fun e w' => ∃ m, e = .returned (.slice ao m cap) ∧ m ≤ 60 ∧ InsIn W ao m cap (l0.take 60) ∧ W = w') := fun W t => ⟨few_any (hl.keep t)⟩
  have hbm := few_bytes hb
  have hle := hb.le
  have hmx := hb.max
  have hnil : 400 < m0 → ∃ a, bo = some a := fun h4 => by
    have hr : BRow w (.slice bo b0.length cbp) b0 := hb.row
    obtain ⟨g, off, e, _⟩ := hr.one 0 (by rw [← hb.len]; omega)
    exact ⟨_, e⟩
  have HBL : Hid (ByteL (b0.take 400)) := fun x hx => hbl x (List.mem_of_mem_take hx)
  have hb4 : (b0.take 400).length ≤ 1000 := by rw [List.length_take]; omega
  generalize b0.take 400 = b at *
  have HD : Hid (∀ W, Touch w W [] → HidC Tryd.prog 24 #[.slice bo (min m0 400) cbp] W (DecP W (decP b))) := fun W t => ⟨(decode_gen (hbm.keep t) HBL.out hb4).mono fun e w' h => decP_of HBL.out hb4 h⟩
  have HRD : Hid (∀ W, Touch w W [] → HidC Tryd.prog 25 #[.slice bo (min m0 400) cbp] W (DecP W (decP b))) := fun W t => ⟨(rdecode_gen (hbm.keep t) HBL.out hb4).mono fun e w' h => decP_of HBL.out hb4 h⟩
  generalize decP b = R at *
  clear hwd hl hb hbl hbm HBL hb4
  go_enter Tryd.func4, Tryd.ntmps4
  by_cases h4 : 400 < m0
  · have h4' : (400 : Int) < m0 := by omega
    have h4c : (400 : Int) ≤ cbp := by omega
    have h4d : 400 ≤ cbp := by omega
    obtain ⟨a, rfl⟩ := hnil h4
    obtain ⟨ab, aof, af⟩ := a
    rw [Nat.min_eq_right (by omega)] at HD HRD
    clear hnil
    go_wp2_with fail
    refine (HF.out _ (Touch.refl _ _)).out.mono ?_
    rintro e _ ⟨m, rfl, hm, hI, rfl⟩
    have HI : Hid _ := hI
    clear hI
    go_wp2_with fail
    refine (encode_in HI.out (by omega)).mono ?_
    rintro e w1 H1
    have t1 : Touch w w1 [] := by rcases H1 with ⟨_, _, _, _, _, t⟩ | ⟨_, _, t⟩ <;> exact t
    obtain ⟨a1, z1, c1, er, rfl, hs1⟩ : ∃ a1 z1 c1 er, e = .returned (.tuple #[.slice a1 z1 c1, .int .i64 er]) ∧ (∀ W, Touch w1 W [] → BytAt W a1 z1 c1 (if (l0.take 60).all rightI then encL (l0.take 60) else [])) ∧ er = (if (l0.take 60).all rightI then 0 else 3) := by
      rcases H1 with ⟨hr, a1, c1, rfl, B1, t⟩ | ⟨hr, rfl, t⟩
      · exact ⟨a1, _, c1, 0, rfl, by rw [if_pos hr]; exact ⟨fun W t => B1.keep t, (if_pos hr).symm⟩⟩
      · exact ⟨none, 0, 0, 3, rfl, by rw [if_neg (by rw [hr]; simp)]; exact ⟨fun W t => ⟨rfl, ⟨none, 0, rfl, fun h => absurd rfl h⟩, Nat.le_refl _, by omega⟩, (if_neg (by rw [hr]; simp)).symm⟩⟩
    have HS1 : Hid _ := hs1
    have HT1 : Hid _ := t1
    clear H1 hs1 t1
    go_wp2_with fail
    refine (HF.out _ HT1.out).out.mono ?_
    rintro e _ ⟨m2, rfl, hm2, hI2, rfl⟩
    have HI2 : Hid _ := hI2
    clear hI2
    go_wp2_with fail
    refine (rencode_in HI2.out (by omega)).mono ?_
    rintro e w2 H2
    have t2 : Touch w1 w2 [] := by rcases H2 with ⟨_, _, _, _, _, t⟩ | ⟨_, _, t⟩ <;> exact t
    obtain ⟨a2, z2, c2, er2, rfl, hs2⟩ : ∃ a2 z2 c2 er2, e = .returned (.tuple #[.slice a2 z2 c2, .int .i64 er2]) ∧ (∀ W, Touch w2 W [] → BytAt W a2 z2 c2 (if (l0.take 60).all rightI then encL (l0.take 60) else [])) ∧ er2 = (if (l0.take 60).all rightI then 0 else 3) := by
      rcases H2 with ⟨hr, a1, c1, rfl, B1, t⟩ | ⟨hr, rfl, t⟩
      · exact ⟨a1, _, c1, 0, rfl, by rw [if_pos hr]; exact ⟨fun W t => B1.keep t, (if_pos hr).symm⟩⟩
      · exact ⟨none, 0, 0, 3, rfl, by rw [if_neg (by rw [hr]; simp)]; exact ⟨fun W t => ⟨rfl, ⟨none, 0, rfl, fun h => absurd rfl h⟩, Nat.le_refl _, by omega⟩, (if_neg (by rw [hr]; simp)).symm⟩⟩
    have HS2 : Hid (∀ W, Touch w2 W [] → BytAt W a2 z2 c2 (if (l0.take 60).all rightI then encL (l0.take 60) else [])) := hs2.1
    have hS1 : Hid (∀ W, Touch w1 W [] → BytAt W a1 z1 c1 (if (l0.take 60).all rightI then encL (l0.take 60) else [])) := HS1.out.1
    obtain rfl : er2 = er := by rw [hs2.2, HS1.out.2]
    generalize (if (l0.take 60).all rightI then encL (l0.take 60) else []) = EB at *
    have HT12 : Hid _ := t2
    have HT2 : Hid _ := HT1.out.trans t2 (by simp)
    clear H2 hs2 t2 HS1 HF HI HI2
    go_wp2_with fail
    refine (HD.out _ HT2.out).out.mono ?_
    rintro e w3 H3
    have t3 : Touch w2 w3 [] := by rcases H3 with ⟨_, _, _, _, _, _, _, _, t⟩ | ⟨_, _, t⟩ <;> exact t
    obtain ⟨a3, z3, c3, er3, rfl, hz3, hs3⟩ : ∃ a3 z3 c3 er3, e = .returned (.tuple #[.slice a3 z3 c3, .int .i64 er3]) ∧ z3 ≤ 1000 ∧ InsIn w3 a3 z3 c3 (R.getD []) ∧ er3 = (if R.isSome then 0 else 3) := by
      rcases H3 with ⟨L, z, rfl, hz, a, c, rfl, hi, t⟩ | ⟨rfl, rfl, t⟩
      · exact ⟨a, z, c, 0, rfl, hz, hi, rfl⟩
      · exact ⟨none, 0, 0, 3, rfl, by omega, insIn_nil _, rfl⟩
    have HS3 : Hid _ := hs3.1
    have HE3 : Hid _ := hs3.2
    have HT23 : Hid _ := t3
    have HT3 : Hid _ := HT2.out.trans t3 (by simp)
    clear H3 hs3 t3 HD
    go_wp2_with fail
    refine (HRD.out _ HT3.out).out.mono ?_
    rintro e w4 H4
    have t4 : Touch w3 w4 [] := by rcases H4 with ⟨_, _, _, _, _, _, _, _, t⟩ | ⟨_, _, t⟩ <;> exact t
    obtain ⟨a4, z4, c4, er4, rfl, hz4, hs4⟩ : ∃ a4 z4 c4 er4, e = .returned (.tuple #[.slice a4 z4 c4, .int .i64 er4]) ∧ z4 ≤ 1000 ∧ InsIn w4 a4 z4 c4 (R.getD []) ∧ er4 = (if R.isSome then 0 else 3) := by
      rcases H4 with ⟨L, z, rfl, hz, a, c, rfl, hi, t⟩ | ⟨rfl, rfl, t⟩
      · exact ⟨a, z, c, 0, rfl, hz, hi, rfl⟩
      · exact ⟨none, 0, 0, 3, rfl, by omega, insIn_nil _, rfl⟩
    have HS4 : Hid _ := hs4.1
    obtain rfl : er4 = er3 := by rw [hs4.2, HE3.out]
    obtain rfl : z4 = z3 := by rw [HS3.out.len, HS4.out.len]
    have HT34 : Hid _ := t4
    have HT4 : Hid _ := HT3.out.trans t4 (by simp)
    clear H4 hs4 t4 HRD HE3
    go_wp2_with fail
    refine (HL.out _ HT4.out).out.mono ?_
    rintro e w5 ⟨rfl, t5⟩
    have T45 : Touch w2 w5 [] := (HT23.out.trans HT34.out (by simp)).trans t5 (by simp)
    have q1 := (hS1.out _ (HT12.out.trans T45 (by simp))).str
    have q2 := (HS2.out _ T45).str
    have HSM : HidC _ _ _ _ _ := ⟨rsame_eq (HS3.out.keep (HT34.out.trans t5 (by simp))) (HS4.out.keep t5) hz3⟩
    have HT5 : Hid _ := HT4.out.trans t5 (by simp)
    generalize strOfNums EB = sb at *
    clear t5 T45 HL
    go_wp2_with fail
    refine HSM.out.mono ?_
    rintro e w6 ⟨rfl, t6⟩
    have HT6 : Hid _ := HT5.out.trans t6 (by simp)
    clear t6 HSM q1 q2
    go_wp2
    go_ret
    exact ⟨rfl, HT6.out⟩
  · have h4' : ¬ (400 : Int) < m0 := by omega
    rw [Nat.min_eq_left (by omega)] at HD HRD
    clear hnil
    go_wp2_with fail
    refine (HF.out _ (Touch.refl _ _)).out.mono ?_
    rintro e _ ⟨m, rfl, hm, hI, rfl⟩
    have HI : Hid _ := hI
    clear hI
    go_wp2_with fail
    refine (encode_in HI.out (by omega)).mono ?_
    rintro e w1 H1
    have t1 : Touch w w1 [] := by rcases H1 with ⟨_, _, _, _, _, t⟩ | ⟨_, _, t⟩ <;> exact t
    obtain ⟨a1, z1, c1, er, rfl, hs1⟩ : ∃ a1 z1 c1 er, e = .returned (.tuple #[.slice a1 z1 c1, .int .i64 er]) ∧ (∀ W, Touch w1 W [] → BytAt W a1 z1 c1 (if (l0.take 60).all rightI then encL (l0.take 60) else [])) ∧ er = (if (l0.take 60).all rightI then 0 else 3) := by
      rcases H1 with ⟨hr, a1, c1, rfl, B1, t⟩ | ⟨hr, rfl, t⟩
      · exact ⟨a1, _, c1, 0, rfl, by rw [if_pos hr]; exact ⟨fun W t => B1.keep t, (if_pos hr).symm⟩⟩
      · exact ⟨none, 0, 0, 3, rfl, by rw [if_neg (by rw [hr]; simp)]; exact ⟨fun W t => ⟨rfl, ⟨none, 0, rfl, fun h => absurd rfl h⟩, Nat.le_refl _, by omega⟩, (if_neg (by rw [hr]; simp)).symm⟩⟩
    have HS1 : Hid _ := hs1
    have HT1 : Hid _ := t1
    clear H1 hs1 t1
    go_wp2_with fail
    refine (HF.out _ HT1.out).out.mono ?_
    rintro e _ ⟨m2, rfl, hm2, hI2, rfl⟩
    have HI2 : Hid _ := hI2
    clear hI2
    go_wp2_with fail
    refine (rencode_in HI2.out (by omega)).mono ?_
    rintro e w2 H2
    have t2 : Touch w1 w2 [] := by rcases H2 with ⟨_, _, _, _, _, t⟩ | ⟨_, _, t⟩ <;> exact t
    obtain ⟨a2, z2, c2, er2, rfl, hs2⟩ : ∃ a2 z2 c2 er2, e = .returned (.tuple #[.slice a2 z2 c2, .int .i64 er2]) ∧ (∀ W, Touch w2 W [] → BytAt W a2 z2 c2 (if (l0.take 60).all rightI then encL (l0.take 60) else [])) ∧ er2 = (if (l0.take 60).all rightI then 0 else 3) := by
      rcases H2 with ⟨hr, a1, c1, rfl, B1, t⟩ | ⟨hr, rfl, t⟩
      · exact ⟨a1, _, c1, 0, rfl, by rw [if_pos hr]; exact ⟨fun W t => B1.keep t, (if_pos hr).symm⟩⟩
      · exact ⟨none, 0, 0, 3, rfl, by rw [if_neg (by rw [hr]; simp)]; exact ⟨fun W t => ⟨rfl, ⟨none, 0, rfl, fun h => absurd rfl h⟩, Nat.le_refl _, by omega⟩, (if_neg (by rw [hr]; simp)).symm⟩⟩
    have HS2 : Hid (∀ W, Touch w2 W [] → BytAt W a2 z2 c2 (if (l0.take 60).all rightI then encL (l0.take 60) else [])) := hs2.1
    have hS1 : Hid (∀ W, Touch w1 W [] → BytAt W a1 z1 c1 (if (l0.take 60).all rightI then encL (l0.take 60) else [])) := HS1.out.1
    obtain rfl : er2 = er := by rw [hs2.2, HS1.out.2]
    generalize (if (l0.take 60).all rightI then encL (l0.take 60) else []) = EB at *
    have HT12 : Hid _ := t2
    have HT2 : Hid _ := HT1.out.trans t2 (by simp)
    clear H2 hs2 t2 HS1 HF HI HI2
    go_wp2_with fail
    refine (HD.out _ HT2.out).out.mono ?_
    rintro e w3 H3
    have t3 : Touch w2 w3 [] := by rcases H3 with ⟨_, _, _, _, _, _, _, _, t⟩ | ⟨_, _, t⟩ <;> exact t
    obtain ⟨a3, z3, c3, er3, rfl, hz3, hs3⟩ : ∃ a3 z3 c3 er3, e = .returned (.tuple #[.slice a3 z3 c3, .int .i64 er3]) ∧ z3 ≤ 1000 ∧ InsIn w3 a3 z3 c3 (R.getD []) ∧ er3 = (if R.isSome then 0 else 3) := by
      rcases H3 with ⟨L, z, rfl, hz, a, c, rfl, hi, t⟩ | ⟨rfl, rfl, t⟩
      · exact ⟨a, z, c, 0, rfl, hz, hi, rfl⟩
      · exact ⟨none, 0, 0, 3, rfl, by omega, insIn_nil _, rfl⟩
    have HS3 : Hid _ := hs3.1
    have HE3 : Hid _ := hs3.2
    have HT23 : Hid _ := t3
    have HT3 : Hid _ := HT2.out.trans t3 (by simp)
    clear H3 hs3 t3 HD
    go_wp2_with fail
    refine (HRD.out _ HT3.out).out.mono ?_
    rintro e w4 H4
    have t4 : Touch w3 w4 [] := by rcases H4 with ⟨_, _, _, _, _, _, _, _, t⟩ | ⟨_, _, t⟩ <;> exact t
    obtain ⟨a4, z4, c4, er4, rfl, hz4, hs4⟩ : ∃ a4 z4 c4 er4, e = .returned (.tuple #[.slice a4 z4 c4, .int .i64 er4]) ∧ z4 ≤ 1000 ∧ InsIn w4 a4 z4 c4 (R.getD []) ∧ er4 = (if R.isSome then 0 else 3) := by
      rcases H4 with ⟨L, z, rfl, hz, a, c, rfl, hi, t⟩ | ⟨rfl, rfl, t⟩
      · exact ⟨a, z, c, 0, rfl, hz, hi, rfl⟩
      · exact ⟨none, 0, 0, 3, rfl, by omega, insIn_nil _, rfl⟩
    have HS4 : Hid _ := hs4.1
    obtain rfl : er4 = er3 := by rw [hs4.2, HE3.out]
    obtain rfl : z4 = z3 := by rw [HS3.out.len, HS4.out.len]
    have HT34 : Hid _ := t4
    have HT4 : Hid _ := HT3.out.trans t4 (by simp)
    clear H4 hs4 t4 HRD HE3
    go_wp2_with fail
    refine (HL.out _ HT4.out).out.mono ?_
    rintro e w5 ⟨rfl, t5⟩
    have T45 : Touch w2 w5 [] := (HT23.out.trans HT34.out (by simp)).trans t5 (by simp)
    have q1 := (hS1.out _ (HT12.out.trans T45 (by simp))).str
    have q2 := (HS2.out _ T45).str
    have HSM : HidC _ _ _ _ _ := ⟨rsame_eq (HS3.out.keep (HT34.out.trans t5 (by simp))) (HS4.out.keep t5) hz3⟩
    have HT5 : Hid _ := HT4.out.trans t5 (by simp)
    generalize strOfNums EB = sb at *
    clear t5 T45 HL
    go_wp2_with fail
    refine HSM.out.mono ?_
    rintro e w6 ⟨rfl, t6⟩
    have HT6 : Hid _ := HT5.out.trans t6 (by simp)
    clear t6 HSM q1 q2
    go_wp2
    go_ret
    exact ⟨rfl, HT6.out⟩

end Go.Proofs.YtoaajheneojfjaaDoor

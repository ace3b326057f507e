/-
  VerifyBrackets, WALKED.
-/
import Derived.Test.YtonjbldnhbbdjaaVfRIns
import Derived.Test.YtonjbldnhbbdjaaVfLive2
namespace Go.Proofs.Ytonjbldnhbbdjaa
set_option linter.unusedVariables false
set_option linter.unusedSimpArgs false
open Go.RowKit
attribute [local go_sem] Oper.semAt_some

set_option maxRecDepth 100000 in
set_option maxHeartbeats 2000000 in
theorem vbrackets_any (ao : Option Addr) (cap : Nat) (l : List InsD) (W : World) (hr : InsV W (.slice ao l.length cap) l) (hwf : ∀ i ∈ l, i.Wf) (hc : l.length ≤ cap) (hcm : cap ≤ 9223372036854775807) :
    Calls Try.prog 4 #[.slice ao l.length cap] W fun e w' => e = .returned (.bool true) ∧ Touch W w' [] := by
  have hfw : HidC _ _ _ _ _ := ⟨vfew_any hr hc hcm⟩
  have hr2 : InsV W (.slice ao (l.take 65).length cap) (l.take 65) := by
    have hl : (l.take 65).length ≤ l.length := by rw [List.length_take]; omega
    have q := insv_take hr (l.take 65).length cap hl
    rwa [show l.take (l.take 65).length = l.take 65 from by rw [List.length_take, List.take_eq_take_iff]; omega] at q
  have hn : (l.take 65).length ≤ 900 := by rw [List.length_take]; omega
  have hn' : (l.take 65).length ≤ 65 := by rw [List.length_take]; omega
  have HR : Hid (InsV W (.slice ao (l.take 65).length cap) (l.take 65)) := hr2
  clear hr hr2 hwf
  generalize l.take 65 = p at *
  generalize l.length = n0 at *
  obtain ⟨N, hN⟩ : ∃ N, N = p.length := ⟨_, rfl⟩
  rw [← hN] at hfw HR hn hn'
  have HN : Hid _ := hN
  have hbl : (insA p).length ≤ 65 := by
    unfold insA
    split
    · simp
    · rw [insB_len]; omega
  have hil : (ansI (runV true mayV p p.length) (insV p p.length)).length ≤ 65 := by
    unfold ansI
    split
    · simp
    · rw [insV_len]; omega
  have hkl : (blkV p p.length).length ≤ 65 := by have := blk_len p p.length; omega
  have hg1 : HidC _ _ _ _ _ := ⟨regions_any HN.out hn HR.out⟩
  have HG2 : Hid (∀ W', Touch W W' [] → HidC Try.prog 12 #[.slice ao N cap] W' (RegPost W' p)) := fun W' t => ⟨rregions_any HN.out hn (SRow.keep HR.out t (by simp))⟩
  have HI1 : Hid (∀ W', Touch W W' [] → HidC Try.prog 13 #[.slice ao N cap] W' (fun e w' => ∃ v, e = .returned v ∧ boolOwnV w' W'.heap.size v (insA p) ∧ Touch W' w' [])) := fun W' t => ⟨inside_any HN.out hn (SRow.keep HR.out t (by simp))⟩
  have HI2 : Hid (∀ W', Touch W W' [] → HidC Try.prog 14 #[.slice ao N cap] W' (fun e w' => ∃ v, e = .returned v ∧ boolOwnV w' W'.heap.size v (insA p) ∧ Touch W' w' [])) := fun W' t => ⟨rinside_any HN.out hn (SRow.keep HR.out t (by simp))⟩
  have HB1 : Hid (∀ W', Touch W W' [] → HidC Try.prog 16 #[.slice ao N cap] W' (fun e w' => ∃ v, e = .returned v ∧ intOwnV w' W'.heap.size v (blkV p p.length) ∧ Touch W' w' [])) := fun W' t => ⟨blocks_any HN.out hn (SRow.keep HR.out t (by simp))⟩
  have HB2 : Hid (∀ W', Touch W W' [] → HidC Try.prog 17 #[.slice ao N cap] W' (fun e w' => ∃ v, e = .returned v ∧ intOwnV w' W'.heap.size v (blkV p p.length) ∧ Touch W' w' [])) := fun W' t => ⟨rblocks_any HN.out hn (SRow.keep HR.out t (by simp))⟩
  have HLI : Hid (∀ W, HidC Try.prog 10 #[] W (fun e w' => e = .returned (.bool true) ∧ Touch W w' [])) := fun W => ⟨vlive_any W⟩
  unfold RegPost at hg1 HG2
  generalize ansK (runV true mayV p p.length) = rk at *
  generalize ansE (runV true mayV p p.length) = re at *
  generalize ansI (runV true mayV p p.length) (insV p p.length) = ri at *
  generalize insA p = ia at *
  generalize blkV p p.length = bk at *
  clear hN
  go_enter Try.func4, Try.ntmps4
  go_wp2_with fail
  refine hfw.out.mono ?_
  rintro e w1 ⟨rfl, rfl⟩
  clear hfw
  go_wp2_with fail
  refine hg1.out.mono ?_
  rintro e w2 ⟨v2, rfl, o2, t2⟩
  have hg2 := HG2.out w2 t2
  have O2 : Hid (intOwnV w2 W.heap.size v2 ri) := o2
  have T2 : Hid _ := t2
  clear hg1 HG2 o2 t2
  go_wp2_with fail
  refine hg2.out.mono ?_
  rintro e w3 ⟨v3, rfl, o3, t3⟩
  have hT3 : Touch W w3 [] := T2.out.trans t3 (by simp)
  have hi1 := HI1.out w3 hT3
  have O3 : Hid (intOwnV w3 w2.heap.size v3 ri) := o3
  have T23 : Hid (Touch w2 w3 []) := t3
  have T3 : Hid _ := hT3
  clear hg2 HI1 o3 t3 hT3
  go_wp2_with fail
  refine hi1.out.mono ?_
  rintro e w4 ⟨v4, rfl, o4, t4⟩
  have hT4 : Touch W w4 [] := T3.out.trans t4 (by simp)
  have hi2 := HI2.out w4 hT4
  have O4 : Hid (boolOwnV w4 w3.heap.size v4 ia) := o4
  have T34 : Hid (Touch w3 w4 []) := t4
  have T4 : Hid _ := hT4
  clear hi1 HI2 o4 t4 hT4
  go_wp2_with fail
  refine hi2.out.mono ?_
  rintro e w5 ⟨v5, rfl, o5, t5⟩
  have hT5 : Touch W w5 [] := T4.out.trans t5 (by simp)
  have O5 : Hid (boolOwnV w5 w4.heap.size v5 ia) := o5
  have T45 : Hid (Touch w4 w5 []) := t5
  have T5 : Hid _ := hT5
  obtain ⟨a4, c4, rfl⟩ := owns_slice O4.out
  obtain ⟨a5, c5, rfl⟩ := owns_slice o5
  generalize hK : ia.length = K at *
  have HK : Hid _ := hK
  clear hi2 o5 t5 hT5 hK
  go_wp2_with fail
  go_loopw [11] (fun i wr => ∃ k : Nat, i = .int .i64 k ∧ k ≤ K ∧ Touch w5 wr []) (fun i _ => K - (intOf i).toNat)
  case atStart => exact ⟨0, rfl, Nat.zero_le _, Touch.refl _ _⟩
  case round =>
    obtain ⟨k, rfl, hk, hT⟩ := hrel
    have HT : Hid _ := hT
    by_cases hlt : k < K
    · obtain ⟨g4, q4, e4⟩ := Go.Joins.ownsRow_form O4.out (by rw [HK.out]; omega)
      obtain ⟨g5, q5, e5⟩ := Go.Joins.ownsRow_form O5.out (by rw [HK.out]; omega)
      rw [HK.out] at e4 e5
      simp only [Value.slice.injEq, true_and] at e4 e5
      obtain ⟨rfl, rfl⟩ := e4
      obtain ⟨rfl, rfl⟩ := e5
      have r4 : w4.ownsRow w3.heap.size 4 1 (.slice (some ⟨g4, 0, none⟩) K c4) K (ia.map Value.bool) := by
        have q := O4.out; unfold boolOwnV at q; rw [HK.out] at q; exact q
      have r5 : w5.ownsRow w4.heap.size 4 1 (.slice (some ⟨g5, 0, none⟩) K c5) K (ia.map Value.bool) := by
        have q := O5.out; unfold boolOwnV at q; rw [HK.out] at q; exact q
      have hk' : k < ia.length := by rw [HK.out]; exact hlt
      have d4 := r4.cellAt k (by omega)
      have d5 := r5.cellAt k (by omega)
      rw [List.getElem?_map, List.getElem?_eq_getElem hk'] at d4 d5
      simp only [Option.map_some] at d4 d5
      have s4 := (hT.cell (p := ⟨g4, k, none⟩) (Nat.lt_of_lt_of_le (World.ownsRow.lt r4 g4 rfl).2 T45.out.size) (by simp)).trans ((T45.out.cell (p := ⟨g4, k, none⟩) (World.ownsRow.lt r4 g4 rfl).2 (by simp)).trans d4)
      have s5 := (hT.cell (p := ⟨g5, k, none⟩) (World.ownsRow.lt r5 g5 rfl).2 (by simp)).trans d5
      generalize ia[k] = y at *
      have hkN : (k : Int) < K := by omega
      have hk0 : (0 : Int) ≤ k := by omega
      have hkw : IntKind.i64.wrap ((k : Int) + 1) = (k : Int) + 1 := by rw [IntKind.wrap_i64]; omega
      have hyy : (y != y) = false := by simp
      clear r4 r5 d4 d5 hT
      go_wp2_with fail
      go_quiet (fail)
      go_wp2
      go_roundw
      case rel => exact ⟨k + 1, by go_num, by omega, HT.out.drewN _⟩
      case measure => simp [intOf]; omega
    · obtain rfl : k = K := by omega
      have T6 : Hid (Touch W wr []) := T5.out.trans hT (by simp)
      have hli := HLI.out wr
      clear hT HLI
      go_wp2_with fail
      refine hli.out.mono ?_
      rintro e w7 ⟨rfl, t7⟩
      have hT7 : Touch W w7 [] := T6.out.trans t7 (by simp)
      have t37 : Touch w3 w7 [] := ((T34.out.trans T45.out (by simp)).trans HT.out (by simp)).trans t7 (by simp)
      have hsi : HidC _ _ _ _ _ := ⟨sameInts_eq W.heap.size w2.heap.size ri.length v2 v3 ri w7 (by omega) (ownsRow_touch (ownsRow_touch O2.out T23.out (by simp)) t37 (by simp)) (ownsRow_touch O3.out t37 (by simp))⟩
      have T7 : Hid _ := hT7
      clear hli t7 hT7 t37
      go_wp2_with fail
      refine hsi.out.mono ?_
      rintro e w8 ⟨rfl, t8⟩
      have hT8 : Touch W w8 [] := T7.out.trans t8 (by simp)
      have hb1 := HB1.out w8 hT8
      have T8 : Hid _ := hT8
      clear hsi t8 hT8 HB1
      go_wp2_with fail
      refine hb1.out.mono ?_
      rintro e w9 ⟨v9, rfl, o9, t9⟩
      have hT9 : Touch W w9 [] := T8.out.trans t9 (by simp)
      have hb2 := HB2.out w9 hT9
      have O9 : Hid (intOwnV w9 w8.heap.size v9 bk) := o9
      have T9 : Hid _ := hT9
      clear hb1 t9 hT9 HB2 o9
      go_wp2_with fail
      refine hb2.out.mono ?_
      rintro e w10 ⟨v10, rfl, o10, t10⟩
      have hsj : HidC _ _ _ _ _ := ⟨sameInts_eq w8.heap.size w9.heap.size bk.length v9 v10 bk w10 (by omega) (ownsRow_touch O9.out t10 (by simp)) o10⟩
      have T10 : Hid (Touch W w10 []) := T9.out.trans t10 (by simp)
      clear hb2 t10 o10
      go_wp2_with fail
      refine hsj.out.mono ?_
      rintro e w11 ⟨rfl, t11⟩
      have T11 : Hid (Touch W w11 []) := T10.out.trans t11 (by simp)
      clear hsj t11
      go_wp2
      go_ret
      exact ⟨by simp, T11.out⟩

end Go.Proofs.Ytonjbldnhbbdjaa

/-
  THE DOCUMENT'S Regions, Inside, Blocks BY THEIR CONTRACTS.
-/
import Derived.Test.YtonjbldnhbbdjaaVfRBr
import Derived.Test.YtonjbldnhbbdjaaVfIns
namespace Go.Proofs.Ytonjbldnhbbdjaa
set_option linter.unusedVariables false
set_option linter.unusedSimpArgs false
open Go.RowKit
attribute [local go_sem] Oper.semAt_some

set_option maxRecDepth 100000 in
set_option maxHeartbeats 1000000 in
theorem rregions_any {w : World} {ao : Option Addr} {N cap : Nat} {l : List InsD} (hN : N = l.length) (hn : N ≤ 900) (hr : InsV w (.slice ao N cap) l) :
    Calls Try.prog 12 #[.slice ao N cap] w (RegPost w l) := by
  have hbr : HidC _ _ _ _ _ := ⟨brackets_any hN hn hr⟩
  clear hr hN
  unfold BrkPost at hbr
  unfold RegPost
  generalize runV true mayV l l.length = s at *
  go_enter Try.func12, Try.ntmps12
  go_wp2_with fail
  refine hbr.out.mono ?_
  rintro e w1 ⟨v, ve, rfl, hrow, t1⟩
  clear hbr
  have HROW : Hid _ := hrow
  have HT : Hid _ := t1
  clear hrow t1
  go_wp2
  refine bodyPost_ret (v := .tuple #[v, .int .i64 (ansK s), .int .i64 (ansE s)]) (by simp [results, Try.results12, go_sem]) rfl ?_
  exact ⟨v, rfl, HROW.out, HT.out⟩

theorem top_ge (op : List Nat) : (topV op ≥ 0) ↔ topV op ≠ -1 := by
  cases op with
  | nil => simp [topV]
  | cons t r => simp [topV]
theorem ins_ge {l : List InsD} {N k : Nat} {y : Int} (h : (insV l N)[k]? = some y) : decide (0 ≤ y) = (y != -1) := by
  unfold insV at h
  rw [List.getElem?_map, Option.map_eq_some_iff] at h
  obtain ⟨j, _, rfl⟩ := h
  have := top_ge (runV true mayV l j).op
  rw [Bool.eq_iff_iff]
  simpa using this

set_option maxRecDepth 100000 in
set_option maxHeartbeats 1000000 in
theorem rinside_any {w : World} {ao : Option Addr} {N cap : Nat} {l : List InsD} (hN : N = l.length) (hn : N ≤ 900) (hr : InsV w (.slice ao N cap) l) :
    Calls Try.prog 14 #[.slice ao N cap] w fun e w' => ∃ v, e = .returned v ∧ boolOwnV w' w.heap.size v (insA l) ∧ Touch w w' [] := by
  have hrg : HidC _ _ _ _ _ := ⟨rregions_any hN hn hr⟩
  have HN : Hid _ := hN
  clear hr hN
  unfold insA
  cases hreg : regV l with
  | some j =>
    have e1 : ansK (runV true mayV l l.length) = j := by unfold ansK; rw [show endV (runV true mayV l l.length) = some j from hreg]
    have e2 : ansE (runV true mayV l l.length) = 8 := by unfold ansE; rw [show endV (runV true mayV l l.length) = some j from hreg]
    unfold RegPost at hrg
    rw [e1, e2] at hrg
    clear e1 e2 hreg
    go_enter Try.func14, Try.ntmps14
    go_wp2_with fail
    refine hrg.out.mono ?_
    rintro e w1 ⟨v, rfl, _, t1⟩
    clear hrg
    go_wp2
    go_ret
    exact ⟨_, rfl, World.ownsRow_nil _ _ _ _, t1⟩
  | none =>
    have e1 : ansK (runV true mayV l l.length) = 0 := by unfold ansK; rw [show endV (runV true mayV l l.length) = none from hreg]
    have e2 : ansE (runV true mayV l l.length) = 0 := by unfold ansE; rw [show endV (runV true mayV l l.length) = none from hreg]
    have e3 : ansI (runV true mayV l l.length) (insV l l.length) = insV l l.length := by unfold ansI; rw [show endV (runV true mayV l l.length) = none from hreg]
    unfold RegPost at hrg
    rw [e1, e2, e3, ← HN.out] at hrg
    rw [← HN.out]
    clear e1 e2 e3 hreg
    go_enter Try.func14, Try.ntmps14
    go_wp2_with fail
    refine hrg.out.mono ?_
    rintro e w1 ⟨v, rfl, hrow, t1⟩
    have hil : (insV l N).length = N := insV_len l N
    obtain ⟨ai, ci, hv⟩ := owns_slice hrow
    rw [hil] at hv
    subst hv
    have HROW : Hid (intOwnV w1 w.heap.size (.slice ai N ci) (insV l N)) := hrow
    have HT1 : Hid _ := t1
    clear hrg hrow t1
    go_wp2_with fail
    go_loopw [6, 7] (fun v i wr => ∃ k : Nat, i = .int .i64 k ∧ k ≤ N ∧ boolOwnV wr w1.heap.size v ((insB l N).take k) ∧ Touch w1 wr []) (fun _ i _ => N - (intOf i).toNat)
    case atStart => exact ⟨0, rfl, Nat.zero_le _, World.ownsRow_nil _ _ _ _, Touch.refl _ _⟩
    case round =>
      obtain ⟨k, rfl, hk, hB, hT⟩ := hrel
      obtain ⟨av, cv, rfl⟩ := owns_slice hB
      have hlk : ((insB l N).take k).length = k := by rw [List.length_take, insB_len]; omega
      have HB : Hid _ := hB
      have HT : Hid _ := hT
      have hsz := hT.size
      by_cases hlt : k < N
      · obtain ⟨gi, ci', hai⟩ := Go.Joins.ownsRow_form HROW.out (by rw [hil]; omega)
        rw [hil] at hai
        simp only [Value.slice.injEq, true_and] at hai
        obtain ⟨rfl, rfl⟩ := hai
        have hrw := HROW.out
        unfold intOwnV at hrw
        rw [hil] at hrw
        have hgi := (World.ownsRow.lt hrw gi rfl).2
        have ck := hrw.cellAt k (by omega)
        have hk' : k < (insV l N).length := by rw [hil]; exact hlt
        have hge := ins_ge (List.getElem?_eq_getElem hk')
        rw [List.getElem?_map, List.getElem?_eq_getElem hk'] at ck
        simp only [Option.map_some] at ck
        have hkb : k < (insB l N).length := by rw [insB_len]; exact hlt
        have HX : Hid ((insB l N).take (k + 1) = (insB l N).take k ++ [decide (0 ≤ (insV l N)[k])]) := by
          show _ = _
          rw [List.take_succ_eq_append_getElem hkb, hge]
          simp [insB]
        have ck' := (hT.cell (p := ⟨gi, k, none⟩) hgi (by simp)).trans ck
        generalize (insV l N)[k] = y at *
        obtain ⟨ao', cap', w', hrun, hown, ht⟩ := bool_pushW hB (by omega) hsz (decide (0 ≤ y)) 32
        rw [hlk] at hrun hown ⊢
        have HO : Hid _ := hown
        have HT2 : Hid (Touch w1 w' []) := HT.out.trans ht (fun x hx => .inr (World.ownsRow.lt hB x (by simpa using hx)).1)
        have hkN : (k : Int) < N := by omega
        have hk0 : (0 : Int) ≤ k := by omega
        have hkw : IntKind.i64.wrap ((k : Int) + 1) = (k : Int) + 1 := by rw [IntKind.wrap_i64]; omega
        clear hB hT hrw ck hil hge hown ht hlk
        go_wp2_with (at_builtin; refine Lib.wpList_append_run _ rfl _ _ _ _ rfl _ _ rfl rfl _ _ hrun ?_)
        go_wp2
        go_roundw
        case rel => exact ⟨k + 1, rfl, by omega, by rw [HX.out]; exact HO.out, HT2.out⟩
        case measure => simp [intOf]; omega
      · obtain rfl : k = N := by omega
        clear hB hT
        have e : (insB l k).take k = insB l k := List.take_of_length_le (by rw [insB_len]; exact Nat.le_refl _)
        rw [hlk]
        go_wp2
        go_ret
        refine ⟨_, rfl, ?_, HT1.out.trans HT.out (by simp)⟩
        have hb : boolOwnV wr w1.heap.size (.slice av k cv) (insB l k) := by
          have q : boolOwnV wr w1.heap.size (.slice av ((insB l k).take k).length cv) ((insB l k).take k) := HB.out
          rw [e, insB_len] at q
          exact q
        show boolOwnV wr w.heap.size (.slice av k cv) (insB l k)
        exact Go.Joins.ownsRow_le hb HT1.out.size

set_option maxRecDepth 100000 in
set_option maxHeartbeats 1000000 in
theorem rblocks_any {w : World} {ao : Option Addr} {N cap : Nat} {l : List InsD} (hN : N = l.length) (hn : N ≤ 900) (hr : InsV w (.slice ao N cap) l) :
    Calls Try.prog 17 #[.slice ao N cap] w fun e w' => ∃ v, e = .returned v ∧ intOwnV w' w.heap.size v (blkV l l.length) ∧ Touch w w' [] := by
  have HR : Hid _ := hr
  have HN : Hid _ := hN
  rw [← hN]
  clear hr hN
  go_enter Try.func17, Try.ntmps17
  go_wp2_with fail
  go_loopw [3, 4] (fun v i wr => ∃ k : Nat, i = .int .i64 k ∧ k ≤ N ∧ intOwnV wr w.heap.size v (blkV l k) ∧ Touch w wr []) (fun _ i _ => N - (intOf i).toNat)
  case atStart => exact ⟨0, rfl, Nat.zero_le _, World.ownsRow_nil _ _ _ _, Touch.refl _ _⟩
  case round =>
    obtain ⟨k, rfl, hk, hrow, hT⟩ := hrel
    obtain ⟨av, cv, rfl⟩ := owns_slice hrow
    have HT : Hid _ := hT
    have HROW : Hid (intOwnV wr w.heap.size (.slice av (blkV l k).length cv) (blkV l k)) := hrow
    have hll := blk_len l k
    have hsz := hT.size
    by_cases hlt : k < N
    · have hr0 := SRow.keep HR.out hT (by simp)
      rw [HN.out] at hr0
      have hkl : k < l.length := by rw [← HN.out]; exact hlt
      obtain ⟨g, off, rfl, hg, c0, _, _⟩ := insv_at hr0 k hkl
      have hkN : (k : Int) < N := by omega
      have hk0 : (0 : Int) ≤ k := by omega
      have hkw : IntKind.i64.wrap ((k : Int) + 1) = (k : Int) + 1 := by rw [IntKind.wrap_i64]; omega
      have HS : Hid _ := blk_succ l k
      generalize hop : opAt l k = o at *
      have hlo : ∀ x, (Value.slice av (blkV l k).length cv).ownBlock = some x → w.heap.size ≤ x := fun x hx => (World.ownsRow.lt hrow x hx).1
      generalize hM : (blkV l k).length = M at *
      by_cases ho : o = 21
      · obtain ⟨ao', cap', w', hrun, hown, ht⟩ := int_pushV hrow (by omega) hsz (k : Int) 29
        rw [hM] at hrun hown
        have HO : Hid _ := hown
        have HT2 : Hid (Touch w w' []) := HT.out.trans ht (fun x hx => .inr (hlo x (by simpa using hx)))
        have HS2 : Hid (blkV l (k + 1) = blkV l k ++ [(k : Int)]) := by show _ = _; rw [HS.out, if_pos ho]
        subst ho
        clear hr0 hT hrow hown ht hop HS hlo
        go_wp2_with (at_builtin; refine Lib.wpList_append_run _ rfl _ _ _ _ rfl _ _ rfl rfl _ _ hrun ?_)
        go_wp2
        go_roundw
        case rel => exact ⟨k + 1, rfl, by omega, by rw [HS2.out]; exact HO.out, HT2.out⟩
        case measure => simp [intOf]; omega
      · have ho' : (o == 21) = false := by simpa using ho
        have HS2 : Hid (blkV l (k + 1) = blkV l k) := by show _ = _; rw [HS.out, if_neg ho]
        clear hr0 hT hrow hop HS hlo
        go_wp2
        go_roundw
        case rel => exact ⟨k + 1, rfl, by omega, by rw [HS2.out]; exact HROW.out, HT.out⟩
        case measure => simp [intOf]; omega
    · obtain rfl : k = N := by omega
      clear hT hrow
      go_wp2
      go_ret
      exact ⟨_, rfl, HROW.out, HT.out⟩

end Go.Proofs.Ytonjbldnhbbdjaa

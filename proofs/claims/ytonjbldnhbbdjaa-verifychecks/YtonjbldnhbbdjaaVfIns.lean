/-
  package verify: Inside BY ITS CONTRACT; rows of Booleans.
-/
import Derived.Test.YtonjbldnhbbdjaaVfR3
namespace Go.Proofs.Ytonjbldnhbbdjaa
set_option linter.unusedVariables false
set_option linter.unusedSimpArgs false
open Go.RowKit
attribute [local go_sem] Oper.semAt_some

abbrev boolOwnV (w : World) (B : Nat) (v : Value) (xs : List Bool) : Prop := w.ownsRow B 4 1 v xs.length (xs.map Value.bool)
theorem Try.info_boolV : (Try.prog.info? 4).map (fun i => (i.zero, i.size, i.bytes)) = some (some (.bool false), 1, 1) := by kernel_rfl
theorem made_boolV (n : Nat) : madeCells (Value.cells (.bool false)) (n * 1) = Array.replicate n (.bool false) := by
  apply Array.ext
  · simp [size_madeCells]
  · intro i h1 h2
    simp [madeCells, Value.cells, Nat.mod_one]
theorem make_boolV (n : Nat) (hn : n ≤ 1000) (w : World) : (Instr.makeSlice 32 (.int .i64 n) (.int .i64 n)).run Try.prog w = .ok (.slice (some ⟨w.heap.size, 0, none⟩) n n) (w.alloc (.cells (Array.replicate n (.bool false)) 4)) := by
  obtain ⟨i, hi, hz, hs, hb⟩ := info_partsV Try.info_boolV
  have e := run_make (P := Try.prog) w 32 4 i (.bool false) Try.underlying32 hi hz .i64 .i64 n n (by omega) (by omega) (by rw [hb]; omega) (by omega)
  rw [e, hs, Int.toNat_natCast, made_boolV]
theorem bool_pushW {w : World} {B : Nat} {v : Value} {xs : List Bool} (h : boolOwnV w B v xs) (hl : xs.length ≤ 1000) (hB : B ≤ w.heap.size) (x : Bool) (ty : TypeId) :
    ∃ ao' cap' w', (Builtin.append_ #[32, 32] ty #[v, .slice (some ⟨w.heap.size, 0, none⟩) 1 1]).run Try.prog (w.alloc (.cells #[.bool x] 4)) = .ok (.slice ao' (xs.length + 1) cap') w' ∧ boolOwnV w' B (.slice ao' (xs.length + 1) cap') (xs ++ [x]) ∧ Touch w w' v.ownBlock.toList := by
  obtain ⟨i0, hi, hz0, hz1, hz2⟩ := info_partsV Try.info_boolV
  obtain ⟨v', w', h1, h2, h3, h4, h5⟩ := run_append_own_at (P := Try.prog) (w.alloc (.cells #[.bool x] 4)) B 32 ty 4 i0 _ 1 1 Try.underlying32 hi hz0 hz1 hz2 rfl (by decide) v xs.length _ (h.alloc _) ⟨w.heap.size, 0, none⟩ 1 1 [.bool x] rfl (World.news_of_block (cs := #[.bool x]) (t := 4) (fr := (0, 0)) (heap_alloc_new w _)) (by simp [Value.oneCell']) (by unfold maxLen; omega) (by omega) (by simp; omega)
  have h2' : boolOwnV w' B v' (xs ++ [x]) := by
    show w'.ownsRow _ _ _ _ _ _
    rw [List.length_append, List.map_append]
    exact h2
  obtain ⟨ao', cap', rfl⟩ := owns_slice h2
  exact ⟨ao', cap', w', h1, h2', ((Touch.refl w _).alloc _).grown h3 (fun k hk => .inl (by simp [hk]))⟩

/-- Of each whether it stands in a bracket. -/
def insB (l : List InsD) (k : Nat) : List Bool := (insV l k).map fun x => x != -1
theorem insB_len (l : List InsD) (k : Nat) : (insB l k).length = k := by simp [insB, insV_len]
def insA (l : List InsD) : List Bool := match regV l with | some _ => [] | none => insB l l.length
/-- A block of Booleans. -/
structure BAt (w : World) (g N : Nat) (D : List Bool) : Prop where
  row : w.heap[g]? = some (.cells (D.map Value.bool).toArray 4 (0, 0))
  len : D.length = N
theorem BAt.at {w : World} {g N : Nat} {D : List Bool} (h : BAt w g N D) (k : Nat) (hk : k < N) : ∃ y, w.cell? ⟨g, k, none⟩ = some (.bool y) := by
  have hk' : k < D.length := by rw [h.len]; exact hk
  refine ⟨D[k], ?_⟩
  unfold World.cell?
  rw [h.row]
  simp [hk']
theorem BAt.put {w : World} {g N : Nat} {D : List Bool} (h : BAt w g N D) (k : Nat) (x : Bool) : BAt (w.setCell ⟨g, k, none⟩ (.bool x)) g N (D.set k x) :=
  ⟨by rw [heap_setCell_same _ _ _ _ _ _ h.row, List.map_set]; simp, by simpa using h.len⟩
def inZB (l : List InsD) (N k : Nat) : List Bool := (insB l N).take k ++ List.replicate (N - k) false
theorem inZB_set {l : List InsD} {N k : Nat} (h : k < N) (x : Bool) (hx : (insB l N)[k]? = some x) : (inZB l N k).set k x = inZB l N (k + 1) := by
  have hl : ((insB l N).take k).length = k := by rw [List.length_take, insB_len]; omega
  obtain ⟨hk, e⟩ := List.getElem?_eq_some_iff.1 hx
  unfold inZB
  rw [List.set_append_right _ _ (by omega), hl, Nat.sub_self, show N - k = (N - (k + 1)) + 1 by omega, List.replicate_succ, List.set_cons_zero, List.take_succ_eq_append_getElem hk, e, List.append_assoc]
  rfl

set_option maxRecDepth 100000 in
set_option maxHeartbeats 1000000 in
theorem inside_any {w : World} {ao : Option Addr} {N cap : Nat} {l : List InsD} (hN : N = l.length) (hn : N ≤ 900) (hr : InsV w (.slice ao N cap) l) :
    Calls Try.prog 13 #[.slice ao N cap] w fun e w' => ∃ v, e = .returned v ∧ boolOwnV w' w.heap.size v (insA l) ∧ Touch w w' [] := by
  have hrg : HidC _ _ _ _ _ := ⟨regions_any hN hn hr⟩
  have HN : Hid _ := hN
  clear hr hN
  unfold insA
  cases hreg : regV l with
  | some j =>
    have e1 : ansK (runV true mayV l l.length) = j := by unfold ansK; rw [show endV (runV true mayV l l.length) = some j from hreg]
    have e2 : ansE (runV true mayV l l.length) = 8 := by unfold ansE; rw [show endV (runV true mayV l l.length) = some j from hreg]
    unfold RegPost at hrg
    rw [e1, e2] at hrg
    clear e1 e2 hreg
    go_enter Try.func13, Try.ntmps13
    go_wp2_with fail
    refine hrg.out.mono ?_
    rintro e w1 ⟨v, rfl, _, t1⟩
    clear hrg
    go_wp2
    go_ret
    exact ⟨_, rfl, World.ownsRow_nil _ _ _ _, t1⟩
  | none =>
    have e1 : ansK (runV true mayV l l.length) = 0 := by unfold ansK; rw [show endV (runV true mayV l l.length) = none from hreg]
    have e2 : ansE (runV true mayV l l.length) = 0 := by unfold ansE; rw [show endV (runV true mayV l l.length) = none from hreg]
    have e3 : ansI (runV true mayV l l.length) (insV l l.length) = insV l l.length := by unfold ansI; rw [show endV (runV true mayV l l.length) = none from hreg]
    unfold RegPost at hrg
    rw [e1, e2, e3, ← HN.out] at hrg
    rw [← HN.out]
    clear e1 e2 e3 hreg
    go_enter Try.func13, Try.ntmps13
    go_wp2_with fail
    refine hrg.out.mono ?_
    rintro e w1 ⟨v, rfl, hrow, t1⟩
    have hil : (insV l N).length = N := insV_len l N
    obtain ⟨ai, ci, hv⟩ := owns_slice hrow
    rw [hil] at hv
    subst hv
    have HROW : Hid (intOwnV w1 w.heap.size (.slice ai N ci) (insV l N)) := hrow
    have HT1 : Hid _ := t1
    have hmk := make_boolV N (by omega)
    have B0 : Hid (BAt (w1.alloc (.cells (Array.replicate N (.bool false)) 4)) w1.heap.size N (inZB l N 0)) := ⟨by rw [heap_alloc_new]; simp [inZB], by simp [inZB]⟩
    clear hrg hrow t1
    go_wp2_with fail
    go_loopw [21] (fun i wr => ∃ k : Nat, i = .int .i64 k ∧ k ≤ N ∧ BAt wr w1.heap.size N (inZB l N k) ∧ Touch w1 wr []) (fun i _ => N - (intOf i).toNat)
    case atStart => exact ⟨0, rfl, Nat.zero_le _, B0.out, (Touch.refl _ _).alloc _⟩
    case round =>
      obtain ⟨k, rfl, hk, hB, hT⟩ := hrel
      clear B0 hmk
      have HB : Hid _ := hB
      have HT : Hid _ := hT
      by_cases hlt : k < N
      · obtain ⟨gi, ci', hai⟩ := Go.Joins.ownsRow_form HROW.out (by rw [hil]; omega)
        rw [hil] at hai
        simp only [Value.slice.injEq, true_and] at hai
        obtain ⟨rfl, rfl⟩ := hai
        have hrw := HROW.out
        unfold intOwnV at hrw
        rw [hil] at hrw
        have hgi := (World.ownsRow.lt hrw gi rfl).2
        have ck := hrw.cellAt k (by omega)
        have hk' : k < (insV l N).length := by rw [hil]; exact hlt
        rw [List.getElem?_map, List.getElem?_eq_getElem hk'] at ck
        simp only [Option.map_some] at ck
        have HX : Hid ((insB l N)[k]? = some ((insV l N)[k] != -1)) := by
          show _ = _
          unfold insB
          rw [List.getElem?_map, List.getElem?_eq_getElem hk']; rfl
        have ck' := (hT.cell (p := ⟨gi, k, none⟩) hgi (by simp)).trans ck
        generalize (insV l N)[k] = y at *
        obtain ⟨y0, d0⟩ := hB.at k hlt
        have f0 : wr.frozen? ⟨w1.heap.size, k, none⟩ = false := by simp [World.frozen?, hB.row]
        have hkN : (k : Int) < N := by omega
        have hk0 : (0 : Int) ≤ k := by omega
        have hkw : IntKind.i64.wrap ((k : Int) + 1) = (k : Int) + 1 := by rw [IntKind.wrap_i64]; omega
        clear hB hT hrw ck hil
        go_wp2
        go_roundw
        case rel => exact ⟨k + 1, rfl, by omega, by rw [← inZB_set hlt _ HX.out]; exact HB.out.put k _, HT.out.setCell (.inr (Nat.le_refl _)) _⟩
        case measure => simp [intOf]; omega
      · obtain rfl : k = N := by omega
        clear hB hT
        go_wp2
        go_ret
        refine ⟨_, rfl, ?_, HT1.out.trans HT.out (by simp)⟩
        have e : inZB l k k = insB l k := by unfold inZB; rw [Nat.sub_self, List.replicate_zero, List.append_nil, List.take_of_length_le (by rw [insB_len]; exact Nat.le_refl _)]
        have hb := HB.out
        rw [e] at hb
        refine ⟨by simp, .inr ⟨w1.heap.size, k, _, ?_, HT1.out.size, hb.row, ?_, by unfold maxLen; omega, ?_, ?_⟩⟩
        · rw [insB_len]; rfl
        · rw [insB_len]; exact Nat.le_refl _
        · simp [insB_len]
        · simp [List.take_of_length_le]

end Go.Proofs.Ytonjbldnhbbdjaa

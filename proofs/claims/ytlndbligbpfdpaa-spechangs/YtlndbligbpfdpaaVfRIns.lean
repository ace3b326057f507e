/-
  THE DOCUMENT'S Regions, Inside, Blocks BY THEIR CONTRACTS.
-/
import Derived.Test.YtlndbligbpfdpaaVfRBr
import Derived.Test.YtlndbligbpfdpaaAllE
namespace Go.Proofs.Ytlndbligbpfdpaa
set_option linter.unusedVariables false
set_option linter.unusedSimpArgs false
open Go.RowKit
attribute [local go_sem] Oper.semAt_some

set_option maxRecDepth 100000 in
set_option maxHeartbeats 1000000 in
theorem rregions_any {w : World} {ao : Option Addr} {N cap : Nat} {l : List InsD} (hN : N = l.length) (hn : N ≤ 900) (hr : InsV w (.slice ao N cap) l) :
    Calls Try.prog 35 #[.slice ao N cap] w (RegPost w l) := by
  have hbr : HidC _ _ _ _ _ := ⟨brackets_any hN hn hr⟩
  clear hr hN
  unfold BrkPost at hbr
  unfold RegPost
  generalize runV true mayV l l.length = s at *
  go_enter Try.func35, Try.ntmps35
  go_wp2_with fail
  refine hbr.out.mono ?_
  rintro e w1 ⟨v, ve, rfl, hrow, t1⟩
  clear hbr
  have HROW : Hid _ := hrow
  have HT : Hid _ := t1
  clear hrow t1
  go_wp2
  refine bodyPost_ret (v := .tuple #[v, .int .i64 (ansK s), .int .i64 (ansE s)]) (by simp [results, Try.results35, go_sem]) rfl ?_
  exact ⟨v, rfl, HROW.out, HT.out⟩

theorem top_ge (op : List Nat) : (topV op ≥ 0) ↔ topV op ≠ -1 := by
  cases op with
  | nil => simp [topV]
  | cons t r => simp [topV]
theorem ins_ge {l : List InsD} {N k : Nat} {y : Int} (h : (insV l N)[k]? = some y) : decide (0 ≤ y) = (y != -1) := by
  unfold insV at h
  rw [List.getElem?_map, Option.map_eq_some_iff] at h
  obtain ⟨j, _, rfl⟩ := h
  have := top_ge (runV true mayV l j).op
  rw [Bool.eq_iff_iff]
  simpa using this

end Go.Proofs.Ytlndbligbpfdpaa

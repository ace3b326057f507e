/-
  FlowsMean: Block of the document AT THE FOUR PROGRAMS.
-/
import Derived.Test.YtkpgfchglaemgaaDoorFmBase
namespace Go.Proofs.YtkpgfchglaemgaaDoor
set_option linter.unusedVariables false
set_option linter.unusedSimpArgs false
open Go.RowKit
attribute [local go_sem] Oper.semAt_some

set_option maxRecDepth 100000 in
theorem fm_arms : ∀ (j : Fin 4) (n : Fin 4) (v : Fin 5), ∀ i ∈ foneL (j.val : Nat) ((n.val + 1 : Nat) : Int) (numV (v.val : Nat)), i.op ≠ 23 ∧ i.op ≠ 24 ∧ i.op ≠ 25 := by decide +kernel
set_option maxRecDepth 100000 in
theorem fm_here : ∀ (j : Fin 4) (n : Fin 4) (v : Fin 5), ((hereP (foneL (j.val : Nat) ((n.val + 1 : Nat) : Int) (numV (v.val : Nat))) 0).map (·.op)) = some 21 := by decide +kernel
set_option maxRecDepth 100000 in
theorem fm_len : ∀ (j : Fin 4) (n : Fin 4) (v : Fin 5), (foneL (j.val : Nat) ((n.val + 1 : Nat) : Int) (numV (v.val : Nat))).length ≤ 24 := by decide +kernel
set_option maxRecDepth 100000 in
theorem fmQ_wf : ∀ (n : Fin 4) (c : Fin 5) (f : Fin 4), ∀ x ∈ fmQ (n.val + 1) c.val f.val, 0 ≤ x ∧ x < 18446744073709551616 := by decide +kernel
set_option maxRecDepth 100000 in
theorem fmB_wf : ∀ (n : Fin 4) (a : Fin 9), ∀ x ∈ fmB (n.val + 1) a.val, 0 ≤ x ∧ x < 18446744073709551616 := by decide +kernel
theorem fmQ_len (n c f : Nat) : (fmQ n c f).length = n + 2 := by unfold fmQ; simp
theorem fmB_len (n a : Nat) : (fmB n a).length = n + 2 := by unfold fmB; simp
theorem fm_blk (j : Int) (N V M : Nat) (j0 : 0 ≤ j) (j4 : j < 4) (N1 : 1 ≤ N) (N4 : N ≤ 4) (V4 : V ≤ 4) (h : List Int) (hlen : h.length = M) (hM : M ≤ 6) (hwf : ∀ x ∈ h, 0 ≤ x ∧ x < 18446744073709551616) (hok : (fmR j N (numV V) h).1 = 0 ∨ (fmR j N (numV V) h).1 = -1) :
    ∀ (W : World) (ap : Option Addr) (cp : Nat) (ah : Option Addr) (ch : Nat), InsIn W ap (foneL j N (numV V)).length cp (foneL j N (numV V)) → VRow W (.slice ah M ch) h → HidC Tryd.prog 10 #[.slice ap (foneL j N (numV V)).length cp, .agg #[.int .i64 0, .slice none 0 0, .int .u64 0, .int .u64 0, .int .u64 (numV V), .int .u64 0, .slice none 0 0], .slice ah M ch, .int .i64 60] W (BlkG W (fmR j N (numV V) h) ⟨0, [], 0, 0, numV V, 0, [], 0⟩ h) := fun W ap cp ah ch hin hv => by
  obtain ⟨j, rfl⟩ : ∃ j' : Nat, j = j' := ⟨j.toNat, by omega⟩
  have j4 : j < 4 := by omega
  have eN : ((N - 1 + 1 : Nat) : Int) = N := by omega
  have ha := fm_arms ⟨j, j4⟩ ⟨N - 1, by omega⟩ ⟨V, by omega⟩
  have hl := fm_len ⟨j, j4⟩ ⟨N - 1, by omega⟩ ⟨V, by omega⟩
  have hh := fm_here ⟨j, j4⟩ ⟨N - 1, by omega⟩ ⟨V, by omega⟩
  simp only [eN] at ha hl hh
  subst hlen
  cases hx : hereP (foneL j N (numV V)) 0 with
  | none => rw [hx] at hh; simp at hh
  | some i0 =>
    rw [hx] at hh
    simp only [Option.map_some, Option.some.injEq] at hh
    have hn : VRow W (.slice none 0 0) [] := ⟨none, 0, rfl, fun h => absurd rfl h⟩
    have w0 : Wf64 0 := ⟨by decide, by decide⟩
    have wn : Wf64 (numV V) := numV_wf' V (by omega) (by omega)
    exact ⟨rblock_ok (D := ⟨0, [], 0, 0, numV V, 0, [], 0⟩) (h := h) (f := 60) hn hn hv hin.row (by omega) hin.wf ha ⟨Nat.zero_le _, Nat.zero_le _, by omega, by simp, fun x hx => hwf x hx, w0, w0, wn, w0⟩ hx hh hok⟩

theorem fm_okE (N V c f : Nat) (N1 : 1 ≤ N) (N4 : N ≤ 4) (V4 : V ≤ 4) (cN : c ≤ N) (fN : f < N) : fmOkE N V c f = true := by
  have := fmOkE_fin ⟨N - 1, by omega⟩ ⟨V, by omega⟩ ⟨c, by omega⟩ ⟨f, by omega⟩ (by show c ≤ N - 1 + 1; omega) (by show f < N - 1 + 1; omega)
  simpa only [show N - 1 + 1 = N by omega] using this
theorem fm_okT (N V c f : Nat) (N1 : 1 ≤ N) (N4 : N ≤ 4) (V4 : V ≤ 4) (cN : c ≤ N) (fN : f < N) : fmOkT N V c f = true := by
  have := fmOkT_fin ⟨N - 1, by omega⟩ ⟨V, by omega⟩ ⟨c, by omega⟩ ⟨f, by omega⟩ (by show c ≤ N - 1 + 1; omega) (by show f < N - 1 + 1; omega)
  simpa only [show N - 1 + 1 = N by omega] using this
theorem fm_okA (N V a : Nat) (N1 : 1 ≤ N) (N4 : N ≤ 4) (V4 : V ≤ 4) (a8 : a ≤ 8) : fmOkA N V a = true := by
  have := fmOkA_fin ⟨N - 1, by omega⟩ ⟨V, by omega⟩ ⟨a, by omega⟩
  simpa only [show N - 1 + 1 = N by omega] using this
theorem fm_okL (N V a : Nat) (N1 : 1 ≤ N) (N4 : N ≤ 4) (V4 : V ≤ 4) (a8 : a ≤ 8) : fmOkL N V a = true := by
  have := fmOkL_fin ⟨N - 1, by omega⟩ ⟨V, by omega⟩ ⟨a, by omega⟩
  simpa only [show N - 1 + 1 = N by omega] using this
theorem fm_fill (N c f : Nat) (N1 : 1 ≤ N) (N4 : N ≤ 4) (cN : c ≤ N) (fN : f < N) : fmFill N c f c = fmQ N c f := by
  have := fmFill_fin ⟨N - 1, by omega⟩ ⟨c, by omega⟩ ⟨f, by omega⟩ (by show c ≤ N - 1 + 1; omega) (by show f < N - 1 + 1; omega)
  simpa only [show N - 1 + 1 = N by omega] using this
theorem fm_wfQ (N c f : Nat) (N1 : 1 ≤ N) (N4 : N ≤ 4) (cN : c ≤ N) (fN : f < N) : ∀ x ∈ fmQ N c f, 0 ≤ x ∧ x < 18446744073709551616 := by
  have := fmQ_wf ⟨N - 1, by omega⟩ ⟨c, by omega⟩ ⟨f, by omega⟩
  simpa only [show N - 1 + 1 = N by omega] using this
theorem fm_wfB (N a : Nat) (N1 : 1 ≤ N) (N4 : N ≤ 4) (a8 : a ≤ 8) : ∀ x ∈ fmB N a, 0 ≤ x ∧ x < 18446744073709551616 := by
  have := fmB_wf ⟨N - 1, by omega⟩ ⟨a, by omega⟩
  simpa only [show N - 1 + 1 = N by omega] using this

end Go.Proofs.YtkpgfchglaemgaaDoor

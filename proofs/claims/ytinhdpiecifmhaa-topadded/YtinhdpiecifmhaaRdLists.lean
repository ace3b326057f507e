/-
  package reads: List BY ITS CONTRACT (no document's set beside it).
-/
import Derived.Test.YtinhdpiecifmhaaReadsOps
import Derived.Test.YtinhdpiecifmhaaAppendSrc
import Derived.Lib.SliceRun
namespace Go.Proofs.Ytinhdpiecifmhaa.Rd
set_option linter.unusedVariables false
set_option linter.unusedSimpArgs false
open Go.RowKit Go.Maps

/-- A list of its own. -/
def ListPost (w : World) (L : List EntD) (x : Ending) (w' : World) : Prop :=
  ∃ v, x = .returned v ∧ w'.ownsRow w.heap.size 142 3 v L.length (L.flatMap EntD.cells) ∧ Touch w w' []

theorem eqNilEnt (w : World) (a : Option Addr) (n c : Nat) : (binOp .eql 109 (.slice a n c) (.slice none 0 0)).run Try.prog w = .ok (.bool a.isNone) w := Lib.run_eql_slice_nil w _ _ a n c 0 0 Try.underlying109

theorem clone_nil (w : World) : Calls Try.prog 92 #[.slice none 0 0] w (ListPost w []) := by
  have hq := eqNilEnt
  go_enter Try.func92, Try.ntmps92
  go_wp2
  go_ret
  exact ⟨_, rfl, World.ownsRow_nil _ _ _ _, Touch.refl _ _⟩

set_option maxRecDepth 100000 in
theorem clone_some {B : Nat} {w : World} {g cap : Nat} {L : List EntD} (hown : w.ownsRow B 142 3 (.slice (some ⟨g, 0, none⟩) L.length cap) L.length (L.flatMap EntD.cells)) (hn : L.length ≤ 8) :
    Calls Try.prog 92 #[.slice (some ⟨g, 0, none⟩) L.length cap] w (ListPost w L) := by
  unfold ListPost
  have hq := eqNilEnt
  obtain ⟨i0, hi0, hz0, hz1, hz2⟩ := info_parts Try.info_ent
  have h1 : Hid (∀ u ∈ L.flatMap EntD.cells, u.oneCell' = true) := ent_one
  have e1 := empty_row w 142 3
  have hl1 : 0 + L.length ≤ maxLen := by unfold maxLen; omega
  have hl2 : (0 + L.length) * 24 ≤ 140737488355328 := by omega
  generalize L.flatMap EntD.cells = xs at *
  generalize L.length = n at *
  go_enter Try.func92, Try.ntmps92
  go_wp2_with (at_builtin; refine wpList_append_src rfl _ _ 109 rfl w.heap.size 142 i0 _ 3 24 Try.underlying109 hi0 hz0 hz1 hz2 rfl (by omega) w.heap.size 0 0 [] rfl e1 (.slice (some ⟨g, 0, none⟩) n cap) B n xs rfl (hown.alloc _) h1.out hl1 hl2 (by simp) ?_)
  intro g' cap' w1 hown1 hgrow1 hat1 hlt1
  try simp only [Nat.zero_add, List.nil_append] at hown1
  have t1 : Touch w w1 [] := ((Touch.refl w []).alloc _).grown hgrow1 (fun q hq => .inr (by simp at hq; omega))
  have HO : Hid (w1.ownsRow w.heap.size 142 3 _ n xs) := hown1
  clear e1 hgrow1 hown1
  go_wp2
  go_ret
  exact ⟨_, rfl, by simpa using HO.out, t1⟩

set_option maxRecDepth 100000 in
theorem list_any {B : Nat} {w : World} {b m : Nat} {vl : Value} {L : List EntD} (h : RdSet B w b m vl L) : Calls Try.prog 82 #[.pointer (some ⟨b, 0, none⟩)] w (ListPost w L) := by
  have hc : Calls Try.prog 92 #[vl] w (ListPost w L) := by
    rcases h.own.2 with ⟨e, h0⟩ | ⟨g, cap, cur, e, _⟩
    · have hL : L = [] := List.eq_nil_of_length_eq_zero h0
      rw [hL, e]; exact clone_nil w
    · have ho := h.own
      rw [e] at ho ⊢
      exact clone_some ho h.sl.len
  obtain ⟨al, cl, rfl⟩ := RdSet.owns_form h.own
  obtain ⟨c0, c1, f0, f1⟩ := h.cells
  clear h
  go_enter Try.func82, Try.ntmps82
  go_wp2_with fail
  refine hc.mono ?_
  rintro x w1 ⟨v, rfl, ho, t⟩
  clear hc
  go_wp2
  go_ret
  exact ⟨v, rfl, ho, t⟩

end Go.Proofs.Ytinhdpiecifmhaa.Rd

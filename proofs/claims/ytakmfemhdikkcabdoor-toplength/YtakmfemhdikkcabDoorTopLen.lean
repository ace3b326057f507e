/-
  TopLength, WALKED (what code.words tells at its last place is handed in).
-/
import Derived.Test.YtakmfemhdikkcabDoorCdDec
namespace Go.Proofs.YtakmfemhdikkcabDoor
set_option linter.unusedVariables false
set_option linter.unusedSimpArgs false
open Go.RowKit
attribute [local go_sem] Oper.semAt_some

/-- code.words lies where it is laid: its last word. -/
structure Wd (w : World) : Prop where
  lt : 0 < w.heap.size
  c28 : w.cell? ⟨0, 28, none⟩ = some (.string ⟨#[104, 97, 108, 116]⟩)
theorem Wd.touch {w w' : World} (h : Wd w) (t : Touch w w' []) : Wd w' := ⟨Nat.lt_of_lt_of_le h.lt t.size, (t.cell (p := ⟨0, 28, none⟩) h.lt (by simp)).trans h.c28⟩
theorem word_halt {w : World} (h : Wd w) : Calls Tryd.prog 8 #[.int .u8 28] w fun e w' => e = .returned (.string ⟨#[104, 97, 108, 116]⟩) ∧ w = w' := by
  have hc := h.c28
  clear h
  go_enter Tryd.func8, Tryd.ntmps8
  go_wp2
  go_ret
  exact ⟨rfl, rfl⟩

theorem encL_wid (l : List InsD) : ((encL l).length : Int) = (l.map (fun i => (widthP i.op : Int))).sum := by
  unfold encL
  induction l with
  | nil => rfl
  | cons x l ih => rw [List.flatMap_cons, List.length_append, List.map_cons, List.sum_cons, encI_width, ← ih]; omega
theorem encL_filter_snoc {l : List InsD} {k : Nat} (hk : k < l.length) : (l.take (k + 1)).filter rightI = if rightI l[k] then (l.take k).filter rightI ++ [l[k]] else (l.take k).filter rightI := by
  rw [List.take_succ_eq_append_getElem hk, List.filter_append]
  cases h : rightI l[k] <;> simp [h]
theorem insrow_take {w : World} {ao : Option Addr} {cap : Nat} {l : List InsD} (h : InsRow w (.slice ao l.length cap) l) (n c : Nat) (hn : n ≤ l.length) : InsRow w (.slice ao n c) (l.take n) := by
  have hln : (l.take n).length = n := by rw [List.length_take]; omega
  refine ⟨ao, c, by rw [hln], fun hne => ?_⟩
  have hpos : 0 < n := by
    rcases Nat.eq_zero_or_pos n with h0 | h0
    · subst h0; simp at hne
    · exact h0
  obtain ⟨g, off, e, hg, _⟩ := h.at 0 (by omega)
  refine ⟨g, off, e, hg, fun k hk j hj => ?_⟩
  obtain ⟨g', off', e', _, hc⟩ := h.at k (by omega)
  rw [e] at e'
  simp only [Option.some.injEq, Addr.mk.injEq] at e'
  obtain ⟨rfl, rfl, _⟩ := e'
  rw [List.getElem_take]
  exact hc j hj

end Go.Proofs.YtakmfemhdikkcabDoor

/-
  PLAIN FACTS ON OPS PLAYED ONE BEHIND THE OTHER, AND ON LOGS: no Go in sight.
-/
import Derived.Test.YtdaahghlaingaacCellsCopy
namespace Go.Proofs.Ytdaahghlaingaac
set_option linter.unusedVariables false
set_option linter.unusedSimpArgs false
open Go.RowKit

def DoneD.same (x y : DoneD) : Bool := x.op.kind == y.op.kind && (x.op.cell == y.op.cell && (x.op.a == y.op.a && (x.op.b == y.op.b && (x.word == y.word && x.ok == y.ok))))
theorem DoneD.same_iff (x y : DoneD) : x.same y = true ↔ x = y := by
  obtain ⟨⟨a, b, c, d⟩, e, f⟩ := x
  obtain ⟨⟨a', b', c', d'⟩, e', f'⟩ := y
  simp [DoneD.same]
  constructor
  · rintro ⟨h1, h2, h3, h4, h5, h6⟩; exact ⟨⟨h1, h2, h3, h4⟩, h5, h6⟩
  · rintro ⟨⟨h1, h2, h3, h4⟩, h5, h6⟩; exact ⟨h1, h2, h3, h4, h5, h6⟩

/-- Ops, one behind the other. -/
def runOps : List Int → List DoneD → List OpD → List Int × List DoneD
  | ws, lg, [] => (ws, lg)
  | ws, lg, o :: l => runOps (doStep ws lg o).2.2.1 (doStep ws lg o).2.2.2 l

/-- A log, played again: none where an entry can't have been. -/
def playLog : List Int → List DoneD → List DoneD → Option (List Int × List DoneD)
  | ws, lg, [] => some (ws, lg)
  | ws, lg, d :: l => if (doStep ws lg d.op).2.1 == 0 && (doStep ws lg d.op).1.same d then playLog (doStep ws lg d.op).2.2.1 (doStep ws lg d.op).2.2.2 l else none

theorem runOps_snoc (ws : List Int) (lg : List DoneD) (l : List OpD) (o : OpD) : runOps ws lg (l ++ [o]) = ((doStep (runOps ws lg l).1 (runOps ws lg l).2 o).2.2.1, (doStep (runOps ws lg l).1 (runOps ws lg l).2 o).2.2.2) := by
  induction l generalizing ws lg with
  | nil => rfl
  | cons a l ih => simp only [List.cons_append, runOps, ih]

theorem playLog_snoc (ws : List Int) (lg : List DoneD) (l : List DoneD) (d : DoneD) : playLog ws lg (l ++ [d]) = (playLog ws lg l).bind fun r => playLog r.1 r.2 [d] := by
  induction l generalizing ws lg with
  | nil => simp [playLog]
  | cons a l ih =>
    simp only [List.cons_append, playLog]
    split
    · rw [ih]; simp only [playLog]
    · rfl

theorem playLog_none (ws : List Int) (lg : List DoneD) (l m : List DoneD) (h : playLog ws lg l = none) : playLog ws lg (l ++ m) = none := by
  induction l generalizing ws lg with
  | nil => simp [playLog] at h
  | cons a l ih =>
    simp only [List.cons_append, playLog] at h ⊢
    split
    · rename_i hc; rw [if_pos hc] at h; exact ih _ _ h
    · rfl

theorem doStep_length (ws : List Int) (lg : List DoneD) (o : OpD) : (doStep ws lg o).2.2.1.length = ws.length := by
  unfold doStep; split
  · dsimp only; split <;> simp
  · rfl

theorem doStep_log_length (ws : List Int) (lg : List DoneD) (o : OpD) : (doStep ws lg o).2.2.2.length ≤ lg.length + 1 := by
  unfold doStep; split
  · dsimp only; split <;> simp
  · simp

theorem doStep_log_wf (ws : List Int) (lg : List DoneD) (o : OpD) (h : ∀ d ∈ lg, d.op.Wf) (ho : o.Wf) : ∀ d ∈ (doStep ws lg o).2.2.2, d.op.Wf := by
  unfold doStep
  split
  · dsimp only
    split
    · intro d hd
      simp only [List.mem_append, List.mem_singleton] at hd
      rcases hd with hd | rfl
      · exact h d hd
      · exact ho
    · exact h
  · exact h

/-- What a log tells of what was done. -/
def Told (n : Nat) (ws : List Int) (lg : List DoneD) : Prop := playLog (List.replicate n 0) [] lg = some (ws, lg)

theorem Told.start (n : Nat) : Told n (List.replicate n 0) [] := rfl

theorem Told.step {n : Nat} {ws : List Int} {lg : List DoneD} (h : Told n ws lg) (o : OpD) : Told n (doStep ws lg o).2.2.1 (doStep ws lg o).2.2.2 := by
  by_cases hi : 0 ≤ o.cell ∧ o.cell < ws.length
  · by_cases he : (outc o (ws.getD o.cell.toNat 0)).2.2 = 0
    · have e : doStep ws lg o = (⟨o, ws.getD o.cell.toNat 0, (outc o (ws.getD o.cell.toNat 0)).2.1⟩, 0, ws.set o.cell.toNat (outc o (ws.getD o.cell.toNat 0)).1, lg ++ [⟨o, ws.getD o.cell.toNat 0, (outc o (ws.getD o.cell.toNat 0)).2.1⟩]) := by
        unfold doStep; rw [if_pos hi]; simp only [he, if_true]
      have hs : ∀ d : DoneD, d.same d = true := fun d => (DoneD.same_iff d d).2 rfl
      rw [e]
      unfold Told
      rw [playLog_snoc, h]
      simp only [Option.bind_some, playLog, e, hs]
      simp
    · have e : doStep ws lg o = (DoneD.zero, (outc o (ws.getD o.cell.toNat 0)).2.2, ws, lg) := by
        unfold doStep; rw [if_pos hi]; simp only [he, if_false]
      rw [e]; exact h
  · have e : doStep ws lg o = (DoneD.zero, 2, ws, lg) := by unfold doStep; rw [if_neg hi]
    rw [e]; exact h

/-- A slice of what was done, that can be read. -/
def DoneRow (w : World) (v : Value) (l : List DoneD) : Prop :=
  ∃ ao cap, v = .slice ao l.length cap ∧ (l ≠ [] → ∃ g off, ao = some ⟨g, off, none⟩ ∧ g < w.heap.size ∧ ∀ j u, (l.flatMap DoneD.cells)[j]? = some u → w.cell? ⟨g, off + j, none⟩ = some u)

theorem DoneRow.of_owns {w : World} {B : Nat} {v : Value} {l : List DoneD} (h : w.ownsRow B 35 6 v l.length (l.flatMap DoneD.cells)) : DoneRow w v l := by
  rcases h.2 with ⟨rfl, h0⟩ | ⟨g, cap, cur, rfl, hb, hg, _⟩
  · exact ⟨none, 0, by rw [h0], fun hn => absurd (List.eq_nil_of_length_eq_zero h0) hn⟩
  · refine ⟨_, cap, rfl, fun _ => ⟨g, 0, rfl, lt_of_heap hg, fun j u hu => ?_⟩⟩
    have := h.cells (g := g) rfl j u hu
    rw [Addr.add_lit] at this
    simpa using this

theorem flatMap_get (l : List DoneD) (k : Nat) (hk : k < l.length) (j : Nat) (hj : j < 6) : (l.flatMap DoneD.cells)[k * 6 + j]? = (l[k]).cells[j]? := by
  induction l generalizing k with
  | nil => simp at hk
  | cons d l ih =>
    have hd : d.cells.length = 6 := rfl
    cases k with
    | zero => simp only [List.flatMap_cons, List.getElem_cons_zero]; rw [List.getElem?_append_left (by omega)]; simp
    | succ k =>
      simp only [List.flatMap_cons, List.getElem_cons_succ]
      rw [List.getElem?_append_right (by omega), hd, show (k + 1) * 6 + j - 6 = k * 6 + j by omega]
      exact ih k (by simpa using hk)

/-- The cells of the k-th. -/
theorem DoneRow.at {w : World} {ao : Option Addr} {cap : Nat} {l : List DoneD} (h : DoneRow w (.slice ao l.length cap) l) (k : Nat) (hk : k < l.length) :
    ∃ g off, ao = some ⟨g, off, none⟩ ∧ g < w.heap.size ∧ ∀ j u, (l[k]).cells[j]? = some u → w.cell? ⟨g, off + (k * 6 + j), none⟩ = some u := by
  obtain ⟨ao', cap', e, h1⟩ := h
  simp only [Value.slice.injEq, true_and] at e
  obtain ⟨rfl, rfl⟩ := e
  obtain ⟨g, off, rfl, hlt, hc⟩ := h1 (by intro e; rw [e] at hk; simp at hk)
  refine ⟨g, off, rfl, hlt, fun j u hu => hc _ _ ?_⟩
  have hj : j < 6 := by
    have := (List.getElem?_eq_some_iff.1 hu).1
    simpa [DoneD.cells] using this
  rw [flatMap_get l k hk j hj]
  exact hu

theorem DoneRow.keep {w w' : World} {v : Value} {l : List DoneD} {S : List Nat} (h : DoneRow w v l) (t : Touch w w' S) (hS : ∀ k ∈ S, w.heap.size ≤ k) : DoneRow w' v l := by
  obtain ⟨ao, cap, e, h1⟩ := h
  refine ⟨ao, cap, e, fun hn => ?_⟩
  obtain ⟨g, off, rfl, hlt, hc⟩ := h1 hn
  exact ⟨g, off, rfl, Nat.lt_of_lt_of_le hlt t.size, fun j u hu => (t.cell (p := ⟨g, off + j, none⟩) hlt (fun hs => by have := hS _ hs; simp at this; omega)).trans (hc j u hu)⟩

/-- The six cells of the k-th, as the walk spells them, in a world in which old blocks are as they were. -/
theorem DoneRow.six {w : World} {ao : Option Addr} {cap : Nat} {l : List DoneD} (h : DoneRow w (.slice ao l.length cap) l) (k : Nat) (hk : k < l.length) :
    ∃ g off, ao = some ⟨g, off, none⟩ ∧ g < w.heap.size ∧ w.cell? ⟨g, off + k * 6, none⟩ = some (.int .u8 l[k].op.kind) ∧ w.cell? ⟨g, off + k * 6 + 1, none⟩ = some (.int .i64 l[k].op.cell) ∧ w.cell? ⟨g, off + k * 6 + 2, none⟩ = some (.int .u64 l[k].op.a) ∧
      w.cell? ⟨g, off + k * 6 + 3, none⟩ = some (.int .u64 l[k].op.b) ∧ w.cell? ⟨g, off + k * 6 + 4, none⟩ = some (.int .u64 l[k].word) ∧ w.cell? ⟨g, off + k * 6 + 5, none⟩ = some (.bool l[k].ok) := by
  obtain ⟨g, off, e, hg, hc⟩ := h.at k hk
  exact ⟨g, off, e, hg, hc 0 _ rfl, hc 1 _ rfl, hc 2 _ rfl, hc 3 _ rfl, hc 4 _ rfl, hc 5 _ rfl⟩

theorem ownsRow_base {w : World} {B B' : Nat} {e : TypeId} {size : Nat} {v : Value} {n : Nat} {xs : List Value} (h : w.ownsRow B e size v n xs) (hB : B' ≤ B) : w.ownsRow B' e size v n xs := by
  refine ⟨h.1, ?_⟩
  rcases h.2 with hn | ⟨g, cap, cur, rfl, hb, rest⟩
  · exact .inl hn
  · exact .inr ⟨g, cap, cur, rfl, Nat.le_trans hB hb, rest⟩

theorem play_fails {m k : Nat} {l : List DoneD} (h : playLog (List.replicate m 0) [] (l.take (k + 1)) = none) : playLog (List.replicate m 0) [] l = none := by
  have := playLog_none _ _ _ (l.drop (k + 1)) h
  rwa [List.take_append_drop] at this

theorem heap_two (w : World) (o1 o2 : Obj) : ((w.alloc o1).alloc o2).heap[w.heap.size]? = some o1 ∧ ((w.alloc o1).alloc o2).heap[w.heap.size + 1]? = some o2 := by
  refine ⟨?_, ?_⟩
  · show ((w.heap.push o1).push o2)[w.heap.size]? = some o1
    simp only [Array.getElem?_push, Array.size_push]
    repeat (first | rfl | rw [if_neg (by omega)])
    try simp
  · show ((w.heap.push o1).push o2)[w.heap.size + 1]? = some o2
    simp only [Array.getElem?_push, Array.size_push]
    repeat (first | rfl | rw [if_neg (by omega)])
    try simp

end Go.Proofs.Ytdaahghlaingaac

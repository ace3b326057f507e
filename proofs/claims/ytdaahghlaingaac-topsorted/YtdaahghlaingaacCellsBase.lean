/-
  WHAT THE TWO KINDS OF CELLS ARE, IN PLAIN WORDS AND IN MEMORY: an op, what was done, one step of some words; an object in memory; a world in which other blocks are as they were. No walk.
-/
import Derived.Test.YtdaahghlaingaacRows
import Derived.WalkKit
import Derived.WalkSpells
import Derived.WalkLawsBesides
import Derived.Laws.Externs
import Derived.StillTactics
import Derived.OwnWalk
import Derived.Laws.Pointers
import Derived.Laws.CopyOwn
import Derived.Deep.RegionHeld3
import Derived.Deep.AppendLies
import Derived.Deep.QuietTactic
import Derived.BigQuiet
import Derived.Outline
namespace Go.Proofs.Ytdaahghlaingaac
set_option linter.unusedVariables false
set_option linter.unusedSimpArgs false
open Go.RowKit

/-- An op, as numbers. -/
structure OpD where
  kind : Int
  cell : Int
  a : Int
  b : Int

/-- What was done, as numbers. -/
structure DoneD where
  op : OpD
  word : Int
  ok : Bool

def OpD.cells (o : OpD) : List Value := [.int .u8 o.kind, .int .i64 o.cell, .int .u64 o.a, .int .u64 o.b]
def DoneD.cells (d : DoneD) : List Value := [.int .u8 d.op.kind, .int .i64 d.op.cell, .int .u64 d.op.a, .int .u64 d.op.b, .int .u64 d.word, .bool d.ok]
abbrev OpD.val (o : OpD) : Value := .agg #[.int .u8 o.kind, .int .i64 o.cell, .int .u64 o.a, .int .u64 o.b]
abbrev DoneD.val (d : DoneD) : Value := .agg #[.int .u8 d.op.kind, .int .i64 d.op.cell, .int .u64 d.op.a, .int .u64 d.op.b, .int .u64 d.word, .bool d.ok]
def OpD.zero : OpD := ⟨0, 0, 0, 0⟩
def DoneD.zero : DoneD := ⟨⟨0, 0, 0, 0⟩, 0, false⟩

/-- The numbers of an op are of their kinds. -/
structure OpD.Wf (o : OpD) : Prop where
  k0 : 0 ≤ o.kind
  k1 : o.kind ≤ 255
  c0 : -9223372036854775808 ≤ o.cell
  c1 : o.cell ≤ 9223372036854775807
  a0 : 0 ≤ o.a
  a1 : o.a < 18446744073709551616
  b0 : 0 ≤ o.b
  b1 : o.b < 18446744073709551616

/-- What stands behind an op where word stood, whether it is Ok, its error. -/
def outc (o : OpD) (word : Int) : Int × Bool × Int :=
  if o.kind = 1 then (word, true, 0)
  else if o.kind = 2 then (o.a, true, 0)
  else if o.kind = 3 then (if word = o.a then (o.b, true, 0) else (word, false, 0))
  else if o.kind = 4 then (if word + o.a < 18446744073709551616 then (word + o.a, true, 0) else (0, false, 4))
  else (0, false, 3)

/-- One op on some words and a log: the answer, its error, the words and the log behind it. -/
def doStep (ws : List Int) (lg : List DoneD) (o : OpD) : DoneD × Int × List Int × List DoneD :=
  if 0 ≤ o.cell ∧ o.cell < ws.length then
    let w := ws.getD o.cell.toNat 0
    if (outc o w).2.2 = 0 then (⟨o, w, (outc o w).2.1⟩, 0, ws.set o.cell.toNat (outc o w).1, lg ++ [⟨o, w, (outc o w).2.1⟩])
    else (DoneD.zero, (outc o w).2.2, ws, lg)
  else (DoneD.zero, 2, ws, lg)

/-- Words are words. -/
def Words (ws : List Int) : Prop := ∀ x ∈ ws, 0 ≤ x ∧ x < 18446744073709551616

theorem Words.getD {ws : List Int} (h : Words ws) (i : Nat) : 0 ≤ ws.getD i 0 ∧ ws.getD i 0 < 18446744073709551616 := by
  rw [List.getD_eq_getElem?_getD]
  cases e : ws[i]? with
  | none => simp
  | some x => simpa using h x (List.mem_of_getElem? e)

theorem outc_word {o : OpD} (ho : o.Wf) {w : Int} (h : 0 ≤ w ∧ w < 18446744073709551616) : 0 ≤ (outc o w).1 ∧ (outc o w).1 < 18446744073709551616 := by
  have := ho.a0; have := ho.a1; have := ho.b0; have := ho.b1
  unfold outc
  repeat' split
  all_goals (constructor <;> simp <;> omega)

theorem Words.set {ws : List Int} (h : Words ws) (i : Nat) {x : Int} (hx : 0 ≤ x ∧ x < 18446744073709551616) : Words (ws.set i x) := by
  intro y hy
  rcases List.mem_or_eq_of_mem_set hy with hy | rfl
  · exact h y hy
  · exact hx

/-! ### Memory -/
/-- w' is w but for the blocks of S, and new ones. -/
structure Touch (w w' : World) (S : List Nat) : Prop where
  os : w'.os = w.os
  tape : w'.tape = w.tape
  output : w'.output = w.output
  size : w.heap.size ≤ w'.heap.size
  block : ∀ k, k < w.heap.size → k ∉ S → w'.heap[k]? = w.heap[k]?

theorem Touch.refl (w : World) (S : List Nat) : Touch w w S := ⟨rfl, rfl, rfl, Nat.le_refl _, fun _ _ _ => rfl⟩

theorem Touch.trans {a b c : World} {S R : List Nat} (h : Touch a b S) (k : Touch b c R) (hR : ∀ x ∈ R, x ∈ S ∨ a.heap.size ≤ x) : Touch a c S :=
  ⟨k.os.trans h.os, k.tape.trans h.tape, k.output.trans h.output, Nat.le_trans h.size k.size, fun i hi hs =>
    (k.block i (Nat.lt_of_lt_of_le hi h.size) (fun hr => by rcases hR i hr with h1 | h1; exact hs h1; omega)).trans (h.block i hi hs)⟩

theorem Touch.mono {a b : World} {S R : List Nat} (h : Touch a b S) (hS : ∀ x ∈ S, x ∈ R) : Touch a b R :=
  ⟨h.os, h.tape, h.output, h.size, fun k hk hr => h.block k hk (fun hs => hr (hS k hs))⟩

theorem Touch.below {w w' : World} {S : List Nat} (h : Touch w w' S) {B : Nat} (hB : B ≤ w.heap.size) (hS : ∀ x ∈ S, B ≤ x) : Below B w w' :=
  ⟨h.os, h.tape, h.output, h.size, fun k hk => h.block k (by omega) (fun hs => by have := hS k hs; omega)⟩

theorem Touch.of_below {w w' : World} (h : Below w.heap.size w w') (S : List Nat) : Touch w w' S :=
  ⟨h.os, h.tape, h.output, h.size, fun k hk _ => h.block k hk⟩

theorem Touch.drew {a w : World} {S : List Nat} (h : Touch a w S) : Touch a w.drew S := ⟨h.os, h.tape, h.output, h.size, h.block⟩

theorem Touch.drewN {a w : World} {S : List Nat} (h : Touch a w S) (n : Nat) : Touch a (w.drewN n) S := ⟨h.os, h.tape, h.output, h.size, h.block⟩

theorem Touch.alloc {a w : World} {S : List Nat} (h : Touch a w S) (o : Obj) : Touch a (w.alloc o) S :=
  h.trans (R := []) ⟨rfl, rfl, rfl, by simp, fun k hk _ => Below.heap_alloc _ _ _ hk⟩ (by simp)

theorem Touch.setCell {a w : World} {S : List Nat} (h : Touch a w S) {p : Addr} (hp : p.block ∈ S ∨ a.heap.size ≤ p.block) (u : Value) : Touch a (w.setCell p u) S :=
  h.trans (R := [p.block]) ⟨rfl, rfl, rfl, by simp [World.setCell], fun k _ hk => Below.heap_setCell _ _ _ _ (by simpa using hk)⟩ (by simpa using hp)

theorem Touch.grown {a w w' : World} {S : List Nat} {row : Option Nat} (h : Touch a w S) (hg : w.grownBy w' row) (hr : ∀ k, row = some k → k ∈ S ∨ a.heap.size ≤ k) : Touch a w' S :=
  h.trans (R := row.toList) ⟨hg.os, hg.tape, hg.output, hg.size, fun k hk hne => hg.block k hk (fun e => hne (by simp [← e]))⟩ (by intro x hx; exact hr x (by simpa using hx))

theorem Touch.cell {w w' : World} {S : List Nat} (h : Touch w w' S) {p : Addr} (hp : p.block < w.heap.size) (hS : p.block ∉ S) : w'.cell? p = w.cell? p := World.cell?_of_block (w := w) (h.block _ hp hS)
theorem Touch.frozen {w w' : World} {S : List Nat} (h : Touch w w' S) {p : Addr} (hp : p.block < w.heap.size) (hS : p.block ∉ S) : w'.frozen? p = w.frozen? p := World.frozen?_of_block (w := w) (h.block _ hp hS)

/-- The blocks of an object. -/
def foot (b : Nat) (vw vl : Value) : List Nat := b :: (vw.ownBlock.toList ++ vl.ownBlock.toList)

theorem mem_foot {b : Nat} {vw vl : Value} {k : Nat} : k ∈ foot b vw vl ↔ k = b ∨ vw.ownBlock = some k ∨ vl.ownBlock = some k := by simp [foot]

theorem foot_grown {b gg n c S : Nat} {vw vl : Value} (hat : vl.ownBlock = some gg ∨ S ≤ gg) : ∀ m ∈ foot b vw (.slice (some ⟨gg, 0, none⟩) n c), m ∈ foot b vw vl ∨ S ≤ m := by
  intro m hm
  rw [mem_foot] at hm ⊢
  rcases hm with h | h | h
  · exact .inl (.inl h)
  · exact .inl (.inr (.inl h))
  · have e : gg = m := by simpa [Value.ownBlock] using h
    subst e
    rcases hat with h | h
    · exact .inl (.inr (.inr h))
    · exact .inr h

/-- AN OBJECT IN MEMORY: a struct of type T at block b, its words, its log, each in blocks from B on. -/
structure CObj (T B : Nat) (w : World) (b : Nat) (vw vl : Value) (ws : List Int) (lg : List DoneD) : Prop where
  hb : B ≤ b
  st : w.heap[b]? = some (.cells #[vw, vl] T (0, 0))
  own : w.ownsRow B 31 1 vw ws.length (ws.map (Value.int .u64))
  log : w.ownsRow B 35 6 vl lg.length (lg.flatMap DoneD.cells)
  pos : 0 < ws.length
  wds : Words ws
  tw : T ≠ 31
  tl : T ≠ 35

theorem lt_of_heap {w : World} {b : Nat} {o : Obj} (h : w.heap[b]? = some o) : b < w.heap.size := (Array.getElem?_eq_some_iff.1 h).1

theorem CObj.foot_lt {T B : Nat} {w : World} {b : Nat} {vw vl : Value} {ws : List Int} {lg : List DoneD} (h : CObj T B w b vw vl ws lg) : ∀ k ∈ foot b vw vl, B ≤ k ∧ k < w.heap.size := by
  intro k hk
  simp only [foot, List.mem_cons, List.mem_append, Option.mem_toList] at hk
  rcases hk with rfl | hk | hk
  · exact ⟨h.hb, lt_of_heap h.st⟩
  · exact h.own.lt k hk
  · exact h.log.lt k hk

theorem ownsRow_touch {w w' : World} {B : Nat} {e : TypeId} {size : Nat} {v : Value} {n : Nat} {xs : List Value} {S : List Nat} (h : w.ownsRow B e size v n xs) (t : Touch w w' S) (hS : ∀ k, v.ownBlock = some k → k ∉ S) : w'.ownsRow B e size v n xs := by
  refine ⟨h.1, ?_⟩
  rcases h.2 with hn | ⟨g, cap, cur, rfl, hb, hgg, rest⟩
  · exact .inl hn
  · exact .inr ⟨g, cap, cur, rfl, hb, (t.block g (lt_of_heap hgg) (hS g rfl)).trans hgg, rest⟩

/-- What is touched elsewhere leaves the object as it was. -/
theorem CObj.keep {T B : Nat} {w w' : World} {b : Nat} {vw vl : Value} {ws : List Int} {lg : List DoneD} {S : List Nat} (h : CObj T B w b vw vl ws lg) (t : Touch w w' S) (hS : ∀ k ∈ foot b vw vl, k ∉ S) : CObj T B w' b vw vl ws lg :=
  ⟨h.hb, (t.block b (lt_of_heap h.st) (hS b (by simp [foot]))).trans h.st, ownsRow_touch h.own t (fun k hk => hS k (by simp [foot, hk])), ownsRow_touch h.log t (fun k hk => hS k (by simp [foot, hk])), h.pos, h.wds, h.tw, h.tl⟩

theorem CObj.drew {T B : Nat} {w : World} {b : Nat} {vw vl : Value} {ws : List Int} {lg : List DoneD} (h : CObj T B w b vw vl ws lg) : CObj T B w.drew b vw vl ws lg := h.keep (Touch.refl w []).drew (by simp)

/-- The words of an object: never nil. -/
theorem CObj.words {T B : Nat} {w : World} {b : Nat} {vw vl : Value} {ws : List Int} {lg : List DoneD} (h : CObj T B w b vw vl ws lg) :
    ∃ g cap, vw = .slice (some ⟨g, 0, none⟩) ws.length cap ∧ (∀ j, j < ws.length → w.cell? ⟨g, j, none⟩ = some (.int .u64 (ws.getD j 0))) ∧ (∀ j, w.frozen? ⟨g, j, none⟩ = false) ∧ B ≤ g ∧ g < w.heap.size ∧ ws.length ≤ cap ∧ cap ≤ maxLen ∧ g ≠ b := by
  obtain ⟨g, cap, rfl, hg, hlt⟩ := h.own.form h.pos
  refine ⟨g, cap, rfl, fun j hj => ?_, fun j => h.own.frozenAt j, hg, hlt, ?_⟩
  · rw [h.own.cellAt j (by omega), List.getElem?_map, List.getD_eq_getElem?_getD, List.getElem?_eq_getElem hj]
    rfl
  · rcases h.own.2 with ⟨h', _⟩ | ⟨g', cap', cur, h', _, hh, h1, h2, _, _⟩
    · simp at h'
    · simp only [Value.slice.injEq, Option.some.injEq, Addr.mk.injEq, and_true, true_and] at h'
      obtain ⟨rfl, rfl⟩ := h'
      refine ⟨h1, h2, ?_⟩
      rintro rfl
      have := h.st
      rw [hh] at this
      simp only [Option.some.injEq, Obj.cells.injEq] at this
      exact h.tw this.2.1.symm

/-- The log's block is none of the others. -/
theorem CObj.apart {T B : Nat} {w : World} {b : Nat} {vw vl : Value} {ws : List Int} {lg : List DoneD} (h : CObj T B w b vw vl ws lg) :
    vl.ownBlock ≠ some b ∧ ∀ k, vw.ownBlock = some k → vl.ownBlock ≠ some k := by
  rcases h.log.2 with ⟨rfl, _⟩ | ⟨g, cap, cur, rfl, _, hg, _⟩
  · simp [Value.ownBlock]
  · refine ⟨?_, fun k hk => ?_⟩
    · simp only [Value.ownBlock, ne_eq, Option.some.injEq]
      rintro rfl
      have := h.st
      rw [hg] at this
      simp only [Option.some.injEq, Obj.cells.injEq] at this
      exact h.tl this.2.1.symm
    · simp only [Value.ownBlock, ne_eq, Option.some.injEq]
      rintro rfl
      rcases h.own.2 with ⟨rfl, _⟩ | ⟨g', cap', cur', rfl, _, hg', _⟩
      · simp [Value.ownBlock] at hk
      · simp only [Value.ownBlock, Option.some.injEq] at hk
        subst hk
        rw [hg] at hg'
        simp at hg'

theorem heap_four (w : World) (o1 o2 o3 o4 : Obj) : ((((w.alloc o1).alloc o2).alloc o3).alloc o4).heap[w.heap.size]? = some o1 ∧ ((((w.alloc o1).alloc o2).alloc o3).alloc o4).heap[w.heap.size + 1]? = some o2 ∧
    ((((w.alloc o1).alloc o2).alloc o3).alloc o4).heap[w.heap.size + 2]? = some o3 ∧ ((((w.alloc o1).alloc o2).alloc o3).alloc o4).heap[w.heap.size + 3]? = some o4 ∧ ((((w.alloc o1).alloc o2).alloc o3).alloc o4).heap.size = w.heap.size + 4 := by
  refine ⟨?_, ?_, ?_, ?_, ?_⟩
  · show ((((w.heap.push o1).push o2).push o3).push o4)[w.heap.size]? = some o1
    simp only [Array.getElem?_push, Array.size_push]
    repeat (first | rfl | rw [if_neg (by omega)])
    try simp
  · show ((((w.heap.push o1).push o2).push o3).push o4)[w.heap.size + 1]? = some o2
    simp only [Array.getElem?_push, Array.size_push]
    repeat (first | rfl | rw [if_neg (by omega)])
    try simp
  · show ((((w.heap.push o1).push o2).push o3).push o4)[w.heap.size + 2]? = some o3
    simp only [Array.getElem?_push, Array.size_push]
    repeat (first | rfl | rw [if_neg (by omega)])
    try simp
  · show ((((w.heap.push o1).push o2).push o3).push o4)[w.heap.size + 3]? = some o4
    simp only [Array.getElem?_push, Array.size_push]
    repeat (first | rfl | rw [if_neg (by omega)])
    try simp
  · simp

theorem cells_done {w : World} {b : Nat} {x0 x1 x2 x3 x4 x5 : Value} {t : TypeId} (h : w.heap[b]? = some (.cells #[x0, x1, x2, x3, x4, x5] t (0, 0))) :
    (w.cell? ⟨b, 0, none⟩ = some x0 ∧ w.cell? ⟨b, 1, none⟩ = some x1 ∧ w.cell? ⟨b, 2, none⟩ = some x2 ∧ w.cell? ⟨b, 3, none⟩ = some x3 ∧ w.cell? ⟨b, 4, none⟩ = some x4 ∧ w.cell? ⟨b, 5, none⟩ = some x5) ∧
    (w.frozen? ⟨b, 0, none⟩ = false ∧ w.frozen? ⟨b, 1, none⟩ = false ∧ w.frozen? ⟨b, 2, none⟩ = false ∧ w.frozen? ⟨b, 3, none⟩ = false ∧ w.frozen? ⟨b, 4, none⟩ = false ∧ w.frozen? ⟨b, 5, none⟩ = false) := by
  simp [World.cell?, World.frozen?, h]

/-- Three new blocks, draws between. -/
theorem heap_three (w : World) (o1 o2 o3 : Obj) (n : Nat) : ((((w.alloc o1).alloc o2).drewN n).alloc o3).heap[w.heap.size]? = some o1 ∧ ((((w.alloc o1).alloc o2).drewN n).alloc o3).heap[w.heap.size + 1]? = some o2 ∧
    ((((w.alloc o1).alloc o2).drewN n).alloc o3).heap[w.heap.size + 2]? = some o3 ∧ ((((w.alloc o1).alloc o2).drewN n).alloc o3).heap.size = w.heap.size + 3 := by
  refine ⟨?_, ?_, ?_, ?_⟩
  · show (((w.heap.push o1).push o2).push o3)[w.heap.size]? = some o1
    simp only [Array.getElem?_push, Array.size_push]
    repeat (first | rfl | rw [if_neg (by omega)])
    try simp
  · show (((w.heap.push o1).push o2).push o3)[w.heap.size + 1]? = some o2
    simp only [Array.getElem?_push, Array.size_push]
    repeat (first | rfl | rw [if_neg (by omega)])
    try simp
  · show (((w.heap.push o1).push o2).push o3)[w.heap.size + 2]? = some o3
    simp only [Array.getElem?_push, Array.size_push]
    repeat (first | rfl | rw [if_neg (by omega)])
    try simp
  · show (((w.heap.push o1).push o2).push o3).size = w.heap.size + 3
    simp

theorem heap_three' {w W : World} {o1 o2 o3 : Obj} {n : Nat} (hW : W = (((w.alloc o1).alloc o2).drewN n).alloc o3) : W.heap[w.heap.size]? = some o1 ∧ W.heap[w.heap.size + 1]? = some o2 ∧ W.heap[w.heap.size + 2]? = some o3 ∧ W.heap.size = w.heap.size + 3 ∧ Touch w W [] := by
  subst hW
  obtain ⟨h1, h2, h3, h4⟩ := heap_three w o1 o2 o3 n
  exact ⟨h1, h2, h3, h4, ((((Touch.refl _ _).alloc _).alloc _).drewN _).alloc _⟩

theorem cells_op {w : World} {b : Nat} {x0 x1 x2 x3 : Value} {t : TypeId} (h : w.heap[b]? = some (.cells #[x0, x1, x2, x3] t (0, 0))) :
    w.cell? ⟨b, 0, none⟩ = some x0 ∧ w.cell? ⟨b, 1, none⟩ = some x1 ∧ w.cell? ⟨b, 2, none⟩ = some x2 ∧ w.cell? ⟨b, 3, none⟩ = some x3 := by
  simp [World.cell?, h]

theorem cell_alloc {w : World} {b i : Nat} {v : Value} (h : w.cell? ⟨b, i, none⟩ = some v) (o : Obj) : (w.alloc o).cell? ⟨b, i, none⟩ = some v :=
  (((Touch.refl w []).alloc o).cell (p := ⟨b, i, none⟩) (World.block_lt_of_cell? w _ h) (by simp)).trans h

/-- The world under a name. -/
theorem wp_name {P : Program} {c : Code} {Q : Exit → Act → World → Prop} {a : Act} {w : World} (h : ∀ W, W = w → c.wp P Q a W) : c.wp P Q a w := h w rfl

theorem cells_two {w : World} {b : Nat} {x y : Value} {t : TypeId} (h : w.heap[b]? = some (.cells #[x, y] t (0, 0))) : w.cell? ⟨b, 0, none⟩ = some x ∧ w.cell? ⟨b, 1, none⟩ = some y ∧ w.frozen? ⟨b, 0, none⟩ = false ∧ w.frozen? ⟨b, 1, none⟩ = false := by
  simp [World.cell?, World.frozen?, h]

end Go.Proofs.Ytdaahghlaingaac

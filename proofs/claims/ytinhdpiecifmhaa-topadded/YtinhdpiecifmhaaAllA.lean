/-
  A WORLD IN WHICH OTHER BLOCKS ARE AS THEY WERE. No walk.
-/
import Derived.Test.YtinhdpiecifmhaaRows
import Derived.WalkKit
import Derived.WalkSpells
import Derived.WalkLawsBesides
import Derived.Laws.Externs
import Derived.StillTactics
import Derived.OwnWalk
import Derived.Laws.Pointers
import Derived.Deep.QuietTactic
import Derived.Deep.RegionHeld3
import Derived.BigQuiet
import Derived.Outline
import Derived.ProofKit
import Derived.Lib.SmallJoins
import Derived.Deep.Slices
import Derived.ChangeOld
import Derived.OpenShut
import Derived.Defers
import Derived.Recover
import Derived.Laws.Bits64
import Derived.Laws.FloatArith
namespace Go.Proofs.Ytinhdpiecifmhaa
set_option linter.unusedVariables false
set_option linter.unusedSimpArgs false
open Go.RowKit

/-! ### Memory -/
/-- w' is w but for the blocks of S, and new ones. -/
structure Touch (w w' : World) (S : List Nat) : Prop where
  os : w'.os = w.os
  tape : w'.tape = w.tape
  output : w'.output = w.output
  size : w.heap.size ≤ w'.heap.size
  block : ∀ k, k < w.heap.size → k ∉ S → w'.heap[k]? = w.heap[k]?

theorem Touch.refl (w : World) (S : List Nat) : Touch w w S := ⟨rfl, rfl, rfl, Nat.le_refl _, fun _ _ _ => rfl⟩

theorem Touch.trans {a b c : World} {S R : List Nat} (h : Touch a b S) (k : Touch b c R) (hR : ∀ x ∈ R, x ∈ S ∨ a.heap.size ≤ x) : Touch a c S :=
  ⟨k.os.trans h.os, k.tape.trans h.tape, k.output.trans h.output, Nat.le_trans h.size k.size, fun i hi hs =>
    (k.block i (Nat.lt_of_lt_of_le hi h.size) (fun hr => by rcases hR i hr with h1 | h1; exact hs h1; omega)).trans (h.block i hi hs)⟩

theorem Touch.mono {a b : World} {S R : List Nat} (h : Touch a b S) (hS : ∀ x ∈ S, x ∈ R) : Touch a b R :=
  ⟨h.os, h.tape, h.output, h.size, fun k hk hr => h.block k hk (fun hs => hr (hS k hs))⟩

theorem Touch.below {w w' : World} {S : List Nat} (h : Touch w w' S) {B : Nat} (hB : B ≤ w.heap.size) (hS : ∀ x ∈ S, B ≤ x) : Below B w w' :=
  ⟨h.os, h.tape, h.output, h.size, fun k hk => h.block k (by omega) (fun hs => by have := hS k hs; omega)⟩

theorem Touch.of_below {w w' : World} (h : Below w.heap.size w w') (S : List Nat) : Touch w w' S :=
  ⟨h.os, h.tape, h.output, h.size, fun k hk _ => h.block k hk⟩

theorem Touch.drew {a w : World} {S : List Nat} (h : Touch a w S) : Touch a w.drew S := ⟨h.os, h.tape, h.output, h.size, h.block⟩

theorem Touch.drewN {a w : World} {S : List Nat} (h : Touch a w S) (n : Nat) : Touch a (w.drewN n) S := ⟨h.os, h.tape, h.output, h.size, h.block⟩

theorem Touch.alloc {a w : World} {S : List Nat} (h : Touch a w S) (o : Obj) : Touch a (w.alloc o) S :=
  h.trans (R := []) ⟨rfl, rfl, rfl, by simp, fun k hk _ => Below.heap_alloc _ _ _ hk⟩ (by simp)

theorem Touch.setCell {a w : World} {S : List Nat} (h : Touch a w S) {p : Addr} (hp : p.block ∈ S ∨ a.heap.size ≤ p.block) (u : Value) : Touch a (w.setCell p u) S :=
  h.trans (R := [p.block]) ⟨rfl, rfl, rfl, by simp [World.setCell], fun k _ hk => Below.heap_setCell _ _ _ _ (by simpa using hk)⟩ (by simpa using hp)

theorem Touch.grown {a w w' : World} {S : List Nat} {row : Option Nat} (h : Touch a w S) (hg : w.grownBy w' row) (hr : ∀ k, row = some k → k ∈ S ∨ a.heap.size ≤ k) : Touch a w' S :=
  h.trans (R := row.toList) ⟨hg.os, hg.tape, hg.output, hg.size, fun k hk hne => hg.block k hk (fun e => hne (by simp [← e]))⟩ (by intro x hx; exact hr x (by simpa using hx))

theorem Touch.cell {w w' : World} {S : List Nat} (h : Touch w w' S) {p : Addr} (hp : p.block < w.heap.size) (hS : p.block ∉ S) : w'.cell? p = w.cell? p := World.cell?_of_block (w := w) (h.block _ hp hS)
theorem Touch.frozen {w w' : World} {S : List Nat} (h : Touch w w' S) {p : Addr} (hp : p.block < w.heap.size) (hS : p.block ∉ S) : w'.frozen? p = w.frozen? p := World.frozen?_of_block (w := w) (h.block _ hp hS)

theorem lt_of_heap {w : World} {b : Nat} {o : Obj} (h : w.heap[b]? = some o) : b < w.heap.size := (Array.getElem?_eq_some_iff.1 h).1

theorem ownsRow_touch {w w' : World} {B : Nat} {e : TypeId} {size : Nat} {v : Value} {n : Nat} {xs : List Value} {S : List Nat} (h : w.ownsRow B e size v n xs) (t : Touch w w' S) (hS : ∀ k, v.ownBlock = some k → k ∉ S) : w'.ownsRow B e size v n xs := by
  refine ⟨h.1, ?_⟩
  rcases h.2 with hn | ⟨g, cap, cur, rfl, hb, hgg, rest⟩
  · exact .inl hn
  · exact .inr ⟨g, cap, cur, rfl, hb, (t.block g (lt_of_heap hgg) (hS g rfl)).trans hgg, rest⟩

/-- The world under a name. -/
theorem wp_name {P : Program} {c : Code} {Q : Exit → Act → World → Prop} {a : Act} {w : World} (h : ∀ W, W = w → c.wp P Q a W) : c.wp P Q a w := h w rfl

end Go.Proofs.Ytinhdpiecifmhaa
/-
  SLICES OF STRUCTS THAT CAN BE READ, and an untied proof's facts on the program.
-/
namespace Go.Proofs.Ytinhdpiecifmhaa
set_option linter.unusedVariables false
set_option linter.unusedSimpArgs false
open Go.ChangeShapes Go.WideShapes Go.ChangeAt Go.RowKit Go.Joins Go.Deep

/-- A slice of structs of n cells each, that can be read. -/
def SRow {α : Type} (n : Nat) (cells : α → List Value) (w : World) (v : Value) (l : List α) : Prop :=
  ∃ ao cap, v = .slice ao l.length cap ∧ (l ≠ [] → ∃ g off, ao = some ⟨g, off, none⟩ ∧ g < w.heap.size ∧ ∀ k (hk : k < l.length), ∀ j, j < n → w.cell? ⟨g, off + k * n + j, none⟩ = (cells l[k])[j]?)

theorem SRow.at {α : Type} {n : Nat} {cells : α → List Value} {w : World} {ao : Option Addr} {cap : Nat} {l : List α} (h : SRow n cells w (.slice ao l.length cap) l) (k : Nat) (hk : k < l.length) :
    ∃ g off, ao = some ⟨g, off, none⟩ ∧ g < w.heap.size ∧ ∀ j, j < n → w.cell? ⟨g, off + k * n + j, none⟩ = (cells l[k])[j]? := by
  obtain ⟨ao', cap', e, h1⟩ := h
  simp only [Value.slice.injEq, true_and] at e
  obtain ⟨rfl, rfl⟩ := e
  obtain ⟨g, off, rfl, hlt, hc⟩ := h1 (by intro e; rw [e] at hk; simp at hk)
  exact ⟨g, off, rfl, hlt, hc k hk⟩

theorem SRow.keep {α : Type} {n : Nat} {cells : α → List Value} {w w' : World} {v : Value} {l : List α} {S : List Nat} (h : SRow n cells w v l) (t : Touch w w' S) (hS : ∀ k ∈ S, w.heap.size ≤ k) : SRow n cells w' v l := by
  obtain ⟨ao, cap, e, h1⟩ := h
  refine ⟨ao, cap, e, fun hn => ?_⟩
  obtain ⟨g, off, rfl, hlt, hc⟩ := h1 hn
  have hne : g ∉ S := fun hs => by have := hS _ hs; omega
  exact ⟨g, off, rfl, Nat.lt_of_lt_of_le hlt t.size, fun k hk j hj => (t.cell (p := ⟨g, _, none⟩) hlt hne).trans (hc k hk j hj)⟩

/-- A slice of structs that came in. -/
theorem rows_of_trod {α : Type} {H : Type} {enc : TypeId × Value → H} {W : World} {n : Nat} {cells : α → List Value} {Wf : α → Prop} {T E : TypeId} (zero : α) (hn : 0 < n) (hlen : ∀ o, (cells o).length = n)
    (hu : Try.prog.underlying T = some (.slice E)) (hE : Try.prog.cellsOf E = n)
    (el : ∀ {w : World} {base : Nat} {spare : Nat → Bool} {held : Bool} {fuel : Nat} {cs : List Value} {x : DataW H × List MemPlace}, DataW.trod enc Try.prog w base spare held fuel E cs = some x → ∃ o, Wf o ∧ cs = cells o)
    {ao : Option Addr} {len cap : Nat} {d : DataW H} {p : List MemPlace} (h : DataW.Trod enc Try.prog W 0 (fun _ => true) true T (.slice ao len cap) d p) :
    ∃ l : List α, SRow n cells W (.slice ao len cap) l ∧ (∀ o ∈ l, Wf o) ∧ l.length ≤ maxLen := by
  obtain ⟨fuel, hf⟩ := h
  rcases open_slice hu hf with ⟨hcs, _⟩ | ⟨a, len', cap', m, n', D, Pl, hcs, _, hl, hm, hmm, _, hx⟩
  · simp [Value.cells] at hcs
    obtain ⟨rfl, rfl, rfl⟩ := hcs
    exact ⟨[], ⟨none, 0, rfl, fun hn => absurd rfl hn⟩, by simp, by simp⟩
  · simp [Value.cells] at hcs
    obtain ⟨rfl, rfl, rfl⟩ := hcs
    simp only [if_true] at hmm
    have hel : ∀ i, i < len → ∃ o : α, Wf o ∧ ∀ j, j < n → W.cell? (a.add (i * n + j)) = (cells o)[j]? := fun i hi => by
      obtain ⟨cs', h1, h2⟩ := hx i (by omega)
      obtain ⟨o, ho, rfl⟩ := el h2
      rw [hE] at h1
      obtain ⟨_, _, h3⟩ := World.cells?_some h1
      exact ⟨o, ho, fun j hj => by rw [← add_add]; exact h3 j hj⟩
    obtain ⟨f, hf⟩ : ∃ f : Nat → α, ∀ i, i < len → Wf (f i) ∧ ∀ j, j < n → W.cell? (a.add (i * n + j)) = (cells (f i))[j]? := by
      classical
      refine ⟨fun i => if hi : i < len then Classical.choose (hel i hi) else zero, fun i hi => ?_⟩
      simp only [dif_pos hi]
      exact Classical.choose_spec (hel i hi)
    refine ⟨(List.range len).map f, ⟨some a, cap, by simp, fun hnn => ?_⟩, ?_, by simp; omega⟩
    · have hpos : 0 < len := by
        rcases Nat.eq_zero_or_pos len with h0 | h0
        · subst h0; simp at hnn
        · exact h0
      have hc0 := (hf 0 hpos).2 0 hn
      have hl0 : 0 < (cells (f 0)).length := by rw [hlen]; exact hn
      have hc0' : W.cell? (a.add 0) = some (cells (f 0))[0] := by
        rw [show 0 * n + 0 = 0 by omega] at hc0
        rw [hc0]
        exact List.getElem?_eq_getElem hl0
      have hsp := World.cell?_spot hc0'
      obtain ⟨g, off, spot⟩ := a
      have : spot = none := by simpa [Addr.add] using hsp
      subst this
      have hlt := World.block_lt_of_cell? W _ hc0'
      refine ⟨g, off, rfl, by simpa [Addr.add] using hlt, fun k hk j hj => ?_⟩
      simp only [List.length_map, List.length_range] at hk
      simp only [List.getElem_map, List.getElem_range]
      have q := (hf k hk).2 j hj
      rw [Addr.add_lit] at q
      simp only [← Nat.add_assoc] at q
      exact q
    · intro o ho
      simp only [List.mem_map, List.mem_range] at ho
      obtain ⟨i, hi, rfl⟩ := ho
      exact (hf i hi).1

theorem wf_u8 {x : Int} (h : (Lit.int .u8 x).wf = true) : 0 ≤ x ∧ x ≤ 255 := by
  simp [Lit.wf, IntKind.min, IntKind.max, IntKind.signed, IntKind.bits] at h; omega
theorem wf_u64 {x : Int} (h : (Lit.int .u64 x).wf = true) : 0 ≤ x ∧ x < 18446744073709551616 := by
  simp [Lit.wf, IntKind.min, IntKind.max, IntKind.signed, IntKind.bits] at h; omega
theorem wf_i64 {x : Int} (h : (Lit.int .i64 x).wf = true) : -9223372036854775808 ≤ x ∧ x ≤ 9223372036854775807 := by
  simp [Lit.wf, IntKind.min, IntKind.max, IntKind.signed, IntKind.bits] at h; omega

theorem Try.cells_int : Try.prog.cellsOf 3 = 1 := by kernel_rfl
theorem Try.cells_u64 : Try.prog.cellsOf 25 = 1 := by kernel_rfl

end Go.Proofs.Ytinhdpiecifmhaa
/-
  FROM TopAdded's ARGUMENT's READING TO NUMBERS.
-/
namespace Go.Proofs.Ytinhdpiecifmhaa
set_option linter.unusedVariables false
set_option linter.unusedSimpArgs false
open Go.ChangeShapes Go.WideShapes Go.ChangeAt Go.RowKit Go.Joins Go.Deep

theorem Try.own : ownKnob Try.prog.godebug = none := by kernel_rfl
theorem Try.laidOut : laidOutB Try.prog = true := by kernel_rfl
theorem Try.cells_u8 : Try.prog.cellsOf 5 = 1 := by kernel_rfl

theorem byte_of_trod {H : Type} {enc : TypeId × Value → H} {w : World} {base : Nat} {spare : Nat → Bool} {held : Bool} {fuel : Nat} {cs : List Value} {x : DataW H × List MemPlace} (h : DataW.trod enc Try.prog w base spare held fuel 5 cs = some x) :
    ∃ o : Int, (0 ≤ o ∧ o ≤ 255) ∧ cs = [Value.int .u8 o] := by
  obtain ⟨k, e0, _, wk⟩ := DataW.trod_int Try.underlying5 h
  exact ⟨k, wf_u8 wk, e0⟩

/-- A slice of bytes that came in. -/
theorem bytes_of_trod {H : Type} {enc : TypeId × Value → H} {W : World} {ao : Option Addr} {len cap : Nat} {d : DataW H} {p : List MemPlace} (h : DataW.Trod enc Try.prog W 0 (fun _ => true) true 22 (.slice ao len cap) d p) :
    ∃ l : List Int, SRow 1 (fun x : Int => [Value.int .u8 x]) W (.slice ao len cap) l ∧ (∀ o ∈ l, 0 ≤ o ∧ o ≤ 255) ∧ l.length ≤ maxLen :=
  rows_of_trod (α := Int) (n := 1) (cells := fun x : Int => [Value.int .u8 x]) (Wf := fun o => 0 ≤ o ∧ o ≤ 255) 0 (by decide) (fun _ => rfl) Try.underlying22 Try.cells_u8 (fun h => byte_of_trod h) h

end Go.Proofs.Ytinhdpiecifmhaa
/-
  package seqlock's small calls BY THEIR CONTRACTS: need, held, become.
-/
namespace Go.Proofs.Ytinhdpiecifmhaa.Sq
set_option linter.unusedVariables false
set_option linter.unusedSimpArgs false
open Go.RowKit

/-- It gives up by e. -/
def Refuses (e : Int) (w : World) (x : Ending) (w' : World) : Prop := x = .panicked [{ v := .iface 134 (.int .i64 e), recovered := false }] ∧ Touch w w' []

theorem sneed_yes (e : Int) (w : World) : Calls Try.prog 44 #[.bool true, .int .i64 e] w fun x w' => x = .returned (.tuple #[]) ∧ w = w' := by
  go_enter Try.func44, Try.ntmps44
  go_wp2
  go_end0
  exact ⟨rfl, rfl⟩

theorem sneed_no (e : Int) (w : World) : Calls Try.prog 44 #[.bool false, .int .i64 e] w (Refuses e w) := by
  go_enter Try.func44, Try.ntmps44
  go_wp2
  exact ⟨rfl, rfl, Touch.refl _ _⟩

theorem sheld_any (c o : Int) (hc : 0 ≤ c) (w : World) : Calls Try.prog 45 #[.agg #[.int .u64 c, .int .i64 o]] w fun x w' => x = .returned (.bool (decide (c % 2 = 1))) ∧ Touch w w' [] := by
  go_enter Try.func45, Try.ntmps45
  go_wp2
  go_ret
  exact ⟨rfl, (Touch.refl _ _).alloc _⟩

/-- A lock that counts c; o has it. -/
structure LObj (w : World) (b : Nat) (c o : Int) : Prop where
  st : w.heap[b]? = some (.cells #[.int .u64 c, .int .i64 o] 92 (0, 0))

theorem LObj.touch {w w' : World} {b : Nat} {c o : Int} {S : List Nat} (h : LObj w b c o) (t : Touch w w' S) (hS : b ∉ S) : LObj w' b c o := ⟨(t.block b (lt_of_heap h.st) hS).trans h.st⟩
theorem LObj.cells {w : World} {b : Nat} {c o : Int} (h : LObj w b c o) : w.cell? ⟨b, 0, none⟩ = some (.int .u64 c) ∧ w.cell? ⟨b, 1, none⟩ = some (.int .i64 o) ∧ w.frozen? ⟨b, 0, none⟩ = false ∧ w.frozen? ⟨b, 1, none⟩ = false := by
  simp [World.cell?, World.frozen?, h.st]
theorem LObj.set {w : World} {b : Nat} {c o : Int} (h : LObj w b c o) (c' o' : Int) : LObj ((w.setCell ⟨b, 0, none⟩ (.int .u64 c')).setCell ⟨b, 1, none⟩ (.int .i64 o')) b c' o' := by
  refine ⟨?_⟩
  simp [World.setCell, Array.getElem?_modify, h.st]

theorem ta_hit (v : Value) (w : World) : (Instr.typeAssert (.iface 134 v) 20 134 true).run Try.prog w = .ok (.tuple #[v, .bool true]) w := by
  simp only [Instr.typeAssert, Sem.run_bind, run_underlying Try.underlying134, Result.andThen_ok]
  go_simp

theorem ta_nil (w : World) : (Instr.typeAssert .nilIface 20 134 true).run Try.prog w = .ok (.tuple #[.int .i64 0, .bool false]) w := by
  simp only [Instr.typeAssert, Sem.run_bind, run_underlying Try.underlying134, Result.andThen_ok]
  go_simp

theorem scatch_idle (p : Addr) (w : World) :
    CallsD Try.prog 68 #[.pointer (some p)] .returning w fun e u' w' => e = .returned (.tuple #[]) ∧ u' = .returning ∧ w' = w := by
  have hta := ta_nil
  refine callsD_of_wpS Try.func68 rfl fun c₀ cs hu => ?_
  apply wpS_seq
  apply wpS_region
  simp [wpOpsS, go_sem, recoverD, hu, Try.ntmps68, Exit.thenS]
  apply wpS_of_wp
  go_wp2
  simp [bodyPostS, results, Try.results68]
  cases c₀
  simp_all

theorem scatch_no (p : Addr) (w : World) (n e : Int) (hc : w.cell? p = some (.int .i64 n)) (hz : w.frozen? p = false) :
    CallsD Try.prog 68 #[.pointer (some p)] (.panicking [{ v := .iface 134 (.int .i64 e), recovered := false }]) w fun x u' w' => x = .returned (.tuple #[]) ∧ u' = .panicking [{ v := .iface 134 (.int .i64 e), recovered := true }] ∧ w' = w.setCell p (.int .i64 e) := by
  have hta := ta_hit
  refine callsD_of_wpS Try.func68 rfl fun c₀ cs hu => ?_
  apply wpS_seq
  apply wpS_region
  simp [wpOpsS, go_sem, recoverD, hu, Try.ntmps68, Exit.thenS]
  apply wpS_of_wp
  go_wp2
  simp [bodyPostS, results, Try.results68]

set_option maxRecDepth 100000 in
theorem become_ok (b k : Nat) (c o c' o' : Int) (cap : Array Value) (w : World) (h : LObj w b c o) (hen : ∀ w1 a, (callFunc k a).run Try.prog w1 = .ok (.enter k a) w1) (Q : World → Prop)
    (F : List Nat) (hF : b ∉ F) (hFl : w.heap.size ∉ F) (hQ : ∀ S w1 w2, (∀ x ∈ S, x = b ∨ w.heap.size ≤ x) → Touch w1 w2 S → Q w1 → Q w2)
    (hw : ∀ w1, Touch w w1 [] → Calls Try.prog k (#[.agg #[.int .u64 c, .int .i64 o]] ++ cap) w1 fun e w' => e = .returned (.agg #[.int .u64 c', .int .i64 o']) ∧ Touch w1 w' F ∧ Q w') :
    Calls Try.prog 42 #[.pointer (some ⟨b, 0, none⟩), .func (.func k) #[] cap] w fun e w' => e = .returned (.int .i64 0) ∧ LObj w' b c' o' ∧ Touch w w' (b :: F) ∧ Q w' := by
  have hmf : ∀ (fn : Fn) (first cap : Array Value) (w : World), (Instr.makeFunc fn first cap).run Try.prog w = .ok (.func fn first cap) w := fun _ _ _ _ => rfl
  have h1 := h.touch ((Touch.refl w []).alloc (.cells #[.int .i64 0] 36)) (by simp)
  obtain ⟨c0, c1, f0, f1⟩ := h1.cells
  go_enter_defers Try.func42, Try.ntmps42
  go_wp2_with fail
  refine (sneed_yes _ _).mono ?_
  rintro e w1 ⟨rfl, rfl⟩
  go_wp2_with fail
  have hT0 : Touch w (w.alloc (.cells #[.int .i64 0] 36)) [] := (Touch.refl w []).alloc _
  refine (hw _ hT0).mono ?_
  rintro e w1 ⟨rfl, t1, q1⟩
  have hbl := lt_of_heap h.st
  have h2 := h1.touch t1 hF
  obtain ⟨d0, d1, g0, g1⟩ := h2.cells
  have d1' : (w1.setCell ⟨b, 0, none⟩ (.int .u64 c')).cell? ⟨b, 1, none⟩ = some (.int .i64 o) := by simp [World.cell?, World.setCell, Array.getElem?_modify, h2.st]
  have g1' : (w1.setCell ⟨b, 0, none⟩ (.int .u64 c')).frozen? ⟨b, 1, none⟩ = false := by simp [g1]
  have h3 := h2.set c' o'
  have t3 : Touch w ((w1.setCell ⟨b, 0, none⟩ (.int .u64 c')).setCell ⟨b, 1, none⟩ (.int .i64 o')) (b :: F) :=
    (((hT0.mono (R := b :: F) (by simp)).trans t1 (by intro x hx; exact .inl (List.mem_cons_of_mem _ hx))).setCell (.inl (by simp)) _).setCell (.inl (by simp)) _
  have hs1 := t1.size
  have hFw : w.heap.size ∉ F := hFl
  simp only [World.size_alloc] at hs1
  have cE := ((t1.cell (p := ⟨w.heap.size, 0, none⟩) (by simp) hFw).trans (by simp [go_sem] : _ = some (.int .i64 0)))
  have fE := ((t1.frozen (p := ⟨w.heap.size, 0, none⟩) (by simp) hFw).trans (by simp [go_sem] : _ = false))
  have hne : b ≠ w.heap.size := by omega
  have cE' : ((w1.setCell ⟨b, 0, none⟩ (.int .u64 c')).setCell ⟨b, 1, none⟩ (.int .i64 o')).cell? ⟨w.heap.size, 0, none⟩ = some (.int .i64 0) := by
    rw [World.cell?_setCell_other _ _ _ _ (by simp <;> omega), World.cell?_setCell_other _ _ _ _ (by simp <;> omega)]; exact cE
  have fE' : ((w1.setCell ⟨b, 0, none⟩ (.int .u64 c')).setCell ⟨b, 1, none⟩ (.int .i64 o')).frozen? ⟨w.heap.size, 0, none⟩ = false := by simp [fE]
  have q3 : Q ((w1.setCell ⟨b, 0, none⟩ (.int .u64 c')).setCell ⟨b, 1, none⟩ (.int .i64 o')) := hQ [b] w1 _ (by simp) (((Touch.refl w1 [b]).setCell (.inl (by simp)) _).setCell (.inl (by simp)) _) q1
  have H3 : Hid _ := h3
  have T3 : Hid _ := t3
  have Q3 : Hid _ := q3
  clear hw c0 c1 f0 f1 h1 h2 h3 t3 q3 q1 t1 cE fE
  go_wp2
  have c4 := World.cell?_setCell_same _ _ (.int .i64 0) cE'
  have h4 := H3.out.touch (((Touch.refl _ [w.heap.size]).setCell (p := ⟨w.heap.size, 0, none⟩) (.inl (by simp)) (.int .i64 0))) (by simp; omega)
  have t4 := T3.out.setCell (p := ⟨w.heap.size, 0, none⟩) (.inr (Nat.le_refl _)) (.int .i64 0)
  have q4 := hQ [w.heap.size] _ _ (by simp) ((Touch.refl _ [w.heap.size]).setCell (p := ⟨w.heap.size, 0, none⟩) (.inl (by simp)) (.int .i64 0)) Q3.out
  generalize ((w1.setCell ⟨b, 0, none⟩ (.int .u64 c')).setCell ⟨b, 1, none⟩ (.int .i64 o')).setCell ⟨w.heap.size, 0, none⟩ (.int .i64 0) = w4 at *
  refine leaves_cons (f := 68) (args := #[.pointer (some ⟨w.heap.size, 0, none⟩)]) (by simp) (by simp [go_sem]) ?_
  refine (scatch_idle ⟨w.heap.size, 0, none⟩ w4).mono ?_
  rintro e u' w'' ⟨rfl, rfl, rfl⟩
  simp [Leaves, settle, results, Try.results42, go_sem, c4]
  exact ⟨h4, t4, q4⟩

set_option maxRecDepth 100000 in
theorem become_no (b k : Nat) (c o e : Int) (cap : Array Value) (w : World) (h : LObj w b c o) (hen : ∀ w1 a, (callFunc k a).run Try.prog w1 = .ok (.enter k a) w1)
    (hw : ∀ w1, Touch w w1 [] → Calls Try.prog k (#[.agg #[.int .u64 c, .int .i64 o]] ++ cap) w1 (Refuses e w1)) :
    Calls Try.prog 42 #[.pointer (some ⟨b, 0, none⟩), .func (.func k) #[] cap] w fun x w' => x = .returned (.int .i64 e) ∧ Touch w w' [] := by
  have hmf : ∀ (fn : Fn) (first cap : Array Value) (w : World), (Instr.makeFunc fn first cap).run Try.prog w = .ok (.func fn first cap) w := fun _ _ _ _ => rfl
  have h1 := h.touch ((Touch.refl w []).alloc (.cells #[.int .i64 0] 36)) (by simp)
  obtain ⟨c0, c1, f0, f1⟩ := h1.cells
  go_enter_defers Try.func42, Try.ntmps42
  go_wp2_with fail
  refine (sneed_yes _ _).mono ?_
  rintro e w1 ⟨rfl, rfl⟩
  go_wp2_with fail
  have hT0 : Touch w (w.alloc (.cells #[.int .i64 0] 36)) [] := (Touch.refl w []).alloc _
  refine (hw _ hT0).mono ?_
  rintro x w1 ⟨rfl, t1⟩
  have cE := ((t1.cell (p := ⟨w.heap.size, 0, none⟩) (by simp) (by simp)).trans (by simp [go_sem] : _ = some (.int .i64 0)))
  have fE := ((t1.frozen (p := ⟨w.heap.size, 0, none⟩) (by simp) (by simp)).trans (by simp [go_sem] : _ = false))
  have t2 := (hT0.trans t1 (by simp)).setCell (p := ⟨w.heap.size, 0, none⟩) (.inr (Nat.le_refl _)) (.int .i64 e)
  have T2 : Hid _ := t2
  clear hw c0 c1 f0 f1 h1 t1 t2
  refine leaves_cons (f := 68) (args := #[.pointer (some ⟨w.heap.size, 0, none⟩)]) (by simp) (by simp [go_sem]) ?_
  refine (scatch_no ⟨w.heap.size, 0, none⟩ w1 0 e cE fE).mono ?_
  rintro x u' w'' ⟨rfl, rfl, rfl⟩
  have c2 := World.cell?_setCell_same _ _ (.int .i64 e) cE
  generalize w1.setCell ⟨w.heap.size, 0, none⟩ (.int .i64 e) = w3 at *
  simp [Leaves, settle, results, Try.results42, go_sem, c2]
  exact T2.out

theorem become_nil (k : Nat) (cap : Array Value) (w : World) :
    Calls Try.prog 42 #[.pointer none, .func (.func k) #[] cap] w fun x w' => x = .returned (.int .i64 1) ∧ Touch w w' [] := by
  have hmf : ∀ (fn : Fn) (first cap : Array Value) (w : World), (Instr.makeFunc fn first cap).run Try.prog w = .ok (.func fn first cap) w := fun _ _ _ _ => rfl
  go_enter_defers Try.func42, Try.ntmps42
  go_wp2_with fail
  refine (sneed_no _ _).mono ?_
  rintro x w1 ⟨rfl, t1⟩
  have hT0 : Touch w (w.alloc (.cells #[.int .i64 0] 36)) [] := (Touch.refl w []).alloc _
  have cE := ((t1.cell (p := ⟨w.heap.size, 0, none⟩) (by simp) (by simp)).trans (by simp [go_sem] : _ = some (.int .i64 0)))
  have fE := ((t1.frozen (p := ⟨w.heap.size, 0, none⟩) (by simp) (by simp)).trans (by simp [go_sem] : _ = false))
  have t2 := (hT0.trans t1 (by simp)).setCell (p := ⟨w.heap.size, 0, none⟩) (.inr (Nat.le_refl _)) (.int .i64 1)
  have T2 : Hid _ := t2
  clear t1 t2
  refine leaves_cons (f := 68) (args := #[.pointer (some ⟨w.heap.size, 0, none⟩)]) (by simp) (by simp [go_sem]) ?_
  refine (scatch_no ⟨w.heap.size, 0, none⟩ w1 0 1 cE fE).mono ?_
  rintro x u' w'' ⟨rfl, rfl, rfl⟩
  have c2 := World.cell?_setCell_same _ _ (.int .i64 1) cE
  generalize w1.setCell ⟨w.heap.size, 0, none⟩ (.int .i64 1) = w3 at *
  simp [Leaves, settle, results, Try.results42, go_sem, c2]
  exact T2.out

end Go.Proofs.Ytinhdpiecifmhaa.Sq
/-
  package seqlock's calls BY THEIR CONTRACTS: New, Snapshot, Try, Unlock, Break, Count, Owner, Since, Fork.
-/
namespace Go.Proofs.Ytinhdpiecifmhaa.Sq
set_option linter.unusedVariables false
set_option linter.unusedSimpArgs false
open Go.RowKit

theorem results_cell {fn : Func} {p : Tmp} {ty : TypeId} (h : fn.results = #[.cell p ty]) (tmps : Array Value) (P : Program) (w : World) :
    (results fn tmps).run P w = ((asAddr (tmps.getD p undef)).run P w).andThen fun a w₁ => (loadVar ty a).run P w₁ := by
  simp only [results, h]
  simp [Sem.run_bind, Result.andThen]

theorem LObj.new (w : World) (c o : Int) : LObj (w.alloc (.cells #[.int .u64 c, .int .i64 o] 92)) w.heap.size c o := ⟨heap_alloc_new w _⟩

/-- What made has ahead of a call of its own, and behind it. -/
theorem made_frame {w w2 : World} {c o : Int} (t : Touch ((w.alloc (.cells #[.int .u64 c, .int .i64 o] 92)).alloc (.cells #[.int .u64 0, .int .i64 0] 92)) w2 []) :
    LObj w2 w.heap.size c o ∧ LObj w2 (w.heap.size + 1) 0 0 ∧ Touch w w2 [] := by
  refine ⟨((LObj.new w c o).touch ((Touch.refl _ []).alloc _) (by simp)).touch t (by simp), ?_, (((Touch.refl w []).alloc _).alloc _).trans t (by simp)⟩
  have := (LObj.new (w.alloc (.cells #[.int .u64 c, .int .i64 o] 92)) 0 0).touch t (by simp)
  simpa using this

set_option maxRecDepth 100000 in
theorem try1_ok (p q : Nat) (c o owner : Int) (hc : 0 ≤ c) (h0 : 0 ≤ owner) (h1 : owner < 4) (h2 : ¬ c % 2 = 1) (h4 : c < 1099511627775) (w : World) (hp : p < w.heap.size) (hq : q < w.heap.size)
    (cp : w.cell? ⟨p, 0, none⟩ = some (.int .i64 owner)) (cq : w.cell? ⟨q, 0, none⟩ = some (.int .u64 c)) :
    Calls Try.prog 87 #[.agg #[.int .u64 c, .int .i64 o], .pointer (some ⟨p, 0, none⟩), .pointer (some ⟨q, 0, none⟩)] w fun e w' => e = .returned (.agg #[.int .u64 (c + 1), .int .i64 owner]) ∧ Touch w w' [] := by
  go_enter Try.func87, Try.ntmps87
  go_wp2_with fail
  refine (sneed_yes _ _).mono ?_
  rintro e w1 ⟨rfl, rfl⟩
  go_wp2_with fail
  refine (sheld_any c o hc _).mono ?_
  rintro e w1 ⟨rfl, t1⟩
  obtain ⟨L1, L2, T⟩ := made_frame t1
  obtain ⟨a0, a1, _, _⟩ := L1.cells
  obtain ⟨b0, b1, f0, f1⟩ := L2.cells
  have cp1 := (T.cell (p := ⟨p, 0, none⟩) hp (by simp)).trans cp
  have cq1 := (T.cell (p := ⟨q, 0, none⟩) hq (by simp)).trans cq
  have L3 : Hid _ := L2.set (c + 1) owner
  have HT : Hid _ := (T.setCell (p := ⟨w.heap.size + 1, 0, none⟩) (.inr (by simp)) (.int .u64 (c + 1))).setCell (p := ⟨w.heap.size + 1, 1, none⟩) (.inr (by simp)) (.int .i64 owner)
  clear t1 L1 L2 T cp cq
  go_wp2_with fail
  refine (sneed_yes _ _).mono ?_
  rintro e w2 ⟨rfl, rfl⟩
  go_wp2_with fail
  refine (sneed_yes _ _).mono ?_
  rintro e w2 ⟨rfl, rfl⟩
  go_wp2_with fail
  refine (sneed_yes _ _).mono ?_
  rintro e w2 ⟨rfl, rfl⟩
  go_wp2
  obtain ⟨z0, z1, _, _⟩ := L3.out.cells
  refine bodyPost_ret (v := .agg #[.int .u64 (c + 1), .int .i64 owner]) ?_ rfl ⟨rfl, HT.out⟩
  rw [results_cell rfl]
  go_simp

set_option maxRecDepth 100000 in
theorem try1_r1 (p q : Nat) (c o owner at' : Int) (hc : 0 ≤ c) (h0 : ¬ 0 ≤ owner) (w : World) (hp : p < w.heap.size) (hq : q < w.heap.size)
    (cp : w.cell? ⟨p, 0, none⟩ = some (.int .i64 owner)) (cq : w.cell? ⟨q, 0, none⟩ = some (.int .u64 at')) :
    Calls Try.prog 87 #[.agg #[.int .u64 c, .int .i64 o], .pointer (some ⟨p, 0, none⟩), .pointer (some ⟨q, 0, none⟩)] w (Refuses 2 w) := by
  have h0' : decide (0 ≤ owner) = false := decide_eq_false h0
  go_enter Try.func87, Try.ntmps87
  go_wp2_with fail
  refine (sneed_no _ _).mono ?_
  rintro e w2 ⟨rfl, t2⟩
  exact ⟨rfl, rfl, ((((Touch.refl w []).alloc _).alloc _).trans t2 (by simp))⟩

set_option maxRecDepth 100000 in
theorem try1_r2 (p q : Nat) (c o owner at' : Int) (hc : 0 ≤ c) (h0 : 0 ≤ owner) (h1 : ¬ owner < 4) (w : World) (hp : p < w.heap.size) (hq : q < w.heap.size)
    (cp : w.cell? ⟨p, 0, none⟩ = some (.int .i64 owner)) (cq : w.cell? ⟨q, 0, none⟩ = some (.int .u64 at')) :
    Calls Try.prog 87 #[.agg #[.int .u64 c, .int .i64 o], .pointer (some ⟨p, 0, none⟩), .pointer (some ⟨q, 0, none⟩)] w (Refuses 2 w) := by
  have h1' : decide (owner < 4) = false := decide_eq_false h1
  go_enter Try.func87, Try.ntmps87
  go_wp2_with fail
  refine (sneed_no _ _).mono ?_
  rintro e w2 ⟨rfl, t2⟩
  exact ⟨rfl, rfl, ((((Touch.refl w []).alloc _).alloc _).trans t2 (by simp))⟩

set_option maxRecDepth 100000 in
theorem try1_busy (p q : Nat) (c o owner at' : Int) (hc : 0 ≤ c) (h0 : 0 ≤ owner) (h1 : owner < 4) (h2 : c % 2 = 1) (w : World) (hp : p < w.heap.size) (hq : q < w.heap.size)
    (cp : w.cell? ⟨p, 0, none⟩ = some (.int .i64 owner)) (cq : w.cell? ⟨q, 0, none⟩ = some (.int .u64 at')) :
    Calls Try.prog 87 #[.agg #[.int .u64 c, .int .i64 o], .pointer (some ⟨p, 0, none⟩), .pointer (some ⟨q, 0, none⟩)] w (Refuses 7 w) := by
  go_enter Try.func87, Try.ntmps87
  go_wp2_with fail
  refine (sneed_yes _ _).mono ?_
  rintro e w1 ⟨rfl, rfl⟩
  go_wp2_with fail
  refine (sheld_any c o hc _).mono ?_
  rintro e w1 ⟨rfl, t1⟩
  obtain ⟨L1, L2, T⟩ := made_frame t1
  obtain ⟨a0, a1, _, _⟩ := L1.cells
  have cp1 := (T.cell (p := ⟨p, 0, none⟩) hp (by simp)).trans cp
  have cq1 := (T.cell (p := ⟨q, 0, none⟩) hq (by simp)).trans cq
  clear t1 L1 L2 cp cq
  go_wp2_with fail
  refine (sneed_no _ _).mono ?_
  rintro e w2 ⟨rfl, t2⟩
  exact ⟨rfl, rfl, T.trans t2 (by simp)⟩

set_option maxRecDepth 100000 in
theorem try1_state (p q : Nat) (c o owner at' : Int) (hc : 0 ≤ c) (h0 : 0 ≤ owner) (h1 : owner < 4) (h2 : ¬ c % 2 = 1) (h3 : ¬ c = at') (w : World) (hp : p < w.heap.size) (hq : q < w.heap.size)
    (cp : w.cell? ⟨p, 0, none⟩ = some (.int .i64 owner)) (cq : w.cell? ⟨q, 0, none⟩ = some (.int .u64 at')) :
    Calls Try.prog 87 #[.agg #[.int .u64 c, .int .i64 o], .pointer (some ⟨p, 0, none⟩), .pointer (some ⟨q, 0, none⟩)] w (Refuses 8 w) := by
  have h3' : (c == at') = false := by simpa using h3
  go_enter Try.func87, Try.ntmps87
  go_wp2_with fail
  refine (sneed_yes _ _).mono ?_
  rintro e w1 ⟨rfl, rfl⟩
  go_wp2_with fail
  refine (sheld_any c o hc _).mono ?_
  rintro e w1 ⟨rfl, t1⟩
  obtain ⟨L1, L2, T⟩ := made_frame t1
  obtain ⟨a0, a1, _, _⟩ := L1.cells
  have cp1 := (T.cell (p := ⟨p, 0, none⟩) hp (by simp)).trans cp
  have cq1 := (T.cell (p := ⟨q, 0, none⟩) hq (by simp)).trans cq
  clear t1 L1 L2 cp cq
  go_wp2_with fail
  refine (sneed_yes _ _).mono ?_
  rintro e w1 ⟨rfl, rfl⟩
  go_wp2_with fail
  refine (sneed_no _ _).mono ?_
  rintro e w2 ⟨rfl, t2⟩
  exact ⟨rfl, rfl, T.trans t2 (by simp)⟩

set_option maxRecDepth 100000 in
theorem try1_space (p q : Nat) (c o owner at' : Int) (hc : 0 ≤ c) (h0 : 0 ≤ owner) (h1 : owner < 4) (h2 : ¬ c % 2 = 1) (h3 : c = at') (h4 : ¬ c < 1099511627775) (w : World) (hp : p < w.heap.size) (hq : q < w.heap.size)
    (cp : w.cell? ⟨p, 0, none⟩ = some (.int .i64 owner)) (cq : w.cell? ⟨q, 0, none⟩ = some (.int .u64 at')) :
    Calls Try.prog 87 #[.agg #[.int .u64 c, .int .i64 o], .pointer (some ⟨p, 0, none⟩), .pointer (some ⟨q, 0, none⟩)] w (Refuses 4 w) := by
  subst h3
  have h4' : decide (c < 1099511627775) = false := decide_eq_false h4
  go_enter Try.func87, Try.ntmps87
  go_wp2_with fail
  refine (sneed_yes _ _).mono ?_
  rintro e w1 ⟨rfl, rfl⟩
  go_wp2_with fail
  refine (sheld_any c o hc _).mono ?_
  rintro e w1 ⟨rfl, t1⟩
  obtain ⟨L1, L2, T⟩ := made_frame t1
  obtain ⟨a0, a1, _, _⟩ := L1.cells
  have cp1 := (T.cell (p := ⟨p, 0, none⟩) hp (by simp)).trans cp
  have cq1 := (T.cell (p := ⟨q, 0, none⟩) hq (by simp)).trans cq
  clear t1 L1 L2 cp cq
  go_wp2_with fail
  refine (sneed_yes _ _).mono ?_
  rintro e w1 ⟨rfl, rfl⟩
  go_wp2_with fail
  refine (sneed_yes _ _).mono ?_
  rintro e w1 ⟨rfl, rfl⟩
  go_wp2_with fail
  refine (sneed_no _ _).mono ?_
  rintro e w2 ⟨rfl, t2⟩
  exact ⟨rfl, rfl, T.trans t2 (by simp)⟩

/-- What a lock is. -/
structure SLk where
  c : Int
  o : Int

/-- What Try comes to. -/
def tryS (s : SLk) (owner at' : Int) : Int × SLk :=
  if ¬ (0 ≤ owner ∧ owner < 4) then (2, s) else if s.c % 2 = 1 then (7, s) else if s.c ≠ at' then (8, s) else if ¬ s.c < 1099511627775 then (4, s) else (0, ⟨s.c + 1, owner⟩)

/-- What a call leaves. -/
def SPost (b : Nat) (w : World) (r : Int × SLk) (x : Ending) (w' : World) : Prop := x = .returned (.int .i64 r.1) ∧ LObj w' b r.2.c r.2.o ∧ Touch w w' [b]

theorem enter_of {k : Nat} {fn : Func} (hf : Try.prog.funcs[k]? = some fn) (hn : (fn.name == "runtime.NumGoroutine") = false) (hb : fn.body.isNone = false) (w : World) (cap : Array Value) : (callFunc k cap).run Try.prog w = .ok (.enter k cap) w := by
  simp only [callFunc, Sem.run_bind, run_program, Result.andThen_ok, hf, hn, hb, Bool.false_eq_true, if_false, Sem.run_pure]

theorem try_become (b p q : Nat) (s : SLk) (owner at' : Int) (hc : 0 ≤ s.c) (W : World) (h : LObj W b s.c s.o) (hp : p < W.heap.size) (hq : q < W.heap.size)
    (cp : W.cell? ⟨p, 0, none⟩ = some (.int .i64 owner)) (cq : W.cell? ⟨q, 0, none⟩ = some (.int .u64 at')) :
    Calls Try.prog 42 #[.pointer (some ⟨b, 0, none⟩), .func (.func 87) #[] #[.pointer (some ⟨p, 0, none⟩), .pointer (some ⟨q, 0, none⟩)]] W (SPost b W (tryS s owner at')) := by
  have hen := enter_of Try.func87 (by kernel_rfl) (by kernel_rfl)
  have P := fun (w1 : World) (t : Touch W w1 []) => And.intro (Nat.lt_of_lt_of_le hp t.size) (And.intro (Nat.lt_of_lt_of_le hq t.size) (And.intro ((t.cell (p := ⟨p, 0, none⟩) hp (by simp)).trans cp) ((t.cell (p := ⟨q, 0, none⟩) hq (by simp)).trans cq)))
  unfold tryS
  by_cases h0 : 0 ≤ owner
  · by_cases h1 : owner < 4
    · rw [if_neg (by simp [h0, h1])]
      by_cases h2 : s.c % 2 = 1
      · rw [if_pos h2]
        refine (become_no b _ s.c s.o 7 _ W h hen (fun w1 t => ?_)).mono ?_
        · obtain ⟨a, b', c, d⟩ := P w1 t
          exact try1_busy p q s.c s.o owner at' hc h0 h1 h2 w1 a b' c d
        · rintro x w' ⟨rfl, t⟩
          exact ⟨rfl, h.touch t (by simp), t.mono (by simp)⟩
      · rw [if_neg h2]
        by_cases h3 : s.c = at'
        · rw [if_neg (by simp [h3])]
          by_cases h4 : s.c < 1099511627775
          · rw [if_neg (by simp [h4])]
            subst h3
            refine (become_ok b _ s.c s.o (s.c + 1) owner _ W h hen (fun _ => True) [] (by simp) (by simp) (fun _ _ _ _ _ _ => trivial) (fun w1 t => ?_)).mono ?_
            · obtain ⟨a, b', c, d⟩ := P w1 t
              refine (try1_ok p q s.c s.o owner hc h0 h1 h2 h4 w1 a b' c d).mono ?_
              rintro x w' ⟨e, t'⟩
              exact ⟨e, t', trivial⟩
            · rintro x w' ⟨rfl, l, t, _⟩
              exact ⟨rfl, l, t⟩
          · rw [if_pos h4]
            refine (become_no b _ s.c s.o 4 _ W h hen (fun w1 t => ?_)).mono ?_
            · obtain ⟨a, b', c, d⟩ := P w1 t
              exact try1_space p q s.c s.o owner at' hc h0 h1 h2 h3 h4 w1 a b' c d
            · rintro x w' ⟨rfl, t⟩
              exact ⟨rfl, h.touch t (by simp), t.mono (by simp)⟩
        · rw [if_pos h3]
          refine (become_no b _ s.c s.o 8 _ W h hen (fun w1 t => ?_)).mono ?_
          · obtain ⟨a, b', c, d⟩ := P w1 t
            exact try1_state p q s.c s.o owner at' hc h0 h1 h2 h3 w1 a b' c d
          · rintro x w' ⟨rfl, t⟩
            exact ⟨rfl, h.touch t (by simp), t.mono (by simp)⟩
    · rw [if_pos (by omega)]
      refine (become_no b _ s.c s.o 2 _ W h hen (fun w1 t => ?_)).mono ?_
      · obtain ⟨a, b', c, d⟩ := P w1 t
        exact try1_r2 p q s.c s.o owner at' hc h0 h1 w1 a b' c d
      · rintro x w' ⟨rfl, t⟩
        exact ⟨rfl, h.touch t (by simp), t.mono (by simp)⟩
  · rw [if_pos (by omega)]
    refine (become_no b _ s.c s.o 2 _ W h hen (fun w1 t => ?_)).mono ?_
    · obtain ⟨a, b', c, d⟩ := P w1 t
      exact try1_r1 p q s.c s.o owner at' hc h0 w1 a b' c d
    · rintro x w' ⟨rfl, t⟩
      exact ⟨rfl, h.touch t (by simp), t.mono (by simp)⟩

set_option maxRecDepth 100000 in
theorem try_any (b : Nat) (s : SLk) (owner at' : Int) (hc : 0 ≤ s.c) (w : World) (h : LObj w b s.c s.o) :
    Calls Try.prog 77 #[.pointer (some ⟨b, 0, none⟩), .int .i64 owner, .int .u64 at'] w (SPost b w (tryS s owner at')) := by
  have hmf : ∀ (fn : Fn) (first cap : Array Value) (w : World), (Instr.makeFunc fn first cap).run Try.prog w = .ok (.func fn first cap) w := fun _ _ _ _ => rfl
  have hT : Touch w ((w.alloc (.cells #[.int .i64 owner] 3)).alloc (.cells #[.int .u64 at'] 25)) [] := ((Touch.refl w []).alloc _).alloc _
  have hb := try_become b w.heap.size (w.heap.size + 1) s owner at' hc ((w.alloc (.cells #[.int .i64 owner] 3)).alloc (.cells #[.int .u64 at'] 25)) (h.touch hT (by simp)) (by simp <;> omega) (by simp <;> omega) (by simp [go_sem]) (by simp [go_sem])
  generalize tryS s owner at' = R at *
  go_enter Try.func77, Try.ntmps77
  go_wp2_with fail
  refine hb.mono ?_
  rintro x w1 ⟨rfl, l, t⟩
  clear hb
  go_wp2
  go_ret
  exact ⟨rfl, l, (hT.mono (by simp)).trans t (by simp)⟩

set_option maxRecDepth 100000 in
theorem try_nil (owner at' : Int) (w : World) :
    Calls Try.prog 77 #[.pointer none, .int .i64 owner, .int .u64 at'] w fun x w' => x = .returned (.int .i64 1) ∧ Touch w w' [] := by
  have hmf : ∀ (fn : Fn) (first cap : Array Value) (w : World), (Instr.makeFunc fn first cap).run Try.prog w = .ok (.func fn first cap) w := fun _ _ _ _ => rfl
  go_enter Try.func77, Try.ntmps77
  go_wp2_with fail
  refine (become_nil _ _ _).mono ?_
  rintro x w1 ⟨rfl, t⟩
  go_wp2
  go_ret
  exact ⟨rfl, (((Touch.refl w []).alloc _).alloc _).trans t (by simp)⟩

/-! ### Unlock and Break -/
theorem unlock1_any (c : Int) (h0 : 0 ≤ c) (h1 : c ≤ 1099511627776) (w : World) : Calls Try.prog 91 #[.int .u64 c] w fun x w' => x = .returned (.int .u64 (c + 1)) ∧ w = w' := by
  go_enter Try.func91, Try.ntmps91
  go_wp2
  go_ret
  exact ⟨rfl, rfl⟩


/-- Whoever leaves it by made. -/
structure Leaver (k : Nat) (c c' : Int) : Prop where
  en : ∀ w a, (callFunc k a).run Try.prog w = .ok (.enter k a) w
  calls : ∀ w, Calls Try.prog k #[.int .u64 c] w fun x w' => x = .returned (.int .u64 c') ∧ w = w'

set_option maxRecDepth 100000 in
theorem leave1_ok (p q k : Nat) (c c' o : Int) (hc : 0 ≤ c) (h2 : c % 2 = 1) (L : Leaver k c c') (w : World) (hp : p < w.heap.size) (hq : q < w.heap.size)
    (cp : w.cell? ⟨p, 0, none⟩ = some (.int .i64 o)) (cq : w.cell? ⟨q, 0, none⟩ = some (.func (.func k) #[] #[])) :
    Calls Try.prog 96 #[.agg #[.int .u64 c, .int .i64 o], .pointer (some ⟨p, 0, none⟩), .pointer (some ⟨q, 0, none⟩)] w fun e w' => e = .returned (.agg #[.int .u64 c', .int .i64 0]) ∧ Touch w w' [] := by
  have hen := L.en
  go_enter Try.func96, Try.ntmps96
  go_wp2_with fail
  refine (sheld_any c o hc _).mono ?_
  rintro e w1 ⟨rfl, t1⟩
  obtain ⟨L1, L2, T⟩ := made_frame t1
  obtain ⟨a0, a1, _, _⟩ := L1.cells
  obtain ⟨b0, b1, f0, f1⟩ := L2.cells
  have cp1 := (T.cell (p := ⟨p, 0, none⟩) hp (by simp)).trans cp
  have cq1 := (T.cell (p := ⟨q, 0, none⟩) hq (by simp)).trans cq
  have L3 : Hid _ := L2.set c' 0
  have HT : Hid _ := (T.setCell (p := ⟨w.heap.size + 1, 0, none⟩) (.inr (by simp)) (.int .u64 c')).setCell (p := ⟨w.heap.size + 1, 1, none⟩) (.inr (by simp)) (.int .i64 0)
  clear t1 L1 L2 T cp cq
  go_wp2_with fail
  refine (sneed_yes _ _).mono ?_
  rintro e w2 ⟨rfl, rfl⟩
  go_wp2_with fail
  refine (L.calls _).mono ?_
  rintro e w2 ⟨rfl, rfl⟩
  go_wp2
  obtain ⟨z0, z1, _, _⟩ := L3.out.cells
  refine bodyPost_ret (v := .agg #[.int .u64 c', .int .i64 0]) ?_ rfl ⟨rfl, HT.out⟩
  rw [results_cell rfl]
  go_simp

set_option maxRecDepth 100000 in
theorem leave1_free (p q : Nat) (c o owner : Int) (hc : 0 ≤ c) (h2 : ¬ c % 2 = 1) (w : World) (hp : p < w.heap.size)
    (cp : w.cell? ⟨p, 0, none⟩ = some (.int .i64 owner)) :
    Calls Try.prog 96 #[.agg #[.int .u64 c, .int .i64 o], .pointer (some ⟨p, 0, none⟩), .pointer (some ⟨q, 0, none⟩)] w (Refuses 8 w) := by
  go_enter Try.func96, Try.ntmps96
  go_wp2_with fail
  refine (sheld_any c o hc _).mono ?_
  rintro e w1 ⟨rfl, t1⟩
  obtain ⟨L1, L2, T⟩ := made_frame t1
  obtain ⟨a0, a1, _, _⟩ := L1.cells
  have cp1 := (T.cell (p := ⟨p, 0, none⟩) hp (by simp)).trans cp
  clear t1 L1 L2 cp
  go_wp2_with fail
  refine (sneed_no _ _).mono ?_
  rintro e w2 ⟨rfl, t2⟩
  exact ⟨rfl, rfl, T.trans t2 (by simp)⟩

set_option maxRecDepth 100000 in
theorem leave1_other (p q : Nat) (c o owner : Int) (hc : 0 ≤ c) (h2 : c % 2 = 1) (h3 : ¬ o = owner) (w : World) (hp : p < w.heap.size)
    (cp : w.cell? ⟨p, 0, none⟩ = some (.int .i64 owner)) :
    Calls Try.prog 96 #[.agg #[.int .u64 c, .int .i64 o], .pointer (some ⟨p, 0, none⟩), .pointer (some ⟨q, 0, none⟩)] w (Refuses 8 w) := by
  have h3' : (o == owner) = false := by simpa using h3
  go_enter Try.func96, Try.ntmps96
  go_wp2_with fail
  refine (sheld_any c o hc _).mono ?_
  rintro e w1 ⟨rfl, t1⟩
  obtain ⟨L1, L2, T⟩ := made_frame t1
  obtain ⟨a0, a1, _, _⟩ := L1.cells
  have cp1 := (T.cell (p := ⟨p, 0, none⟩) hp (by simp)).trans cp
  clear t1 L1 L2 cp
  go_wp2_with fail
  refine (sneed_no _ _).mono ?_
  rintro e w2 ⟨rfl, t2⟩
  exact ⟨rfl, rfl, T.trans t2 (by simp)⟩

/-- What Unlock and Break come to. -/
def leaveS (s : SLk) (owner c' : Int) : Int × SLk := if s.c % 2 = 1 ∧ s.o = owner then (0, ⟨c', 0⟩) else (8, s)

theorem leave_become (b p q k : Nat) (s : SLk) (owner c' : Int) (hc : 0 ≤ s.c) (L : s.c % 2 = 1 → Leaver k s.c c') (W : World) (h : LObj W b s.c s.o) (hp : p < W.heap.size) (hq : q < W.heap.size)
    (cp : W.cell? ⟨p, 0, none⟩ = some (.int .i64 owner)) (cq : W.cell? ⟨q, 0, none⟩ = some (.func (.func k) #[] #[])) :
    Calls Try.prog 42 #[.pointer (some ⟨b, 0, none⟩), .func (.func 96) #[] #[.pointer (some ⟨p, 0, none⟩), .pointer (some ⟨q, 0, none⟩)]] W (SPost b W (leaveS s owner c')) := by
  have hen := enter_of Try.func96 (by kernel_rfl) (by kernel_rfl)
  have P := fun (w1 : World) (t : Touch W w1 []) => And.intro (Nat.lt_of_lt_of_le hp t.size) (And.intro (Nat.lt_of_lt_of_le hq t.size) (And.intro ((t.cell (p := ⟨p, 0, none⟩) hp (by simp)).trans cp) ((t.cell (p := ⟨q, 0, none⟩) hq (by simp)).trans cq)))
  unfold leaveS
  by_cases h2 : s.c % 2 = 1
  · by_cases h3 : s.o = owner
    · rw [if_pos ⟨h2, h3⟩]
      subst h3
      refine (become_ok b _ s.c s.o c' 0 _ W h hen (fun _ => True) [] (by simp) (by simp) (fun _ _ _ _ _ _ => trivial) (fun w1 t => ?_)).mono ?_
      · obtain ⟨a, b', c, d⟩ := P w1 t
        refine (leave1_ok p q k s.c c' s.o hc h2 (L h2) w1 a b' c d).mono ?_
        rintro x w' ⟨e, t'⟩
        exact ⟨e, t', trivial⟩
      · rintro x w' ⟨rfl, l, t, _⟩
        exact ⟨rfl, l, t⟩
    · rw [if_neg (fun h => h3 h.2)]
      refine (become_no b _ s.c s.o 8 _ W h hen (fun w1 t => ?_)).mono ?_
      · obtain ⟨a, b', c, d⟩ := P w1 t
        exact leave1_other p q s.c s.o owner hc h2 h3 w1 a c
      · rintro x w' ⟨rfl, t⟩
        exact ⟨rfl, h.touch t (by simp), t.mono (by simp)⟩
  · rw [if_neg (fun h => h2 h.1)]
    refine (become_no b _ s.c s.o 8 _ W h hen (fun w1 t => ?_)).mono ?_
    · obtain ⟨a, b', c, d⟩ := P w1 t
      exact leave1_free p q s.c s.o owner hc h2 w1 a c
    · rintro x w' ⟨rfl, t⟩
      exact ⟨rfl, h.touch t (by simp), t.mono (by simp)⟩

set_option maxRecDepth 100000 in
theorem leave_any (b k : Nat) (s : SLk) (owner c' : Int) (hc : 0 ≤ s.c) (L : s.c % 2 = 1 → Leaver k s.c c') (w : World) (h : LObj w b s.c s.o) :
    Calls Try.prog 90 #[.pointer (some ⟨b, 0, none⟩), .int .i64 owner, .func (.func k) #[] #[]] w (SPost b w (leaveS s owner c')) := by
  have hmf : ∀ (fn : Fn) (first cap : Array Value) (w : World), (Instr.makeFunc fn first cap).run Try.prog w = .ok (.func fn first cap) w := fun _ _ _ _ => rfl
  have hT : Touch w ((w.alloc (.cells #[.int .i64 owner] 3)).alloc (.cells #[.func (.func k) #[] #[]] 160)) [] := ((Touch.refl w []).alloc _).alloc _
  have hb := leave_become b w.heap.size (w.heap.size + 1) k s owner c' hc L ((w.alloc (.cells #[.int .i64 owner] 3)).alloc (.cells #[.func (.func k) #[] #[]] 160)) (h.touch hT (by simp)) (by simp <;> omega) (by simp <;> omega) (by simp [go_sem]) (by simp [go_sem])
  generalize leaveS s owner c' = R at *
  go_enter Try.func90, Try.ntmps90
  go_wp2_with fail
  refine hb.mono ?_
  rintro x w1 ⟨rfl, l, t⟩
  clear hb
  go_wp2
  go_ret
  exact ⟨rfl, l, (hT.mono (by simp)).trans t (by simp)⟩

set_option maxRecDepth 100000 in
theorem leave_nil (k : Nat) (owner : Int) (w : World) :
    Calls Try.prog 90 #[.pointer none, .int .i64 owner, .func (.func k) #[] #[]] w fun x w' => x = .returned (.int .i64 1) ∧ Touch w w' [] := by
  have hmf : ∀ (fn : Fn) (first cap : Array Value) (w : World), (Instr.makeFunc fn first cap).run Try.prog w = .ok (.func fn first cap) w := fun _ _ _ _ => rfl
  go_enter Try.func90, Try.ntmps90
  go_wp2_with fail
  refine (become_nil _ _ _).mono ?_
  rintro x w1 ⟨rfl, t⟩
  go_wp2
  go_ret
  exact ⟨rfl, (((Touch.refl w []).alloc _).alloc _).trans t (by simp)⟩

set_option maxRecDepth 100000 in
theorem unlock_any (b : Nat) (s : SLk) (owner : Int) (hc : 0 ≤ s.c) (h1 : s.c ≤ 1099511627776) (w : World) (h : LObj w b s.c s.o) :
    Calls Try.prog 80 #[.pointer (some ⟨b, 0, none⟩), .int .i64 owner] w (SPost b w (leaveS s owner (s.c + 1))) := by
  have hmf : ∀ (fn : Fn) (first cap : Array Value) (w : World), (Instr.makeFunc fn first cap).run Try.prog w = .ok (.func fn first cap) w := fun _ _ _ _ => rfl
  have hb := leave_any b 91 s owner (s.c + 1) hc (fun h2 => ⟨enter_of Try.func91 (by kernel_rfl) (by kernel_rfl), unlock1_any s.c (by omega) h1⟩) w h
  generalize leaveS s owner (s.c + 1) = R at *
  go_enter Try.func80, Try.ntmps80
  go_wp2_with fail
  refine hb.mono ?_
  rintro x w1 ⟨rfl, l, t⟩
  clear hb
  go_wp2
  go_ret
  exact ⟨rfl, l, t⟩

set_option maxRecDepth 100000 in
theorem unlock_nil (owner : Int) (w : World) :
    Calls Try.prog 80 #[.pointer none, .int .i64 owner] w fun x w' => x = .returned (.int .i64 1) ∧ Touch w w' [] := by
  have hmf : ∀ (fn : Fn) (first cap : Array Value) (w : World), (Instr.makeFunc fn first cap).run Try.prog w = .ok (.func fn first cap) w := fun _ _ _ _ => rfl
  go_enter Try.func80, Try.ntmps80
  go_wp2_with fail
  refine (leave_nil _ _ _).mono ?_
  rintro x w1 ⟨rfl, t⟩
  go_wp2
  go_ret
  exact ⟨rfl, t⟩


end Go.Proofs.Ytinhdpiecifmhaa.Sq
/-
  package seqlock's other calls BY THEIR CONTRACTS: New, Snapshot, Count, Owner, Since, Fork; and those of the document's lock.
-/
namespace Go.Proofs.Ytinhdpiecifmhaa.Sq
set_option linter.unusedVariables false
set_option linter.unusedSimpArgs false
open Go.RowKit

theorem snew_any (w : World) : Calls Try.prog 16 #[] w fun x w' => x = .returned (.pointer (some ⟨w.heap.size, 0, none⟩)) ∧ LObj w' w.heap.size 0 0 ∧ w' = w.alloc (.cells #[.int .u64 0, .int .i64 0] 92) := by
  go_enter Try.func16, Try.ntmps16
  go_wp2
  go_ret
  exact ⟨by simp, LObj.new w 0 0, rfl⟩

set_option maxRecDepth 100000 in
theorem snap1_ok (p : Nat) (c o x0 : Int) (hc : 0 ≤ c) (h2 : ¬ c % 2 = 1) (w : World) (hp : p < w.heap.size) (cp : w.cell? ⟨p, 0, none⟩ = some (.int .u64 x0)) (fp : w.frozen? ⟨p, 0, none⟩ = false) :
    Calls Try.prog 43 #[.agg #[.int .u64 c, .int .i64 o], .pointer (some ⟨p, 0, none⟩)] w fun e w' => e = .returned (.agg #[.int .u64 c, .int .i64 o]) ∧ Touch w w' [p] ∧ w'.cell? ⟨p, 0, none⟩ = some (.int .u64 c) := by
  go_enter Try.func43, Try.ntmps43
  go_wp2_with fail
  refine (sheld_any c o hc _).mono ?_
  rintro e w1 ⟨rfl, t1⟩
  obtain ⟨L1, L2, T⟩ := made_frame t1
  obtain ⟨a0, a1, _, _⟩ := L1.cells
  obtain ⟨b0, b1, f0, f1⟩ := L2.cells
  have cp1 := (T.cell (p := ⟨p, 0, none⟩) hp (by simp)).trans cp
  have fp1 := (T.frozen (p := ⟨p, 0, none⟩) hp (by simp)).trans fp
  have T1 : Touch w (w1.setCell ⟨p, 0, none⟩ (.int .u64 c)) [p] := (T.mono (by simp)).setCell (.inl (by simp)) _
  have TW : Touch w1 (w1.setCell ⟨p, 0, none⟩ (.int .u64 c)) [p] := (Touch.refl _ _).setCell (.inl (by simp)) _
  have M1 := L1.touch TW (by simp; omega)
  have M2 := L2.touch TW (by simp; omega)
  obtain ⟨m0, m1, _, _⟩ := M1.cells
  obtain ⟨n0, n1, e0, e1⟩ := M2.cells
  have hcp := World.cell?_setCell_same _ _ (.int .u64 c) cp1
  have L3 : Hid _ := M2.set c o
  have HT : Hid _ := (T1.setCell (p := ⟨w.heap.size + 1, 0, none⟩) (.inr (by simp)) (.int .u64 c)).setCell (p := ⟨w.heap.size + 1, 1, none⟩) (.inr (by simp)) (.int .i64 o)
  have HC : Hid (((((w1.setCell ⟨p, 0, none⟩ (.int .u64 c)).setCell ⟨w.heap.size + 1, 0, none⟩ (.int .u64 c)).setCell ⟨w.heap.size + 1, 1, none⟩ (.int .i64 o)).cell? ⟨p, 0, none⟩) = some (.int .u64 c)) := by
    show _ = _
    rw [World.cell?_setCell_other _ _ _ _ (by simp <;> omega), World.cell?_setCell_other _ _ _ _ (by simp <;> omega)]; exact hcp
  have HI : Hid _ := And.intro m0 (And.intro m1 (And.intro n0 (And.intro n1 (And.intro e0 e1))))
  clear t1 L1 L2 T cp M1 M2 TW T1 m0 m1 n0 n1 e0 e1
  go_wp2_with fail
  refine (sneed_yes _ _).mono ?_
  rintro e w2 ⟨rfl, rfl⟩
  go_wp2
  obtain ⟨z0, z1, _, _⟩ := L3.out.cells
  refine bodyPost_ret (v := .agg #[.int .u64 c, .int .i64 o]) ?_ rfl ⟨rfl, HT.out, HC.out⟩
  rw [results_cell rfl]
  go_simp

set_option maxRecDepth 100000 in
theorem snap1_busy (p : Nat) (c o : Int) (hc : 0 ≤ c) (h2 : c % 2 = 1) (w : World) :
    Calls Try.prog 43 #[.agg #[.int .u64 c, .int .i64 o], .pointer (some ⟨p, 0, none⟩)] w (Refuses 7 w) := by
  go_enter Try.func43, Try.ntmps43
  go_wp2_with fail
  refine (sheld_any c o hc _).mono ?_
  rintro e w1 ⟨rfl, t1⟩
  obtain ⟨L1, L2, T⟩ := made_frame t1
  clear t1 L1 L2
  go_wp2_with fail
  refine (sneed_no _ _).mono ?_
  rintro e w2 ⟨rfl, t2⟩
  exact ⟨rfl, rfl, T.trans t2 (by simp)⟩

/-- What Snapshot comes to. -/
def snapS (s : SLk) : Int × Int := if s.c % 2 = 1 then (0, 7) else (s.c, 0)

theorem snap_become (b : Nat) (s : SLk) (hc : 0 ≤ s.c) (w : World) (h : LObj w b s.c s.o) :
    Calls Try.prog 42 #[.pointer (some ⟨b, 0, none⟩), .func (.func 43) #[] #[.pointer (some ⟨w.heap.size, 0, none⟩)]] (w.alloc (.cells #[.int .u64 0] 25))
      fun x w' => x = .returned (.int .i64 (snapS s).2) ∧ LObj w' b s.c s.o ∧ Touch w w' [b] ∧ w'.cell? ⟨w.heap.size, 0, none⟩ = some (.int .u64 (snapS s).1) := by
  have hen := enter_of Try.func43 (by kernel_rfl) (by kernel_rfl)
  have hT : Touch w (w.alloc (.cells #[.int .u64 0] 25)) [] := (Touch.refl w []).alloc _
  have h1 := h.touch hT (by simp)
  have hbl := lt_of_heap h.st
  have c0 : (w.alloc (.cells #[.int .u64 0] 25)).cell? ⟨w.heap.size, 0, none⟩ = some (.int .u64 0) := by simp [go_sem]
  have f0 : (w.alloc (.cells #[.int .u64 0] 25)).frozen? ⟨w.heap.size, 0, none⟩ = false := by simp [go_sem]
  have hsz : (w.alloc (.cells #[.int .u64 0] 25)).heap.size = w.heap.size + 1 := by simp
  generalize w.alloc (.cells #[.int .u64 0] 25) = W at *
  have hlt : w.heap.size < W.heap.size := by omega
  unfold snapS
  by_cases h2 : s.c % 2 = 1
  · rw [if_pos h2]
    refine (become_no b 43 s.c s.o 7 #[.pointer (some ⟨w.heap.size, 0, none⟩)] W h1 hen (fun w1 t => ?_)).mono ?_
    · exact snap1_busy w.heap.size s.c s.o hc h2 w1
    · rintro x w' ⟨rfl, t⟩
      exact ⟨rfl, h1.touch t (by simp), (hT.trans t (by simp)).mono (by simp), (t.cell (p := ⟨w.heap.size, 0, none⟩) hlt (by simp)).trans c0⟩
  · rw [if_neg h2]
    refine (become_ok b 43 s.c s.o s.c s.o #[.pointer (some ⟨w.heap.size, 0, none⟩)] W h1 hen (fun W => w.heap.size < W.heap.size ∧ W.cell? ⟨w.heap.size, 0, none⟩ = some (.int .u64 s.c)) [w.heap.size] (by simp; omega) (by simp; omega) ?_ (fun w1 t => ?_)).mono ?_
    · intro S w1 w2 hS t ⟨q1, q2⟩
      refine ⟨Nat.lt_of_lt_of_le q1 t.size, (t.cell (p := ⟨w.heap.size, 0, none⟩) q1 ?_).trans q2⟩
      intro hm
      have := hS _ hm
      simp only at this
      omega
    · have hs := t.size
      refine (snap1_ok w.heap.size s.c s.o 0 hc h2 w1 (by omega) ((t.cell (p := ⟨w.heap.size, 0, none⟩) hlt (by simp)).trans c0) ((t.frozen (p := ⟨w.heap.size, 0, none⟩) hlt (by simp)).trans f0)).mono ?_
      rintro x w' ⟨rfl, t', c'⟩
      exact ⟨rfl, t', by have := t'.size; omega, c'⟩
    · rintro x w' ⟨rfl, l, t, _, c'⟩
      exact ⟨rfl, l, (hT.mono (by simp)).trans t (by simp), c'⟩

set_option maxRecDepth 100000 in
theorem snap_any (b : Nat) (s : SLk) (hc : 0 ≤ s.c) (w : World) (h : LObj w b s.c s.o) :
    Calls Try.prog 20 #[.pointer (some ⟨b, 0, none⟩)] w fun x w' => x = .returned (.tuple #[.int .u64 (snapS s).1, .int .i64 (snapS s).2]) ∧ LObj w' b s.c s.o ∧ Touch w w' [b] := by
  have hmf : ∀ (fn : Fn) (first cap : Array Value) (w : World), (Instr.makeFunc fn first cap).run Try.prog w = .ok (.func fn first cap) w := fun _ _ _ _ => rfl
  have hb := snap_become b s hc w h
  generalize snapS s = R at *
  go_enter Try.func20, Try.ntmps20
  go_wp2_with fail
  refine hb.mono ?_
  rintro x w1 ⟨rfl, l, t, c'⟩
  clear hb
  go_wp2
  go_ret2
  exact ⟨rfl, l, t⟩

set_option maxRecDepth 100000 in
theorem snap_nil (w : World) :
    Calls Try.prog 20 #[.pointer none] w fun x w' => x = .returned (.tuple #[.int .u64 0, .int .i64 1]) ∧ Touch w w' [] := by
  have hmf : ∀ (fn : Fn) (first cap : Array Value) (w : World), (Instr.makeFunc fn first cap).run Try.prog w = .ok (.func fn first cap) w := fun _ _ _ _ => rfl
  go_enter Try.func20, Try.ntmps20
  go_wp2_with fail
  refine (become_nil _ _ _).mono ?_
  rintro x w1 ⟨rfl, t⟩
  have c0 : w1.cell? ⟨w.heap.size, 0, none⟩ = some (.int .u64 0) := (t.cell (p := ⟨w.heap.size, 0, none⟩) (by simp) (by simp)).trans (by simp [go_sem])
  have HT : Hid _ := (((Touch.refl w []).alloc _).trans t (by simp))
  clear t
  go_wp2
  go_ret2
  exact ⟨rfl, HT.out⟩

theorem count_any (b : Nat) (c o : Int) (w : World) (h : LObj w b c o) : Calls Try.prog 31 #[.pointer (some ⟨b, 0, none⟩)] w fun x w' => x = .returned (.int .u64 c) ∧ w = w' := by
  obtain ⟨c0, c1, _, _⟩ := h.cells
  go_enter Try.func31, Try.ntmps31
  go_wp2
  go_ret
  exact ⟨rfl, rfl⟩
theorem count_nil (w : World) : Calls Try.prog 31 #[.pointer none] w fun x w' => x = .returned (.int .u64 0) ∧ w = w' := by
  go_enter Try.func31, Try.ntmps31
  go_wp2
  go_ret
  exact ⟨rfl, rfl⟩
theorem since_any (b : Nat) (c o at' : Int) (w : World) (h : LObj w b c o) : Calls Try.prog 71 #[.pointer (some ⟨b, 0, none⟩), .int .u64 at'] w fun x w' => x = .returned (.bool (c == at')) ∧ w = w' := by
  obtain ⟨c0, c1, _, _⟩ := h.cells
  go_enter Try.func71, Try.ntmps71
  go_wp2
  go_ret
  exact ⟨rfl, rfl⟩
theorem since_nil (at' : Int) (w : World) : Calls Try.prog 71 #[.pointer none, .int .u64 at'] w fun x w' => x = .returned (.bool false) ∧ w = w' := by
  go_enter Try.func71, Try.ntmps71
  go_wp2
  go_ret
  exact ⟨rfl, rfl⟩

/-- What Owner tells. -/
def ownS (s : SLk) : Int × Bool := if s.c % 2 = 1 then (s.o, true) else (0, false)

set_option maxRecDepth 100000 in
theorem owner_any (b : Nat) (s : SLk) (hc : 0 ≤ s.c) (w : World) (h : LObj w b s.c s.o) : Calls Try.prog 81 #[.pointer (some ⟨b, 0, none⟩)] w fun x w' => x = .returned (.tuple #[.int .i64 (ownS s).1, .bool (ownS s).2]) ∧ Touch w w' [] := by
  obtain ⟨c0, c1, _, _⟩ := h.cells
  unfold ownS
  by_cases h2 : s.c % 2 = 1
  · rw [if_pos h2]
    go_enter Try.func81, Try.ntmps81
    go_wp2_with fail
    refine (sheld_any s.c s.o hc _).mono ?_
    rintro x w1 ⟨rfl, t⟩
    obtain ⟨d0, d1, _, _⟩ := (h.touch t (by simp)).cells
    go_wp2
    go_ret2
    exact ⟨rfl, t⟩
  · rw [if_neg h2]
    go_enter Try.func81, Try.ntmps81
    go_wp2_with fail
    refine (sheld_any s.c s.o hc _).mono ?_
    rintro x w1 ⟨rfl, t⟩
    go_wp2
    go_ret2
    exact ⟨rfl, t⟩
theorem owner_nil (w : World) : Calls Try.prog 81 #[.pointer none] w fun x w' => x = .returned (.tuple #[.int .i64 0, .bool false]) ∧ w = w' := by
  go_enter Try.func81, Try.ntmps81
  go_wp2
  go_ret2
  exact ⟨rfl, rfl⟩


end Go.Proofs.Ytinhdpiecifmhaa.Sq
/-
  package value's small calls BY THEIR CONTRACTS: IsNaN, Of, Canon, Float, Negative, Less: each answers what a plain function on bits says, and leaves the world as it was.
-/
namespace Go.Proofs.Ytinhdpiecifmhaa
set_option linter.unusedVariables false
set_option linter.unusedSimpArgs false
open Go.RowKit

/-- Is it no number? -/
def nanB (b : Nat) : Bool := FloatKind.f64.format.order b b != some .eq
/-- The bits that Of answers. -/
def ofB (b : Nat) : Nat := if nanB b then 9221120237041090560 else b

theorem frombits_run (n : Int) (w : World) : (callFunc 49 #[.int .u64 n]).run Try.prog w = .ok (.value (.float .f64 n.toNat)) w := by
  rw [run_callFunc_extern Try.func49 (by kernel_rfl) (by kernel_rfl) (by kernel_rfl) (e := Extern.MathFloatBits.float64frombits) (by kernel_rfl)]
  rfl

theorem tobits_run (b : Nat) (w : World) : (callFunc 48 #[.float .f64 b]).run Try.prog w = .ok (.value (.int .u64 b)) w := by
  rw [run_callFunc_extern Try.func48 (by kernel_rfl) (by kernel_rfl) (by kernel_rfl) (e := Extern.MathFloatBits.float64bits) (by kernel_rfl)]
  rfl

theorem isNaN_any (b : Nat) (w : World) : Calls Try.prog 47 #[.float .f64 b] w fun e w' => e = .returned (.bool (nanB b)) ∧ w = w' := by
  unfold nanB
  go_enter Try.func47, Try.ntmps47
  go_wp2
  go_ret
  exact ⟨rfl, rfl⟩

theorem of_any (b : Nat) (w : World) : Calls Try.prog 24 #[.float .f64 b] w fun e w' => e = .returned (.int .u64 (ofB b)) ∧ w = w' := by
  have ht := tobits_run b
  unfold ofB
  cases hn : nanB b with
  | true =>
    have hc := isNaN_any b
    rw [hn] at hc
    go_enter Try.func24, Try.ntmps24
    go_wp2_with fail
    refine (hc _).mono ?_
    rintro e w1 ⟨rfl, rfl⟩
    clear hc hn
    go_wp2
    go_ret
    exact ⟨rfl, rfl⟩
  | false =>
    have hc := isNaN_any b
    rw [hn] at hc
    go_enter Try.func24, Try.ntmps24
    go_wp2_with fail
    refine (hc _).mono ?_
    rintro e w1 ⟨rfl, rfl⟩
    clear hc hn
    go_wp2
    go_ret
    exact ⟨rfl, rfl⟩

theorem canon_any (n : Int) (w : World) : Calls Try.prog 32 #[.int .u64 n] w fun e w' => e = .returned (.int .u64 (ofB n.toNat)) ∧ w = w' := by
  have ht := frombits_run n
  go_enter Try.func32, Try.ntmps32
  go_wp2_with fail
  refine (of_any _ _).mono ?_
  rintro e w1 ⟨rfl, rfl⟩
  go_wp2
  go_ret
  exact ⟨rfl, rfl⟩

theorem float_any (n : Int) (w : World) : Calls Try.prog 25 #[.int .u64 n] w fun e w' => e = .returned (.float .f64 (ofB n.toNat)) ∧ w = w' := by
  have ht := frombits_run (ofB n.toNat)
  simp only [Int.toNat_natCast] at ht
  go_enter Try.func25, Try.ntmps25
  go_wp2_with fail
  refine (canon_any _ _).mono ?_
  rintro e w1 ⟨rfl, rfl⟩
  go_wp2
  go_ret
  exact ⟨rfl, rfl⟩

end Go.Proofs.Ytinhdpiecifmhaa
/-
  Negative, Less, ClassOf, Neg BY THEIR CONTRACTS.
-/
namespace Go.Proofs.Ytinhdpiecifmhaa
set_option linter.unusedVariables false
set_option linter.unusedSimpArgs false
open Go.RowKit

/-- Is the sign set? -/
def negB (b : Nat) : Bool := bits .and .u64 (b : Int) 9223372036854775808 != 0
/-- Does x come ahead of y? -/
def lessB (x y : Nat) : Bool :=
  if nanB x then false else if nanB y then true else if FloatKind.f64.format.order x y == some .eq then negB x && !negB y else FloatKind.f64.format.order x y == some .lt

/-- A right value's class, as its number. -/
def classB (x : Nat) : Int :=
  if nanB x then 3 else if (FloatKind.f64.format.order (bits BinOp.andNot IntKind.u64 (x : Int) 9223372036854775808).toNat 9218868437227405311 == some Ordering.gt) then 2 else if (FloatKind.f64.format.order x 0 == some Ordering.eq) then 0 else 1

theorem classB_nan (x : Nat) (h : nanB x = true) : classB x = 3 := by simp [classB, h]
theorem classB_num (x : Nat) (h : nanB x = false) : classB x ≠ 3 := by
  unfold classB; rw [h]; simp only [Bool.false_eq_true, if_false]; split
  · decide
  · split <;> decide

/-! ### Plain facts on the order of bits -/
theorem ofB_idem (b : Nat) : ofB (ofB b) = ofB b := by
  unfold ofB
  cases h : nanB b with
  | true => simp only [if_true]; decide +kernel
  | false => simp [h]

theorem cmp_swap (a b : Int) : compare b a = (compare a b).swap := by
  simp only [compare, compareOfLessAndEq]
  rcases Int.lt_trichotomy a b with h | h | h
  · rw [if_neg (by omega), if_neg (by omega), if_pos h]; rfl
  · subst h; simp
  · rw [if_pos h, if_neg (by omega), if_neg (by omega)]; rfl

theorem datum_swap (a b : Ieee.Datum) : b.order a = (a.order b).map Ordering.swap := by
  cases a with
  | nan s t => cases b <;> simp [Ieee.Datum.order]
  | infinity s =>
    cases b with
    | nan _ _ => simp [Ieee.Datum.order]
    | infinity t => cases s <;> cases t <;> rfl
    | number t n j => cases s <;> rfl
  | number s m i =>
    cases b with
    | nan _ _ => simp [Ieee.Datum.order]
    | infinity t => cases t <;> rfl
    | number t n j =>
      simp only [Ieee.Datum.order, Option.map_some, Option.some.injEq]
      rw [Int.min_comm j i]
      exact cmp_swap _ _

theorem order_swap (x y : Nat) : FloatKind.f64.format.order y x = (FloatKind.f64.format.order x y).map Ordering.swap := datum_swap _ _

theorem less_asym (x y : Nat) (h : lessB x y = true) : lessB y x = false := by
  unfold lessB at h ⊢
  rw [order_swap x y]
  cases hx : nanB x with
  | true => simp [hx] at h
  | false =>
    cases hy : nanB y with
    | true => simp
    | false =>
      simp only [hx, hy] at h ⊢
      cases ho : FloatKind.f64.format.order x y with
      | none => rw [ho] at h; simp at h
      | some o =>
        rw [ho] at h
        cases o with
        | lt => rfl
        | gt => simp at h
        | eq =>
          simp at h
          simp [h.1, h.2]

/-- Whatever is a number comes ahead of what is none. -/
theorem less_nan (x y : Nat) (hx : nanB x = false) (hy : nanB y = true) : lessB x y = true := by simp [lessB, hx, hy]

theorem read_inf (x : Nat) (hlt : x < 18446744073709551616) (h : Ieee.double.read x = .infinity true) : x = 18442240474082181120 := by
  unfold Ieee.Format.read at h
  simp only at h
  split at h
  · cases h
  · split at h
    · cases h
    · split at h
      · rename_i h3
        have e1 : Ieee.double.signWeight = 9223372036854775808 := by decide +kernel
        have e2 : Ieee.double.infRung = 9218868437227405312 := by decide +kernel
        rw [e1, e2] at h3
        rw [e1] at h
        simp only [Ieee.Datum.infinity.injEq, beq_iff_eq] at h
        omega
      · cases h

/-- The infinite one below 0 comes ahead of all others. -/
theorem inf_first (x : Nat) (hlt : x < 18446744073709551616) (hne : x ≠ 18442240474082181120) : lessB 18442240474082181120 x = true := by
  unfold lessB
  rw [show nanB 18442240474082181120 = false by decide +kernel]
  cases hx : nanB x with
  | true => simp
  | false =>
    have hr : FloatKind.f64.format.read 18442240474082181120 = .infinity true := by decide +kernel
    have ho : FloatKind.f64.format.order 18442240474082181120 x = some .lt := by
      unfold Ieee.Format.order
      rw [hr]
      have hx' : nanB x = false := hx
      unfold nanB Ieee.Format.order at hx'
      cases hd : FloatKind.f64.format.read x with
      | nan s t => rw [hd] at hx'; simp [Ieee.Datum.order] at hx'
      | number s m i => rfl
      | infinity s =>
        cases s with
        | false => rfl
        | true => exact absurd (read_inf x hlt hd) hne
    rw [ho]
    rfl

theorem zero_first : lessB 9223372036854775808 0 = true := by decide +kernel

theorem ofB_lt (b : Nat) (h : b < 18446744073709551616) : ofB b < 18446744073709551616 := by
  unfold ofB; split <;> omega

end Go.Proofs.Ytinhdpiecifmhaa
/-
  THE ORDER OF FLOATS IS THE ORDER OF A WHOLE NUMBER MADE OF THEIR BITS. No walk.
-/
namespace Go.Proofs.Ytinhdpiecifmhaa
set_option linter.unusedVariables false
set_option linter.unusedSimpArgs false
open Go.RowKit

/-- The place of a float among those of its sign; its size, in units of the least one. -/
def rungB (x : Nat) : Nat := x % 9223372036854775808
def isNeg (x : Nat) : Bool := x / 9223372036854775808 % 2 == 1
def magB (r : Nat) : Nat := if r < 4503599627370496 then r else (4503599627370496 + r % 4503599627370496) * 2 ^ (r / 4503599627370496 - 1)
def sgn (s : Bool) (n : Nat) : Int := if s then -(n : Int) else n

theorem magB_step (r : Nat) : magB r < magB (r + 1) := by
  unfold magB
  by_cases h1 : r + 1 < 4503599627370496
  · rw [if_pos (by omega), if_pos h1]; omega
  · by_cases h2 : r < 4503599627370496
    · obtain rfl : r = 4503599627370495 := by omega
      rw [if_pos h2, if_neg h1]
      decide
    · rw [if_neg h2, if_neg h1]
      by_cases h3 : r % 4503599627370496 = 4503599627370495
      · have e1 : (r + 1) % 4503599627370496 = 0 := by omega
        have e2 : (r + 1) / 4503599627370496 = r / 4503599627370496 + 1 := by omega
        have e3 : r / 4503599627370496 + 1 - 1 = (r / 4503599627370496 - 1) + 1 := by omega
        rw [e1, e2, e3, h3, Nat.pow_succ]
        have hp : 0 < (2 : Nat) ^ (r / 4503599627370496 - 1) := Nat.pow_pos (by omega)
        generalize (2 : Nat) ^ (r / 4503599627370496 - 1) = p at *
        omega
      · have e1 : (r + 1) % 4503599627370496 = r % 4503599627370496 + 1 := by omega
        have e2 : (r + 1) / 4503599627370496 = r / 4503599627370496 := by omega
        rw [e1, e2]
        exact Nat.mul_lt_mul_of_pos_right (by omega) (Nat.pow_pos (by omega))

theorem magB_mono {r s : Nat} (h : r < s) : magB r < magB s := by
  induction s with
  | zero => omega
  | succ s ih =>
    rcases Nat.lt_or_ge r s with h1 | h1
    · exact Nat.lt_trans (ih h1) (magB_step s)
    · obtain rfl : r = s := by omega
      exact magB_step r

theorem magB_lt {r s : Nat} : magB r < magB s ↔ r < s := by
  constructor
  · intro h
    rcases Nat.lt_trichotomy r s with h1 | h1 | h1
    · exact h1
    · subst h1; omega
    · have := magB_mono h1; omega
  · exact magB_mono
theorem magB_eq {r s : Nat} : magB r = magB s ↔ r = s := by
  constructor
  · intro h
    rcases Nat.lt_trichotomy r s with h1 | h1 | h1
    · have := magB_mono h1; omega
    · exact h1
    · have := magB_mono h1; omega
  · intro h; rw [h]
theorem magB_zero {r : Nat} : magB r = 0 ↔ r = 0 := by
  have : magB 0 = 0 := rfl
  rw [← this]
  conv => lhs; rw [this, ← this]
  exact magB_eq

theorem cmp_congr {a b c d : Int} (h1 : a < b ↔ c < d) (h2 : a = b ↔ c = d) : compare a b = compare c d := by
  simp only [compare, compareOfLessAndEq]
  by_cases h : a < b
  · rw [if_pos h, if_pos (h1.1 h)]
  · rw [if_neg h, if_neg (fun k => h (h1.2 k))]
    by_cases e : a = b
    · rw [if_pos e, if_pos (h2.1 e)]
    · rw [if_neg e, if_neg (fun k => e (h2.2 k))]

theorem cmp_scale (u v : Int) (p : Nat) (hp : 0 < p) : compare (u * p) (v * p) = compare u v := by
  have hp' : (0 : Int) < p := by omega
  refine cmp_congr ⟨fun h => ?_, fun h => Int.mul_lt_mul_of_pos_right h hp'⟩ ⟨fun h => ?_, fun h => by rw [h]⟩
  · exact Int.lt_of_mul_lt_mul_right h (Int.le_of_lt hp')
  · exact Int.eq_of_mul_eq_mul_right (by omega) h

theorem magB_cmp (r s : Nat) (a b : Bool) : compare (sgn a (magB r)) (sgn b (magB s)) = compare (sgn a r) (sgn b s) := by
  have h1 := @magB_lt r s
  have h2 := @magB_lt s r
  have h3 := @magB_eq r s
  have h4 := @magB_zero r
  have h5 := @magB_zero s
  unfold sgn
  generalize magB r = m at *
  generalize magB s = n at *
  cases a <;> cases b <;> simp only [Bool.false_eq_true, if_false, if_true] <;> refine cmp_congr ?_ ?_ <;> omega

theorem signed_sgn (s : Bool) (m k : Nat) : Ieee.signed s m k = sgn s (m * 2 ^ k) := by
  unfold Ieee.signed sgn
  rw [Nat.shiftLeft_eq]

theorem sgn_mul (s : Bool) (m p : Nat) : sgn s (m * p) = sgn s m * p := by
  unfold sgn
  cases s <;> simp [Int.neg_mul]

/-- Two numbers of one grid. -/
theorem order_grid (s t : Bool) (m n a b : Nat) (lp : Int) : Ieee.Datum.order (.number s m (lp + a)) (.number t n (lp + b)) = some (compare (sgn s (m * 2 ^ a)) (sgn t (n * 2 ^ b))) := by
  simp only [Ieee.Datum.order, Option.some.injEq]
  rw [signed_sgn, signed_sgn]
  have e0 : min (lp + (a : Int)) (lp + b) = lp + (min a b : Nat) := by omega
  rw [e0]
  have ea : (lp + (a : Int) - (lp + (min a b : Nat))).toNat = a - min a b := by omega
  have eb : (lp + (b : Int) - (lp + (min a b : Nat))).toNat = b - min a b := by omega
  rw [ea, eb]
  have ha : m * 2 ^ a = m * 2 ^ (a - min a b) * 2 ^ min a b := by rw [Nat.mul_assoc, ← Nat.pow_add]; congr 2; omega
  have hb : n * 2 ^ b = n * 2 ^ (b - min a b) * 2 ^ min a b := by rw [Nat.mul_assoc, ← Nat.pow_add]; congr 2; omega
  rw [ha, hb, sgn_mul s (m * 2 ^ (a - min a b)), sgn_mul t (n * 2 ^ (b - min a b))]
  exact (cmp_scale _ _ _ (Nat.pow_pos (by omega))).symm

/-- How bits read. -/
theorem read_is (x : Nat) : (rungB x < 9218868437227405312 ∧ ∃ m a : Nat, Ieee.double.read x = .number (isNeg x) m (Ieee.double.leastPlace + a) ∧ m * 2 ^ a = magB (rungB x)) ∨ (rungB x = 9218868437227405312 ∧ Ieee.double.read x = .infinity (isNeg x)) ∨ (9218868437227405312 < rungB x ∧ Ieee.double.read x = .nan (isNeg x) (rungB x - 9218868437227405312)) := by
  have e1 : Ieee.double.signWeight = 9223372036854775808 := by decide +kernel
  have e2 : Ieee.double.infRung = 9218868437227405312 := by decide +kernel
  have e3 : Ieee.double.binade = 4503599627370496 := by decide +kernel
  unfold Ieee.Format.read rungB isNeg magB
  simp only [e1, e2, e3]
  generalize x % 9223372036854775808 = r
  generalize (x / 9223372036854775808 % 2 == 1) = s
  by_cases h1 : r < 4503599627370496
  · left
    rw [if_pos h1, if_pos h1]
    exact ⟨by omega, r, 0, by simp, by simp⟩
  · rw [if_neg h1, if_neg h1]
    by_cases h2 : r < 9218868437227405312
    · left
      rw [if_pos h2]
      exact ⟨h2, _, _, rfl, rfl⟩
    · right
      rw [if_neg h2]
      by_cases h3 : r = 9218868437227405312
      · left; rw [if_pos h3]; exact ⟨h3, rfl⟩
      · right; rw [if_neg h3]; exact ⟨by omega, rfl⟩

theorem cmp_lt {a b : Int} (h : a < b) : compare a b = .lt := by simp only [compare, compareOfLessAndEq]; rw [if_pos h]
theorem cmp_gt {a b : Int} (h : b < a) : compare a b = .gt := by simp only [compare, compareOfLessAndEq]; rw [if_neg (by omega), if_neg (by omega)]

/-- THE ORDER OF FLOATS. -/
theorem order_key (x y : Nat) (hx : rungB x ≤ 9218868437227405312) (hy : rungB y ≤ 9218868437227405312) : FloatKind.f64.format.order x y = some (compare (sgn (isNeg x) (rungB x)) (sgn (isNeg y) (rungB y))) := by
  show (Ieee.double.read x).order (Ieee.double.read y) = _
  rcases read_is x with ⟨h1, m, a, e1, g1⟩ | ⟨h1, e1⟩ | ⟨h1, _⟩
  · rcases read_is y with ⟨h2, n, b, e2, g2⟩ | ⟨h2, e2⟩ | ⟨h2, _⟩
    · rw [e1, e2, order_grid, g1, g2, magB_cmp]
    · rw [e1, e2]
      generalize rungB x = r at *
      rw [h2]
      cases isNeg x <;> cases isNeg y <;> simp only [Ieee.Datum.order, sgn, Bool.false_eq_true, if_false, if_true, Option.some.injEq] <;> first | exact (cmp_lt (by omega)).symm | exact (cmp_gt (by omega)).symm
    · omega
  · rcases read_is y with ⟨h2, n, b, e2, g2⟩ | ⟨h2, e2⟩ | ⟨h2, _⟩
    · rw [e1, e2]
      generalize rungB y = r at *
      rw [h1]
      cases isNeg x <;> cases isNeg y <;> simp only [Ieee.Datum.order, sgn, Bool.false_eq_true, if_false, if_true, Option.some.injEq] <;> first | exact (cmp_lt (by omega)).symm | exact (cmp_gt (by omega)).symm
    · rw [e1, e2, h1, h2]
      cases isNeg x <;> cases isNeg y <;> decide
    · omega
  · omega

theorem nanB_rung (x : Nat) : nanB x = decide (9218868437227405312 < rungB x) := by
  unfold nanB
  by_cases h : 9218868437227405312 < rungB x
  · rcases read_is x with ⟨h1, _⟩ | ⟨h1, _⟩ | ⟨h1, e1⟩
    · omega
    · omega
    · have : FloatKind.f64.format.order x x = (Ieee.double.read x).order (Ieee.double.read x) := rfl
      rw [this, e1, decide_eq_true h]
      rfl
  · rw [order_key x x (by omega) (by omega), decide_eq_false h]
    simp [compare, compareOfLessAndEq]

end Go.Proofs.Ytinhdpiecifmhaa
/-
  tried OF PACKAGE value, BY ITS CONTRACT, where the work comes back.
-/
namespace Go.Proofs.Ytinhdpiecifmhaa
set_option linter.unusedVariables false
set_option linter.unusedSimpArgs false
open Go.RowKit

theorem catchV_idle (p : Addr) (w : World) (x : Bool) (hc : w.cell? p = some (.bool x)) (hz : w.frozen? p = false) :
    CallsD Try.prog 51 #[.pointer (some p)] .returning w fun e u' w' => e = .returned (.tuple #[]) ∧ u' = .returning ∧ w' = w.setCell p (.bool true) := by
  refine callsD_of_wpS Try.func51 rfl fun c₀ cs hu => ?_
  apply wpS_region
  simp [wpOpsS, go_sem, recoverD, hu, Try.ntmps51, Exit.thenS]
  simp [wpOpsS, go_sem, hc, hz, bodyPostS, results, Try.results51]
  cases c₀
  simp_all

set_option maxRecDepth 100000 in
theorem triedV_ok (k : Nat) (cap : Array Value) (v : Int) (w : World) (hen : ∀ w1, (callFunc k cap).run Try.prog w1 = .ok (.enter k cap) w1) (hw : ∀ w1, Touch w w1 [] → Calls Try.prog k cap w1 fun e w' => e = .returned (.int .u64 v) ∧ Touch w1 w' []) :
    Calls Try.prog 28 #[.func (.func k) #[] cap] w fun e w' => e = .returned (.tuple #[.int .u64 v, .bool true]) ∧ Touch w w' [] := by
  have hmf : ∀ (fn : Fn) (first cap : Array Value) (w : World), (Instr.makeFunc fn first cap).run Try.prog w = .ok (.func fn first cap) w := fun _ _ _ _ => rfl
  go_enter_defers Try.func28, Try.ntmps28
  go_wp2_with fail
  refine (hw _ ((Touch.refl w []).alloc _)).mono ?_
  rintro e w1 ⟨rfl, t1⟩
  have c0 : w1.cell? ⟨w.heap.size, 0, none⟩ = some (.bool false) := (t1.cell (p := ⟨w.heap.size, 0, none⟩) (by simp) (by simp)).trans (by simp [go_sem])
  have f0 : w1.frozen? ⟨w.heap.size, 0, none⟩ = false := (t1.frozen (p := ⟨w.heap.size, 0, none⟩) (by simp) (by simp)).trans (by simp [go_sem])
  have HT : Hid (Touch w w1 []) := ((Touch.refl w []).alloc _).trans t1 (by simp)
  clear t1 hw
  go_wp2
  have c1 : (w1.setCell ⟨w.heap.size, 0, none⟩ (.bool true)).cell? ⟨w.heap.size, 0, none⟩ = some (.bool true) := World.cell?_setCell_same _ _ _ c0
  have f1 : (w1.setCell ⟨w.heap.size, 0, none⟩ (.bool true)).frozen? ⟨w.heap.size, 0, none⟩ = false := by simp [f0]
  have HT1 : Hid (Touch w (w1.setCell ⟨w.heap.size, 0, none⟩ (.bool true)) []) := HT.out.setCell (.inr (Nat.le_refl _)) _
  generalize w1.setCell ⟨w.heap.size, 0, none⟩ (.bool true) = w2 at *
  clear c0 f0 HT
  refine leaves_cons (f := 51) (args := #[.pointer (some ⟨w.heap.size, 0, none⟩)]) (by simp) (by simp [go_sem]) ?_
  refine (catchV_idle ⟨w.heap.size, 0, none⟩ w2 true c1 f1).mono ?_
  rintro e u' w'' ⟨rfl, rfl, rfl⟩
  have c2 : (w2.setCell ⟨w.heap.size, 0, none⟩ (.bool true)).cell? ⟨w.heap.size, 0, none⟩ = some (.bool true) := World.cell?_setCell_same _ _ _ c1
  have HT2 : Hid (Touch w (w2.setCell ⟨w.heap.size, 0, none⟩ (.bool true)) []) := HT1.out.setCell (.inr (Nat.le_refl _)) _
  generalize w2.setCell ⟨w.heap.size, 0, none⟩ (.bool true) = w3 at *
  simp [Leaves, settle, results, Try.results28, go_sem, c2]
  exact HT2.out

end Go.Proofs.Ytinhdpiecifmhaa
/-
  Int and Whole of package value, where they can be.
-/
namespace Go.Proofs.Ytinhdpiecifmhaa
set_option linter.unusedVariables false
set_option linter.unusedSimpArgs false
open Go.RowKit

theorem need_ok (w : World) : Calls Try.prog 30 #[.bool true] w fun e w' => e = .returned (.tuple #[]) ∧ w = w' := by
  go_enter Try.func30, Try.ntmps30
  go_wp2
  go_end0
  exact ⟨rfl, rfl⟩

set_option maxRecDepth 100000 in
theorem int1_ok (p : Nat) (n : Int) (h0 : -9007199254740992 ≤ n) (h1 : n ≤ 9007199254740992) (w : World) (hc : w.cell? ⟨p, 0, none⟩ = some (.int .i64 n)) :
    Calls Try.prog 29 #[.pointer (some ⟨p, 0, none⟩)] w fun e w' => e = .returned (.int .u64 (ofB (floatOfInt .f64 n))) ∧ Touch w w' [] := by
  go_enter Try.func29, Try.ntmps29
  go_wp2_with fail
  refine (need_ok w).mono ?_
  rintro e w1 ⟨rfl, rfl⟩
  go_wp2_with fail
  refine (of_any _ w).mono ?_
  rintro e w1 ⟨rfl, rfl⟩
  go_wp2
  go_ret
  exact ⟨rfl, Touch.refl _ _⟩

theorem enter_of {k : Nat} {cap : Array Value} {fn : Func} (hf : Try.prog.funcs[k]? = some fn) (hn : (fn.name == "runtime.NumGoroutine") = false) (hb : fn.body.isNone = false) (w : World) : (callFunc k cap).run Try.prog w = .ok (.enter k cap) w := by
  simp only [callFunc, Sem.run_bind, run_program, Result.andThen_ok, hf, hn, hb, Bool.false_eq_true, if_false, Sem.run_pure]

/-- Int, of what is not too far from 0. -/
theorem int_ok (n : Int) (h0 : -9007199254740992 ≤ n) (h1 : n ≤ 9007199254740992) (w : World) :
    Calls Try.prog 11 #[.int .i64 n] w fun e w' => e = .returned (.tuple #[.int .u64 (ofB (floatOfInt .f64 n)), .bool true]) ∧ Touch w w' [] := by
  have hmf : ∀ (fn : Fn) (first cap : Array Value) (w : World), (Instr.makeFunc fn first cap).run Try.prog w = .ok (.func fn first cap) w := fun _ _ _ _ => rfl
  have hc := triedV_ok 29 #[.pointer (some ⟨w.heap.size, 0, none⟩)] (ofB (floatOfInt .f64 n)) (w.alloc (.cells #[.int .i64 n] 3)) (enter_of Try.func29 (by kernel_rfl) (by kernel_rfl))
    (fun w1 t => int1_ok w.heap.size n h0 h1 w1 ((t.cell (p := ⟨w.heap.size, 0, none⟩) (by simp) (by simp)).trans (by simp [go_sem])))
  generalize ofB (floatOfInt .f64 n) = x at *
  go_enter Try.func11, Try.ntmps11
  go_wp2_with fail
  refine hc.mono ?_
  rintro e w1 ⟨rfl, t1⟩
  clear hc
  go_wp2
  go_ret2
  exact ⟨rfl, ((Touch.refl w []).alloc _).trans t1 (by simp)⟩

/-- A float64 without its sign; its whole part. -/
def absB (x : Nat) : Nat := (bits .andNot .u64 (x : Int) 9223372036854775808).toNat
def truncB (x : Nat) : Nat := FloatKind.f64.encode ((FloatKind.f64.decode x).integral .zero)

/-- What makes a value a whole number that is not too far from 0. -/
structure WholeB (n i : Int) : Prop where
  ei : floatToIntVal .f64 (ofB n.toNat) .i64 = some i
  x : ∀ s t, FloatKind.f64.decode (ofB n.toNat) ≠ .nan s t
  A : (FloatKind.f64.format.order (absB (ofB n.toNat)) 4845873199050653696 == some Ordering.lt || FloatKind.f64.format.order (absB (ofB n.toNat)) 4845873199050653696 == some Ordering.eq) = true
  T : (FloatKind.f64.format.order (truncB (ofB n.toNat)) (ofB n.toNat) == some Ordering.eq) = true

theorem whole_m3 : ofB (floatOfInt .f64 (-3)) = 13837309855095848960 := by decide +kernel
theorem wholeB_m3 : WholeB (ofB (floatOfInt .f64 (-3)) : Nat) (-3) := by
  rw [whole_m3]
  refine ⟨by decide +kernel, ?_, by decide +kernel, by decide +kernel⟩
  have e : FloatKind.f64.decode (ofB (((13837309855095848960 : Nat) : Int)).toNat) = FloatKind.f64.decode 13837309855095848960 := by decide +kernel
  intro s t h
  have : ∀ s t, FloatKind.f64.decode 13837309855095848960 ≠ .nan s t := by
    intro s t h
    have h2 : (match FloatKind.f64.decode 13837309855095848960 with | .nan _ _ => true | _ => false) = false := by decide +kernel
    rw [h] at h2
    cases h2
  exact this s t (e ▸ h)

end Go.Proofs.Ytinhdpiecifmhaa
/-
  '+', '-', '*', '/' OF VALUES, BY CONTRACT: what is invalid is api.NaN, whatever bits the tape gives.
-/
namespace Go.Proofs.Ytinhdpiecifmhaa
set_option linter.unusedVariables false
set_option linter.unusedSimpArgs false
open Go.RowKit

theorem nan_frac (s f : Nat) (hs : s ≤ 1) (h0 : 0 < f) (h1 : f < 4503599627370496) : nanB (s * 9223372036854775808 + 9218868437227405312 + f) = true := by
  have e1 : Ieee.double.signWeight = 9223372036854775808 := by decide +kernel
  have e2 : Ieee.double.infRung = 9218868437227405312 := by decide +kernel
  have hr : ∃ a b, Ieee.double.read (s * 9223372036854775808 + 9218868437227405312 + f) = .nan a b := by
    have e3 : Ieee.double.binade = 4503599627370496 := by decide +kernel
    have hg : (s * 9223372036854775808 + 9218868437227405312 + f) % 9223372036854775808 = 9218868437227405312 + f := by omega
    unfold Ieee.Format.read
    simp only [e1, e2, e3, hg]
    rw [if_neg (by omega), if_neg (by omega), if_neg (by omega)]
    exact ⟨_, _, rfl⟩
  obtain ⟨a, b, hr⟩ := hr
  unfold nanB Ieee.Format.order
  have hr' : FloatKind.f64.format.read (s * 9223372036854775808 + 9218868437227405312 + f) = .nan a b := hr
  rw [hr']
  rfl

/-- What '+', '-', '*', '/' come to. -/
def arithB (op : BinOp) (x y : Nat) : Nat := match floatBits op .f64 x y with | some r => ofB r | none => 9221120237041090560

theorem arith_none (op : BinOp) (t : TypeId) (x y : Nat) (ho : op = .add ∨ op = .sub ∨ op = .mul ∨ op = .quo) (h : floatBits op .f64 x y = none) (w : World) :
    ∃ r : Nat, nanB r = true ∧ (binOp op t (.float .f64 x) (.float .f64 y)).run Try.prog w = .ok (.float .f64 r) w.drew := by
  refine ⟨(w.tape w.drawn (.nanBits .f64 x y) % 2) * 2 ^ 63 + 0x7ff0000000000000 + 1 + (w.tape w.drawn (.nanBits .f64 x y) / 2) % (2 ^ 52 - 1), ?_, ?_⟩
  · have := nan_frac (w.tape w.drawn (.nanBits .f64 x y) % 2) (1 + (w.tape w.drawn (.nanBits .f64 x y) / 2) % (2 ^ 52 - 1)) (by omega) (by omega) (by omega)
    rw [← Nat.add_assoc] at this
    exact this
  · rcases ho with rfl | rfl | rfl | rfl
    all_goals
      unfold floatBits at h
      simp only at h
      simp [binOp, Op.floatArith, h, run_choose_drew, Question.forced, Question.cut]

theorem add_any (a b : Int) (w : World) : Calls Try.prog 9 #[.int .u64 a, .int .u64 b] w fun e w' => e = .returned (.int .u64 (arithB .add (ofB a.toNat) (ofB b.toNat))) ∧ Touch w w' [] := by
  unfold arithB
  have hfa := fun w => float_any a w
  have hfb := fun w => float_any b w
  generalize ofB a.toNat = x at *
  generalize ofB b.toNat = y at *
  cases hb : floatBits .add .f64 x y with
  | some r =>
    have hop : ∀ w : World, (binOp .add 83 (.float .f64 x) (.float .f64 y)).run Try.prog w = .ok (.float .f64 r) w := fun w => run_float_arith w .add _ .f64 x y r hb
    clear hb
    go_enter Try.func9, Try.ntmps9
    go_wp2_with fail
    refine (hfa w).mono ?_
    rintro e w1 ⟨rfl, rfl⟩
    go_wp2_with fail
    refine (hfb w).mono ?_
    rintro e w1 ⟨rfl, rfl⟩
    go_wp2_with fail
    refine (of_any r w).mono ?_
    rintro e w1 ⟨rfl, rfl⟩
    go_wp2
    go_ret
    exact ⟨rfl, Touch.refl _ _⟩
  | none =>
    obtain ⟨r, hr, hop⟩ : ∃ r : Nat, nanB r = true ∧ (binOp .add 83 (.float .f64 x) (.float .f64 y)).run Try.prog w = .ok (.float .f64 r) w.drew := arith_none .add 83 x y (by simp) hb w
    have ho := of_any r w.drew
    have e : ofB r = 9221120237041090560 := by unfold ofB; rw [if_pos hr]
    rw [e] at ho
    clear hb hr e
    go_enter Try.func9, Try.ntmps9
    go_wp2_with fail
    refine (hfa w).mono ?_
    rintro e w1 ⟨rfl, rfl⟩
    go_wp2_with fail
    refine (hfb w).mono ?_
    rintro e w1 ⟨rfl, rfl⟩
    go_wp2_with fail
    refine ho.mono ?_
    rintro e w1 ⟨rfl, rfl⟩
    go_wp2
    go_ret
    exact ⟨rfl, (Touch.refl w []).drew⟩

end Go.Proofs.Ytinhdpiecifmhaa

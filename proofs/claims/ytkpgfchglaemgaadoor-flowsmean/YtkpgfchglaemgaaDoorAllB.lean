/-
  package code: Encode OF ONE INSTRUCTION BY ITS CONTRACT.
-/
import Derived.Test.YtkpgfchglaemgaaDoorAllA
import Derived.Deep.QuietTactic
import Derived.BigQuiet
import Derived.Deep.RegionHeld3
import Derived.Deep.RegionLaw
import Derived.Lib.SliceRun
import Derived.Defers
import Derived.Recover
import Derived.Laws.Pointers
import Derived.Lib.AppendZeros
import Derived.Deep.MidRow
namespace Go.Proofs.YtkpgfchglaemgaaDoor
set_option linter.unusedVariables false
set_option linter.unusedSimpArgs false
open Go.RowKit

/-- Bytes that can be read, with their room. -/
structure BytAt (w : World) (ao : Option Addr) (n cap : Nat) (l : List Int) : Prop where
  len : n = l.length
  row : BRow w (.slice ao l.length cap) l
  le : n ≤ cap
  max : cap ≤ 9223372036854775807
theorem BytAt.keep {w w' : World} {ao : Option Addr} {n cap : Nat} {l : List Int} (h : BytAt w ao n cap l) (t : Touch w w' []) : BytAt w' ao n cap l := ⟨h.len, SRow.keep h.row t (by simp), h.le, h.max⟩
theorem BytAt.str {w : World} {ao : Option Addr} {n cap : Nat} {l : List Int} (h : BytAt w ao n cap l) : (convert 132 9 (.slice ao n cap)).run Tryd.prog w = .ok (.string (strOfNums l)) w := by
  rw [h.len]; exact str_of h.row
theorem BytAt.take {w : World} {ao : Option Addr} {n cap : Nat} {l : List Int} (h : BytAt w ao n cap l) (m : Nat) (hm : m ≤ n) : BytAt w ao m cap (l.take m) := by
  have hl : (l.take m).length = m := by rw [List.length_take, ← h.len]; omega
  refine ⟨hl.symm, ?_, by have := h.le; omega, h.max⟩
  have h2 : BRow w (.slice ao (l.take m ++ l.drop m).length cap) (l.take m ++ l.drop m) := by rw [List.take_append_drop]; exact h.row
  exact brow_take h2 cap
theorem byt_at {w : World} {B : Nat} {v : Value} {l : List Int} (h : bytOwn w B v l) : ∃ ao cap, v = .slice ao l.length cap ∧ BytAt w ao l.length cap l := by
  have hr : BRow w v l := srow_of (cells := ucell) (n := 1) (fun _ => rfl) (by rw [flat_one]; exact h)
  rcases h.2 with ⟨e5, h5⟩ | ⟨g5, cap5, cur5, e5, hb5, _, hn5, hm5, _⟩
  · subst e5
    exact ⟨none, 0, by rw [h5], ⟨rfl, by rw [h5]; exact hr, by omega, by omega⟩⟩
  · subst e5
    exact ⟨_, cap5, rfl, ⟨rfl, hr, hn5, by unfold maxLen at hm5; omega⟩⟩

/-- What Encode of one comes to: r: is it right? its n bytes l. -/
def OnePost (W : World) (r : Bool) (n : Nat) (l : List Int) (e : Ending) (w' : World) : Prop :=
  (r = true ∧ ∃ ao cap, e = .returned (.tuple #[.slice ao n cap, .int .i64 0]) ∧ BytAt w' ao n cap l ∧ Touch W w' []) ∨ (r = false ∧ e = .returned (.tuple #[.slice none 0 0, .int .i64 3]) ∧ Touch W w' [])
end Go.Proofs.YtkpgfchglaemgaaDoor
/-
  A slice that came in: its length, and how far it may go.
-/
namespace Go.Proofs.YtkpgfchglaemgaaDoor
set_option linter.unusedVariables false
set_option linter.unusedSimpArgs false
open Go.ChangeShapes Go.WideShapes Go.ChangeAt Go.RowKit Go.Joins Go.Deep

theorem caps_of_trod {H : Type} {enc : TypeId × Value → H} {W : World} {T E : TypeId} (hu : Tryd.prog.underlying T = some (.slice E))
    {ao : Option Addr} {len cap : Nat} {d : DataW H} {p : List MemPlace} (h : DataW.Trod enc Tryd.prog W 0 (fun _ => true) true T (.slice ao len cap) d p) : len ≤ cap ∧ cap ≤ maxLen := by
  obtain ⟨fuel, hf⟩ := h
  rcases open_slice hu hf with ⟨hcs, _⟩ | ⟨a, len', cap', m, n', D, Pl, hcs, _, hl, hm, hmm, _, hx⟩
  · simp [Value.cells] at hcs
    obtain ⟨rfl, rfl, rfl⟩ := hcs
    exact ⟨Nat.le_refl _, by unfold maxLen; omega⟩
  · simp [Value.cells] at hcs
    obtain ⟨rfl, rfl, rfl⟩ := hcs
    exact ⟨hl, hm⟩

/-- The first ones of a row. -/
theorem SRow.first {α : Type} {n : Nat} {cells : α → List Value} {w : World} {ao : Option Addr} {cap : Nat} {l : List α} (h : SRow n cells w (.slice ao l.length cap) l) (m : Nat) (hm : m ≤ l.length) : SRow n cells w (.slice ao (l.take m).length cap) (l.take m) := by
  obtain ⟨ao', cap', e, h1⟩ := h
  simp only [Value.slice.injEq, true_and] at e
  obtain ⟨rfl, rfl⟩ := e
  refine ⟨ao, cap, rfl, fun hne => ?_⟩
  obtain ⟨g, off, rfl, hlt, hc⟩ := h1 (by intro e; rw [e] at hne; simp at hne)
  exact ⟨g, off, rfl, hlt, fun k hk j hj => by rw [List.getElem_take]; exact hc k (by simp at hk; omega) j hj⟩

end Go.Proofs.YtkpgfchglaemgaaDoor
/-
  few OF THE STATEMENTS ON code, BY ITS CONTRACT; INSTRUCTIONS, ONE ROW BEHIND THE OTHER.
-/
namespace Go.Proofs.YtkpgfchglaemgaaDoor
set_option linter.unusedVariables false
set_option linter.unusedSimpArgs false
open Go.RowKit

/-- Instructions that came in: they can be read. -/
structure InsIn (w : World) (ao : Option Addr) (n cap : Nat) (l : List InsD) : Prop where
  len : n = l.length
  row : InsRowC w (.slice ao l.length cap) l
  le : n ≤ cap
  max : cap ≤ 9223372036854775807
  wf : ∀ i ∈ l, i.Wf
theorem InsIn.keep {w w' : World} {ao : Option Addr} {n cap : Nat} {l : List InsD} (h : InsIn w ao n cap l) (t : Touch w w' []) : InsIn w' ao n cap l := ⟨h.len, SRow.keep h.row t (by simp), h.le, h.max, h.wf⟩
theorem InsIn.first {w : World} {ao : Option Addr} {n cap : Nat} {l : List InsD} (h : InsIn w ao n cap l) (m : Nat) (hm : m ≤ n) : InsIn w ao m cap (l.take m) := by
  have hl : (l.take m).length = m := by rw [List.length_take, ← h.len]; omega
  refine ⟨hl.symm, SRow.first h.row m (by rw [← h.len]; exact hm), by have := h.le; omega, h.max, fun i hi => h.wf i (List.mem_of_mem_take hi)⟩

/-- append of instructions that can be read to a row of one's own. -/
theorem ins_app {w : World} {B : Nat} {v : Value} {xs : List InsD} (h : insOwn w B v xs) (hl : xs.length ≤ 1000) (hB : B ≤ w.heap.size) {ao : Option Addr} {n cap : Nat} {l : List InsD} (hr : InsIn w ao n cap l) (hn : n ≤ 1000) (ty : TypeId) :
    ∃ ao' cap' w', (Builtin.append_ #[27, 27] ty #[v, .slice ao n cap]).run Tryd.prog w = .ok (.slice ao' (xs.length + n) cap') w' ∧ insOwn w' B (.slice ao' (xs.length + n) cap') (xs ++ l) ∧ Touch w w' v.ownBlock.toList := by
  obtain ⟨i0, hi, hz0, hz1, hz2⟩ := info_parts' Tryd.info_ins
  have hlen := hr.len
  subst hlen
  obtain ⟨v', w', h1, h2, h3, h4⟩ := run_app (P := Tryd.prog) (cells := InsD.cells) 27 ty 62 i0 _ 3 24 Tryd.underlying27 hi hz0 hz1 hz2 rfl (by decide) (fun _ => rfl) ins_one h (l := l) hr.row (by omega) (by decide) hB
  have h2' : insOwn w' B v' (xs ++ l) := by
    show w'.ownsRow _ _ _ _ _ _
    rw [List.length_append, List.flatMap_append]
    exact h2
  obtain ⟨ao', cap', rfl⟩ := owns_slice h2
  exact ⟨ao', cap', w', h1, h2', (Touch.refl w _).grown h3 (fun k hk => .inl (by simp [hk]))⟩
theorem ins_empty (w : World) : insOwn (w.alloc (.cells #[] 62)) w.heap.size (.slice (some ⟨w.heap.size, 0, none⟩) 0 0) [] := empty_row w 62 3

theorem insIn_of {w : World} {B : Nat} {v : Value} {l : List InsD} (h : insOwn w B v l) (hw : ∀ i ∈ l, i.Wf) : ∃ ao cap, v = .slice ao l.length cap ∧ InsIn w ao l.length cap l := by
  have hr : InsRowC w v l := srow_of (cells := InsD.cells) (n := 3) (fun _ => rfl) h
  rcases h.2 with ⟨e5, h5⟩ | ⟨g5, cap5, cur5, e5, hb5, _, hn5, hm5, _⟩
  · subst e5
    exact ⟨none, 0, by rw [h5], ⟨rfl, by rw [h5]; exact hr, by omega, by omega, hw⟩⟩
  · subst e5
    exact ⟨_, cap5, rfl, ⟨rfl, hr, hn5, by unfold maxLen at hm5; omega, hw⟩⟩

/-- What Encode comes to, in the same words: r: are they right? their bytes. -/
def EncP (w : World) (r : Bool) (n : Nat) (l : List Int) (e : Ending) (w' : World) : Prop :=
  (r = true ∧ ∃ ao cap, e = .returned (.tuple #[.slice ao n cap, .int .i64 0]) ∧ BytAt w' ao n cap l ∧ Touch w w' []) ∨ (r = false ∧ e = .returned (.tuple #[.slice none 0 0, .int .i64 3]) ∧ Touch w w' [])
theorem encL_append (l m : List InsD) : encL (l ++ m) = encL l ++ encL m := by unfold encL; rw [List.flatMap_append]
theorem strOf_append (a b : List Int) : strOfNums (a ++ b) = strOfNums a ++ strOfNums b := by
  apply ba_ext
  rw [strOfNums_data]
  simp [strOfNums]

end Go.Proofs.YtkpgfchglaemgaaDoor
/-
  THE DOCUMENT's Same OF INSTRUCTIONS THAT ARE THE SAME; AN ARGUMENT OF BYTES.
-/
namespace Go.Proofs.YtkpgfchglaemgaaDoor
set_option linter.unusedVariables false
set_option linter.unusedSimpArgs false
open Go.RowKit
attribute [local go_sem] Oper.semAt_some

end Go.Proofs.YtkpgfchglaemgaaDoor
/-
  AN INSTRUCTION IN A BLOCK OF ITS OWN. No walk.
-/
namespace Go.Proofs.YtkpgfchglaemgaaDoor
set_option linter.unusedVariables false
set_option linter.unusedSimpArgs false
open Go.RowKit

/-- An instruction in a block of its own. -/
structure BoxI (W : World) (p : Nat) (o a v : Int) : Prop where
  st : W.heap[p]? = some (.cells #[.int .u8 o, .int .i64 a, .int .u64 v] 62 (0, 0))
theorem BoxI.touch {W W' : World} {p : Nat} {o a v : Int} {S : List Nat} (h : BoxI W p o a v) (t : Touch W W' S) (hS : p ∉ S) : BoxI W' p o a v := ⟨(t.block p (lt_of_heap h.st) hS).trans h.st⟩
theorem BoxI.cells {W : World} {p : Nat} {o a v : Int} (h : BoxI W p o a v) : W.cell? ⟨p, 0, none⟩ = some (.int .u8 o) ∧ W.cell? ⟨p, 1, none⟩ = some (.int .i64 a) ∧ W.cell? ⟨p, 2, none⟩ = some (.int .u64 v) :=
  ⟨by unfold World.cell?; rw [h.st]; rfl, by unfold World.cell?; rw [h.st]; rfl, by unfold World.cell?; rw [h.st]; rfl⟩
theorem BoxI.fr {W : World} {p : Nat} {o a v : Int} (h : BoxI W p o a v) (j : Nat) : W.frozen? ⟨p, j, none⟩ = false := by unfold World.frozen?; rw [h.st]; simp
theorem BoxI.set1 {W : World} {p : Nat} {o a v : Int} (h : BoxI W p o a v) (x : Int) : BoxI (W.setCell ⟨p, 1, none⟩ (.int .i64 x)) p o x v := ⟨heap_setCell_same _ _ _ _ _ _ h.st⟩
theorem BoxI.set2 {W : World} {p : Nat} {o a v : Int} (h : BoxI W p o a v) (x : Int) : BoxI (W.setCell ⟨p, 2, none⟩ (.int .u64 x)) p o a x := ⟨heap_setCell_same _ _ _ _ _ _ h.st⟩
theorem BoxI.set0 {W : World} {p : Nat} {o a v : Int} (h : BoxI W p o a v) (x : Int) : BoxI (W.setCell ⟨p, 0, none⟩ (.int .u8 x)) p x a v := ⟨heap_setCell_same _ _ _ _ _ _ h.st⟩
theorem BoxI.lt {W : World} {p : Nat} {o a v : Int} (h : BoxI W p o a v) : p < W.heap.size := lt_of_heap h.st
theorem BoxI.new (w : World) (o a v : Int) : BoxI (w.alloc (.cells #[.int .u8 o, .int .i64 a, .int .u64 v] 62)) w.heap.size o a v := ⟨heap_alloc_new w _⟩

end Go.Proofs.YtkpgfchglaemgaaDoor
/-
  package locks AND THE DOCUMENT's: THE SMALL CALLS, BY THEIR CONTRACTS.
-/
namespace Go.Proofs.YtkpgfchglaemgaaDoor
set_option linter.unusedVariables false
set_option linter.unusedSimpArgs false
open Go.RowKit
attribute [local go_sem] Oper.semAt_some

/-- A number as a value. -/
def numV (n : Int) : Int := ((ofB (floatOfInt .f64 n) : Nat) : Int)
def insP (n : Int) : InsD := ⟨1, 0, numV n⟩
def insO (o a : Int) : InsD := ⟨o, a, 0⟩
theorem insO_v (o a : Int) : (insO o a).v = .agg #[.int .u8 o, .int .i64 a, .int .u64 0] := rfl
theorem insP_v (n : Int) : (insP n).v = .agg #[.int .u8 1, .int .i64 0, .int .u64 (numV n)] := rfl

def goesP (o : Int) : Bool := decide (o = 21) || (decide (o = 19) || decide (o = 20))

def mayP (a t w : Int) : Bool := decide (0 ≤ a) && decide (a ≤ 64) && (decide (0 ≤ t) && decide (t < 12)) && (decide (0 ≤ w) && decide (w < 4))

end Go.Proofs.YtkpgfchglaemgaaDoor
/-
  package locks: joined BY ITS CONTRACT: rows of instructions, one behind the other.
-/
namespace Go.Proofs.YtkpgfchglaemgaaDoor
set_option linter.unusedVariables false
set_option linter.unusedSimpArgs false
open Go.RowKit
attribute [local go_sem] Oper.semAt_some

/-- append to a row whose room is cut to its length: a new row. -/
theorem ins_join {w : World} {B g c0 : Nat} {xs : List InsD} (h : insOwn w B (.slice (some ⟨g, 0, none⟩) xs.length c0) xs) (hl : xs.length ≤ 1000) {ao : Option Addr} {cap : Nat} {l : List InsD} (hr : InsIn w ao l.length cap l) (hn : l.length ≤ 1000) (hne : l ≠ []) (ty : TypeId) :
    ∃ cap' w', (Builtin.append_ #[27, 27] ty #[.slice (some ⟨g, 0, none⟩) xs.length xs.length, .slice ao l.length cap]).run Tryd.prog w = .ok (.slice (some ⟨w.heap.size, 0, none⟩) (xs.length + l.length) cap') w' ∧ insOwn w' w.heap.size (.slice (some ⟨w.heap.size, 0, none⟩) (xs.length + l.length) cap') (xs ++ l) ∧ Touch w w' [] := by
  obtain ⟨i0, hi, hz0, hz1, hz2⟩ := info_parts' Tryd.info_ins
  have hpos : 0 < l.length := List.length_pos_iff.2 hne
  have hsr := hr.row
  obtain ⟨g1, off, rfl, _, _⟩ := hsr.at 0 hpos
  have hnews : ∀ j u, (l.flatMap InsD.cells)[j]? = some u → w.cell? ((⟨g1, off, none⟩ : Addr).add j) = some u := by
    intro j u hu
    have hj : j < l.length * 3 := by
      have := (List.getElem?_eq_some_iff.1 hu).1
      rwa [flat_len (cells := InsD.cells) (n := 3) (fun _ => rfl)] at this
    have hk : j / 3 < l.length := Nat.div_lt_of_lt_mul (by omega)
    have hj2 : j % 3 < 3 := Nat.mod_lt _ (by decide)
    obtain ⟨g', off', e, _, hcc⟩ := hsr.at (j / 3) hk
    cases e
    have hjj : j = j / 3 * 3 + j % 3 := by omega
    have h2 := flat_at (cells := InsD.cells) (n := 3) (fun _ => rfl) l (j / 3) hk (j % 3) hj2
    rw [← hjj, hu] at h2
    have h3 := hcc (j % 3) hj2
    rw [Nat.add_assoc, ← hjj, ← h2] at h3
    rw [Addr.add_lit]
    exact h3
  have hlx : (xs.flatMap InsD.cells).length = xs.length * i0.size := by rw [hz1, flat_len (n := 3) (fun _ => rfl)]
  have hll : (l.flatMap InsD.cells).length = l.length * i0.size := by rw [hz1, flat_len (n := 3) (fun _ => rfl)]
  have hr2 := run_append_grow (P := Tryd.prog) w 27 ty 62 i0 _ Tryd.underlying27 hi hz0 ⟨g, 0, none⟩ xs.length xs.length (xs.flatMap InsD.cells) hlx (h.cells (g := g) rfl)
    ⟨g1, off, none⟩ l.length cap (l.flatMap InsD.cells) hll hnews (by omega) (by omega) (growslice_fits (by omega) (by rw [hz2]; omega))
  refine ⟨_, _, hr2, ⟨?_, .inr ⟨w.heap.size, _, _, by rw [List.length_append], Nat.le_refl _, heap_alloc_new w.drew _, ?_, ?_, ?_, ?_⟩⟩, (Touch.refl w []).drew.alloc _⟩
  · rw [flat_len (n := 3) (fun _ => rfl)]
  · rw [List.length_append]; exact grownCap_ge w _ _ _
  · exact grownCap_le_maxLen w _ _ _ (by unfold maxLen; omega)
  · have hge := grownCap_ge w (xs.length + l.length) xs.length 62
    generalize grownCap w (xs.length + l.length) xs.length 62 = gc at *
    rw [Array.size_append, Array.size_append, List.size_toArray, List.size_toArray, size_zeroCells, hlx, hll, hz1]
    have e3 : (Value.agg #[.int .u8 0, .int .i64 0, .int .u64 0]).cells.size = 3 := by rfl
    rw [e3]
    omega
  · simp only [Array.toList_append, List.append_assoc]
    rw [← List.append_assoc, ← List.flatMap_append]
    have : (xs ++ l).length * 3 = ((xs ++ l).flatMap InsD.cells).length := by rw [flat_len (n := 3) (fun _ => rfl)]
    rw [this]
    exact List.take_left

/-- Rows of instructions that can be read. -/
structure RowsAt (w : World) (g : Nat) (L : List (List InsD)) : Prop where
  row : ∀ k (hk : k < L.length), ∃ ao cap, w.cell? ⟨g, k, none⟩ = some (.slice ao L[k].length cap) ∧ InsIn w ao L[k].length cap L[k]
  ne : ∀ l ∈ L, l ≠ []
theorem RowsAt.lt {w : World} {g : Nat} {L : List (List InsD)} (h : RowsAt w g L) (k : Nat) (hk : k < L.length) : g < w.heap.size := by
  obtain ⟨_, _, hc, _⟩ := h.row k hk
  exact World.block_lt_of_cell? _ _ hc
theorem RowsAt.keep {w w' : World} {g : Nat} {L : List (List InsD)} (h : RowsAt w g L) (t : Touch w w' []) : RowsAt w' g L := by
  refine ⟨fun k hk => ?_, h.ne⟩
  obtain ⟨ao, cap, hc, hi⟩ := h.row k hk
  exact ⟨ao, cap, (t.cell (p := ⟨g, k, none⟩) (h.lt k hk) (by simp)).trans hc, hi.keep t⟩

theorem flat_take {L : List (List InsD)} (k : Nat) (hk : k < L.length) : (L.take (k + 1)).flatten = (L.take k).flatten ++ L[k] := by
  rw [List.take_succ_eq_append_getElem hk, List.flatten_append]
  simp
theorem flat_le {L : List (List InsD)} (k : Nat) : (L.take k).flatten.length ≤ L.flatten.length := by
  have : L.flatten = (L.take k).flatten ++ (L.drop k).flatten := by rw [← List.flatten_append, List.take_append_drop]
  rw [this, List.length_append]
  omega
theorem row_le {L : List (List InsD)} (k : Nat) (hk : k < L.length) : L[k].length ≤ L.flatten.length := by
  have h1 := flat_take k hk
  have h2 := flat_le (L := L) (k + 1)
  rw [h1, List.length_append] at h2
  omega

end Go.Proofs.YtkpgfchglaemgaaDoor
/-
  package locks: block BY ITS CONTRACT.
-/
namespace Go.Proofs.YtkpgfchglaemgaaDoor
set_option linter.unusedVariables false
set_option linter.unusedSimpArgs false
open Go.RowKit
attribute [local go_sem] Oper.semAt_some

/-- An instruction from a place on. -/
def shI (a : Int) (i : InsD) : InsD := if goesP i.op then ⟨i.op, i.arg + a, i.val⟩ else i
def mixL (a : Int) (M : List InsD) (k : Nat) : List InsD := (M.take k).map (shI a) ++ M.drop k
theorem mix_len (a : Int) (M : List InsD) (k : Nat) (hk : k ≤ M.length) : (mixL a M k).length = M.length := by
  unfold mixL; rw [List.length_append, List.length_map, List.length_take, List.length_drop]; omega
theorem mix_zero (a : Int) (M : List InsD) : mixL a M 0 = M := by unfold mixL; simp
theorem mix_all (a : Int) (M : List InsD) : mixL a M M.length = M.map (shI a) := by unfold mixL; simp
theorem mix_get (a : Int) (M : List InsD) (k : Nat) (hk : k < M.length) : (mixL a M k)[k]'(by rw [mix_len a M k (by omega)]; exact hk) = M[k] := by
  unfold mixL
  rw [List.getElem_append_right (by rw [List.length_map, List.length_take]; omega)]
  simp [List.length_take, Nat.min_eq_left (Nat.le_of_lt hk)]
theorem mix_succ (a : Int) (M : List InsD) (k : Nat) (hk : k < M.length) : mixL a M (k + 1) = (mixL a M k).set k (shI a M[k]) := by
  unfold mixL
  rw [List.take_succ_eq_append_getElem hk, List.map_append, List.append_assoc]
  have hl : ((M.take k).map (shI a)).length = k := by rw [List.length_map, List.length_take]; omega
  rw [List.set_append_right _ _ (by omega), hl, Nat.sub_self]
  congr 1
  rw [List.drop_eq_getElem_cons hk, List.set_cons_zero]
  rfl
theorem mix_same (a : Int) (M : List InsD) (k : Nat) (hk : k < M.length) (hg : goesP M[k].op = false) : mixL a M (k + 1) = mixL a M k := by
  rw [mix_succ a M k hk]
  have hs : shI a M[k] = M[k] := by unfold shI; rw [hg]; simp
  rw [hs]
  have := mix_get a M k hk
  conv => lhs; rw [← this]
  exact List.set_getElem_self _

theorem lk_set {w : World} {B g cap n m : Nat} {e : TypeId} {xs : List Value} (h : w.ownsRow B e m (.slice (some ⟨g, 0, none⟩) n cap) n xs) (i : Nat) (u : Value) :
    (w.setCell ⟨g, i, none⟩ u).ownsRow B e m (.slice (some ⟨g, 0, none⟩) n cap) n (xs.set i u) := by
  refine ⟨by have := h.1; simpa using this, .inr ?_⟩
  rcases h.2 with ⟨e, _⟩ | ⟨g', cap', cur, e, hB, hg, h1, h2, h3, h4⟩
  · simp at e
  · simp only [Value.slice.injEq, Option.some.injEq, Addr.mk.injEq] at e
    obtain ⟨⟨rfl, _⟩, _, rfl⟩ := e
    refine ⟨g, cap, _, rfl, hB, heap_setCell_same _ _ _ _ _ _ hg, h1, h2, by simpa using h3, ?_⟩
    rw [← h4]
    simp only [Array.toList_setIfInBounds]
    rw [List.take_set]
theorem flat_set (L : List InsD) : ∀ (k : Nat) (hk : k < L.length) (x : Int), (L.flatMap InsD.cells).set (k * 3 + 1) (.int .i64 x) = (L.set k ⟨L[k].op, x, L[k].val⟩).flatMap InsD.cells := by
  induction L with
  | nil => intro k hk; simp at hk
  | cons i L ih =>
    intro k hk x
    cases k with
    | zero => simp [InsD.cells]
    | succ k =>
      have h3 : (k + 1) * 3 + 1 = (k * 3 + 1) + 1 + 1 + 1 := by omega
      have := ih k (by simpa using hk) x
      rw [h3]
      simp [InsD.cells] at this ⊢
      exact this

/-- What the blocks come to: the error, or the instructions. -/
def LkP (w : World) (er : Int) (L : List InsD) (e : Ending) (w' : World) : Prop :=
  (er = 0 ∧ ∃ ao cap, e = .returned (.tuple #[.slice ao L.length cap, .int .i64 0]) ∧ InsIn w' ao L.length cap L ∧ Touch w w' []) ∨ (er ≠ 0 ∧ e = .returned (.tuple #[.slice none 0 0, .int .i64 er]) ∧ Touch w w' [])

/-- A block around a body. -/
def bodyL (b : List InsD) : List InsD := insO 21 (1 + b.length) :: (b ++ [insO 22 0])
def blkL (a : Int) (b : List InsD) : List InsD := (bodyL b).map (shI a)
def blkE (a : Int) (b : List InsD) : Int := if a + ((bodyL b).length : Nat) > 64 then 4 else 0

theorem ins_one_in (w : World) (x : InsD) (hx : x.Wf) : InsIn (w.alloc (.cells #[.int .u8 x.op, .int .i64 x.arg, .int .u64 x.val] 62)) (some ⟨w.heap.size, 0, none⟩) 1 1 [x] :=
  ⟨rfl, ins_new w x, Nat.le_refl _, by omega, fun i hi => by rw [List.mem_singleton.1 hi]; exact hx⟩
theorem three_rows {w1 W2 W3 : World} {a1 : Option Addr} {c1 : Nat} {b : List InsD} (hI : InsIn w1 a1 b.length c1 b) (hne : b ≠ []) (x y : InsD) (hx : x.Wf) (hy : y.Wf) (t2 : Touch w1 W2 []) (t3 : Touch (W2.alloc (.cells #[.int .u8 x.op, .int .i64 x.arg, .int .u64 x.val] 62)) W3 []) (ty : TypeId) :
    RowsAt ((W3.alloc (.cells #[.int .u8 y.op, .int .i64 y.arg, .int .u64 y.val] 62)).alloc (.cells #[.slice (some ⟨W2.heap.size, 0, none⟩) 1 1, .slice a1 b.length c1, .slice (some ⟨W3.heap.size, 0, none⟩) 1 1] ty)) (W3.heap.size + 1) [[x], b, [y]] := by
  have tA : Touch W2 (W2.alloc (.cells #[.int .u8 x.op, .int .i64 x.arg, .int .u64 x.val] 62)) [] := (Touch.refl _ _).alloc _
  have tB : Touch W3 (W3.alloc (.cells #[.int .u8 y.op, .int .i64 y.arg, .int .u64 y.val] 62)) [] := (Touch.refl _ _).alloc _
  have tC : ∀ o, Touch (W3.alloc (.cells #[.int .u8 y.op, .int .i64 y.arg, .int .u64 y.val] 62)) ((W3.alloc (.cells #[.int .u8 y.op, .int .i64 y.arg, .int .u64 y.val] 62)).alloc o) [] := fun o => (Touch.refl _ _).alloc _
  have hh : (W3.alloc (.cells #[.int .u8 y.op, .int .i64 y.arg, .int .u64 y.val] 62)).heap.size = W3.heap.size + 1 := by simp
  have hn := heap_alloc_new (W3.alloc (.cells #[.int .u8 y.op, .int .i64 y.arg, .int .u64 y.val] 62)) (.cells #[.slice (some ⟨W2.heap.size, 0, none⟩) 1 1, .slice a1 b.length c1, .slice (some ⟨W3.heap.size, 0, none⟩) 1 1] ty)
  rw [hh] at hn
  refine ⟨fun k hk => ?_, ?_⟩
  · match k, hk with
    | 0, _ => exact ⟨_, 1, by unfold World.cell?; rw [hn]; rfl, ((ins_one_in W2 x hx).keep (t3.trans tB (by simp))).keep (tC _)⟩
    | 1, _ => exact ⟨a1, c1, by unfold World.cell?; rw [hn]; rfl, (hI.keep ((t2.trans tA (by simp)).trans (t3.trans tB (by simp)) (by simp))).keep (tC _)⟩
    | 2, _ => exact ⟨_, 1, by unfold World.cell?; rw [hn]; rfl, (ins_one_in W3 y hy).keep (tC _)⟩
  · intro l hl
    simp only [List.mem_cons, List.not_mem_nil, or_false] at hl
    rcases hl with rfl | rfl | rfl
    · simp
    · exact hne
    · simp

theorem shI_wf {a : Int} (ha0 : 0 ≤ a) (ha1 : a ≤ 64) {i : InsD} (hi : i.Wf) (hb : 0 ≤ i.arg ∧ i.arg ≤ 1000) : (shI a i).Wf := by
  unfold shI
  split
  · exact ⟨hi.op, ⟨by show -9223372036854775808 ≤ i.arg + a; omega, by show i.arg + a ≤ 9223372036854775807; omega⟩, hi.val⟩
  · exact hi
theorem insO_wf {o a : Int} (h0 : 0 ≤ o) (h1 : o ≤ 255) (h2 : 0 ≤ a) (h3 : a ≤ 1000) : (insO o a).Wf := ⟨⟨h0, h1⟩, ⟨by show -9223372036854775808 ≤ a; omega, by show a ≤ 9223372036854775807; omega⟩, by unfold Wf64 insO; simp⟩

end Go.Proofs.YtkpgfchglaemgaaDoor
/-
  THE DOCUMENT's At AND may BY THEIR CONTRACTS.
-/
namespace Go.Proofs.YtkpgfchglaemgaaDoor
set_option linter.unusedVariables false
set_option linter.unusedSimpArgs false
open Go.RowKit
attribute [local go_sem] Oper.semAt_some

end Go.Proofs.YtkpgfchglaemgaaDoor
/-
  package locks: Lock, Unlock, Down, Up BY THEIR CONTRACTS. Written by mklk2.py.
-/
namespace Go.Proofs.YtkpgfchglaemgaaDoor
set_option linter.unusedVariables false
set_option linter.unusedSimpArgs false
open Go.RowKit
attribute [local go_sem] Oper.semAt_some

theorem numV_fin : ∀ n : Fin 16, ofB (floatOfInt .f64 (n.val : Int)) < 18446744073709551616 := by decide +kernel
theorem numV_wf (n : Int) (h : 0 ≤ n ∧ n ≤ 15) : Wf64 (numV n) := by
  have := numV_fin ⟨n.toNat, by omega⟩
  have e : ((n.toNat : Nat) : Int) = n := by omega
  simp only [e] at this
  unfold Wf64 numV
  omega
theorem insP_wf {n : Int} (h : 0 ≤ n ∧ n ≤ 15) : (insP n).Wf := ⟨⟨by show (0 : Int) ≤ 1; omega, by show (1 : Int) ≤ 255; omega⟩, ⟨by show (-9223372036854775808 : Int) ≤ 0; omega, by show (0 : Int) ≤ 9223372036854775807; omega⟩, numV_wf n h⟩

/-- A row that was just built. -/
theorem ins_lit (w : World) (l : List InsD) (cs : Array Value) (hcs : cs.toList = l.flatMap InsD.cells) (hw : ∀ i ∈ l, i.Wf) (hl : l.length ≤ 1000) : InsIn (w.alloc (.cells cs 62)) (some ⟨w.heap.size, 0, none⟩) l.length l.length l := by
  have hsz : cs.size = l.length * 3 := by rw [← Array.length_toList, hcs, flat_len (n := 3) (fun _ => rfl)]
  have ho : insOwn (w.alloc (.cells cs 62)) w.heap.size (.slice (some ⟨w.heap.size, 0, none⟩) l.length l.length) l :=
    ⟨flat_len (n := 3) (fun _ => rfl) l, .inr ⟨w.heap.size, l.length, cs, rfl, Nat.le_refl _, heap_alloc_new w _, Nat.le_refl _, by unfold maxLen; omega, hsz, by rw [← hsz, ← hcs, ← Array.length_toList, List.take_length]⟩⟩
  exact ⟨rfl, srow_of (cells := InsD.cells) (n := 3) (fun _ => rfl) ho, Nat.le_refl _, by omega, hw⟩
theorem LkP.up {w W : World} {er : Int} {L : List InsD} {e : Ending} {w' : World} (t : Touch w W []) (h : LkP W er L e w') : LkP w er L e w' := by
  rcases h with ⟨h1, ao, cap, h2, h3, h4⟩ | ⟨h1, h2, h4⟩
  · exact .inl ⟨h1, ao, cap, h2, h3, t.trans h4 (by simp)⟩
  · exact .inr ⟨h1, h2, t.trans h4 (by simp)⟩
theorem rows1 {W : World} {a1 : Option Addr} {c1 : Nat} {l1 : List InsD} (h1 : InsIn W a1 l1.length c1 l1) (n1 : l1 ≠ []) (ty : TypeId) : RowsAt (W.alloc (.cells #[.slice a1 l1.length c1] ty)) W.heap.size [l1] := by
  have hn := heap_alloc_new W (.cells #[.slice a1 l1.length c1] ty)
  have t : Touch W (W.alloc (.cells #[.slice a1 l1.length c1] ty)) [] := (Touch.refl _ _).alloc _
  refine ⟨fun k hk => ?_, by simp [n1]⟩
  match k, hk with
  | 0, _ => exact ⟨a1, c1, by unfold World.cell?; rw [hn]; rfl, h1.keep t⟩
theorem rows2 {W : World} {a1 a2 : Option Addr} {c1 c2 : Nat} {l1 l2 : List InsD} (h1 : InsIn W a1 l1.length c1 l1) (h2 : InsIn W a2 l2.length c2 l2) (n1 : l1 ≠ []) (n2 : l2 ≠ []) (ty : TypeId) : RowsAt (W.alloc (.cells #[.slice a1 l1.length c1, .slice a2 l2.length c2] ty)) W.heap.size [l1, l2] := by
  have hn := heap_alloc_new W (.cells #[.slice a1 l1.length c1, .slice a2 l2.length c2] ty)
  have t : Touch W (W.alloc (.cells #[.slice a1 l1.length c1, .slice a2 l2.length c2] ty)) [] := (Touch.refl _ _).alloc _
  refine ⟨fun k hk => ?_, by simp [n1, n2]⟩
  match k, hk with
  | 0, _ => exact ⟨a1, c1, by unfold World.cell?; rw [hn]; rfl, h1.keep t⟩
  | 1, _ => exact ⟨a2, c2, by unfold World.cell?; rw [hn]; rfl, h2.keep t⟩
theorem rows3 {W : World} {a1 a2 a3 : Option Addr} {c1 c2 c3 : Nat} {l1 l2 l3 : List InsD} (h1 : InsIn W a1 l1.length c1 l1) (h2 : InsIn W a2 l2.length c2 l2) (h3 : InsIn W a3 l3.length c3 l3) (n1 : l1 ≠ []) (n2 : l2 ≠ []) (n3 : l3 ≠ []) (ty : TypeId) : RowsAt (W.alloc (.cells #[.slice a1 l1.length c1, .slice a2 l2.length c2, .slice a3 l3.length c3] ty)) W.heap.size [l1, l2, l3] := by
  have hn := heap_alloc_new W (.cells #[.slice a1 l1.length c1, .slice a2 l2.length c2, .slice a3 l3.length c3] ty)
  have t : Touch W (W.alloc (.cells #[.slice a1 l1.length c1, .slice a2 l2.length c2, .slice a3 l3.length c3] ty)) [] := (Touch.refl _ _).alloc _
  refine ⟨fun k hk => ?_, by simp [n1, n2, n3]⟩
  match k, hk with
  | 0, _ => exact ⟨a1, c1, by unfold World.cell?; rw [hn]; rfl, h1.keep t⟩
  | 1, _ => exact ⟨a2, c2, by unfold World.cell?; rw [hn]; rfl, h2.keep t⟩
  | 2, _ => exact ⟨a3, c3, by unfold World.cell?; rw [hn]; rfl, h3.keep t⟩
def lockB (t u : Int) : List InsD := [insO 4 t, insO 20 4, insO 26 0, insP (1 + u), insO 5 t]
def lockR (t u : Int) : List (List InsD) := [[insO 4 t, insO 20 4, insO 26 0], [insP (1 + u), insO 5 t]]
def lockE (a : Int) (t u : Int) : Int := if mayP a t u then blkE a (lockB t u) else 2
theorem lock_in (t u : Int) (t0 : 0 ≤ t) (t1 : t < 12) (u0 : 0 ≤ u) (u1 : u < 4) : ∀ i ∈ lockB t u, i.Wf ∧ (0 ≤ i.arg ∧ i.arg ≤ 1000) ∧ i.op ≠ 23 ∧ i.op ≠ 24 := by
  intro i hi
  simp only [lockB, List.mem_cons, List.not_mem_nil, or_false] at hi
  rcases hi with rfl | rfl | rfl | rfl | rfl
  · exact ⟨insO_wf (by omega) (by omega) (by omega) (by omega), by unfold insO; simp <;> omega, by unfold insO; simp, by unfold insO; simp⟩
  · exact ⟨insO_wf (by omega) (by omega) (by omega) (by omega), by unfold insO; simp <;> omega, by unfold insO; simp, by unfold insO; simp⟩
  · exact ⟨insO_wf (by omega) (by omega) (by omega) (by omega), by unfold insO; simp <;> omega, by unfold insO; simp, by unfold insO; simp⟩
  · exact ⟨insP_wf (by omega), by unfold insP; simp <;> omega, by unfold insP; simp, by unfold insP; simp⟩
  · exact ⟨insO_wf (by omega) (by omega) (by omega) (by omega), by unfold insO; simp <;> omega, by unfold insO; simp, by unfold insO; simp⟩

def unlockB (t u : Int) : List InsD := [insO 4 t, insP (1 + u), insO 14 0, insO 20 9, insP (0), insO 5 t, insP (1), insO 19 10, insP (0)]
def unlockR (t u : Int) : List (List InsD) := [[insO 4 t, insP (1 + u), insO 14 0, insO 20 9], [insP (0), insO 5 t, insP (1), insO 19 10], [insP (0)]]
def unlockE (a : Int) (t u : Int) : Int := if mayP a t u then blkE a (unlockB t u) else 2
theorem unlock_in (t u : Int) (t0 : 0 ≤ t) (t1 : t < 12) (u0 : 0 ≤ u) (u1 : u < 4) : ∀ i ∈ unlockB t u, i.Wf ∧ (0 ≤ i.arg ∧ i.arg ≤ 1000) ∧ i.op ≠ 23 ∧ i.op ≠ 24 := by
  intro i hi
  simp only [unlockB, List.mem_cons, List.not_mem_nil, or_false] at hi
  rcases hi with rfl | rfl | rfl | rfl | rfl | rfl | rfl | rfl | rfl
  · exact ⟨insO_wf (by omega) (by omega) (by omega) (by omega), by unfold insO; simp <;> omega, by unfold insO; simp, by unfold insO; simp⟩
  · exact ⟨insP_wf (by omega), by unfold insP; simp <;> omega, by unfold insP; simp, by unfold insP; simp⟩
  · exact ⟨insO_wf (by omega) (by omega) (by omega) (by omega), by unfold insO; simp <;> omega, by unfold insO; simp, by unfold insO; simp⟩
  · exact ⟨insO_wf (by omega) (by omega) (by omega) (by omega), by unfold insO; simp <;> omega, by unfold insO; simp, by unfold insO; simp⟩
  · exact ⟨insP_wf (by omega), by unfold insP; simp <;> omega, by unfold insP; simp, by unfold insP; simp⟩
  · exact ⟨insO_wf (by omega) (by omega) (by omega) (by omega), by unfold insO; simp <;> omega, by unfold insO; simp, by unfold insO; simp⟩
  · exact ⟨insP_wf (by omega), by unfold insP; simp <;> omega, by unfold insP; simp, by unfold insP; simp⟩
  · exact ⟨insO_wf (by omega) (by omega) (by omega) (by omega), by unfold insO; simp <;> omega, by unfold insO; simp, by unfold insO; simp⟩
  · exact ⟨insP_wf (by omega), by unfold insP; simp <;> omega, by unfold insP; simp, by unfold insP; simp⟩

def downB (t : Int) : List InsD := [insO 4 t, insO 16 0, insO 20 8, insP (1), insO 9 0, insO 5 t, insO 19 9, insO 26 0]
def downR (t : Int) : List (List InsD) := [[insO 4 t, insO 16 0, insO 20 8], [insP (1), insO 9 0, insO 5 t, insO 19 9], [insO 26 0]]
def downE (a : Int) (t : Int) : Int := if mayP a t 0 then blkE a (downB t) else 2
theorem down_in (t : Int) (t0 : 0 ≤ t) (t1 : t < 12) : ∀ i ∈ downB t, i.Wf ∧ (0 ≤ i.arg ∧ i.arg ≤ 1000) ∧ i.op ≠ 23 ∧ i.op ≠ 24 := by
  intro i hi
  simp only [downB, List.mem_cons, List.not_mem_nil, or_false] at hi
  rcases hi with rfl | rfl | rfl | rfl | rfl | rfl | rfl | rfl
  · exact ⟨insO_wf (by omega) (by omega) (by omega) (by omega), by unfold insO; simp <;> omega, by unfold insO; simp, by unfold insO; simp⟩
  · exact ⟨insO_wf (by omega) (by omega) (by omega) (by omega), by unfold insO; simp <;> omega, by unfold insO; simp, by unfold insO; simp⟩
  · exact ⟨insO_wf (by omega) (by omega) (by omega) (by omega), by unfold insO; simp <;> omega, by unfold insO; simp, by unfold insO; simp⟩
  · exact ⟨insP_wf (by omega), by unfold insP; simp <;> omega, by unfold insP; simp, by unfold insP; simp⟩
  · exact ⟨insO_wf (by omega) (by omega) (by omega) (by omega), by unfold insO; simp <;> omega, by unfold insO; simp, by unfold insO; simp⟩
  · exact ⟨insO_wf (by omega) (by omega) (by omega) (by omega), by unfold insO; simp <;> omega, by unfold insO; simp, by unfold insO; simp⟩
  · exact ⟨insO_wf (by omega) (by omega) (by omega) (by omega), by unfold insO; simp <;> omega, by unfold insO; simp, by unfold insO; simp⟩
  · exact ⟨insO_wf (by omega) (by omega) (by omega) (by omega), by unfold insO; simp <;> omega, by unfold insO; simp, by unfold insO; simp⟩

def upB (t : Int) : List InsD := [insO 4 t, insP (1), insO 8 0, insO 5 t]
def upR (t : Int) : List (List InsD) := [[insO 4 t, insP (1), insO 8 0, insO 5 t]]
def upE (a : Int) (t : Int) : Int := if mayP a t 0 then blkE a (upB t) else 2
theorem up_in (t : Int) (t0 : 0 ≤ t) (t1 : t < 12) : ∀ i ∈ upB t, i.Wf ∧ (0 ≤ i.arg ∧ i.arg ≤ 1000) ∧ i.op ≠ 23 ∧ i.op ≠ 24 := by
  intro i hi
  simp only [upB, List.mem_cons, List.not_mem_nil, or_false] at hi
  rcases hi with rfl | rfl | rfl | rfl
  · exact ⟨insO_wf (by omega) (by omega) (by omega) (by omega), by unfold insO; simp <;> omega, by unfold insO; simp, by unfold insO; simp⟩
  · exact ⟨insP_wf (by omega), by unfold insP; simp <;> omega, by unfold insP; simp, by unfold insP; simp⟩
  · exact ⟨insO_wf (by omega) (by omega) (by omega) (by omega), by unfold insO; simp <;> omega, by unfold insO; simp, by unfold insO; simp⟩
  · exact ⟨insO_wf (by omega) (by omega) (by omega) (by omega), by unfold insO; simp <;> omega, by unfold insO; simp, by unfold insO; simp⟩

end Go.Proofs.YtkpgfchglaemgaaDoor
/-
  THE DOCUMENT's Lock, Unlock, Down, Up BY THEIR CONTRACTS. Written by mklk2.py.
-/
namespace Go.Proofs.YtkpgfchglaemgaaDoor
set_option linter.unusedVariables false
set_option linter.unusedSimpArgs false
open Go.RowKit
attribute [local go_sem] Oper.semAt_some

theorem lock_body (t u : Int) : bodyL (lockB t u) = [insO 21 6, insO 4 t, insO 20 4, insO 26 0, insP (1 + u), insO 5 t, insO 22 0] := by simp [bodyL, lockB]
theorem unlock_body (t u : Int) : bodyL (unlockB t u) = [insO 21 10, insO 4 t, insP (1 + u), insO 14 0, insO 20 9, insP (0), insO 5 t, insP (1), insO 19 10, insP (0), insO 22 0] := by simp [bodyL, unlockB]
theorem down_body (t : Int) : bodyL (downB t) = [insO 21 9, insO 4 t, insO 16 0, insO 20 8, insP (1), insO 9 0, insO 5 t, insO 19 9, insO 26 0, insO 22 0] := by simp [bodyL, downB]
theorem up_body (t : Int) : bodyL (upB t) = [insO 21 5, insO 4 t, insP (1), insO 8 0, insO 5 t, insO 22 0] := by simp [bodyL, upB]
end Go.Proofs.YtkpgfchglaemgaaDoor
/-
  THE STATEMENTS ON package locks, WALKED: LocksBlocks, LocksCounts.
-/
namespace Go.Proofs.YtkpgfchglaemgaaDoor
set_option linter.unusedVariables false
set_option linter.unusedSimpArgs false
open Go.RowKit
attribute [local go_sem] Oper.semAt_some

def lkL (er : Int) (L : List InsD) : List InsD := if er = 0 then L else []
/-- What the blocks come to, in the same words. -/
def LkQ (w : World) (er : Int) (n : Nat) (l : List InsD) (e : Ending) (w' : World) : Prop := ∃ ao cap, e = .returned (.tuple #[.slice ao n cap, .int .i64 er]) ∧ InsIn w' ao n cap l ∧ Touch w w' []
theorem LkP.q {w : World} {er : Int} {L : List InsD} {e : Ending} {w' : World} (h : LkP w er L e w') : LkQ w er (lkL er L).length (lkL er L) e w' := by
  rcases h with ⟨rfl, ao, cap, h2, h3, h4⟩ | ⟨h1, h2, h4⟩
  · exact ⟨ao, cap, h2, h3, h4⟩
  · have e : lkL er L = [] := by unfold lkL; rw [if_neg h1]
    rw [e]
    exact ⟨none, 0, h2, ⟨rfl, ⟨none, 0, rfl, fun h => absurd rfl h⟩, Nat.le_refl _, by omega, by simp⟩, h4⟩
theorem lkL_len {er : Int} {L : List InsD} (h : L.length ≤ 1000) : (lkL er L).length ≤ 1000 := by
  unfold lkL; split
  · exact h
  · simp

end Go.Proofs.YtkpgfchglaemgaaDoor
/-
  one OF THE STATEMENTS ON package locks, BY ITS CONTRACT.
-/
namespace Go.Proofs.YtkpgfchglaemgaaDoor
set_option linter.unusedVariables false
set_option linter.unusedSimpArgs false
open Go.RowKit
attribute [local go_sem] Oper.semAt_some

/-- A call in a block of its own. -/
structure BoxC (W : World) (p : Nat) (o a v : Int) : Prop where
  st : W.heap[p]? = some (.cells #[.int .u8 o, .int .i64 a, .int .u64 v] 30 (0, 0))
theorem BoxC.touch {W W' : World} {p : Nat} {o a v : Int} {S : List Nat} (h : BoxC W p o a v) (t : Touch W W' S) (hS : p ∉ S) : BoxC W' p o a v := ⟨(t.block p (lt_of_heap h.st) hS).trans h.st⟩
theorem BoxC.cells {W : World} {p : Nat} {o a v : Int} (h : BoxC W p o a v) : W.cell? ⟨p, 0, none⟩ = some (.int .u8 o) ∧ W.cell? ⟨p, 1, none⟩ = some (.int .i64 a) ∧ W.cell? ⟨p, 2, none⟩ = some (.int .u64 v) :=
  ⟨by unfold World.cell?; rw [h.st]; rfl, by unfold World.cell?; rw [h.st]; rfl, by unfold World.cell?; rw [h.st]; rfl⟩
theorem BoxC.fr {W : World} {p : Nat} {o a v : Int} (h : BoxC W p o a v) (j : Nat) : W.frozen? ⟨p, j, none⟩ = false := by unfold World.frozen?; rw [h.st]; simp
theorem BoxC.new (w : World) (o a v : Int) : BoxC (w.alloc (.cells #[.int .u8 o, .int .i64 a, .int .u64 v] 30)) w.heap.size o a v := ⟨heap_alloc_new w _⟩
theorem BoxC.set0 {W : World} {p : Nat} {o a v : Int} (h : BoxC W p o a v) (x : Int) : BoxC (W.setCell ⟨p, 0, none⟩ (.int .u8 x)) p x a v := ⟨heap_setCell_same _ _ _ _ _ _ h.st⟩
theorem BoxC.set1 {W : World} {p : Nat} {o a v : Int} (h : BoxC W p o a v) (x : Int) : BoxC (W.setCell ⟨p, 1, none⟩ (.int .i64 x)) p o x v := ⟨heap_setCell_same _ _ _ _ _ _ h.st⟩
theorem BoxC.set2 {W : World} {p : Nat} {o a v : Int} (h : BoxC W p o a v) (x : Int) : BoxC (W.setCell ⟨p, 2, none⟩ (.int .u64 x)) p o a x := ⟨heap_setCell_same _ _ _ _ _ _ h.st⟩

theorem shI_zero (l : List InsD) : l.map (shI 0) = l := by
  have : ∀ i : InsD, shI 0 i = i := by
    intro i
    unfold shI
    split
    · rw [Int.add_zero]
    · rfl
  rw [show (shI 0) = id from funext this, List.map_id]
theorem blk_zero (b : List InsD) : blkL 0 b = bodyL b := shI_zero _
theorem may_zero {t u : Int} (t0 : 0 ≤ t) (t1 : t < 12) (u0 : 0 ≤ u) (u1 : u < 4) : mayP 0 t u = true := by unfold mayP; simp [t0, t1, u0, u1]
def oneL (j t u : Int) : List InsD := if j = 0 then bodyL (lockB t u) else if j = 1 then bodyL (unlockB t u) else if j = 2 then bodyL (downB t) else bodyL (upB t)
def OneP (w : World) (j t u : Int) (e : Ending) (w' : World) : Prop :=
  ∃ ao cap, e = .returned (.tuple #[.slice ao (oneL j t u).length cap, .agg #[.int .u8 (j + 1), .int .i64 u, .int .u64 0], .int .i64 0]) ∧ InsIn w' ao (oneL j t u).length cap (oneL j t u) ∧ Touch w w' []

theorem lk_ok {w : World} {L : List InsD} {er : Int} (he : er = 0) {e : Ending} {w' : World} (h : LkP w er L e w') : ∃ ao cap, e = .returned (.tuple #[.slice ao L.length cap, .int .i64 0]) ∧ InsIn w' ao L.length cap L ∧ Touch w w' [] := by
  rcases h with ⟨_, h⟩ | ⟨h, _⟩
  · exact h
  · exact absurd he h

theorem box_apart {W W' : World} {p : Nat} {ao : Option Addr} {cap : Nat} {L : List InsD} (hb : BoxC W p 0 0 0) (hin : InsIn W ao L.length cap L) (h0 : 0 < L.length) (h21 : L[0].op = 21) (t : Touch W W' [p]) : InsIn W' ao L.length cap L := by
  refine ⟨rfl, SRow.keepB hin.row t (fun _ g hg => ?_), hin.le, hin.max, hin.wf⟩
  obtain ⟨g', off, rfl, d0, _, _⟩ := ins_at hin.row (Touch.refl W []) (by simp) 0 h0
  simp only [Value.ownBlock, Option.some.injEq] at hg
  subst hg
  intro hm
  rw [List.mem_singleton] at hm
  subst hm
  rw [h21] at d0
  unfold World.cell? at d0
  rw [hb.st] at d0
  match off, d0 with
  | 0, d0 => simp at d0
  | 1, d0 => simp at d0
  | 2, d0 => simp at d0
  | n + 3, d0 => simp at d0
theorem one_first (j t u : Int) : 0 < (oneL j t u).length ∧ ∀ h : 0 < (oneL j t u).length, (oneL j t u)[0].op = 21 := by
  unfold oneL
  split
  · exact ⟨by simp [bodyL], fun _ => rfl⟩
  · split
    · exact ⟨by simp [bodyL], fun _ => rfl⟩
    · split
      · exact ⟨by simp [bodyL], fun _ => rfl⟩
      · exact ⟨by simp [bodyL], fun _ => rfl⟩

end Go.Proofs.YtkpgfchglaemgaaDoor
/-
  package spec: A WALK AS IT LIES; need, isPlace, burn, target, hangsOnState, truth BY THEIR CONTRACTS.
-/
namespace Go.Proofs.YtkpgfchglaemgaaDoor
set_option linter.unusedVariables false
set_option linter.unusedSimpArgs false
open Go.RowKit
attribute [local go_sem] Oper.semAt_some

/-- How far a thread is: its place, the stack, four locals, what it put out; the fuel that is left. -/
structure WD where
  pc : Int
  st : List Int
  l0 : Int
  l1 : Int
  l2 : Int
  l3 : Int
  out : List Int
  fuel : Int

/-- A block that begins with a walk: vs, vo, vp: the stack, what was put out, the program, as slices; tl: what stands behind. -/
structure WObj (w : World) (b : Nat) (T : TypeId) (tl : List Value) (vs vo vp : Value) (D : WD) : Prop where
  st : w.heap[b]? = some (.cells ⟨.int .i64 D.pc :: vs :: .int .u64 D.l0 :: .int .u64 D.l1 :: .int .u64 D.l2 :: .int .u64 D.l3 :: vo :: vp :: .int .i64 D.fuel :: tl⟩ T (0, 0))
theorem WObj.touch {w w' : World} {b : Nat} {T : TypeId} {tl : List Value} {vs vo vp : Value} {D : WD} {S : List Nat} (h : WObj w b T tl vs vo vp D) (t : Touch w w' S) (hS : b ∉ S) : WObj w' b T tl vs vo vp D := ⟨(t.block b (lt_of_heap h.st) hS).trans h.st⟩
theorem WObj.lt {w : World} {b : Nat} {T : TypeId} {tl : List Value} {vs vo vp : Value} {D : WD} (h : WObj w b T tl vs vo vp D) : b < w.heap.size := lt_of_heap h.st
theorem WObj.fr {w : World} {b : Nat} {T : TypeId} {tl : List Value} {vs vo vp : Value} {D : WD} (h : WObj w b T tl vs vo vp D) (j : Nat) : w.frozen? ⟨b, j, none⟩ = false := by unfold World.frozen?; rw [h.st]; simp
/-- What the cells of a walk hold. -/
structure WCells (w : World) (b : Nat) (vs vo vp : Value) (D : WD) : Prop where
  c0 : w.cell? ⟨b, 0, none⟩ = some (.int .i64 D.pc)
  c1 : w.cell? ⟨b, 1, none⟩ = some vs
  c2 : w.cell? ⟨b, 2, none⟩ = some (.int .u64 D.l0)
  c3 : w.cell? ⟨b, 3, none⟩ = some (.int .u64 D.l1)
  c4 : w.cell? ⟨b, 4, none⟩ = some (.int .u64 D.l2)
  c5 : w.cell? ⟨b, 5, none⟩ = some (.int .u64 D.l3)
  c6 : w.cell? ⟨b, 6, none⟩ = some vo
  c7 : w.cell? ⟨b, 7, none⟩ = some vp
  c8 : w.cell? ⟨b, 8, none⟩ = some (.int .i64 D.fuel)
theorem WObj.cells {w : World} {b : Nat} {T : TypeId} {tl : List Value} {vs vo vp : Value} {D : WD} (h : WObj w b T tl vs vo vp D) : WCells w b vs vo vp D := by
  constructor <;> (unfold World.cell?; rw [h.st]; rfl)
theorem WObj.set0 {w : World} {b : Nat} {T : TypeId} {tl : List Value} {vs vo vp : Value} {D : WD} (h : WObj w b T tl vs vo vp D) (x : Int) : WObj (w.setCell ⟨b, 0, none⟩ (.int .i64 x)) b T tl vs vo vp { D with pc := x } := ⟨by rw [heap_setCell_same _ _ _ _ _ _ h.st]; simp⟩
theorem WObj.set1 {w : World} {b : Nat} {T : TypeId} {tl : List Value} {vs vo vp : Value} {D : WD} (h : WObj w b T tl vs vo vp D) (v : Value) (l : List Int) : WObj (w.setCell ⟨b, 1, none⟩ v) b T tl v vo vp { D with st := l } := ⟨by rw [heap_setCell_same _ _ _ _ _ _ h.st]; simp⟩
theorem WObj.set6 {w : World} {b : Nat} {T : TypeId} {tl : List Value} {vs vo vp : Value} {D : WD} (h : WObj w b T tl vs vo vp D) (v : Value) (l : List Int) : WObj (w.setCell ⟨b, 6, none⟩ v) b T tl vs v vp { D with out := l } := ⟨by rw [heap_setCell_same _ _ _ _ _ _ h.st]; simp⟩
theorem WObj.set8 {w : World} {b : Nat} {T : TypeId} {tl : List Value} {vs vo vp : Value} {D : WD} (h : WObj w b T tl vs vo vp D) (x : Int) : WObj (w.setCell ⟨b, 8, none⟩ (.int .i64 x)) b T tl vs vo vp { D with fuel := x } := ⟨by rw [heap_setCell_same _ _ _ _ _ _ h.st]; simp⟩

/-- Is there an instruction at its place? -/
def placeP (pc : Int) (n : Nat) : Bool := decide (0 ≤ pc) && decide (pc < (n : Int))
/-- Does an operation hang on the State alone? -/
def plainO (o : Int) : Bool := !decide (o = 4 ∨ o = 5 ∨ o = 6 ∨ o = 7 ∨ o = 26 ∨ o = 28 ∨ o = 21 ∨ o = 22 ∨ o = 23 ∨ o = 24 ∨ o = 25)
/-- One, or 0. -/
def oneV (x : Bool) : Int := if x then 4607182418800017408 else 0
end Go.Proofs.YtkpgfchglaemgaaDoor
/-
  package spec: standsAt, here BY THEIR CONTRACTS.
-/
namespace Go.Proofs.YtkpgfchglaemgaaDoor
set_option linter.unusedVariables false
set_option linter.unusedSimpArgs false
open Go.RowKit
attribute [local go_sem] Oper.semAt_some

theorem WObj.drewN {w : World} {b : Nat} {T : TypeId} {tl : List Value} {vs vo vp : Value} {D : WD} (h : WObj w b T tl vs vo vp D) (q : Nat) : WObj (w.drewN q) b T tl vs vo vp D := h.touch ((Touch.refl w []).drewN q) (by simp)
abbrev InsRow := SRow 3 InsD.cells
/-- The program's instruction at a place. -/
theorem ins_cells {w : World} {ao : Option Addr} {cap : Nat} {l : List InsD} (h : InsRow w (.slice ao l.length cap) l) (k : Nat) (hk : k < l.length) :
    ∃ g off, ao = some ⟨g, off, none⟩ ∧ g < w.heap.size ∧ w.cell? ⟨g, off + k * 3, none⟩ = some (.int .u8 l[k].op) ∧ w.cell? ⟨g, off + k * 3 + 1, none⟩ = some (.int .i64 l[k].arg) ∧ w.cell? ⟨g, off + k * 3 + 2, none⟩ = some (.int .u64 l[k].val) := by
  obtain ⟨g, off, e, hg, hc⟩ := h.at k hk
  exact ⟨g, off, e, hg, hc 0 (by omega), hc 1 (by omega), hc 2 (by omega)⟩

/-- The operation at a place; -1: none. -/
def opAtW (l : List InsD) (pc : Int) : Int := if placeP pc l.length then (l.getD pc.toNat ⟨0, 0, 0⟩).op else -1

end Go.Proofs.YtkpgfchglaemgaaDoor
/-
  package spec: here BY ITS CONTRACT.
-/
namespace Go.Proofs.YtkpgfchglaemgaaDoor
set_option linter.unusedVariables false
set_option linter.unusedSimpArgs false
open Go.RowKit
attribute [local go_sem] Oper.semAt_some

/-- The instruction at a place, if there is one, and it is right. -/
def hereP (l : List InsD) (pc : Int) : Option InsD := if placeP pc l.length then (if rightI (l.getD pc.toNat ⟨0, 0, 0⟩) then some (l.getD pc.toNat ⟨0, 0, 0⟩) else none) else none

theorem res_cell {fn : Func} {p : Tmp} {ty : TypeId} (h : fn.results = #[.cell p ty]) (tmps : Array Value) (P : Program) (w : World) :
    (results fn tmps).run P w = ((asAddr (tmps.getD p undef)).run P w).andThen fun a w₁ => (loadVar ty a).run P w₁ := by
  simp only [results, h]
  simp [Sem.run_bind, Result.andThen]

end Go.Proofs.YtkpgfchglaemgaaDoor
/-
  CLASSES, SIGNS AND ORDER OF VALUES, of both sides, BY THEIR CONTRACTS.
-/
namespace Go.Proofs.YtkpgfchglaemgaaDoor
set_option linter.unusedVariables false
set_option linter.unusedSimpArgs false
open Go.RowKit

theorem rclass_any (n : Int) (h : Wf64 n) (w : World) : Calls Tryd.prog 49 #[.int .u64 n] w fun e w' => e = .returned (.int .u8 (classB (ofB n.toNat))) ∧ w = w' := by
  rw [← refClass_eq h.rt]
  have hf := rfloat_any n h w
  generalize ofB n.toNat = x at *
  clear h
  unfold refClass nanB
  generalize hq : (FloatKind.f64.format.order x x == some Ordering.eq) = q
  have hq' : (FloatKind.f64.format.order x x != some Ordering.eq) = !q := by rw [← hq]; rfl
  rw [hq']
  generalize hc1 : (FloatKind.f64.format.order x 0 == some Ordering.eq) = c1
  generalize hc2 : (FloatKind.f64.format.order x 9218868437227405311 == some Ordering.gt) = c2
  generalize hc3 : (FloatKind.f64.format.order x 18442240474082181119 == some Ordering.lt) = c3
  cases q <;> cases c1 <;> cases c2 <;> cases c3
  all_goals
    go_enter Tryd.func49, Tryd.ntmps49
    go_wp2_with fail
    refine hf.mono ?_
    rintro e w1 ⟨rfl, rfl⟩
    clear hf
    go_wp2
    go_ret
    exact ⟨by simp, rfl⟩

theorem classB_3 (x : Nat) : (classB x == 3) = nanB x := by
  cases h : nanB x with
  | true => rw [classB_nan x h]; rfl
  | false => simpa using classB_num x h

theorem negB_ofB {n : Int} (h : Wf64 n) : negB (ofB n.toNat) = (!(classB (ofB n.toNat) == 3) && decide (9223372036854775808 ≤ n)) := by
  rw [classB_3, negB_is _ h.rt.lt, h.rt.nan]
  unfold Wf64 at h
  rcases ofB_cases n.toNat (by omega) with ⟨h1, e⟩ | ⟨h1, e⟩
  · rw [e]
    have hne : ¬ n.toNat = 9221120237041090560 := by
      intro e2
      rw [e2] at h1
      revert h1
      decide
    rw [decide_eq_false hne]
    simp only [Bool.not_false, Bool.true_and]
    congr 1
    apply propext
    omega
  · rw [e]; simp

theorem rnegative_any (n : Int) (h : Wf64 n) (w : World) : Calls Tryd.prog 61 #[.int .u64 n] w fun e w' => e = .returned (.bool (negB (ofB n.toNat))) ∧ w = w' := by
  rw [negB_ofB h]
  have hc := rclass_any n h w
  generalize classB (ofB n.toNat) = c at *
  generalize hq : (c == 3) = q
  have hq' : (c != 3) = !q := by rw [← hq]; rfl
  clear h
  cases q
  all_goals
    go_enter Tryd.func61, Tryd.ntmps61
    go_wp2_with fail
    refine hc.mono ?_
    rintro e w1 ⟨rfl, rfl⟩
    clear hc
    go_wp2
    go_ret
    exact ⟨by simp, rfl⟩

/-- The other sign. -/
def negV (x : Nat) : Int := if classB x == 3 then 9221120237041090560 else if negB x then (x : Int) - 9223372036854775808 else (x : Int) + 9223372036854775808

theorem negV_is {x : Nat} (h : Rt x) : ((ofB (Op.negFloat .f64 x) : Nat) : Int) = negV x := by
  unfold negV
  rw [neg_of h, classB_3, h.nan, negB_is x h.lt]
  have := h.lt
  by_cases h1 : x = 9221120237041090560
  · simp [h1]
  · by_cases h2 : 9223372036854775808 ≤ x
    · simp only [h1, h2, if_false, if_true, decide_false, decide_true, Bool.false_eq_true]; omega
    · simp only [h1, h2, if_false, decide_false, Bool.false_eq_true]; omega

theorem rneg_any (n : Int) (h : Wf64 n) (w : World) : Calls Tryd.prog 54 #[.int .u64 n] w fun e w' => e = .returned (.int .u64 (negV (ofB n.toNat))) ∧ w = w' := by
  have hc := rclass_any n h w
  have hn := rnegative_any n h w
  have hw : Wf64 n := h
  unfold negV
  unfold Wf64 at h
  cases hq : (classB (ofB n.toNat) == 3) with
  | true =>
    have e : classB (ofB n.toNat) = 3 := by simpa using hq
    rw [e] at hc
    clear hq e hn hw
    go_enter Tryd.func54, Tryd.ntmps54
    go_wp2_with fail
    refine hc.mono ?_
    rintro e w1 ⟨rfl, rfl⟩
    clear hc
    go_wp2
    go_ret
    exact ⟨by simp, rfl⟩
  | false =>
    have hnan : nanB (ofB n.toNat) = false := by rw [← classB_3]; exact hq
    have hx : ofB n.toNat = n.toNat := by
      rcases ofB_cases n.toNat (by omega) with ⟨_, e⟩ | ⟨_, e⟩
      · exact e
      · have h3 : nanB 9221120237041090560 = true := by decide +kernel
        rw [e, h3] at hnan
        cases hnan
    have hxi : ((ofB n.toNat : Nat) : Int) = n := by rw [hx]; omega
    rw [hxi]
    have hb := negB_is (ofB n.toNat) hw.rt.lt
    have hbd : (9223372036854775808 ≤ ofB n.toNat) ↔ 9223372036854775808 ≤ n := by rw [hx]; omega
    generalize hg : classB (ofB n.toNat) = c at *
    generalize negB (ofB n.toNat) = g at *
    clear hg hx hxi hnan hw
    cases g with
    | true =>
      have h9 : 9223372036854775808 ≤ n := hbd.1 (of_decide_eq_true hb.symm)
      clear hb hbd
      go_enter Tryd.func54, Tryd.ntmps54
      go_wp2_with fail
      refine hc.mono ?_
      rintro e w1 ⟨rfl, rfl⟩
      clear hc
      go_wp2_with fail
      refine hn.mono ?_
      rintro e w1 ⟨rfl, rfl⟩
      clear hn
      go_wp2
      go_ret
      exact ⟨by simp, rfl⟩
    | false =>
      have h9 : ¬ 9223372036854775808 ≤ n := fun k => of_decide_eq_false hb.symm (hbd.2 k)
      clear hb hbd
      go_enter Tryd.func54, Tryd.ntmps54
      go_wp2_with fail
      refine hc.mono ?_
      rintro e w1 ⟨rfl, rfl⟩
      clear hc
      go_wp2_with fail
      refine hn.mono ?_
      rintro e w1 ⟨rfl, rfl⟩
      clear hn
      go_wp2
      go_ret
      exact ⟨by simp, rfl⟩

/-- Without its sign. -/
def absV (x : Nat) : Int := if negB x then negV x else x
theorem absV_is {x : Nat} (h : Rt x) : ((ofB (absB x) : Nat) : Int) = absV x := by
  unfold absV negV
  rw [abs_of h, classB_3, h.nan, negB_is x h.lt, rungB_is x h.lt]
  have := h.lt
  by_cases h1 : x = 9221120237041090560
  · simp [h1]
  · by_cases h2 : 9223372036854775808 ≤ x
    · simp only [h1, h2, if_false, if_true, decide_false, decide_true, Bool.false_eq_true]; omega
    · simp only [h1, h2, if_false, decide_false, Bool.false_eq_true]

theorem rless_any (a b : Int) (ha : Wf64 a) (hb : Wf64 b) (w : World) : Calls Tryd.prog 19 #[.int .u64 a, .int .u64 b] w fun e w' => e = .returned (.bool (lessB (ofB a.toNat) (ofB b.toNat))) ∧ w = w' := by
  rw [← refLess_eq ha.rt hb.rt]
  have ca := rcanon_any a ha w
  have cb := rcanon_any b hb w
  have fa := rfloat_any _ (wf_ofB ha) w
  have fb := rfloat_any _ (wf_ofB hb) w
  rw [ofB_ofB] at fa fb
  generalize ofB a.toNat = x at *
  generalize ofB b.toNat = y at *
  unfold refLess
  clear ha hb
  by_cases h1 : x = 9221120237041090560
  · subst h1
    clear fa fb
    go_enter Tryd.func19, Tryd.ntmps19
    go_wp2_with fail
    refine ca.mono ?_
    rintro e w1 ⟨rfl, rfl⟩
    go_wp2_with fail
    refine cb.mono ?_
    rintro e w1 ⟨rfl, rfl⟩
    clear ca cb
    go_wp2
    go_ret
    exact ⟨by simp, rfl⟩
  · have h1' : ¬ (x : Int) = 9221120237041090560 := by omega
    rw [if_neg h1]
    by_cases h2 : y = 9221120237041090560
    · subst h2
      clear fa fb
      go_enter Tryd.func19, Tryd.ntmps19
      go_wp2_with fail
      refine ca.mono ?_
      rintro e w1 ⟨rfl, rfl⟩
      go_wp2_with fail
      refine cb.mono ?_
      rintro e w1 ⟨rfl, rfl⟩
      clear ca cb
      go_wp2
      go_ret
      exact ⟨by simp, rfl⟩
    · have h2' : ¬ (y : Int) = 9221120237041090560 := by omega
      rw [if_neg h2]
      by_cases h3 : x = 9223372036854775808
      · subst h3
        by_cases h4 : y = 0
        · subst h4
          rw [if_pos ⟨rfl, rfl⟩]
          clear fa fb
          go_enter Tryd.func19, Tryd.ntmps19
          go_wp2_with fail
          refine ca.mono ?_
          rintro e w1 ⟨rfl, rfl⟩
          go_wp2_with fail
          refine cb.mono ?_
          rintro e w1 ⟨rfl, rfl⟩
          clear ca cb
          go_wp2
          go_ret
          exact ⟨by simp, rfl⟩
        · have h4' : ¬ (y : Int) = 0 := by omega
          rw [if_neg (fun k => h4 k.2)]
          go_enter Tryd.func19, Tryd.ntmps19
          go_wp2_with fail
          refine ca.mono ?_
          rintro e w1 ⟨rfl, rfl⟩
          go_wp2_with fail
          refine cb.mono ?_
          rintro e w1 ⟨rfl, rfl⟩
          clear ca cb
          go_wp2_with fail
          refine fa.mono ?_
          rintro e w1 ⟨rfl, rfl⟩
          go_wp2_with fail
          refine fb.mono ?_
          rintro e w1 ⟨rfl, rfl⟩
          clear fa fb
          go_wp2
          go_ret
          exact ⟨by simp, rfl⟩
      · have h3' : ¬ (x : Int) = 9223372036854775808 := by omega
        rw [if_neg (fun k => h3 k.1)]
        go_enter Tryd.func19, Tryd.ntmps19
        go_wp2_with fail
        refine ca.mono ?_
        rintro e w1 ⟨rfl, rfl⟩
        go_wp2_with fail
        refine cb.mono ?_
        rintro e w1 ⟨rfl, rfl⟩
        clear ca cb
        go_wp2_with fail
        refine fa.mono ?_
        rintro e w1 ⟨rfl, rfl⟩
        go_wp2_with fail
        refine fb.mono ?_
        rintro e w1 ⟨rfl, rfl⟩
        clear fa fb
        go_wp2
        go_ret
        exact ⟨by simp, rfl⟩

theorem rsame_any (a b : Int) (ha : Wf64 a) (hb : Wf64 b) (w : World) : Calls Tryd.prog 56 #[.int .u64 a, .int .u64 b] w fun e w' => e = .returned (.bool (((ofB a.toNat : Nat) : Int) == (ofB b.toNat : Nat))) ∧ w = w' := by
  have fa := rcanon_any a ha w
  have fb := rcanon_any b hb w
  clear ha hb
  generalize ((ofB a.toNat : Nat) : Int) = x at *
  generalize ((ofB b.toNat : Nat) : Int) = y at *
  go_enter Tryd.func56, Tryd.ntmps56
  go_wp2_with fail
  refine fa.mono ?_
  rintro e w1 ⟨rfl, rfl⟩
  go_wp2_with fail
  refine fb.mono ?_
  rintro e w1 ⟨rfl, rfl⟩
  clear fa fb
  go_wp2
  go_ret
  exact ⟨by simp, rfl⟩

def pick2 (q : Bool) (x y : Nat) : Nat := if q then x else y
def truthB (c : Int) : Bool := (c == 1) || (c == 2)
theorem classB_in (x : Nat) : classB x = 0 ∨ classB x = 1 ∨ classB x = 2 ∨ classB x = 3 := by
  unfold classB
  repeat' split
  all_goals simp

theorem rtruth_any (n : Int) (h : Wf64 n) (w : World) : Calls Tryd.prog 44 #[.int .u64 n] w fun e w' => e = .returned (.bool (truthB (classB (ofB n.toNat)))) ∧ w = w' := by
  have hc := rclass_any n h w
  clear h
  rcases classB_in (ofB n.toNat) with h | h | h | h
  all_goals
    rw [h] at hc ⊢
    clear h
    go_enter Tryd.func44, Tryd.ntmps44
    go_wp2_with (go_at_call 49; refine hc.mono ?_; rintro e w1 ⟨rfl, rfl⟩)
    go_ret
    exact ⟨by simp [truthB], rfl⟩





end Go.Proofs.YtkpgfchglaemgaaDoor
/-
  package spec: reckoned, popped BY THEIR CONTRACTS.
-/
namespace Go.Proofs.YtkpgfchglaemgaaDoor
set_option linter.unusedVariables false
set_option linter.unusedSimpArgs false
open Go.RowKit
attribute [local go_sem] Oper.semAt_some

/-- What an operation makes of two values. -/
def reckV (o a b : Int) : Int :=
  if o = 8 then (arithB .add (ofB a.toNat) (ofB b.toNat) : Int) else if o = 9 then (arithB .sub (ofB a.toNat) (ofB b.toNat) : Int) else if o = 10 then (arithB .mul (ofB a.toNat) (ofB b.toNat) : Int) else if o = 11 then (arithB .quo (ofB a.toNat) (ofB b.toNat) : Int) else if o = 13 then oneV (lessB (ofB a.toNat) (ofB b.toNat)) else oneV (((ofB a.toNat : Nat) : Int) == (ofB b.toNat : Nat))

/-- Are the values there that an operation pops, and has what it pushes room? -/
def fitsW (o : Int) (n : Nat) : Bool := decide (popV o ≤ n) && decide ((n : Int) - popV o + pushV o ≤ 12)

/-! ### Rows of values -/
abbrev vcell : Int → List Value := fun x => [Value.int .u64 x]
abbrev VRow := SRow 1 vcell
abbrev valOwn (w : World) (B : Nat) (v : Value) (l : List Int) : Prop := w.ownsRow B 24 1 v l.length (l.map (Value.int .u64))
theorem vrow_of {w : World} {B : Nat} {v : Value} {l : List Int} (h : valOwn w B v l) : VRow w v l := srow_of (cells := vcell) (n := 1) (fun _ => rfl) (by rw [flat_one]; exact h)
theorem vrow_drop {w : World} {g off cap : Nat} {l : List Int} (h : VRow w (.slice (some ⟨g, off, none⟩) l.length cap) l) (m c p : Nat) (hm : m ≤ l.length) (hp : m < l.length → p = off + m) : VRow w (.slice (some ⟨g, p, none⟩) (l.length - m) c) (l.drop m) := by
  refine ⟨_, c, by rw [List.length_drop], fun hne => ?_⟩
  have hlt : m < l.length := by
    rcases Nat.lt_or_ge m l.length with q | q
    · exact q
    · exact absurd (List.drop_of_length_le q) hne
  obtain ⟨g', off', e, hg, _⟩ := h.at m hlt
  simp only [Option.some.injEq, Addr.mk.injEq] at e
  obtain ⟨rfl, rfl, _⟩ := e
  refine ⟨g, p, rfl, hg, fun k hk j hj => ?_⟩
  rw [List.length_drop] at hk
  obtain ⟨g2, off2, e2, _, hc⟩ := h.at (m + k) (by omega)
  simp only [Option.some.injEq, Addr.mk.injEq] at e2
  obtain ⟨rfl, rfl, _⟩ := e2
  have := hc j hj
  rw [List.getElem_drop, hp hlt]
  have e3 : off + m + k * 1 + j = off + (m + k) * 1 + j := by omega
  rw [e3]
  exact this

end Go.Proofs.YtkpgfchglaemgaaDoor
/-
  package spec: exchange BY ITS CONTRACT.
-/
namespace Go.Proofs.YtkpgfchglaemgaaDoor
set_option linter.unusedVariables false
set_option linter.unusedSimpArgs false
open Go.RowKit
attribute [local go_sem] Oper.semAt_some

theorem info_partsE {P : Program} {t : TypeId} {z : Value} {s b : Nat} (h : (P.info? t).map (fun i => (i.zero, i.size, i.bytes)) = some (some z, s, b)) : ∃ i, P.info? t = some i ∧ i.zero = some z ∧ i.size = s ∧ i.bytes = b := by
  cases hi : P.info? t with
  | none => rw [hi] at h; cases h
  | some i => rw [hi] at h; simp at h; exact ⟨i, rfl, h.1, h.2.1, h.2.2⟩
theorem Tryd.info_val : (Tryd.prog.info? 24).map (fun i => (i.zero, i.size, i.bytes)) = some (some (.int .u64 0), 1, 8) := by kernel_rfl

theorem step_append_run {P : Program} {w : World} {ops : Array Oper} {o : Oper} {a : Act} {K : Act → World → Prop} {Q : Exit → Act → World → Prop} {E : Prop} (hgd : o.guard = none) (s x : Operand) (t ty : TypeId)
    (ho : o.op = .call { callee := .builtin .append, args := #[s, x], argTypes := #[t, t] }) (hty : o.type = ty) (v1 v2 v3 : Value) (w3 : World) (hs : a.eval s = v1) (hx : a.eval x = v2)
    (hr : (Builtin.append_ #[t, t] ty #[v1, v2]).run P w = .ok v3 w3) (h : K (a.put o.dst v3) w3) : if Region.wanted o (yielded ops a.tmps) = true then Oper.wp P o a w K Q else E := by
  have hw : Region.wanted o (yielded ops a.tmps) = true := by simp [Region.wanted, hgd]
  rw [if_pos hw]
  subst hty
  unfold Oper.wp execOp
  simp only [ho, resolve, invoke, builtin, Sem.run_bind, Sem.run_pure, Result.andThen_ok, List.map_toArray, List.map_cons, List.map_nil, hs, hx, hr]
  exact h
/-- The lower values of a stack. -/
theorem own_take {w : World} {B : Nat} {ao : Option Addr} {n cap : Nat} {l : List Int} (h : valOwn w B (.slice ao n cap) l) (q : Nat) (hq : q ≤ n) : valOwn w B (.slice ao q cap) (l.take q) := by
  have hl : l.length = n := by
    obtain ⟨a2, c2, e⟩ := owns_slice h
    simp only [Value.slice.injEq] at e
    exact e.2.1.symm
  have hlq : (l.take q).length = q := by rw [List.length_take]; omega
  refine ⟨by simp, ?_⟩
  rcases h.2 with ⟨e5, h5⟩ | ⟨g5, cap5, cur5, e5, hb5, hg5, hn5, hm5, hs5, ht5⟩
  · simp only [Value.slice.injEq] at e5
    obtain ⟨rfl, rfl, rfl⟩ := e5
    have hq0 : q = 0 := by omega
    subst hq0
    exact .inl ⟨rfl, by simp⟩
  · simp only [Value.slice.injEq] at e5
    obtain ⟨rfl, e6, rfl⟩ := e5
    refine .inr ⟨g5, cap, cur5, by rw [hlq], hb5, hg5, by rw [hlq]; omega, hm5, hs5, ?_⟩
    rw [hlq, List.map_take, ← ht5, List.take_take]
    congr 1
    omega
theorem val_app {w : World} {B : Nat} {v : Value} {xs : List Int} (h : valOwn w B v xs) (hl : xs.length ≤ 1000) (hB : B ≤ w.heap.size) {ao : Option Addr} {n cap : Nat} {l : List Int} (hr : VRow w (.slice ao n cap) l) (hn : n = l.length) (hm : n ≤ 1000) (ty : TypeId) :
    ∃ ao' cap' w', (Builtin.append_ #[35, 35] ty #[v, .slice ao n cap]).run Tryd.prog w = .ok (.slice ao' (xs.length + n) cap') w' ∧ valOwn w' B (.slice ao' (xs.length + n) cap') (xs ++ l) ∧ Touch w w' v.ownBlock.toList ∧ (∀ g, (Value.slice ao' (xs.length + n) cap').ownBlock = some g → v.ownBlock = some g ∨ w.heap.size ≤ g) := by
  obtain ⟨i0, hi, hz0, hz1, hz2⟩ := info_partsE Tryd.info_val
  subst hn
  obtain ⟨v', w', h1, h2, h3, h4⟩ := run_app (P := Tryd.prog) (cells := vcell) 35 ty 24 i0 _ 1 8 Tryd.underlying35 hi hz0 hz1 hz2 rfl (by decide) (fun _ => rfl) (by simp [vcell, Value.oneCell']) h (l := l) hr (by omega) (by decide) hB
  have h2' : valOwn w' B v' (xs ++ l) := by
    show w'.ownsRow _ _ _ _ _ _
    rw [flat_one] at h2
    rw [List.length_append, List.map_append]
    exact h2
  obtain ⟨ao', cap', rfl⟩ := owns_slice h2'
  simp only [List.length_append] at h1 h2' h4
  refine ⟨ao', cap', w', h1, h2', (Touch.refl w _).grown h3 (fun k hk => .inl (by simp [hk])), ?_⟩
  intro g hg
  rcases h4 with h4 | h4
  · left; rw [← h4]; exact hg
  · right; rw [h4] at hg; simp at hg; omega

/-- Behind exchange. -/
def ExchP (w : World) (b B : Nat) (T : TypeId) (tl : List Value) (vs vo vp : Value) (D : WD) (e : Ending) (w' : World) : Prop :=
  e = .returned (.tuple #[]) ∧ ∃ v', WObj w' b T tl v' vo vp D ∧ valOwn w' B v' D.st ∧ Touch w w' (b :: vs.ownBlock.toList) ∧ (∀ g, v'.ownBlock = some g → vs.ownBlock = some g ∨ w.heap.size ≤ g)

end Go.Proofs.YtkpgfchglaemgaaDoor
/-
  package spec: step BY ITS CONTRACT, where it gets stuck ahead of its switch.
-/
namespace Go.Proofs.YtkpgfchglaemgaaDoor
set_option linter.unusedVariables false
set_option linter.unusedSimpArgs false
open Go.RowKit
attribute [local go_sem] Oper.semAt_some

end Go.Proofs.YtkpgfchglaemgaaDoor
/-
  package spec: pushed BY ITS CONTRACT.
-/
namespace Go.Proofs.YtkpgfchglaemgaaDoor
set_option linter.unusedVariables false
set_option linter.unusedSimpArgs false
open Go.RowKit
attribute [local go_sem] Oper.semAt_some

/-- A local. -/
def WD.loc (D : WD) (k : Int) : Int := if k = 0 then D.l0 else if k = 1 then D.l1 else if k = 2 then D.l2 else D.l3
/-- The values that an instruction pushes for those that it pops. -/
def pushW (D : WD) (i : InsD) (pp : List Int) : List Int :=
  if i.op = 1 then [i.val] else if i.op = 2 then [D.loc i.arg] else if i.op = 16 then [pp.getD 0 0, pp.getD 0 0] else if i.op = 18 then [pp.getD 1 0, pp.getD 0 0] else if i.op = 12 then [(negV (ofB (pp.getD 0 0).toNat) : Int)] else if i.op = 15 then [oneV (!truthB (classB (ofB (pp.getD 0 0).toNat)))] else if i.op = 8 ∨ i.op = 9 ∨ i.op = 10 ∨ i.op = 11 ∨ i.op = 13 ∨ i.op = 14 then [reckV i.op (pp.getD 0 0) (pp.getD 1 0)] else []
/-- New values. -/
def PushP (w : World) (l : List Int) (e : Ending) (w' : World) : Prop := ∃ v, e = .returned v ∧ valOwn w' w.heap.size v l ∧ Touch w w' []

theorem own_one (w : World) (B : Nat) (hB : B ≤ w.heap.size) (x : Int) : valOwn (w.alloc (.cells #[.int .u64 x] 24)) B (.slice (some ⟨w.heap.size, 0, none⟩) 1 1) [x] :=
  ⟨by simp, .inr ⟨w.heap.size, 1, #[.int .u64 x], rfl, hB, heap_alloc_new w _, by simp, by decide, rfl, rfl⟩⟩
theorem own_two (w : World) (B : Nat) (hB : B ≤ w.heap.size) (x y : Int) : valOwn (w.alloc (.cells #[.int .u64 x, .int .u64 y] 24)) B (.slice (some ⟨w.heap.size, 0, none⟩) 2 2) [x, y] :=
  ⟨by simp, .inr ⟨w.heap.size, 2, #[.int .u64 x, .int .u64 y], rfl, hB, heap_alloc_new w _, by simp, by decide, rfl, rfl⟩⟩

end Go.Proofs.YtkpgfchglaemgaaDoor
/-
  package spec: pushed BY ITS CONTRACT, any way.
-/
namespace Go.Proofs.YtkpgfchglaemgaaDoor
set_option linter.unusedVariables false
set_option linter.unusedSimpArgs false
open Go.RowKit

theorem vrow_at {w : World} {a : Option Addr} {n c : Nat} {l : List Int} (h : VRow w (.slice a n c) l) (hl : l.length = n) (hn : 0 < n) : ∃ g off, a = some ⟨g, off, none⟩ ∧ ∀ k, k < n → w.cell? ⟨g, off + k, none⟩ = some (.int .u64 (l.getD k 0)) := by
  subst hl
  obtain ⟨g, off, e, _, _⟩ := h.at 0 hn
  refine ⟨g, off, e, fun k hk => ?_⟩
  obtain ⟨g2, off2, e2, _, hc⟩ := h.at k hk
  rw [e] at e2
  simp only [Option.some.injEq, Addr.mk.injEq] at e2
  obtain ⟨rfl, rfl, _⟩ := e2
  have := hc 0 (by simp)
  simp only [Nat.mul_one, Nat.add_zero, List.getElem_cons_zero] at this
  rw [List.getD_eq_getElem?_getD, List.getElem?_eq_getElem hk]
  simpa using this

end Go.Proofs.YtkpgfchglaemgaaDoor
/-
  package spec: step BY ITS CONTRACT, where its switch has no case.
-/
namespace Go.Proofs.YtkpgfchglaemgaaDoor
set_option linter.unusedVariables false
set_option linter.unusedSimpArgs false
open Go.RowKit
attribute [local go_sem] Oper.semAt_some

/-- A walk whose lists are its own, none of them twice. -/
structure WOwn (w : World) (b B : Nat) (T : TypeId) (tl : List Value) (vs vo vp : Value) (D : WD) : Prop where
  o : WObj w b T tl vs vo vp D
  s : valOwn w B vs D.st
  u : valOwn w B vo D.out
  n : ∀ g, vs.ownBlock = some g → vo.ownBlock ≠ some g
  hB : B ≤ w.heap.size
  hb : ∀ g, vs.ownBlock = some g → g ≠ b
  hc : ∀ g, vo.ownBlock = some g → g ≠ b
/-- Behind a step. -/
def StepP (w : World) (b B : Nat) (T : TypeId) (tl : List Value) (vs vo vp : Value) (D : WD) (e : Ending) (w' : World) : Prop :=
  e = .returned (.tuple #[]) ∧ ∃ vs' vo', WOwn w' b B T tl vs' vo' vp D ∧ Touch w w' (b :: (vs.ownBlock.toList ++ vo.ownBlock.toList)) ∧ (∀ g, vs'.ownBlock = some g → vs.ownBlock = some g ∨ w.heap.size ≤ g) ∧ (∀ g, vo'.ownBlock = some g → vo.ownBlock = some g ∨ w.heap.size ≤ g)

theorem own_ge {w : World} {B : Nat} {v : Value} {l : List Int} (h : valOwn w B v l) (g : Nat) (hg : v.ownBlock = some g) : B ≤ g := by
  rcases h.2 with ⟨e5, h5⟩ | ⟨g5, cap5, cur5, e5, hb5, _⟩
  · rw [e5] at hg; simp [Value.ownBlock] at hg
  · rw [e5] at hg; simp [Value.ownBlock] at hg; omega
theorem own_lt {w : World} {B : Nat} {v : Value} {l : List Int} (h : valOwn w B v l) (g : Nat) (hg : v.ownBlock = some g) : g < w.heap.size := by
  rcases h.2 with ⟨e5, h5⟩ | ⟨g5, cap5, cur5, e5, hb5, h6, _⟩
  · rw [e5] at hg; simp [Value.ownBlock] at hg
  · rw [e5] at hg; simp [Value.ownBlock] at hg; subst hg; exact lt_of_heap h6

/-- What exchange and the new place leave. -/
theorem step_tail {w w3 w4 : World} {b B : Nat} {T : TypeId} {tl : List Value} {vs vo vp : Value} {D D2 : WD} (h : WOwn w b B T tl vs vo vp D) (t1 : Touch w w3 []) (ho : D2.out = D.out) (hx : ∃ v', WObj w4 b T tl v' vo vp D2 ∧ valOwn w4 B v' D2.st ∧ Touch w3 w4 (b :: vs.ownBlock.toList) ∧ (∀ g, v'.ownBlock = some g → vs.ownBlock = some g ∨ w3.heap.size ≤ g)) (pc : Int) :
    StepP w b B T tl vs vo vp { D2 with pc := pc } (.returned (.tuple #[])) (w4.setCell ⟨b, 0, none⟩ (.int .i64 pc)) := by
  obtain ⟨v', h1, h2, t4, hg4⟩ := hx
  have tb : Touch w4 (w4.setCell ⟨b, 0, none⟩ (.int .i64 pc)) [b] := (Touch.refl w4 [b]).setCell (.inl (by simp)) _
  have hnb : ∀ g, v'.ownBlock = some g → g ≠ b := fun g hg => by
    rcases hg4 g hg with q | q
    · exact h.hb g q
    · have := h.o.lt
      have := t1.size
      omega
  have ht : Touch w w4 (b :: vs.ownBlock.toList) := (t1.mono (by simp)).trans t4 (fun x hx => .inl hx)
  have hu : valOwn w4 B vo D.out := ownsRow_touch h.u ht (fun g hg hs => by
    simp at hs
    rcases hs with rfl | hs
    · exact h.hc _ hg rfl
    · exact h.n g hs hg)
  refine ⟨rfl, v', vo, ⟨h1.set0 pc, ?_, ?_, ?_, ?_, ?_, h.hc⟩, ?_, ?_, fun g hg => .inl hg⟩
  · exact ownsRow_touch h2 tb (fun g hg hs => by simp at hs; subst hs; exact hnb _ hg rfl)
  · show valOwn _ B vo D2.out
    rw [ho]
    exact ownsRow_touch hu tb (fun g hg hs => by simp at hs; subst hs; exact h.hc _ hg rfl)
  · intro g hg hg2
    rcases hg4 g hg with q | q
    · exact h.n g q hg2
    · have := own_lt h.u g hg2
      have := t1.size
      omega
  · have := h.hB
    have := (ht.trans tb (fun x hx => .inl (by simp at hx; simp [hx]))).size
    omega
  · exact hnb
  · exact (ht.mono (fun x hx => by simp at hx ⊢; rcases hx with q | q; exact .inl q; exact .inr (.inl q))).trans tb (fun x hx => .inl (by simp at hx; simp [hx]))
  · intro g hg
    rcases hg4 g hg with q | q
    · exact .inl q
    · have := t1.size
      exact .inr (by omega)

end Go.Proofs.YtkpgfchglaemgaaDoor
/-
  package spec: step BY ITS CONTRACT, Jump and IfZero. Written by mkstep.py.
-/
namespace Go.Proofs.YtkpgfchglaemgaaDoor
set_option linter.unusedVariables false
set_option linter.unusedSimpArgs false
open Go.RowKit
attribute [local go_sem] Oper.semAt_some

end Go.Proofs.YtkpgfchglaemgaaDoor
/-
  package spec: step BY ITS CONTRACT, SetLocal.
-/
namespace Go.Proofs.YtkpgfchglaemgaaDoor
set_option linter.unusedVariables false
set_option linter.unusedSimpArgs false
open Go.RowKit
attribute [local go_sem] Oper.semAt_some

/-- A local is set. -/
def WD.setL (D : WD) (k : Int) (x : Int) : WD := if k = 0 then { D with l0 := x } else if k = 1 then { D with l1 := x } else if k = 2 then { D with l2 := x } else { D with l3 := x }
theorem WD.setL_st (D : WD) (k x : Int) : (D.setL k x).st = D.st := by unfold WD.setL; split; rfl; split; rfl; split <;> rfl
theorem WD.setL_out (D : WD) (k x : Int) : (D.setL k x).out = D.out := by unfold WD.setL; split; rfl; split; rfl; split <;> rfl
theorem WD.setL_pc (D : WD) (k x : Int) : (D.setL k x).pc = D.pc := by unfold WD.setL; split; rfl; split; rfl; split <;> rfl
theorem WObj.setL {w : World} {b : Nat} {T : TypeId} {tl : List Value} {vs vo vp : Value} {D : WD} (h : WObj w b T tl vs vo vp D) (k : Nat) (hk : k < 4) (x : Int) : WObj (w.setCell ⟨b, 2 + k, none⟩ (.int .u64 x)) b T tl vs vo vp (D.setL k x) := ⟨by
  rw [heap_setCell_same _ _ _ _ _ _ h.st]
  have hk : k = 0 ∨ k = 1 ∨ k = 2 ∨ k = 3 := by omega
  rcases hk with rfl | rfl | rfl | rfl <;> simp [WD.setL]⟩
theorem WObj.locAt {w : World} {b : Nat} {T : TypeId} {tl : List Value} {vs vo vp : Value} {D : WD} (h : WObj w b T tl vs vo vp D) (k : Nat) (hk : k < 4) : w.cell? ⟨b, 2 + k, none⟩ = some (.int .u64 (D.loc k)) := by
  have hc := h.cells
  have hk : k = 0 ∨ k = 1 ∨ k = 2 ∨ k = 3 := by omega
  rcases hk with rfl | rfl | rfl | rfl
  · exact hc.c2
  · exact hc.c3
  · exact hc.c4
  · exact hc.c5
theorem WOwn.keep {w w' : World} {b B : Nat} {T : TypeId} {tl : List Value} {vs vo vp : Value} {D D' : WD} (h : WOwn w b B T tl vs vo vp D) (t : Touch w w' [b]) (h' : WObj w' b T tl vs vo vp D') (es : D'.st = D.st) (eo : D'.out = D.out) : WOwn w' b B T tl vs vo vp D' := by
  have hB := h.hB
  have hs := t.size
  refine ⟨h', ?_, ?_, h.n, by omega, h.hb, h.hc⟩
  · rw [es]; exact ownsRow_touch h.s t (fun g hg hx => by simp at hx; subst hx; exact h.hb _ hg rfl)
  · rw [eo]; exact ownsRow_touch h.u t (fun g hg hx => by simp at hx; subst hx; exact h.hc _ hg rfl)
theorem WOwn.touch {w w' : World} {b B : Nat} {T : TypeId} {tl : List Value} {vs vo vp : Value} {D : WD} (h : WOwn w b B T tl vs vo vp D) (t : Touch w w' []) : WOwn w' b B T tl vs vo vp D := h.keep (t.mono (by simp)) (h.o.touch t (by simp)) rfl rfl
theorem StepP.after {w W : World} {b B : Nat} {T : TypeId} {tl : List Value} {vs vo vo5 vp : Value} {D : WD} {e : Ending} {w' : World} (t : Touch w W (b :: (vs.ownBlock.toList ++ vo.ownBlock.toList))) (hv : ∀ g, vo5.ownBlock = some g → vo.ownBlock = some g ∨ w.heap.size ≤ g) (h : StepP W b B T tl vs vo5 vp D e w') : StepP w b B T tl vs vo vp D e w' := by
  obtain ⟨rfl, v1, v2, h1, t2, h3, h4⟩ := h
  have hs := t.size
  refine ⟨rfl, v1, v2, h1, t.trans t2 ?_, ?_, ?_⟩
  · intro x hx
    simp at hx
    rcases hx with rfl | hx | hx
    · exact .inl (by simp)
    · exact .inl (by simp [hx])
    · rcases hv x hx with q | q
      · exact .inl (by simp [q])
      · exact .inr q
  · intro g hg
    rcases h3 g hg with q | q
    · exact .inl q
    · exact .inr (by omega)
  · intro g hg
    rcases h4 g hg with q | q
    · exact hv g q
    · exact .inr (by omega)

end Go.Proofs.YtkpgfchglaemgaaDoor
/-
  package spec: step BY ITS CONTRACT, Out.
-/
namespace Go.Proofs.YtkpgfchglaemgaaDoor
set_option linter.unusedVariables false
set_option linter.unusedSimpArgs false
open Go.RowKit
attribute [local go_sem] Oper.semAt_some

end Go.Proofs.YtkpgfchglaemgaaDoor
/-
  package spec: step BY ITS CONTRACT: one plain function.
-/
namespace Go.Proofs.YtkpgfchglaemgaaDoor
set_option linter.unusedVariables false
set_option linter.unusedSimpArgs false
open Go.RowKit

/-- One instruction, over values that are popped; 0, or the error by which it gets stuck. -/
def doW (np : Nat) (D : WD) (i : InsD) : Int × WD :=
  if i.op = 27 then (if D.out.length < 24 then (0, { D with out := D.out ++ [D.st.getD (D.st.length - 1) 0], st := D.st.take (D.st.length - 1) ++ [], pc := D.pc + 1 }) else (4, D))
  else if i.op = 3 then (0, { D.setL i.arg (D.st.getD (D.st.length - 1) 0) with st := D.st.take (D.st.length - 1) ++ [], pc := D.pc + 1 })
  else if i.op = 19 then (if i.arg ≤ np then (0, { D with st := D.st.take (D.st.length - 0) ++ [], pc := i.arg }) else (2, D))
  else if i.op = 20 then (if truthB (classB (ofB (D.st.getD (D.st.length - 1) 0).toNat)) = true then (0, { D with st := D.st.take (D.st.length - 1) ++ [], pc := D.pc + 1 }) else if i.arg ≤ np then (0, { D with st := D.st.take (D.st.length - 1) ++ [], pc := i.arg }) else (2, D))
  else (0, { D with st := D.st.take (D.st.length - (popV i.op).toNat) ++ pushW D i (D.st.drop (D.st.length - (popV i.op).toNat)), pc := D.pc + 1 })
def stepW (l : List InsD) (D : WD) : Int × WD :=
  if placeP D.pc l.length = false then (3, D)
  else if rightI (l.getD D.pc.toNat ⟨0, 0, 0⟩) = false then (3, D)
  else if plainO (l.getD D.pc.toNat ⟨0, 0, 0⟩).op = false then (3, D)
  else if fitsW (l.getD D.pc.toNat ⟨0, 0, 0⟩).op D.st.length = false then (12, D)
  else doW l.length D (l.getD D.pc.toNat ⟨0, 0, 0⟩)

theorem right_loc {i : InsD} (h : rightI i = true) (ho : i.op = 2 ∨ i.op = 3) : 0 ≤ i.arg ∧ i.arg < 4 := by
  unfold rightI at h
  simp only [Bool.and_eq_true, decide_eq_true_eq] at h
  have h1 := h.1.2
  have h0 := h.1.1.2
  rcases ho with q | q
  · rw [q] at h1
    have : highP 2 = 3 := rfl
    omega
  · rw [q] at h1
    have : highP 3 = 3 := rfl
    omega

end Go.Proofs.YtkpgfchglaemgaaDoor
/-
  package spec: slices.Clone of values BY ITS CONTRACT.
-/
namespace Go.Proofs.YtkpgfchglaemgaaDoor
set_option linter.unusedVariables false
set_option linter.unusedSimpArgs false
open Go.RowKit
attribute [local go_sem] Oper.semAt_some

theorem eqNilS (w : World) (a : Option Addr) (n c : Nat) : (binOp .eql 35 (.slice a n c) (.slice none 0 0)).run Tryd.prog w = .ok (.bool a.isNone) w := Lib.run_eql_slice_nil w _ _ a n c 0 0 Tryd.underlying35
attribute [local go_sem] eqNilS

end Go.Proofs.YtkpgfchglaemgaaDoor
/-
  package spec: copied BY ITS CONTRACT.
-/
namespace Go.Proofs.YtkpgfchglaemgaaDoor
set_option linter.unusedVariables false
set_option linter.unusedSimpArgs false
open Go.RowKit
attribute [local go_sem] Oper.semAt_some

/-- A State as a value. -/
abbrev stV (D : WD) (vs vo : Value) : Value := .agg #[.int .i64 D.pc, vs, .int .u64 D.l0, .int .u64 D.l1, .int .u64 D.l2, .int .u64 D.l3, vo]
/-- A State in a block of its own. -/
structure StB (w : World) (p : Nat) (D : WD) (vs vo : Value) : Prop where
  st : w.heap[p]? = some (.cells #[.int .i64 D.pc, vs, .int .u64 D.l0, .int .u64 D.l1, .int .u64 D.l2, .int .u64 D.l3, vo] 38 (0, 0))
theorem StB.touch {w w' : World} {p : Nat} {D : WD} {vs vo : Value} {S : List Nat} (h : StB w p D vs vo) (t : Touch w w' S) (hS : p ∉ S) : StB w' p D vs vo := ⟨(t.block p (lt_of_heap h.st) hS).trans h.st⟩
theorem StB.cells {w : World} {p : Nat} {D : WD} {vs vo : Value} (h : StB w p D vs vo) : w.cell? ⟨p, 0, none⟩ = some (.int .i64 D.pc) ∧ w.cell? ⟨p, 1, none⟩ = some vs ∧ w.cell? ⟨p, 2, none⟩ = some (.int .u64 D.l0) ∧ w.cell? ⟨p, 3, none⟩ = some (.int .u64 D.l1) ∧ w.cell? ⟨p, 4, none⟩ = some (.int .u64 D.l2) ∧ w.cell? ⟨p, 5, none⟩ = some (.int .u64 D.l3) ∧ w.cell? ⟨p, 6, none⟩ = some vo := by
  refine ⟨?_, ?_, ?_, ?_, ?_, ?_, ?_⟩ <;> (unfold World.cell?; rw [h.st]; rfl)
theorem StB.fr {w : World} {p : Nat} {D : WD} {vs vo : Value} (h : StB w p D vs vo) (j : Nat) : w.frozen? ⟨p, j, none⟩ = false := by unfold World.frozen?; rw [h.st]; simp
theorem StB.set1 {w : World} {p : Nat} {D : WD} {vs vo : Value} (h : StB w p D vs vo) (v : Value) : StB (w.setCell ⟨p, 1, none⟩ v) p D v vo := ⟨by rw [heap_setCell_same _ _ _ _ _ _ h.st]; simp⟩
theorem StB.set6 {w : World} {p : Nat} {D : WD} {vs vo : Value} (h : StB w p D vs vo) (v : Value) : StB (w.setCell ⟨p, 6, none⟩ v) p D vs v := ⟨by rw [heap_setCell_same _ _ _ _ _ _ h.st]; simp⟩

theorem own_base {w : World} {B B' : Nat} {e : TypeId} {size : Nat} {v : Value} {n : Nat} {xs : List Value} (h : w.ownsRow B e size v n xs) (hB : B' ≤ B) : w.ownsRow B' e size v n xs := by
  refine ⟨h.1, ?_⟩
  rcases h.2 with hn | ⟨g', cap', cur, e, hb, r⟩
  · exact .inl hn
  · exact .inr ⟨g', cap', cur, e, Nat.le_trans hB hb, r⟩
/-- A State stored over another one. -/
abbrev stPut (w : World) (p : Nat) (D : WD) (vs vo : Value) : World := ((((((w.setCell ⟨p, 0, none⟩ (.int .i64 D.pc)).setCell ⟨p, 1, none⟩ vs).setCell ⟨p, 2, none⟩ (.int .u64 D.l0)).setCell ⟨p, 3, none⟩ (.int .u64 D.l1)).setCell ⟨p, 4, none⟩ (.int .u64 D.l2)).setCell ⟨p, 5, none⟩ (.int .u64 D.l3)).setCell ⟨p, 6, none⟩ vo
theorem StB.put {w : World} {p : Nat} {D0 : WD} {v0 o0 : Value} (h : StB w p D0 v0 o0) (D : WD) (vs vo : Value) : StB (stPut w p D vs vo) p D vs vo :=
  ⟨by
    rw [heap_setCell_same _ _ _ _ _ _ (heap_setCell_same _ _ _ _ _ _ (heap_setCell_same _ _ _ _ _ _ (heap_setCell_same _ _ _ _ _ _ (heap_setCell_same _ _ _ _ _ _ (heap_setCell_same _ _ _ _ _ _ (heap_setCell_same _ _ _ _ _ _ h.st))))))]
    simp⟩
theorem stPut_touch (w : World) (p : Nat) (D : WD) (vs vo : Value) : Touch w (stPut w p D vs vo) [p] := (((((((Touch.refl w [p]).setCell (.inl (by simp)) _).setCell (.inl (by simp)) _).setCell (.inl (by simp)) _).setCell (.inl (by simp)) _).setCell (.inl (by simp)) _).setCell (.inl (by simp)) _).setCell (.inl (by simp)) _
/-- What copied leaves. -/
def CopP (w : World) (D : WD) (e : Ending) (w' : World) : Prop := ∃ vs' vo', e = .returned (stV D vs' vo') ∧ valOwn w' w.heap.size vs' D.st ∧ valOwn w' w.heap.size vo' D.out ∧ (∀ g, vs'.ownBlock = some g → vo'.ownBlock ≠ some g) ∧ Touch w w' []
theorem cop_fin {w Q w5 w6 : World} {D : WD} {vs vo : Value} {a5 a6 : Option Addr} {k5 k6 : Nat} (hQ : Q.heap.size = w.heap.size + 2) (t0 : Touch w Q []) (hb : StB Q w.heap.size D vs vo) (hr : StB Q (w.heap.size + 1) ⟨0, [], 0, 0, 0, 0, [], 0⟩ (.slice none 0 0) (.slice none 0 0))
    (o5 : valOwn w5 Q.heap.size (.slice a5 D.st.length k5) D.st) (t5 : Touch Q w5 []) (o6 : valOwn w6 w5.heap.size (.slice a6 D.out.length k6) D.out) (t6 : Touch w5 w6 []) :
    StB ((w6.setCell ⟨w.heap.size, 1, none⟩ (.slice a5 D.st.length k5)).setCell ⟨w.heap.size, 6, none⟩ (.slice a6 D.out.length k6)) w.heap.size D (.slice a5 D.st.length k5) (.slice a6 D.out.length k6) ∧
    StB ((w6.setCell ⟨w.heap.size, 1, none⟩ (.slice a5 D.st.length k5)).setCell ⟨w.heap.size, 6, none⟩ (.slice a6 D.out.length k6)) (w.heap.size + 1) ⟨0, [], 0, 0, 0, 0, [], 0⟩ (.slice none 0 0) (.slice none 0 0) ∧
    (∀ W', Touch ((w6.setCell ⟨w.heap.size, 1, none⟩ (.slice a5 D.st.length k5)).setCell ⟨w.heap.size, 6, none⟩ (.slice a6 D.out.length k6)) W' [w.heap.size + 1] → CopP w D (.returned (stV D (.slice a5 D.st.length k5) (.slice a6 D.out.length k6))) W') := by
  have t56 : Touch Q w6 [] := t5.trans t6 (by simp)
  have tS : Touch w6 ((w6.setCell ⟨w.heap.size, 1, none⟩ (.slice a5 D.st.length k5)).setCell ⟨w.heap.size, 6, none⟩ (.slice a6 D.out.length k6)) [w.heap.size] := ((Touch.refl w6 _).setCell (.inl (by simp)) _).setCell (.inl (by simp)) _
  refine ⟨((hb.touch t56 (by simp)).set1 _).set6 _, (hr.touch t56 (by simp)).touch tS (by simp), fun W' tW => ?_⟩
  have hs5 := t5.size
  have b5 : ∀ g, (Value.slice a5 D.st.length k5).ownBlock = some g → w.heap.size + 2 ≤ g ∧ g < w5.heap.size := fun g hg => by have := o5.lt g hg; omega
  have b6 : ∀ g, (Value.slice a6 D.out.length k6).ownBlock = some g → w5.heap.size ≤ g := fun g hg => (o6.lt g hg).1
  have tF : Touch w6 W' [w.heap.size, w.heap.size + 1] := (tS.mono (by simp)).trans tW (by simp)
  have O5 : valOwn W' Q.heap.size (.slice a5 D.st.length k5) D.st := ownsRow_touch (ownsRow_touch o5 t6 (by simp)) tF (fun g hg => by have := b5 g hg; simp; omega)
  have O6 : valOwn W' w5.heap.size (.slice a6 D.out.length k6) D.out := ownsRow_touch o6 tF (fun g hg => by have := b6 g hg; simp; omega)
  refine ⟨_, _, rfl, own_base O5 (by omega), own_base O6 (by omega), fun g hg hg' => ?_, ?_⟩
  · have := b5 g hg
    have := b6 g hg'
    omega
  · exact (t0.trans t56 (by simp)).trans tF (fun x hx => .inr (by simp at hx; omega))

end Go.Proofs.YtkpgfchglaemgaaDoor
/-
  package spec: walkOf BY ITS CONTRACT.
-/
namespace Go.Proofs.YtkpgfchglaemgaaDoor
set_option linter.unusedVariables false
set_option linter.unusedSimpArgs false
open Go.RowKit
attribute [local go_sem] Oper.semAt_some

def fuelW (f : Int) : Int := if f ≤ 300 then f else 300
/-- What walkOf leaves. -/
def WofP (w : World) (D : WD) (vp : Value) (e : Ending) (w' : World) : Prop := ∃ vs' vo', e = .returned (.agg #[.int .i64 D.pc, vs', .int .u64 D.l0, .int .u64 D.l1, .int .u64 D.l2, .int .u64 D.l3, vo', vp, .int .i64 D.fuel]) ∧ valOwn w' w.heap.size vs' D.st ∧ valOwn w' w.heap.size vo' D.out ∧ (∀ g, vs'.ownBlock = some g → vo'.ownBlock ≠ some g) ∧ Touch w w' []

/-- A walk stored over another one. -/
abbrev wPut (w : World) (p : Nat) (D : WD) (vs vo vp : Value) : World := ((((((((w.setCell ⟨p, 0, none⟩ (.int .i64 D.pc)).setCell ⟨p, 1, none⟩ vs).setCell ⟨p, 2, none⟩ (.int .u64 D.l0)).setCell ⟨p, 3, none⟩ (.int .u64 D.l1)).setCell ⟨p, 4, none⟩ (.int .u64 D.l2)).setCell ⟨p, 5, none⟩ (.int .u64 D.l3)).setCell ⟨p, 6, none⟩ vo).setCell ⟨p, 7, none⟩ vp).setCell ⟨p, 8, none⟩ (.int .i64 D.fuel)
theorem WObj.put {w : World} {p : Nat} {T : TypeId} {tl : List Value} {D0 : WD} {v0 o0 p0 : Value} (h : WObj w p T tl v0 o0 p0 D0) (D : WD) (vs vo vp : Value) : WObj (wPut w p D vs vo vp) p T tl vs vo vp D :=
  ⟨by
    rw [heap_setCell_same _ _ _ _ _ _ (heap_setCell_same _ _ _ _ _ _ (heap_setCell_same _ _ _ _ _ _ (heap_setCell_same _ _ _ _ _ _ (heap_setCell_same _ _ _ _ _ _ (heap_setCell_same _ _ _ _ _ _ (heap_setCell_same _ _ _ _ _ _ (heap_setCell_same _ _ _ _ _ _ (heap_setCell_same _ _ _ _ _ _ h.st))))))))]
    simp⟩
theorem wPut_touch (w : World) (p : Nat) (D : WD) (vs vo vp : Value) : Touch w (wPut w p D vs vo vp) [p] := (((((((((Touch.refl w [p]).setCell (.inl (by simp)) _).setCell (.inl (by simp)) _).setCell (.inl (by simp)) _).setCell (.inl (by simp)) _).setCell (.inl (by simp)) _).setCell (.inl (by simp)) _).setCell (.inl (by simp)) _).setCell (.inl (by simp)) _).setCell (.inl (by simp)) _

end Go.Proofs.YtkpgfchglaemgaaDoor
/-
  package spec: tried BY ITS CONTRACT.
-/
namespace Go.Proofs.YtkpgfchglaemgaaDoor
set_option linter.unusedVariables false
set_option linter.unusedSimpArgs false
open Go.RowKit

theorem tmpsS (p q : Addr) (v : Value) : (#[Value.pointer (some p), Value.pointer (some q)] ++ (Array.replicate 11 undef).setIfInBounds 2 v : Array Value) = #[.pointer (some p), .pointer (some q), undef, undef, v, undef, undef, undef, undef, undef, undef, undef, undef] := rfl

end Go.Proofs.YtkpgfchglaemgaaDoor
/-
  package spec: tried BY ITS CONTRACT, around any work.
-/
namespace Go.Proofs.YtkpgfchglaemgaaDoor
set_option linter.unusedVariables false
set_option linter.unusedSimpArgs false
open Go.RowKit

/-- Behind tried: the work went from w1 to w2; then nothing but tried's own cells. -/
def TriedP (w : World) (S : List Nat) (R : World → World → Prop) (kind er : Int) (e : Ending) (w' : World) : Prop :=
  e = .returned (.tuple #[.int .u8 kind, .int .i64 er]) ∧ ∃ w1 w2, Touch w w1 [] ∧ Touch w1 w2 S ∧ R w1 w2 ∧ Touch w2 w' [w.heap.size, w.heap.size + 1]

end Go.Proofs.YtkpgfchglaemgaaDoor
/-
  package spec: A BLOCK AS PLAIN DATA AND AS IT LIES: its walk, its heap, the left arms that are begun, the arms that were taken.
-/
namespace Go.Proofs.YtkpgfchglaemgaaDoor
set_option linter.unusedVariables false
set_option linter.unusedSimpArgs false
open Go.RowKit

/-- Since when (how many blocks there were), and which of the older ones, may be changed. -/
abbrev Gd := Nat × List Nat
def Gd.ok (B : Gd) (x : Nat) : Prop := x ∈ B.2 ∨ B.1 ≤ x
/-- What is kept of a left arm. -/
structure MkD where
  D : WD
  h : List Int
  e : Int
/-- A block. -/
structure BX where
  D : WD
  h : List Int
  ms : List MkD
  arms : List Bool

def ob (v : Value) : List Nat := v.ownBlock.toList
theorem mem_ob {v : Value} {g : Nat} : g ∈ ob v ↔ v.ownBlock = some g := by unfold ob; simp

/-- Whose blocks they are. -/
def comp (b : Nat) (vs vo vh vl va : Value) (F : List Nat) : Nat → List Nat
  | 0 => [b]
  | 1 => ob vs
  | 2 => ob vo
  | 3 => ob vh
  | 4 => ob vl
  | 5 => ob va
  | 6 => F
  | _ => []
theorem comp_swap {N : Nat} {c c' : Nat → List Nat} (ap : ∀ i j, i ≠ j → ∀ x ∈ c i, x ∉ c j) (h : ∀ i, ∀ x ∈ c' i, x ∈ c i ∨ N ≤ x) (hf : ∀ i j, i ≠ j → ∀ x ∈ c' i, N ≤ x → x ∉ c' j) : ∀ i j, i ≠ j → ∀ x ∈ c' i, x ∉ c' j := by
  intro i j hij x hx hx'
  rcases h i x hx with q | q
  · rcases h j x hx' with r | r
    · exact ap i j hij x q r
    · exact hf j i (fun e => hij e.symm) x hx' r hx
  · exact hf i j hij x hx q hx'

abbrev MkT := MkD × Value × List Nat
def ftL (L : List MkT) : List Nat := L.flatMap (fun t => t.2.2)
end Go.Proofs.YtkpgfchglaemgaaDoor
/-
  package spec: variable BY ITS CONTRACT.
-/
namespace Go.Proofs.YtkpgfchglaemgaaDoor
set_option linter.unusedVariables false
set_option linter.unusedSimpArgs false
open Go.RowKit
attribute [local go_sem] Oper.semAt_some

theorem whole_le (x : Nat) (h : rungB x ≤ 4845873199050653696) (n : Int) (hn : floatToIntVal .f64 x .i64 = some n) : -9007199254740992 ≤ n ∧ n ≤ 9007199254740992 := by
  obtain ⟨s, c, hc, hd, hi, _⟩ := toInt_near x h
  have es : Ieee.signed s c 0 = sgn s c := by rw [signed_sgn]; simp
  unfold floatToIntVal Ieee.Datum.toInt at hn
  rw [hd, hi] at hn
  simp only [es] at hn
  split at hn
  · simp only [Option.some.injEq] at hn
    rw [← hn]
    unfold sgn
    split <;> omega
  · cases hn
theorem wholeV_le (x : Nat) : -9007199254740992 ≤ (wholeV x).1 ∧ (wholeV x).1 ≤ 9007199254740992 := by
  unfold wholeV
  split
  · rename_i n hn
    split
    · rename_i hh
      exact whole_le x hh.1 n hn
    · constructor <;> decide
  · constructor <;> decide

/-- Which variable an instruction names. -/
def idxW (i : InsD) (pp : List Int) : Option Int :=
  if i.op = 6 ∨ i.op = 7 then (if (wholeV (ofB (pp.getD (pp.length - 1) 0).toNat)).2 = true ∧ 0 ≤ (wholeV (ofB (pp.getD (pp.length - 1) 0).toNat)).1 then some (wholeV (ofB (pp.getD (pp.length - 1) 0).toNat)).1 else none) else some 0
def varW (i : InsD) (pp : List Int) (nh : Nat) : Option Int := match idxW i pp with
  | none => none
  | some k => if i.arg + k < nh then some (i.arg + k) else none
end Go.Proofs.YtkpgfchglaemgaaDoor
/-
  package spec: A BLOCK BEHIND WHAT IS DONE TO IT. No walk.
-/
namespace Go.Proofs.YtkpgfchglaemgaaDoor
set_option linter.unusedVariables false
set_option linter.unusedSimpArgs false
open Go.RowKit

theorem val_put {w : World} {g cap : Nat} {ls : List Int} (h : valOwn w 0 (.slice (some ⟨g, 0, none⟩) ls.length cap) ls) (i : Nat) (x : Int) : valOwn (w.setCell ⟨g, i, none⟩ (.int .u64 x)) 0 (.slice (some ⟨g, 0, none⟩) ls.length cap) (ls.set i x) := by
  have hl : (ls.set i x).length = ls.length := List.length_set
  refine ⟨by rw [List.length_map, hl]; omega, .inr ?_⟩
  rcases h.2 with ⟨e, _⟩ | ⟨g', cap', cur, e, hB, hg, h1, h2, h3, h4⟩
  · simp at e
  · simp only [Value.slice.injEq, Option.some.injEq, Addr.mk.injEq] at e
    obtain ⟨⟨rfl, _⟩, _, rfl⟩ := e
    refine ⟨g, cap, _, by rw [hl], hB, heap_setCell_same _ _ _ _ _ _ hg, by rw [hl]; exact h1, h2, by simpa using h3, ?_⟩
    rw [hl, List.map_set, ← h4]
    simp only [Array.toList_setIfInBounds]
    rw [List.take_set]
theorem apart_keep {w w' : World} {b p : Nat} {vs vo vh vl va : Value} {F S : List Nat} (h1 : p < w.heap.size) (h2 : ∀ i, p ∉ comp b vs vo vh vl va F i) (t : Touch w w' S) (hS : ∀ x ∈ S, ∃ i, x ∈ comp b vs vo vh vl va F i) : w'.heap[p]? = w.heap[p]? :=
  t.block p h1 (fun hm => by obtain ⟨i, hi⟩ := hS p hm; exact h2 i hi)

/-- reach as a plain function. -/
def reachB (X : BX) (i : InsD) : Int × BX :=
  if fitsW i.op X.D.st.length = false then (12, X) else match varW i (X.D.st.drop (X.D.st.length - (popV i.op).toNat)) X.h.length with
  | none => (2, X)
  | some t => if i.op = 4 ∨ i.op = 6 then (0, { X with D := { X.D with st := X.D.st.take (X.D.st.length - (popV i.op).toNat) ++ [X.h.getD t.toNat 0], pc := X.D.pc + 1 } })
    else (0, { X with h := X.h.set t.toNat ((X.D.st.drop (X.D.st.length - (popV i.op).toNat)).getD 0 0), D := { X.D with st := X.D.st.take (X.D.st.length - (popV i.op).toNat) ++ [], pc := X.D.pc + 1 } })

end Go.Proofs.YtkpgfchglaemgaaDoor
/-
  package spec: reach BY ITS CONTRACT. Written by mkreach.py.
-/
namespace Go.Proofs.YtkpgfchglaemgaaDoor
set_option linter.unusedVariables false
set_option linter.unusedSimpArgs false
open Go.RowKit
attribute [local go_sem] Oper.semAt_some

theorem right_var {i : InsD} (h : rightI i = true) (ho : i.op = 4 ∨ i.op = 5 ∨ i.op = 6 ∨ i.op = 7) : 0 ≤ i.arg ∧ i.arg ≤ 255 := by
  unfold rightI at h
  simp only [Bool.and_eq_true, decide_eq_true_eq] at h
  have h1 := h.1.2
  have h0 := h.1.1.2
  have : highP i.op = 11 := by rcases ho with q | q | q | q <;> (rw [q]; rfl)
  omega
theorem varW_some {i : InsD} {pp : List Int} {nh : Nat} {t : Int} (h : varW i pp nh = some t) (ha : 0 ≤ i.arg) : 0 ≤ t ∧ t < nh := by
  unfold varW at h
  split at h
  · cases h
  · rename_i k hk
    split at h
    · rename_i hlt
      simp only [Option.some.injEq] at h
      unfold idxW at hk
      split at hk
      · split at hk
        · rename_i h2
          simp only [Option.some.injEq] at hk
          omega
        · cases hk
      · simp only [Option.some.injEq] at hk
        omega
    · cases h
theorem own_some {w : World} {B : Nat} {ao : Option Addr} {n c : Nat} {l : List Int} (h : valOwn w B (.slice ao n c) l) (hn : 0 < n) : ∃ g, ao = some ⟨g, 0, none⟩ := by
  rcases h.2 with ⟨e, _⟩ | ⟨g, cap, cur, e, _⟩
  · simp only [Value.slice.injEq] at e; omega
  · simp only [Value.slice.injEq] at e; exact ⟨g, e.1⟩

end Go.Proofs.YtkpgfchglaemgaaDoor
/-
  package spec: A LEFT ARM's WAY BACK (begin's closure) BY ITS CONTRACT. Written by mkback.py.
-/
namespace Go.Proofs.YtkpgfchglaemgaaDoor
set_option linter.unusedVariables false
set_option linter.unusedSimpArgs false
open Go.RowKit
attribute [local go_sem] Oper.semAt_some

theorem WObj.stput {w : World} {p : Nat} {T : TypeId} {tl : List Value} {D0 : WD} {v0 o0 vp : Value} (h : WObj w p T tl v0 o0 vp D0) (D : WD) (vs vo : Value) : WObj (stPut w p D vs vo) p T tl vs vo vp { D with fuel := D0.fuel } :=
  ⟨by
    rw [heap_setCell_same _ _ _ _ _ _ (heap_setCell_same _ _ _ _ _ _ (heap_setCell_same _ _ _ _ _ _ (heap_setCell_same _ _ _ _ _ _ (heap_setCell_same _ _ _ _ _ _ (heap_setCell_same _ _ _ _ _ _ (heap_setCell_same _ _ _ _ _ _ h.st))))))]
    simp⟩
theorem WObj.set9 {w : World} {b : Nat} {T : TypeId} {v0 : Value} {tl : List Value} {vs vo vp : Value} {D : WD} (h : WObj w b T (v0 :: tl) vs vo vp D) (v : Value) : WObj (w.setCell ⟨b, 9, none⟩ v) b T (v :: tl) vs vo vp D := ⟨by rw [heap_setCell_same _ _ _ _ _ _ h.st]; simp⟩
theorem WObj.set10 {w : World} {b : Nat} {T : TypeId} {v0 v1 : Value} {tl : List Value} {vs vo vp : Value} {D : WD} (h : WObj w b T (v0 :: v1 :: tl) vs vo vp D) (v : Value) : WObj (w.setCell ⟨b, 10, none⟩ v) b T (v0 :: v :: tl) vs vo vp D := ⟨by rw [heap_setCell_same _ _ _ _ _ _ h.st]; simp⟩
theorem WObj.set11 {w : World} {b : Nat} {T : TypeId} {v0 v1 v2 : Value} {tl : List Value} {vs vo vp : Value} {D : WD} (h : WObj w b T (v0 :: v1 :: v2 :: tl) vs vo vp D) (v : Value) : WObj (w.setCell ⟨b, 11, none⟩ v) b T (v0 :: v1 :: v :: tl) vs vo vp D := ⟨by rw [heap_setCell_same _ _ _ _ _ _ h.st]; simp⟩

theorem nd_parts {s h p q : Nat} {a c d : List Nat} (nd : (s :: h :: p :: q :: (a ++ (c ++ d))).Nodup) : (∀ x ∈ a, x ∉ c) ∧ (∀ x ∈ a, x ∉ d) ∧ (∀ x ∈ c, x ∉ d) := by
  have h1 : (a ++ (c ++ d)).Nodup := by
    simp only [List.nodup_cons] at nd
    exact nd.2.2.2.2
  rw [List.nodup_append] at h1
  obtain ⟨_, h2, h3⟩ := h1
  rw [List.nodup_append] at h2
  refine ⟨fun x hx hc => h3 x hx x (by simp [hc]) rfl, fun x hx hd => h3 x hx x (by simp [hd]) rfl, fun x hx hd => h2.2.2 x hx x hd rfl⟩

end Go.Proofs.YtkpgfchglaemgaaDoor
/-
  package spec: innermost AND retry BY THEIR CONTRACTS.
-/
namespace Go.Proofs.YtkpgfchglaemgaaDoor
set_option linter.unusedVariables false
set_option linter.unusedSimpArgs false
open Go.RowKit
attribute [local go_sem] Oper.semAt_some

theorem row_take {w : World} {e : TypeId} {g n cap : Nat} {xs : List Value} (h : w.ownsRow 0 e 1 (.slice (some ⟨g, 0, none⟩) n cap) n xs) (q : Nat) (hq : q ≤ n) : w.ownsRow 0 e 1 (.slice (some ⟨g, 0, none⟩) q cap) q (xs.take q) := by
  have hl := h.1
  refine ⟨by rw [List.length_take]; omega, .inr ?_⟩
  rcases h.2 with ⟨e5, _⟩ | ⟨g5, cap5, cur5, e5, hb5, h6, hn5, hm5, hc5, ht5⟩
  · cases e5
  · simp only [Value.slice.injEq, Option.some.injEq, Addr.mk.injEq] at e5
    obtain ⟨⟨rfl, _⟩, _, rfl⟩ := e5
    refine ⟨g, cap, cur5, rfl, hb5, h6, by omega, hm5, hc5, ?_⟩
    rw [← ht5, List.take_take]
    congr 1
    omega

end Go.Proofs.YtkpgfchglaemgaaDoor
/-
  package spec: retry BY ITS CONTRACT.
-/
namespace Go.Proofs.YtkpgfchglaemgaaDoor
set_option linter.unusedVariables false
set_option linter.unusedSimpArgs false
open Go.RowKit
attribute [local go_sem] Oper.semAt_some

end Go.Proofs.YtkpgfchglaemgaaDoor
/-
  ROWS OF ONE CELL EACH: one more. No walk.
-/
namespace Go.Proofs.YtkpgfchglaemgaaDoor
set_option linter.unusedVariables false
set_option linter.unusedSimpArgs false
open Go.RowKit

theorem flat_self (l : List Value) : l.flatMap (fun v => [v]) = l := by induction l with
  | nil => rfl
  | cons x l ih => rw [List.flatMap_cons, ih]; rfl
theorem row1_push {P : Program} {w : World} {B : Nat} (t e : TypeId) {z : Value} {bytes : Nat} (ht : P.underlying t = some (.slice e)) (hinfo : (P.info? e).map (fun i => (i.zero, i.size, i.bytes)) = some (some z, 1, bytes)) (hzs : z.cells.size = 1) (hbp : 0 < bytes) (hbu : bytes ≤ 16) {v : Value} {n : Nat} {xs : List Value} (h : w.ownsRow B e 1 v n xs) (hn : n ≤ 1000) (hB : B ≤ w.heap.size) (x : Value) (hx : x.oneCell' = true) (ty : TypeId) :
    ∃ ao' cap' w', (Builtin.append_ #[t, t] ty #[v, .slice (some ⟨w.heap.size, 0, none⟩) 1 1]).run P (w.alloc (.cells #[x] e)) = .ok (.slice ao' (n + 1) cap') w' ∧ w'.ownsRow B e 1 (.slice ao' (n + 1) cap') (n + 1) (xs ++ [x]) ∧ Touch w w' v.ownBlock.toList ∧ (∀ g, (Value.slice ao' (n + 1) cap').ownBlock = some g → v.ownBlock = some g ∨ w.heap.size ≤ g) := by
  obtain ⟨i0, hi, hz0, hz1, hz2⟩ := info_partsE hinfo
  have T1 : Touch w (w.alloc (.cells #[x] e)) [] := (Touch.refl w []).alloc _
  have hr : SRow 1 (fun v : {y : Value // y.oneCell' = true} => [v.1]) (w.alloc (.cells #[x] e)) (.slice (some ⟨w.heap.size, 0, none⟩) [(⟨x, hx⟩ : {y : Value // y.oneCell' = true})].length 1) [⟨x, hx⟩] := by
    refine ⟨_, 1, rfl, fun _ => ⟨w.heap.size, 0, rfl, by simp, fun k hk j hj => ?_⟩⟩
    have hk0 : k = 0 := by simpa using hk
    have hj0 : j = 0 := by omega
    subst hk0 hj0
    have h0 := heap_alloc_new w (.cells #[x] e)
    unfold World.cell?
    simp only [h0]
    rfl
  obtain ⟨v', w', h1, h2, h3, h4⟩ := run_app (P := P) (cells := fun v : {y : Value // y.oneCell' = true} => [v.1]) t ty e i0 z 1 bytes ht hi hz0 hz1 hz2 hzs (by decide) (fun _ => rfl) (fun y u hu => by
    rw [List.mem_singleton.1 hu]; exact y.2) (ownsRow_touch h T1 (by simp)) hr (by
      simp only [List.length_cons, List.length_nil]
      have : (n + (0 + 1)) * bytes ≤ (n + (0 + 1)) * 16 := Nat.mul_le_mul_left _ hbu
      omega) hbp (by simp; omega)
  obtain ⟨ao', cap', rfl⟩ := owns_slice h2
  refine ⟨ao', cap', w', h1, h2, (T1.mono (by simp)).grown h3 (fun k hk => .inl (by simp [hk])), ?_⟩
  intro g hg
  rcases h4 with h4 | h4
  · left; rw [← h4]; exact hg
  · right
    have h5 : (Value.slice ao' (n + 1) cap').ownBlock = some (w.alloc (.cells #[x] e)).heap.size := h4
    rw [h5] at hg
    simp at hg
    omega
theorem Tryd.info_fun : (Tryd.prog.info? 1).map (fun i => (i.zero, i.size, i.bytes)) = some (some .nilFunc, 1, 8) := by kernel_rfl
theorem Tryd.info_bool : (Tryd.prog.info? 4).map (fun i => (i.zero, i.size, i.bytes)) = some (some (.bool false), 1, 1) := by kernel_rfl

/-! ### What is made ahead of a left arm, piece by piece -/
abbrev zWD : WD := ⟨0, [], 0, 0, 0, 0, [], 0⟩
def cB : Option (Value × Value) → List Nat
  | none => []
  | some p => ob p.1 ++ ob p.2
def dB : Option Value → List Nat
  | none => []
  | some v => ob v
def accF (s h : Option Nat) (c : Option (Value × Value)) (d : Option Value) : List Nat := s.toList ++ (h.toList ++ (cB c ++ dB d))
structure MkA (Q W : World) (D : WD) (H : List Int) (s h : Option Nat) (c : Option (Value × Value)) (d : Option Value) : Prop where
  t : Touch Q W []
  sb : ∀ x, s = some x → StB W x zWD (.slice none 0 0) (.slice none 0 0)
  hb : ∀ x, h = some x → W.heap[x]? = some (.cells #[.slice none 0 0] 35 (0, 0))
  co : ∀ p, c = some p → valOwn W Q.heap.size p.1 D.st ∧ valOwn W Q.heap.size p.2 D.out
  dd : ∀ v, d = some v → valOwn W Q.heap.size v H
  nd : (accF s h c d).Nodup
  lt : ∀ x ∈ accF s h c d, Q.heap.size ≤ x ∧ x < W.heap.size
theorem MkA.touch {Q W W' : World} {D : WD} {H : List Int} {s h : Option Nat} {c : Option (Value × Value)} {d : Option Value} (k : MkA Q W D H s h c d) (t : Touch W W' []) : MkA Q W' D H s h c d :=
  ⟨k.t.trans t (by simp), fun x hx => (k.sb x hx).touch t (by simp), fun x hx => (t.block x (lt_of_heap (k.hb x hx)) (by simp)).trans (k.hb x hx), fun p hp => ⟨ownsRow_touch (k.co p hp).1 t (by simp), ownsRow_touch (k.co p hp).2 t (by simp)⟩, fun v hv => ownsRow_touch (k.dd v hv) t (by simp), k.nd, fun x hx => ⟨(k.lt x hx).1, Nat.lt_of_lt_of_le (k.lt x hx).2 t.size⟩⟩
theorem MkA.zero (Q W : World) (D : WD) (H : List Int) (t : Touch Q W []) : MkA Q W D H none none none none :=
  ⟨t, fun x hx => (by cases hx), fun x hx => (by cases hx), fun x hx => (by cases hx), fun x hx => (by cases hx), by simp [accF, cB, dB], fun x hx => by simp [accF, cB, dB] at hx⟩
theorem nodup_add {A N C : List Nat} {m : Nat} (h : (A ++ C).Nodup) (hN : N.Nodup) (hl : ∀ x ∈ A ++ C, x < m) (hm : ∀ x ∈ N, m ≤ x) : (A ++ (N ++ C)).Nodup := by
  rw [List.nodup_append] at h ⊢
  obtain ⟨h1, h2, h3⟩ := h
  refine ⟨h1, ?_, ?_⟩
  · rw [List.nodup_append]
    exact ⟨hN, h2, fun a ha b hb e => by have := hm a ha; have := hl b (by simp [hb]); omega⟩
  · intro a ha b hb e
    rcases List.mem_append.1 hb with hb | hb
    · have := hm b hb; have := hl a (by simp [ha]); omega
    · exact h3 a ha b hb e
theorem MkA.allocS {Q W : World} {D : WD} {H : List Int} {h : Option Nat} {c : Option (Value × Value)} {d : Option Value} (k : MkA Q W D H none h c d) : MkA Q (W.alloc (.cells #[.int .i64 0, .slice none 0 0, .int .u64 0, .int .u64 0, .int .u64 0, .int .u64 0, .slice none 0 0] 38)) D H (some W.heap.size) h c d := by
  have t : Touch W (W.alloc (.cells #[.int .i64 0, .slice none 0 0, .int .u64 0, .int .u64 0, .int .u64 0, .int .u64 0, .slice none 0 0] 38)) [] := (Touch.refl W []).alloc _
  have k' := k.touch t
  have hs : (W.alloc (.cells #[.int .i64 0, .slice none 0 0, .int .u64 0, .int .u64 0, .int .u64 0, .int .u64 0, .slice none 0 0] 38)).heap.size = W.heap.size + 1 := by simp
  refine ⟨k'.t, fun x hx => ?_, k'.hb, k'.co, k'.dd, ?_, ?_⟩
  · simp only [Option.some.injEq] at hx; subst hx; exact ⟨heap_alloc_new W _⟩
  · exact nodup_add (A := []) (m := W.heap.size) (N := [W.heap.size]) (C := h.toList ++ (cB c ++ dB d)) (by have := k.nd; simpa [accF] using this) (by simp) (fun x hx => (k.lt x (by simpa [accF] using hx)).2) (by simp)
  · intro x hx
    have hx' : x = W.heap.size ∨ x ∈ accF none h c d := by simpa [accF] using hx
    rw [hs]
    rcases hx' with rfl | hx'
    · exact ⟨k.t.size, by omega⟩
    · have := k.lt x hx'; omega
theorem MkA.allocH {Q W : World} {D : WD} {H : List Int} {s : Option Nat} {c : Option (Value × Value)} {d : Option Value} (k : MkA Q W D H s none c d) : MkA Q (W.alloc (.cells #[.slice none 0 0] 35)) D H s (some W.heap.size) c d := by
  have t : Touch W (W.alloc (.cells #[.slice none 0 0] 35)) [] := (Touch.refl W []).alloc _
  have k' := k.touch t
  have hs : (W.alloc (.cells #[.slice none 0 0] 35)).heap.size = W.heap.size + 1 := by simp
  refine ⟨k'.t, k'.sb, fun x hx => ?_, k'.co, k'.dd, ?_, ?_⟩
  · simp only [Option.some.injEq] at hx; subst hx; exact heap_alloc_new W _
  · exact nodup_add (A := s.toList) (m := W.heap.size) (N := [W.heap.size]) (C := cB c ++ dB d) (by have := k.nd; simpa [accF] using this) (by simp) (fun x hx => (k.lt x (by simpa [accF] using hx)).2) (by simp)
  · intro x hx
    have hx' : x = W.heap.size ∨ x ∈ accF s none c d := by
      simp only [accF, List.mem_append, Option.toList_some, Option.toList_none, List.mem_singleton, List.not_mem_nil] at hx ⊢
      rcases hx with q | q | q
      · exact .inr (.inl q)
      · exact .inl q
      · exact .inr (.inr (.inr q))
    rw [hs]
    rcases hx' with rfl | hx'
    · exact ⟨k.t.size, by omega⟩
    · have := k.lt x hx'; omega
theorem ob_nodup (v : Value) : (ob v).Nodup := by
  unfold ob
  cases v.ownBlock with
  | none => simp
  | some g => simp
theorem MkA.callC {Q W w' : World} {D : WD} {H : List Int} {s h : Option Nat} {d : Option Value} (k : MkA Q W D H s h none d) {e : Ending} (hc : CopP W D e w') : ∃ sa sc oa oc, e = .returned (stV D (.slice sa D.st.length sc) (.slice oa D.out.length oc)) ∧ MkA Q w' D H s h (some (.slice sa D.st.length sc, .slice oa D.out.length oc)) d ∧ Touch W w' [] := by
  obtain ⟨vs, vo, rfl, o1, o2, n1, t⟩ := hc
  obtain ⟨sa, sc, rfl⟩ := owns_slice o1
  obtain ⟨oa, oc, rfl⟩ := owns_slice o2
  have k' := k.touch t
  have hq := k.t.size
  refine ⟨sa, sc, oa, oc, rfl, ⟨k'.t, k'.sb, k'.hb, fun p hp => ?_, k'.dd, ?_, ?_⟩, t⟩
  · simp only [Option.some.injEq] at hp; subst hp; exact ⟨own_base o1 hq, own_base o2 hq⟩
  · have := nodup_add (A := s.toList ++ h.toList) (m := W.heap.size) (N := ob (.slice sa D.st.length sc) ++ ob (.slice oa D.out.length oc)) (C := dB d) (by have := k.nd; simpa [accF, cB] using this) (by
      rw [List.nodup_append]
      exact ⟨ob_nodup _, ob_nodup _, fun a ha b hb e => n1 a (mem_ob.1 ha) (by rw [e]; exact mem_ob.1 hb)⟩) (fun x hx => (k.lt x (by simpa [accF, cB] using hx)).2) (fun x hx => by
        rcases List.mem_append.1 hx with q | q
        · exact own_ge o1 x (mem_ob.1 q)
        · exact own_ge o2 x (mem_ob.1 q))
    simpa [accF, cB] using this
  · intro x hx
    have hx' : x ∈ ob (.slice sa D.st.length sc) ∨ x ∈ ob (.slice oa D.out.length oc) ∨ x ∈ accF s h none d := by
      simp only [accF, cB, List.mem_append, List.not_mem_nil] at hx ⊢
      rcases hx with q | q | (q | q) | q
      · exact .inr (.inr (.inl q))
      · exact .inr (.inr (.inr (.inl q)))
      · exact .inl q
      · exact .inr (.inl q)
      · exact .inr (.inr (.inr (.inr (.inr q))))
    rcases hx' with q | q | q
    · exact ⟨Nat.le_trans hq (own_ge o1 x (mem_ob.1 q)), own_lt o1 x (mem_ob.1 q)⟩
    · exact ⟨Nat.le_trans hq (own_ge o2 x (mem_ob.1 q)), own_lt o2 x (mem_ob.1 q)⟩
    · have := k'.lt x q; exact this
theorem MkA.callD {Q W w' : World} {D : WD} {H : List Int} {s h : Option Nat} {c : Option (Value × Value)} (k : MkA Q W D H s h c none) {e : Ending} (hc : PushP W H e w') : ∃ ha hc, e = .returned (.slice ha H.length hc) ∧ MkA Q w' D H s h c (some (.slice ha H.length hc)) ∧ Touch W w' [] := by
  obtain ⟨v, rfl, o1, t⟩ := hc
  obtain ⟨ha, hc, rfl⟩ := owns_slice o1
  have k' := k.touch t
  have hq := k.t.size
  refine ⟨ha, hc, rfl, ⟨k'.t, k'.sb, k'.hb, k'.co, fun p hp => ?_, ?_, ?_⟩, t⟩
  · simp only [Option.some.injEq] at hp; subst hp; exact own_base o1 hq
  · have := nodup_add (A := s.toList ++ (h.toList ++ cB c)) (m := W.heap.size) (N := ob (.slice ha H.length hc)) (C := []) (by have := k.nd; simpa [accF, dB] using this) (ob_nodup _) (fun x hx => (k.lt x (by simpa [accF, dB] using hx)).2) (fun x hx => own_ge o1 x (mem_ob.1 hx))
    simpa [accF, dB] using this
  · intro x hx
    have hx' : x ∈ ob (.slice ha H.length hc) ∨ x ∈ accF s h c none := by
      simp only [accF, dB, List.mem_append, List.not_mem_nil] at hx ⊢
      rcases hx with q | q | q | q
      · exact .inr (.inl q)
      · exact .inr (.inr (.inl q))
      · exact .inr (.inr (.inr (.inl q)))
      · exact .inl q
    rcases hx' with q | q
    · exact ⟨Nat.le_trans hq (own_ge o1 x (mem_ob.1 q)), own_lt o1 x (mem_ob.1 q)⟩
    · have := k'.lt x q; exact this

end Go.Proofs.YtkpgfchglaemgaaDoor
/-
  package spec: begin BY ITS CONTRACT. Written by mkbegin.py.
-/
namespace Go.Proofs.YtkpgfchglaemgaaDoor
set_option linter.unusedVariables false
set_option linter.unusedSimpArgs false
open Go.RowKit
attribute [local go_sem] Oper.semAt_some

end Go.Proofs.YtkpgfchglaemgaaDoor
/-
  package spec: bracket BY ITS CONTRACT.
-/
namespace Go.Proofs.YtkpgfchglaemgaaDoor
set_option linter.unusedVariables false
set_option linter.unusedSimpArgs false
open Go.RowKit
attribute [local go_sem] Oper.semAt_some

/-- bracket as a plain function. -/
def brB (X : BX) (i : InsD) : Int × BX :=
  if i.op = 23 then (0, { X with ms := X.ms ++ [⟨X.D, X.h, i.arg⟩], D := { X.D with pc := X.D.pc + 1 } })
  else if i.op = 24 then (match X.ms.getLast? with
    | none => (3, X)
    | some _ => (0, { X with ms := X.ms.dropLast, arms := X.arms ++ [true], D := { X.D with pc := i.arg + 1 } }))
  else if i.op = 25 then (0, { X with arms := X.arms ++ [false], D := { X.D with pc := X.D.pc + 1 } })
  else if i.op = 26 then (match X.ms.getLast? with
    | none => (-1, X)
    | some m => (0, { X with ms := X.ms.dropLast, h := m.h, D := { m.D with fuel := X.D.fuel, pc := m.e + 1 } }))
  else (0, { X with D := { X.D with pc := X.D.pc + 1 } })

theorem bk_keep {w W : World} {b p : Nat} {vs vo vh vl va : Value} {F : List Nat} (h1 : p < w.heap.size) (h2 : ∀ i, p ∉ comp b vs vo vh vl va F i) (t : Touch w W (b :: (ob vl ++ ob va))) : W.heap[p]? = w.heap[p]? := by
  refine apart_keep h1 h2 t (fun y hy => ?_)
  simp only [List.mem_cons, List.mem_append] at hy
  rcases hy with rfl | hy | hy
  · exact ⟨0, by simp [comp]⟩
  · exact ⟨4, hy⟩
  · exact ⟨5, hy⟩

end Go.Proofs.YtkpgfchglaemgaaDoor
/-
  package spec: do BY ITS CONTRACT. Written by mkdo.py.
-/
namespace Go.Proofs.YtkpgfchglaemgaaDoor
set_option linter.unusedVariables false
set_option linter.unusedSimpArgs false
open Go.RowKit
attribute [local go_sem] Oper.semAt_some

/-- do as a plain function. -/
def doB (l : List InsD) (X : BX) (i : InsD) : Int × BX :=
  if i.op = 27 ∨ i.op = 28 ∨ i.op = 21 then (3, X)
  else if i.op = 4 ∨ i.op = 5 ∨ i.op = 6 ∨ i.op = 7 then reachB X i
  else if i.op = 22 ∨ i.op = 23 ∨ i.op = 24 ∨ i.op = 25 ∨ i.op = 26 then (if fitsW i.op X.D.st.length = false then (12, X) else brB X i)
  else ((stepW l X.D).1, { X with D := (stepW l X.D).2 })

/-- How long a block's lists may be, and what they may hold. -/
structure BWf (X : BX) : Prop where
  st : X.D.st.length ≤ 1000
  out : X.D.out.length ≤ 1000
  h : X.h.length ≤ 1000
  ms : X.ms.length ≤ 1000
  arms : X.arms.length ≤ 1000
  me : ∀ m ∈ X.ms, 0 ≤ m.e ∧ m.e ≤ 1000
  w : ∀ x ∈ X.D.st, Wf64 x

theorem step_pos (l : List InsD) (D : WD) : 0 ≤ (stepW l D).1 := by
  unfold stepW
  split
  · show (0 : Int) ≤ 3; decide
  · split
    · show (0 : Int) ≤ 3; decide
    · split
      · show (0 : Int) ≤ 3; decide
      · split
        · show (0 : Int) ≤ 12; decide
        · unfold doW
          repeat' split
          all_goals (first | exact Int.le_refl _ | (show (0 : Int) ≤ 2; decide) | (show (0 : Int) ≤ 4; decide) | decide)

end Go.Proofs.YtkpgfchglaemgaaDoor
/-
  package spec: WHAT A BLOCK HOLDS STAYS SMALL AND RIGHT. No walk.
-/
namespace Go.Proofs.YtkpgfchglaemgaaDoor
set_option linter.unusedVariables false
set_option linter.unusedSimpArgs false
open Go.RowKit

theorem wf_zero : Wf64 0 := by unfold Wf64; decide
theorem wf_getD {l : List Int} (h : ∀ x ∈ l, Wf64 x) (k : Nat) : Wf64 (l.getD k 0) := by
  rw [List.getD_eq_getElem?_getD]
  by_cases hk : k < l.length
  · rw [List.getElem?_eq_getElem hk]; exact h _ (List.getElem_mem hk)
  · rw [List.getElem?_eq_none (by omega)]; exact wf_zero
theorem arith_wf (op : BinOp) (x y : Nat) : Wf64 (arithB op x y : Nat) := by
  unfold arithB
  split
  · rename_i r h
    have h1 := floatBits_wf h
    have h2 : r < 18446744073709551616 := by simpa [Lit.wf] using h1
    have := ofB_lt r h2
    unfold Wf64; omega
  · unfold Wf64; omega
theorem oneV_wf (b : Bool) : Wf64 (oneV b) := by cases b <;> (unfold oneV Wf64; decide)
theorem neg_wf {n : Int} (h : Wf64 n) : Wf64 (negV (ofB n.toNat)) := by
  have hr := h.rt
  have hl : Op.negFloat .f64 (ofB n.toNat) < 18446744073709551616 := by rw [negFloat_is _ hr.lt]; have := hr.lt; split <;> omega
  rw [← negV_is hr]
  have := ofB_lt _ hl
  unfold Wf64; omega
theorem reck_wf (o a b : Int) : Wf64 (reckV o a b) := by
  unfold reckV
  repeat' split
  all_goals first | exact arith_wf _ _ _ | exact oneV_wf _

structure SWf (D : WD) (h : List Int) : Prop where
  st : D.st.length ≤ 1000
  out : D.out.length ≤ 1000
  hl : h.length ≤ 1000
  ws : ∀ x ∈ D.st, Wf64 x
  wh : ∀ x ∈ h, Wf64 x
  w0 : Wf64 D.l0
  w1 : Wf64 D.l1
  w2 : Wf64 D.l2
  w3 : Wf64 D.l3
structure BW (X : BX) (k : Nat) : Prop where
  s : SWf X.D X.h
  m : ∀ m ∈ X.ms, SWf m.D m.h ∧ 0 ≤ m.e ∧ m.e ≤ 1000
  ms : X.ms.length ≤ k
  arms : X.arms.length ≤ k
theorem BW.wf {X : BX} {k : Nat} (h : BW X k) (hk : k ≤ 1000) : BWf X := ⟨h.s.st, h.s.out, h.s.hl, by have := h.ms; omega, by have := h.arms; omega, fun m hm => (h.m m hm).2, h.s.ws⟩

theorem push_wf {D : WD} {h : List Int} (k : SWf D h) {i : InsD} (hi : i.Wf) {pp : List Int} (hp : ∀ x ∈ pp, Wf64 x) : ∀ x ∈ pushW D i pp, Wf64 x := by
  intro x hx
  unfold pushW at hx
  split at hx
  · rw [List.mem_singleton.1 hx]; exact hi.val
  split at hx
  · rw [List.mem_singleton.1 hx]
    unfold WD.loc
    split
    · exact k.w0
    · split
      · exact k.w1
      · split
        · exact k.w2
        · exact k.w3
  split at hx
  · simp only [List.mem_cons, List.not_mem_nil, or_false] at hx
    rcases hx with rfl | rfl <;> exact wf_getD hp _
  split at hx
  · simp only [List.mem_cons, List.not_mem_nil, or_false] at hx
    rcases hx with rfl | rfl <;> exact wf_getD hp _
  split at hx
  · rw [List.mem_singleton.1 hx]; exact neg_wf (wf_getD hp _)
  split at hx
  · rw [List.mem_singleton.1 hx]; exact oneV_wf _
  split at hx
  · rw [List.mem_singleton.1 hx]; exact reck_wf _ _ _
  · cases hx
theorem push_len (D : WD) (i : InsD) (pp : List Int) : (pushW D i pp).length ≤ 2 := by
  unfold pushW
  repeat' split
  all_goals simp
theorem take_app_wf {l m : List Int} {n : Nat} (h1 : ∀ x ∈ l, Wf64 x) (h2 : ∀ x ∈ m, Wf64 x) : ∀ x ∈ l.take n ++ m, Wf64 x := by
  intro x hx
  rcases List.mem_append.1 hx with q | q
  · exact h1 x (List.mem_of_mem_take q)
  · exact h2 x q

/-- A State whose stack is another one. -/
theorem SWf.stack {D : WD} {h : List Int} (k : SWf D h) {st : List Int} {pc : Int} (h1 : st.length ≤ 1000) (h2 : ∀ x ∈ st, Wf64 x) : SWf { D with st := st, pc := pc } h := ⟨h1, k.out, k.hl, h2, k.wh, k.w0, k.w1, k.w2, k.w3⟩
theorem SWf.pc {D : WD} {h : List Int} (k : SWf D h) (pc : Int) : SWf { D with pc := pc } h := ⟨k.st, k.out, k.hl, k.ws, k.wh, k.w0, k.w1, k.w2, k.w3⟩
theorem SWf.fuel {D : WD} {h : List Int} (k : SWf D h) (pc : Int) : SWf { D with fuel := pc } h := ⟨k.st, k.out, k.hl, k.ws, k.wh, k.w0, k.w1, k.w2, k.w3⟩
theorem SWf.setL {D : WD} {h : List Int} (k : SWf D h) (j x : Int) (hx : Wf64 x) : SWf (D.setL j x) h := by
  unfold WD.setL
  split
  · exact ⟨k.st, k.out, k.hl, k.ws, k.wh, hx, k.w1, k.w2, k.w3⟩
  · split
    · exact ⟨k.st, k.out, k.hl, k.ws, k.wh, k.w0, hx, k.w2, k.w3⟩
    · split
      · exact ⟨k.st, k.out, k.hl, k.ws, k.wh, k.w0, k.w1, hx, k.w3⟩
      · exact ⟨k.st, k.out, k.hl, k.ws, k.wh, k.w0, k.w1, k.w2, hx⟩
theorem take_len {l m : List Int} {n a : Nat} (h1 : l.length ≤ 1000) (h2 : n + m.length ≤ 1000) : (l.take n ++ m).length ≤ 1000 := by
  rw [List.length_append, List.length_take]; omega
theorem fits_le {o : Int} {n : Nat} (h : fitsW o n = true) : n - (popV o).toNat + (pushV o).toNat ≤ 12 := by
  unfold fitsW at h
  simp only [Bool.and_eq_true, decide_eq_true_eq] at h
  have := pop_le o
  have := push_le o
  omega

/-- A step keeps a State right. -/
theorem step_keep {l : List InsD} {D : WD} {h : List Int} (k : SWf D h) (hl : ∀ i ∈ l, i.Wf) (h0 : (stepW l D).1 = 0) : SWf (stepW l D).2 h := by
  unfold stepW at h0 ⊢
  split
  · rename_i q; rw [if_pos q] at h0; simp at h0
  rename_i q1
  rw [if_neg q1] at h0
  split
  · rename_i q; rw [if_pos q] at h0; simp at h0
  rename_i q2
  rw [if_neg q2] at h0
  split
  · rename_i q; rw [if_pos q] at h0; simp at h0
  rename_i q3
  rw [if_neg q3] at h0
  split
  · rename_i q; rw [if_pos q] at h0; simp at h0
  rename_i q4
  rw [if_neg q4] at h0
  have hi : (l.getD D.pc.toNat ⟨0, 0, 0⟩).Wf := by
    rw [List.getD_eq_getElem?_getD]
    by_cases hk : D.pc.toNat < l.length
    · rw [List.getElem?_eq_getElem hk]; exact hl _ (List.getElem_mem hk)
    · rw [List.getElem?_eq_none (by omega)]; exact ⟨⟨by decide, by decide⟩, ⟨by decide, by decide⟩, wf_zero⟩
  generalize l.getD D.pc.toNat ⟨0, 0, 0⟩ = i at *
  have hf : fitsW i.op D.st.length = true := by simpa using q4
  have hfl := fits_le hf
  have hst := k.st
  unfold doW at h0 ⊢
  have nilwf : ∀ x ∈ ([] : List Int), Wf64 x := fun x hx => by cases hx
  split
  · rename_i q; rw [if_pos q] at h0
    split
    · rename_i q5
      have hs := k.stack (pc := D.pc + 1) (st := D.st.take (D.st.length - 1) ++ []) (take_len (a := 0) hst (by simp; omega)) (take_app_wf k.ws nilwf)
      exact ⟨hs.st, by show (D.out ++ [_]).length ≤ 1000; rw [List.length_append]; simp; omega, hs.hl, hs.ws, hs.wh, hs.w0, hs.w1, hs.w2, hs.w3⟩
    · rename_i q5; rw [if_neg q5] at h0; simp at h0
  rename_i q; rw [if_neg q] at h0; clear q
  split
  · exact (k.setL i.arg _ (wf_getD k.ws _)).stack (take_len (a := 0) hst (by simp; omega)) (take_app_wf k.ws nilwf)
  rename_i q; rw [if_neg q] at h0; clear q
  split
  · rename_i q; rw [if_pos q] at h0
    split
    · exact k.stack (take_len (a := 0) hst (by simp; omega)) (take_app_wf k.ws nilwf)
    · rename_i q5; rw [if_neg q5] at h0; simp at h0
  rename_i q; rw [if_neg q] at h0; clear q
  split
  · rename_i q; rw [if_pos q] at h0
    split
    · exact k.stack (take_len (a := 0) hst (by simp; omega)) (take_app_wf k.ws nilwf)
    · rename_i q5; rw [if_neg q5] at h0
      split
      · exact k.stack (take_len (a := 0) hst (by simp; omega)) (take_app_wf k.ws nilwf)
      · rename_i q6; rw [if_neg q6] at h0; simp at h0
  exact k.stack (take_len (a := 0) hst (by have := push_len D i (D.st.drop (D.st.length - (popV i.op).toNat)); omega)) (take_app_wf k.ws (push_wf k hi (fun x hx => k.ws x (List.mem_of_mem_drop hx))))

theorem reach_keep {X : BX} {k : Nat} (h : BW X k) {i : InsD} (h0 : (reachB X i).1 = 0) : BW (reachB X i).2 (k + 1) := by
  unfold reachB at h0 ⊢
  have nilwf : ∀ x ∈ ([] : List Int), Wf64 x := fun x hx => by cases hx
  have hst := h.s.st
  split
  · rename_i q; rw [if_pos q] at h0; simp at h0
  rename_i q
  rw [if_neg q] at h0
  have hf : fitsW i.op X.D.st.length = true := by simpa using q
  have hfl := fits_le hf
  split
  · rename_i q5; rw [q5] at h0; simp at h0
  rename_i t q5
  split
  · exact ⟨h.s.stack (take_len (a := 0) hst (by simp; omega)) (take_app_wf h.s.ws (fun x hx => by rw [List.mem_singleton.1 hx]; exact wf_getD h.s.wh _)), h.m, by have := h.ms; show X.ms.length ≤ _; omega, by have := h.arms; show X.arms.length ≤ _; omega⟩
  · have hs := h.s.stack (pc := X.D.pc + 1) (st := X.D.st.take (X.D.st.length - (popV i.op).toNat) ++ []) (take_len (a := 0) hst (by simp; omega)) (take_app_wf h.s.ws nilwf)
    refine ⟨⟨hs.st, hs.out, by rw [List.length_set]; exact hs.hl, hs.ws, fun x hx => ?_, hs.w0, hs.w1, hs.w2, hs.w3⟩, h.m, by have := h.ms; show X.ms.length ≤ _; omega, by have := h.arms; show X.arms.length ≤ _; omega⟩
    rcases List.mem_or_eq_of_mem_set hx with q | q
    · exact h.s.wh x q
    · rw [q]; exact wf_getD (fun y hy => h.s.ws y (List.mem_of_mem_drop hy)) _

theorem br_keep {X : BX} {k : Nat} (h : BW X k) {i : InsD} (ha : 0 ≤ i.arg ∧ i.arg ≤ 1000) (h0 : (brB X i).1 = 0) : BW (brB X i).2 (k + 1) := by
  have hms := h.ms
  have har := h.arms
  unfold brB at h0 ⊢
  split
  · refine ⟨h.s.pc _, fun m hm => ?_, by show (X.ms ++ [_]).length ≤ _; rw [List.length_append]; simp; omega, by show X.arms.length ≤ _; omega⟩
    rcases List.mem_append.1 hm with q | q
    · exact h.m m q
    · rw [List.mem_singleton.1 q]; exact ⟨h.s, ha⟩
  rename_i q; rw [if_neg q] at h0; clear q
  split
  · rename_i q; rw [if_pos q] at h0
    split
    · rename_i q5; rw [q5] at h0; simp at h0
    · exact ⟨h.s.pc _, fun m hm => h.m m ((List.dropLast_sublist X.ms).subset hm), by show X.ms.dropLast.length ≤ _; rw [List.length_dropLast]; omega, by show (X.arms ++ [_]).length ≤ _; rw [List.length_append]; simp; omega⟩
  rename_i q; rw [if_neg q] at h0; clear q
  split
  · exact ⟨h.s.pc _, h.m, by show X.ms.length ≤ _; omega, by show (X.arms ++ [_]).length ≤ _; rw [List.length_append]; simp; omega⟩
  rename_i q; rw [if_neg q] at h0; clear q
  split
  · rename_i q; rw [if_pos q] at h0
    split
    · rename_i q5; rw [q5] at h0; simp at h0
    · rename_i m q5
      have hm := h.m m (List.mem_of_getLast? q5)
      exact ⟨⟨hm.1.st, hm.1.out, hm.1.hl, hm.1.ws, hm.1.wh, hm.1.w0, hm.1.w1, hm.1.w2, hm.1.w3⟩, fun m hm => h.m m ((List.dropLast_sublist X.ms).subset hm), by show X.ms.dropLast.length ≤ _; rw [List.length_dropLast]; omega, by show X.arms.length ≤ _; omega⟩
  · exact ⟨h.s.pc _, h.m, by show X.ms.length ≤ _; omega, by show X.arms.length ≤ _; omega⟩

theorem do_keep {l : List InsD} {X : BX} {k : Nat} (h : BW X k) (hl : ∀ i ∈ l, i.Wf) {i : InsD} (ha : i.op ≠ 1 → 0 ≤ i.arg ∧ i.arg ≤ 1000) (h0 : (doB l X i).1 = 0) : BW (doB l X i).2 (k + 1) := by
  have hms := h.ms
  have har := h.arms
  unfold doB at h0 ⊢
  split
  · rename_i q; rw [if_pos q] at h0; simp at h0
  rename_i q; rw [if_neg q] at h0; clear q
  split
  · rename_i q; rw [if_pos q] at h0; exact reach_keep h h0
  rename_i q; rw [if_neg q] at h0; clear q
  split
  · rename_i q; rw [if_pos q] at h0
    split
    · rename_i q5; rw [if_pos q5] at h0; simp at h0
    · rename_i q5; rw [if_neg q5] at h0; exact br_keep h (ha (by omega)) h0
  · rename_i q; rw [if_neg q] at h0
    exact ⟨step_keep h.s hl h0, h.m, by show X.ms.length ≤ _; omega, by show X.arms.length ≤ _; omega⟩

end Go.Proofs.YtkpgfchglaemgaaDoor
/-
  package spec: toEnd BY ITS CONTRACT.
-/
namespace Go.Proofs.YtkpgfchglaemgaaDoor
set_option linter.unusedVariables false
set_option linter.unusedSimpArgs false
open Go.RowKit
attribute [local go_sem] Oper.semAt_some

/-- A block from behind its Atomic on. -/
def runB (l : List InsD) : Nat → BX → Int × BX
  | 0, X => match hereP l X.D.pc with
    | none => (3, X)
    | some _ => (11, X)
  | n + 1, X => match hereP l X.D.pc with
    | none => (3, X)
    | some i => if (doB l { X with D := { X.D with fuel := X.D.fuel - 1 } } i).1 = 0 then (if i.op = 22 then doB l { X with D := { X.D with fuel := X.D.fuel - 1 } } i else runB l n (doB l { X with D := { X.D with fuel := X.D.fuel - 1 } } i).2) else doB l { X with D := { X.D with fuel := X.D.fuel - 1 } } i
theorem run_some {l : List InsD} {n : Nat} {X : BX} {i : InsD} (hh : hereP l X.D.pc = some i) : runB l (n + 1) X = if (doB l { X with D := { X.D with fuel := X.D.fuel - 1 } } i).1 = 0 then (if i.op = 22 then doB l { X with D := { X.D with fuel := X.D.fuel - 1 } } i else runB l n (doB l { X with D := { X.D with fuel := X.D.fuel - 1 } } i).2) else doB l { X with D := { X.D with fuel := X.D.fuel - 1 } } i := by
  simp only [runB, hh]
def endB (l : List InsD) (X : BX) : Int × BX := if opAtW l X.D.pc = 21 then runB l X.D.fuel.toNat { X with D := { X.D with pc := X.D.pc + 1 } } else (3, X)

theorem right_arg {i : InsD} (h : rightI i = true) : 0 ≤ i.arg ∧ i.arg ≤ 255 := by
  unfold rightI at h
  simp only [Bool.and_eq_true, decide_eq_true_eq] at h
  have h1 := h.1.2
  have h0 := h.1.1.2
  have : highP i.op ≤ 63 := by unfold highP; split; decide; split; decide; decide
  omega

theorem BW.mono {X : BX} {k m : Nat} (h : BW X k) (hm : k ≤ m) : BW X m := ⟨h.s, h.m, Nat.le_trans h.ms hm, Nat.le_trans h.arms hm⟩
/-- The fuel as it lies. -/
def fuelAt (b : Nat) (w : World) : Nat := match w.cell? ⟨b, 8, none⟩ with
  | some (.int _ f) => f.toNat
  | _ => 0
theorem doB_fuel (l : List InsD) (X : BX) (i : InsD) : (doB l X i).2.D.fuel = X.D.fuel := by
  unfold doB
  split
  · rfl
  split
  · unfold reachB
    split
    · rfl
    split
    · rfl
    split
    · rfl
    · rfl
  split
  · split
    · rfl
    · unfold brB
      split
      · rfl
      split
      · split <;> rfl
      split
      · rfl
      split
      · split <;> rfl
      · rfl
  · show (stepW l X.D).2.fuel = _
    unfold stepW
    split
    · rfl
    split
    · rfl
    split
    · rfl
    split
    · rfl
    unfold doW
    split
    · split <;> rfl
    split
    · unfold WD.setL; split; rfl; split; rfl; split <;> rfl
    split
    · split <;> rfl
    split
    · split
      · rfl
      · split <;> rfl
    · rfl

end Go.Proofs.YtkpgfchglaemgaaDoor
/-
  package spec: tried AROUND toEnd; AN OUTCOME AS IT LIES.
-/
namespace Go.Proofs.YtkpgfchglaemgaaDoor
set_option linter.unusedVariables false
set_option linter.unusedSimpArgs false
open Go.RowKit
attribute [local go_sem] Oper.semAt_some

/-- An Outcome in a block of its own. -/
structure OutB (w : World) (p : Nat) (c : Array Value) : Prop where
  st : w.heap[p]? = some (.cells c 51 (0, 0))
abbrev outA (kd : Int) (D : WD) (vs vo vh va : Value) (er : Int) : Array Value := #[.int .u8 kd, .int .i64 D.pc, vs, .int .u64 D.l0, .int .u64 D.l1, .int .u64 D.l2, .int .u64 D.l3, vo, vh, va, .int .i64 er]
theorem OutB.touch {w w' : World} {p : Nat} {c : Array Value} {S : List Nat} (h : OutB w p c) (t : Touch w w' S) (hS : p ∉ S) : OutB w' p c := ⟨(t.block p (lt_of_heap h.st) hS).trans h.st⟩
theorem OutB.fr {w : World} {p : Nat} {c : Array Value} (h : OutB w p c) (j : Nat) : w.frozen? ⟨p, j, none⟩ = false := by unfold World.frozen?; rw [h.st]; simp
theorem OutB.cell {w : World} {p : Nat} {c : Array Value} (h : OutB w p c) (j : Nat) : w.cell? ⟨p, j, none⟩ = c[j]? := by unfold World.cell?; rw [h.st]; rfl
abbrev outPut (w : World) (p : Nat) (kd : Int) (D : WD) (vs vo vh va : Value) (er : Int) : World := ((((((((((w.setCell ⟨p, 0, none⟩ (.int .u8 kd)).setCell ⟨p, 1, none⟩ (.int .i64 D.pc)).setCell ⟨p, 2, none⟩ vs).setCell ⟨p, 3, none⟩ (.int .u64 D.l0)).setCell ⟨p, 4, none⟩ (.int .u64 D.l1)).setCell ⟨p, 5, none⟩ (.int .u64 D.l2)).setCell ⟨p, 6, none⟩ (.int .u64 D.l3)).setCell ⟨p, 7, none⟩ vo).setCell ⟨p, 8, none⟩ vh).setCell ⟨p, 9, none⟩ va).setCell ⟨p, 10, none⟩ (.int .i64 er)
theorem OutB.put {w : World} {p : Nat} {kd0 : Int} {D0 : WD} {vs0 vo0 vh0 va0 : Value} {er0 : Int} (h : OutB w p (outA kd0 D0 vs0 vo0 vh0 va0 er0)) (kd : Int) (D : WD) (vs vo vh va : Value) (er : Int) : OutB (outPut w p kd D vs vo vh va er) p (outA kd D vs vo vh va er) :=
  ⟨by
    rw [heap_setCell_same _ _ _ _ _ _ (heap_setCell_same _ _ _ _ _ _ (heap_setCell_same _ _ _ _ _ _ (heap_setCell_same _ _ _ _ _ _ (heap_setCell_same _ _ _ _ _ _ (heap_setCell_same _ _ _ _ _ _ (heap_setCell_same _ _ _ _ _ _ (heap_setCell_same _ _ _ _ _ _ (heap_setCell_same _ _ _ _ _ _ (heap_setCell_same _ _ _ _ _ _ (heap_setCell_same _ _ _ _ _ _ h.st))))))))))]
    simp⟩
theorem outPut_touch (w : World) (p : Nat) (kd : Int) (D : WD) (vs vo vh va : Value) (er : Int) : Touch w (outPut w p kd D vs vo vh va er) [p] := (((((((((((Touch.refl w [p]).setCell (.inl (by simp)) _).setCell (.inl (by simp)) _).setCell (.inl (by simp)) _).setCell (.inl (by simp)) _).setCell (.inl (by simp)) _).setCell (.inl (by simp)) _).setCell (.inl (by simp)) _).setCell (.inl (by simp)) _).setCell (.inl (by simp)) _).setCell (.inl (by simp)) _).setCell (.inl (by simp)) _

abbrev bcell : Bool → List Value := fun x => [Value.bool x]
/-- What Block tells. -/
def outX (l : List InsD) (D : WD) (h : List Int) (f : Int) : Int × BX := endB l ⟨{ D with fuel := fuelW f }, h, [], []⟩
def BlkP (w : World) (r : Int × BX) (D : WD) (h : List Int) (e : Ending) (w' : World) : Prop :=
  (r.1 = 0 ∧ ∃ vs vo vh va, e = .returned (.agg (outA 1 r.2.D vs vo vh va 0)) ∧ VRow w' vs r.2.D.st ∧ VRow w' vo r.2.D.out ∧ VRow w' vh r.2.h ∧ SRow 1 bcell w' va r.2.arms ∧ Touch w w' []) ∨
  (r.1 ≠ 0 ∧ ∃ vs vo vh, e = .returned (.agg (outA (if r.1 = -1 then 2 else 3) D vs vo vh (.slice none 0 0) (if r.1 = -1 then 0 else r.1))) ∧ VRow w' vs D.st ∧ VRow w' vo D.out ∧ VRow w' vh h ∧ Touch w w' [])

end Go.Proofs.YtkpgfchglaemgaaDoor
/-
  package spec: Block BY ITS CONTRACT. Written by mkblock.py.
-/
namespace Go.Proofs.YtkpgfchglaemgaaDoor
set_option linter.unusedVariables false
set_option linter.unusedSimpArgs false
open Go.RowKit
attribute [local go_sem] Oper.semAt_some

/-- A value's block is new. -/
def FrA (w : World) (v : Value) : Prop := ∀ g, v.ownBlock = some g → w.heap.size ≤ g
/-- As BlkP, and the rows lie in new blocks. -/
def BlkF (w : World) (r : Int × BX) (D : WD) (h : List Int) (e : Ending) (w' : World) : Prop :=
  (r.1 = 0 ∧ ∃ vs vo vh va, e = .returned (.agg (outA 1 r.2.D vs vo vh va 0)) ∧ VRow w' vs r.2.D.st ∧ VRow w' vo r.2.D.out ∧ VRow w' vh r.2.h ∧ SRow 1 bcell w' va r.2.arms ∧ Touch w w' [] ∧ FrA w vs ∧ FrA w vo ∧ FrA w vh ∧ FrA w va) ∨
  (r.1 ≠ 0 ∧ ∃ vs vo vh, e = .returned (.agg (outA (if r.1 = -1 then 2 else 3) D vs vo vh (.slice none 0 0) (if r.1 = -1 then 0 else r.1))) ∧ VRow w' vs D.st ∧ VRow w' vo D.out ∧ VRow w' vh h ∧ Touch w w' [] ∧ FrA w vs ∧ FrA w vo ∧ FrA w vh)
theorem BlkF.p {w : World} {r : Int × BX} {D : WD} {h : List Int} {e : Ending} {w' : World} (k : BlkF w r D h e w') : BlkP w r D h e w' := by
  rcases k with ⟨h0, vs, vo, vh, va, e1, r1, r2, r3, r4, t, _⟩ | ⟨h0, vs, vo, vh, e1, r1, r2, r3, t, _⟩
  · exact .inl ⟨h0, vs, vo, vh, va, e1, r1, r2, r3, r4, t⟩
  · exact .inr ⟨h0, vs, vo, vh, e1, r1, r2, r3, t⟩

end Go.Proofs.YtkpgfchglaemgaaDoor
/-
  package spec: Plain BY ITS CONTRACT, where it stands at an Atomic or a Halt.
-/
namespace Go.Proofs.YtkpgfchglaemgaaDoor
set_option linter.unusedVariables false
set_option linter.unusedSimpArgs false
open Go.RowKit
attribute [local go_sem] Oper.semAt_some

def PlnP (w : World) (kd : Int) (D : WD) (e : Ending) (w' : World) : Prop := ∃ sa sc oa oc, e = .returned (.agg (outA kd D (.slice sa D.st.length sc) (.slice oa D.out.length oc) (.slice none 0 0) (.slice none 0 0) 0)) ∧ VRow w' (.slice sa D.st.length sc) D.st ∧ VRow w' (.slice oa D.out.length oc) D.out ∧ Touch w w' [] ∧ FrA w (.slice sa D.st.length sc) ∧ FrA w (.slice oa D.out.length oc)
end Go.Proofs.YtkpgfchglaemgaaDoor
/-
  package spec: Run BY ITS CONTRACT, for a program that is one block and a halt behind it.
-/
namespace Go.Proofs.YtkpgfchglaemgaaDoor
set_option linter.unusedVariables false
set_option linter.unusedSimpArgs false
open Go.RowKit
attribute [local go_sem] Oper.semAt_some

theorem bool_app {w : World} {ao : Option Addr} {cap : Nat} {l : List Bool} (hr : SRow 1 bcell w (.slice ao l.length cap) l) (hn : l.length ≤ 1000) :
    ∃ ao' cap' w', (Builtin.append_ #[49, 49] 49 #[.slice none 0 0, .slice ao l.length cap]).run Tryd.prog w = .ok (.slice ao' l.length cap') w' ∧ SRow 1 bcell w' (.slice ao' l.length cap') l ∧ Touch w w' [] ∧ (∀ g, (Value.slice ao' l.length cap').ownBlock = some g → w.heap.size ≤ g) := by
  obtain ⟨i0, hi, hz0, hz1, hz2⟩ := info_partsE Tryd.info_bool
  obtain ⟨v', w', h1, h2, h3, h4⟩ := run_app (P := Tryd.prog) (cells := bcell) 49 49 4 i0 _ 1 1 Tryd.underlying49 hi hz0 hz1 hz2 rfl (by decide) (fun _ => rfl) (fun x u hu => by simp [bcell] at hu; subst hu; rfl) (World.ownsRow_nil w w.heap.size _ _) (l := l) hr (by simp; omega) (by decide) (Nat.le_refl _)
  simp only [List.length_nil, Nat.zero_add] at h2 h1
  obtain ⟨ao', cap', rfl⟩ := owns_slice h2
  refine ⟨ao', cap', w', h1, srow_of (cells := bcell) (n := 1) (fun _ => rfl) (by simpa using h2), (Touch.refl w _).grown h3 (fun k hk => by simp [Value.ownBlock] at hk), fun g hg => (World.ownsRow.lt h2 g hg).1⟩

theorem wpList_nameS {P : Program} {ops : Array Oper} {l : List Oper} {Q : Exit → Act → World → Prop} {a : Act} {w : World} (h : ∀ W, W = w → wpList P ops Q l a W) : wpList P ops Q l a w := h w rfl
theorem Tryd.size_out : (Tryd.prog.info? 51).map (·.size) = some 11 := by kernel_rfl
theorem out_one (kd : Int) (D : WD) (a1 a2 a3 a4 : Option Addr) (n1 n2 n3 n4 c1 c2 c3 c4 : Nat) (er : Int) : (outA kd D (.slice a1 n1 c1) (.slice a2 n2 c2) (.slice a3 n3 c3) (.slice a4 n4 c4) er).all (·.oneCell') = true := by
  simp [Value.oneCell']
theorem out_there {w : World} {p : Nat} {kd : Int} {D : WD} {vs vo vh va : Value} {er : Int} (h : OutB w p (outA kd D vs vo vh va er)) : w.there p 0 11 := fun j hj => by
  rw [Nat.zero_add]
  refine ⟨?_, h.fr j⟩
  rw [h.cell j]
  match j, hj with
  | 0, _ | 1, _ | 2, _ | 3, _ | 4, _ | 5, _ | 6, _ | 7, _ | 8, _ | 9, _ | 10, _ => rfl
theorem out_sets {w : World} {p : Nat} {kd0 : Int} {D0 : WD} {vs0 vo0 vh0 va0 : Value} {er0 : Int} (h : OutB w p (outA kd0 D0 vs0 vo0 vh0 va0 er0)) (kd : Int) (D : WD) (vs vo vh va : Value) (er : Int) : ∀ W, W = w.setCells p 0 (outA kd D vs vo vh va er).toList → OutB W p (outA kd D vs vo vh va er) ∧ Touch w W [p] := fun W hW => by
  subst hW
  exact ⟨h.put kd D vs vo vh va er, outPut_touch w p kd D vs vo vh va er⟩

theorem run_mid {w W2 W3 : World} {o1 n nh0 sd od hd ad hc : Nat} {sb ob1 hb ab ha : Option Addr} {D : WD} {H : List Int} {am : List Bool} (ham : am.length ≤ 1000) (g1 : OutB W3 o1 (outA 1 D (.slice sb D.st.length sd) (.slice ob1 D.out.length od) (.slice hb H.length hd) (.slice ab am.length ad) 0)) (g2 : OutB W3 n (outA 0 zWD (.slice none 0 0) (.slice none 0 0) (.slice ha nh0 hc) (.slice none 0 0) 0)) (g3 : Touch w W3 []) (g4 : VRow W3 (.slice sb D.st.length sd) D.st) (g5 : VRow W3 (.slice ob1 D.out.length od) D.out) (g6 : VRow W3 (.slice hb H.length hd) H) (g7 : SRow 1 bcell W3 (.slice ab am.length ad) am) (g8 : W2.heap.size ≤ W3.heap.size) (g9 : OutB W3 w.heap.size (outA 0 zWD (.slice none 0 0) (.slice none 0 0) (.slice none 0 0) (.slice none 0 0) 0))
    (z1 : FrA W2 (.slice sb D.st.length sd)) (z2 : FrA W2 (.slice ob1 D.out.length od)) (z3 : FrA W2 (.slice hb H.length hd)) (lo : o1 < W2.heap.size) (ln : n < W2.heap.size) (hne : n ≠ o1) (h1 : w.heap.size < o1) (h2 : w.heap.size < n) :
    ∃ a4 c4 w4, (Builtin.append_ #[49, 49] 49 #[.slice none 0 0, (.slice ab am.length ad)]).run Tryd.prog W3 = .ok (.slice a4 am.length c4) w4 ∧ OutB w4 o1 (outA 1 D (.slice sb D.st.length sd) (.slice ob1 D.out.length od) (.slice hb H.length hd) (.slice ab am.length ad) 0) ∧ (w4.setCell ⟨o1, 9, none⟩ (.slice a4 am.length c4)).there n 0 11 ∧ ∀ W5, W5 = (w4.setCell ⟨o1, 9, none⟩ (.slice a4 am.length c4)).setCells n 0 (outA 1 D (.slice sb D.st.length sd) (.slice ob1 D.out.length od) (.slice hb H.length hd) (.slice a4 am.length c4) 0).toList → OutB W5 n (outA 1 D (.slice sb D.st.length sd) (.slice ob1 D.out.length od) (.slice hb H.length hd) (.slice a4 am.length c4) 0) ∧ Touch w W5 [] ∧ VRow W5 (.slice sb D.st.length sd) D.st ∧ VRow W5 (.slice ob1 D.out.length od) D.out ∧ VRow W5 (.slice hb H.length hd) H ∧ SRow 1 bcell W5 (.slice a4 am.length c4) am ∧ (∀ g, Value.ownBlock (.slice hb H.length hd) = some g → w.heap.size < g) ∧ (∀ g, Value.ownBlock (.slice a4 am.length c4) = some g → w.heap.size < g) ∧ OutB W5 w.heap.size (outA 0 zWD (.slice none 0 0) (.slice none 0 0) (.slice none 0 0) (.slice none 0 0) 0) := by
  obtain ⟨a4, c4, w4, h4, q5, t4, z5⟩ := bool_app g7 ham
  have t5 : Touch w4 (w4.setCell ⟨o1, 9, none⟩ (.slice a4 am.length c4)) [o1] := (Touch.refl w4 _).setCell (.inl (by simp)) _
  have hn4 := (g2.touch t4 (by simp)).touch t5 (by simp; omega)
  have hz5 : ∀ g, Value.ownBlock (.slice a4 am.length c4) = some g → W3.heap.size ≤ g := z5
  have hw2 := g3.size
  refine ⟨a4, c4, w4, h4, g1.touch t4 (by simp), out_there hn4, fun W5 hW => ?_⟩
  obtain ⟨k1, k2⟩ := out_sets hn4 1 D (.slice sb D.st.length sd) (.slice ob1 D.out.length od) (.slice hb H.length hd) (.slice a4 am.length c4) 0 W5 hW
  have kp : ∀ {m : Nat} {α : Type} {cs : α → List Value} {v : Value} {l : List α}, SRow m cs w4 v l → (∀ g, v.ownBlock = some g → W2.heap.size ≤ g) → SRow m cs W5 v l := fun r z => SRow.keepB (SRow.keepB r t5 (fun _ g hg => by have := z g hg; simp; omega)) k2 (fun _ g hg => by have := z g hg; simp; omega)
  exact ⟨k1, ((g3.trans t4 (by simp)).trans t5 (fun x hx => .inr (by simp at hx; omega))).trans k2 (fun x hx => .inr (by simp at hx; omega)), kp (SRow.keep g4 t4 (by simp)) z1, kp (SRow.keep g5 t4 (by simp)) z2, kp (SRow.keep g6 t4 (by simp)) z3, kp q5 (fun g hg => Nat.le_trans g8 (hz5 g hg)), fun g hg => by have := z3 g hg; omega, fun g hg => by have := hz5 g hg; omega, ((g9.touch t4 (by simp)).touch t5 (by simp; omega)).touch k2 (by simp; omega)⟩

theorem row_lt {α : Type} {m : Nat} {cs : α → List Value} {w : World} {v : Value} {l : List α} (h : SRow m cs w v l) (hne : l ≠ []) (g : Nat) (hg : v.ownBlock = some g) : g < w.heap.size := by
  obtain ⟨ao, cap, rfl, h1⟩ := h
  obtain ⟨g', off, rfl, hlt, _⟩ := h1 hne
  simp only [Value.ownBlock, Option.some.injEq] at hg
  subst hg
  exact hlt
def RunP (w : World) (D : WD) (h : List Int) (am : List Bool) (e : Ending) (w' : World) : Prop := ∃ sa sc oa oc ha hc aa ac, e = .returned (.agg (outA 1 D (.slice sa D.st.length sc) (.slice oa D.out.length oc) (.slice ha h.length hc) (.slice aa am.length ac) 0)) ∧ VRow w' (.slice ha h.length hc) h ∧ SRow 1 bcell w' (.slice aa am.length ac) am ∧ Touch w w' []
end Go.Proofs.YtkpgfchglaemgaaDoor

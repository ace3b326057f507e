/-
  few OF THE STATEMENTS ON code, BY ITS CONTRACT; INSTRUCTIONS, ONE ROW BEHIND THE OTHER.
-/
import Derived.Test.YtcbkafbchpjnoaaGreatDoorCdOne
import Derived.Test.YtcbkafbchpjnoaaGreatDoorCapsOf
namespace Go.Proofs.YtcbkafbchpjnoaaGreatDoor
set_option linter.unusedVariables false
set_option linter.unusedSimpArgs false
open Go.RowKit

/-- Instructions that came in: they can be read. -/
structure InsIn (w : World) (ao : Option Addr) (n cap : Nat) (l : List InsD) : Prop where
  len : n = l.length
  row : InsRowC w (.slice ao l.length cap) l
  le : n ≤ cap
  max : cap ≤ 9223372036854775807
  wf : ∀ i ∈ l, i.Wf
theorem InsIn.keep {w w' : World} {ao : Option Addr} {n cap : Nat} {l : List InsD} (h : InsIn w ao n cap l) (t : Touch w w' []) : InsIn w' ao n cap l := ⟨h.len, SRow.keep h.row t (by simp), h.le, h.max, h.wf⟩
theorem InsIn.first {w : World} {ao : Option Addr} {n cap : Nat} {l : List InsD} (h : InsIn w ao n cap l) (m : Nat) (hm : m ≤ n) : InsIn w ao m cap (l.take m) := by
  have hl : (l.take m).length = m := by rw [List.length_take, ← h.len]; omega
  refine ⟨hl.symm, SRow.first h.row m (by rw [← h.len]; exact hm), by have := h.le; omega, h.max, fun i hi => h.wf i (List.mem_of_mem_take hi)⟩

/-- append of instructions that can be read to a row of one's own. -/
theorem ins_app {w : World} {B : Nat} {v : Value} {xs : List InsD} (h : insOwn w B v xs) (hl : xs.length ≤ 1000) (hB : B ≤ w.heap.size) {ao : Option Addr} {n cap : Nat} {l : List InsD} (hr : InsIn w ao n cap l) (hn : n ≤ 1000) (ty : TypeId) :
    ∃ ao' cap' w', (Builtin.append_ #[25, 25] ty #[v, .slice ao n cap]).run Tryz.prog w = .ok (.slice ao' (xs.length + n) cap') w' ∧ insOwn w' B (.slice ao' (xs.length + n) cap') (xs ++ l) ∧ Touch w w' v.ownBlock.toList := by
  obtain ⟨i0, hi, hz0, hz1, hz2⟩ := info_parts' Tryz.info_ins
  have hlen := hr.len
  subst hlen
  obtain ⟨v', w', h1, h2, h3, h4⟩ := run_app (P := Tryz.prog) (cells := InsD.cells) 25 ty 78 i0 _ 3 24 Tryz.underlying25 hi hz0 hz1 hz2 rfl (by decide) (fun _ => rfl) ins_one h (l := l) hr.row (by omega) (by decide) hB
  have h2' : insOwn w' B v' (xs ++ l) := by
    show w'.ownsRow _ _ _ _ _ _
    rw [List.length_append, List.flatMap_append]
    exact h2
  obtain ⟨ao', cap', rfl⟩ := owns_slice h2
  exact ⟨ao', cap', w', h1, h2', (Touch.refl w _).grown h3 (fun k hk => .inl (by simp [hk]))⟩
theorem ins_empty (w : World) : insOwn (w.alloc (.cells #[] 78)) w.heap.size (.slice (some ⟨w.heap.size, 0, none⟩) 0 0) [] := empty_row w 78 3

theorem insIn_of {w : World} {B : Nat} {v : Value} {l : List InsD} (h : insOwn w B v l) (hw : ∀ i ∈ l, i.Wf) : ∃ ao cap, v = .slice ao l.length cap ∧ InsIn w ao l.length cap l := by
  have hr : InsRowC w v l := srow_of (cells := InsD.cells) (n := 3) (fun _ => rfl) h
  rcases h.2 with ⟨e5, h5⟩ | ⟨g5, cap5, cur5, e5, hb5, _, hn5, hm5, _⟩
  · subst e5
    exact ⟨none, 0, by rw [h5], ⟨rfl, by rw [h5]; exact hr, by omega, by omega, hw⟩⟩
  · subst e5
    exact ⟨_, cap5, rfl, ⟨rfl, hr, hn5, by unfold maxLen at hm5; omega, hw⟩⟩

/-- What Encode comes to, in the same words: r: are they right? their bytes. -/
def EncP (w : World) (r : Bool) (n : Nat) (l : List Int) (e : Ending) (w' : World) : Prop :=
  (r = true ∧ ∃ ao cap, e = .returned (.tuple #[.slice ao n cap, .int .i64 0]) ∧ BytAt w' ao n cap l ∧ Touch w w' []) ∨ (r = false ∧ e = .returned (.tuple #[.slice none 0 0, .int .i64 3]) ∧ Touch w w' [])
theorem encL_append (l m : List InsD) : encL (l ++ m) = encL l ++ encL m := by unfold encL; rw [List.flatMap_append]
theorem strOf_append (a b : List Int) : strOfNums (a ++ b) = strOfNums a ++ strOfNums b := by
  apply ba_ext
  rw [strOfNums_data]
  simp [strOfNums]

end Go.Proofs.YtcbkafbchpjnoaaGreatDoor

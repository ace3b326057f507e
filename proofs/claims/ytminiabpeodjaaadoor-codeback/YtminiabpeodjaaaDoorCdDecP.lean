/-
  WHAT Decode COMES TO, OF INSTRUCTIONS THAT CAN BE READ. No walk.
-/
import Derived.Test.YtminiabpeodjaaaDoorCdFew
import Derived.Test.YtminiabpeodjaaaDoorCdDecG
namespace Go.Proofs.YtminiabpeodjaaaDoor
set_option linter.unusedVariables false
set_option linter.unusedSimpArgs false
open Go.RowKit

/-- What Decode comes to, of instructions that can be read. -/
def DecP (w : World) (r : Option (List InsD)) (e : Ending) (w' : World) : Prop :=
  (∃ L n, r = some L ∧ n ≤ 1000 ∧ ∃ ao cap, e = .returned (.tuple #[.slice ao n cap, .int .i64 0]) ∧ InsIn w' ao n cap L ∧ Touch w w' []) ∨ (r = none ∧ e = .returned (.tuple #[.slice none 0 0, .int .i64 3]) ∧ Touch w w' [])
theorem decP_of {w : World} {l : List Int} (hb : ByteL l) (hl : l.length ≤ 1000) {e : Ending} {w' : World} (h : DecPost w (decP l) e w') : DecP w (decP l) e w' := by
  rcases h with ⟨L, hL, v, rfl, ho, t⟩ | ⟨hL, rfl, t⟩
  · obtain ⟨h1, h2, h3⟩ := decF_is _ _ L hb hL
    obtain ⟨ao, cap, rfl, hi⟩ := insIn_of ho (fun i hi => (h1 i hi).1)
    exact .inl ⟨L, L.length, hL, by omega, ao, cap, rfl, hi, t⟩
  · exact .inr ⟨hL, rfl, t⟩
theorem insIn_nil (w : World) : InsIn w none 0 0 [] := ⟨rfl, ⟨none, 0, rfl, fun h => absurd rfl h⟩, Nat.le_refl _, by omega, by simp⟩

/-- At most 400 bytes. -/
theorem few_bytes {w : World} {ao : Option Addr} {n cap : Nat} {l : List Int} (h : BytAt w ao n cap l) : BytAt w ao (min n 400) cap (l.take 400) := by
  by_cases hn : 400 ≤ n
  · rw [Nat.min_eq_right hn]; exact h.take 400 hn
  · rw [Nat.min_eq_left (by omega), List.take_of_length_le (by rw [← h.len]; omega)]; exact h

end Go.Proofs.YtminiabpeodjaaaDoor

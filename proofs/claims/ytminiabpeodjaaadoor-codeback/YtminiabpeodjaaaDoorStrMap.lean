/-
  A MAP FROM string TO ANYTHING, as a function: made, looked at, written. No walk.
-/
import Derived.Test.YtminiabpeodjaaaDoorAllA
import Derived.Maps.OwnSet
import Derived.Maps.OwnIn
import Derived.Maps.Ext
import Derived.StringKeys
namespace Go.Proofs.YtminiabpeodjaaaDoor
set_option linter.unusedVariables false
set_option linter.unusedSimpArgs false
open Go.RowKit Go.Maps

def rawS (v : Value) : Option (DataW Value × List MemPlace) := some (.held v, [])
theorem keyedS : Keyed Tryd.prog 9 := string_keyed Tryd.underlying9
theorem keyS {s : ByteArray} (h : s.size ≤ maxLen) : keyOf Tryd.prog 9 (.string s) = some (.string s.data.toList) := Go.WideMaps.keyOf_string_mk Tryd.underlying9 h

/-- Block b is a map of at most n entries that tells F, a function of a key's bytes. -/
def MapS (w : World) (b n : Nat) (F : List UInt8 → Option Value) : Prop :=
  ∃ D : DataW Value, w.ownsMap Tryd.prog 9 rawS b n D ∧ IsMap D ∧ ∀ x, has D (.string x) = (F x).isSome ∧ ∀ z, D.atKey (.string x) z = ((F x).map DataW.held).getD z
def updS (F : List UInt8 → Option Value) (x : List UInt8) (v : Value) : List UInt8 → Option Value := fun y => if y = x then some v else F y
theorem MapS.made (w : World) : MapS (w.alloc (.map #[] 0)) w.heap.size 0 (fun _ => none) :=
  ⟨_, World.ownsMap_made w _ _ _, isMap_empty, fun x => ⟨rfl, fun z => rfl⟩⟩
theorem MapS.lookOk {w : World} {b n : Nat} {F : List UInt8 → Option Value} (h : MapS w b n F) {t e : TypeId} (ht : Tryd.prog.underlying t = some (.map 9 e)) {z : Value} (hz : (zeroValue e).run Tryd.prog w = .ok z w) {s : ByteArray} (hs : s.size ≤ maxLen) :
    (Instr.lookup t (.map (some b)) (.string s) true).run Tryd.prog w = .ok (.tuple #[(F s.data.toList).getD z, .bool (F s.data.toList).isSome]) w := by
  obtain ⟨D, hD, hm, hF⟩ := h
  obtain ⟨v, ps, hr, hv⟩ := hD.look_ok keyedS ht hz (zd := .held z) (zp := []) rfl (keyS hs)
  rw [hr, (hF _).1]
  have h2 := (hF s.data.toList).2 (.held z)
  rw [h2] at hv
  simp only [rawS, Option.some.injEq, Prod.mk.injEq] at hv
  cases hq : F s.data.toList with
  | none => rw [hq] at hv; simp at hv; rw [hv.1]; rfl
  | some u => rw [hq] at hv; simp at hv; rw [hv.1]; rfl
theorem MapS.store {w : World} {b n : Nat} {F : List UInt8 → Option Value} (h : MapS w b n F) {t e : TypeId} (ht : Tryd.prog.underlying t = some (.map 9 e)) (hn : n < maxLen) {s : ByteArray} (hs : s.size ≤ maxLen) (v : Value) :
    ∃ w', (Instr.mapUpdate t (.map (some b)) (.string s) v).run Tryd.prog w = .ok () w' ∧ MapS w' b (n + 1) (updS F s.data.toList v) ∧ w.grownBy w' (some b) := by
  obtain ⟨D, hD, hm, hF⟩ := h
  obtain ⟨w', hr, hD', hg⟩ := hD.update keyedS ht hn (keyS hs) (val := v) (d := .held v) (ps := []) rfl
  refine ⟨w', hr, ⟨_, hD', hm.put _ _, fun y => ?_⟩, hg⟩
  by_cases e : y = s.data.toList
  · subst e
    have hk : WideAt.IsKeyLit (.string s.data.toList) := trivial
    exact ⟨by rw [has_put_same hm hk]; simp [updS], fun z => by rw [atKey_put_same hm hk]; simp [updS]⟩
  · have hl : (Lit.string y) ≠ Lit.string s.data.toList := fun q => e (by simpa using q)
    exact ⟨by rw [has_put_other hl, (hF y).1]; simp [updS, e], fun z => by rw [atKey_put_other hl, (hF y).2 z]; simp [updS, e]⟩

end Go.Proofs.YtminiabpeodjaaaDoor

/-
  A MAP FROM int TO ANYTHING, as a function: made, looked at, written. No walk.
-/
import Derived.Test.YtinhdpiecifmhaaAllA
import Derived.Maps.OwnSet
import Derived.Maps.OwnIn
import Derived.Maps.Ext
namespace Go.Proofs.Ytinhdpiecifmhaa
set_option linter.unusedVariables false
set_option linter.unusedSimpArgs false
open Go.RowKit Go.Maps

abbrev W64 (x : Int) : Prop := -9223372036854775808 ≤ x ∧ x ≤ 9223372036854775807
theorem lit64 {x : Int} (h : W64 x) : (Lit.int .i64 x).wf = true := by simp [Lit.wf, IntKind.min, IntKind.max, IntKind.signed, IntKind.bits]; omega

def rawR (v : Value) : Option (DataW Value × List MemPlace) := some (.held v, [])
theorem keyedI : Keyed Try.prog 3 := int_keyed Try.underlying3
theorem keyI {x : Int} (h : W64 x) : keyOf Try.prog 3 (.int .i64 x) = some (.int .i64 x) := keyOf_int_mk Try.underlying3 (lit64 h)

/-- Block b is a map of at most n entries that tells F. -/
def MapF (w : World) (b n : Nat) (F : Int → Option Value) : Prop :=
  ∃ D : DataW Value, w.ownsMap Try.prog 3 rawR b n D ∧ IsMap D ∧ ∀ x, W64 x → has D (.int .i64 x) = (F x).isSome ∧ ∀ z, D.atKey (.int .i64 x) z = ((F x).map DataW.held).getD z

def updF {α : Type} (F : Int → Option α) (x : Int) (v : α) : Int → Option α := fun y => if y = x then some v else F y
theorem updF_same {α : Type} (F : Int → Option α) (x : Int) (v : α) : updF F x v x = some v := by simp [updF]
theorem updF_other {α : Type} (F : Int → Option α) {x y : Int} (v : α) (h : y ≠ x) : updF F x v y = F y := by simp [updF, h]

theorem MapF.made (w : World) : MapF (w.alloc (.map #[] 0)) w.heap.size 0 (fun _ => none) :=
  ⟨_, World.ownsMap_made w _ _ _, isMap_empty, fun x _ => ⟨rfl, fun z => rfl⟩⟩
theorem MapF.lt {w : World} {b n : Nat} {F : Int → Option Value} (h : MapF w b n F) : b < w.heap.size := by
  obtain ⟨D, hD, _⟩ := h; exact hD.lt
theorem MapF.touch {w w' : World} {b n : Nat} {F : Int → Option Value} {S : List Nat} (h : MapF w b n F) (t : Touch w w' S) (hb : b ∉ S) : MapF w' b n F := by
  obtain ⟨D, hD, r⟩ := h
  refine ⟨D, ?_, r⟩
  have hlt := hD.lt
  obtain ⟨es, clock, he, q⟩ := hD
  exact ⟨es, clock, (t.block _ hlt hb).trans he, q⟩
theorem MapF.isMapObj {w : World} {b n : Nat} {F : Int → Option Value} (h : MapF w b n F) : ∃ es c, w.heap[b]? = some (.map es c) := by
  obtain ⟨D, ⟨es, clock, he, q⟩, r⟩ := h; exact ⟨es, clock, he⟩

theorem MapF.look {w : World} {b n : Nat} {F : Int → Option Value} (h : MapF w b n F) {t e : TypeId} (ht : Try.prog.underlying t = some (.map 3 e)) {z : Value} (hz : (zeroValue e).run Try.prog w = .ok z w) {x : Int} (hx : W64 x) :
    (Instr.lookup t (.map (some b)) (.int .i64 x) false).run Try.prog w = .ok ((F x).getD z) w := by
  obtain ⟨D, hD, hm, hF⟩ := h
  obtain ⟨v, ps, hr, hv⟩ := hD.lookup keyedI ht hz (zd := .held z) (zp := []) rfl (keyI hx)
  rw [hr]
  have h2 := (hF x hx).2 (.held z)
  rw [h2] at hv
  simp only [rawR, Option.some.injEq, Prod.mk.injEq] at hv
  cases hq : F x with
  | none => rw [hq] at hv; simp at hv; rw [hv.1]; rfl
  | some u => rw [hq] at hv; simp at hv; rw [hv.1]; rfl
theorem MapF.lookOk {w : World} {b n : Nat} {F : Int → Option Value} (h : MapF w b n F) {t e : TypeId} (ht : Try.prog.underlying t = some (.map 3 e)) {z : Value} (hz : (zeroValue e).run Try.prog w = .ok z w) {x : Int} (hx : W64 x) :
    (Instr.lookup t (.map (some b)) (.int .i64 x) true).run Try.prog w = .ok (.tuple #[(F x).getD z, .bool (F x).isSome]) w := by
  obtain ⟨D, hD, hm, hF⟩ := h
  obtain ⟨v, ps, hr, hv⟩ := hD.look_ok keyedI ht hz (zd := .held z) (zp := []) rfl (keyI hx)
  rw [hr, (hF x hx).1]
  have h2 := (hF x hx).2 (.held z)
  rw [h2] at hv
  simp only [rawR, Option.some.injEq, Prod.mk.injEq] at hv
  cases hq : F x with
  | none => rw [hq] at hv; simp at hv; rw [hv.1]; rfl
  | some u => rw [hq] at hv; simp at hv; rw [hv.1]; rfl
theorem lit_ne {x y : Int} (h : y ≠ x) : (Lit.int .i64 y) ≠ Lit.int .i64 x := fun e => h (by simpa using e)
theorem MapF.store {w : World} {b n : Nat} {F : Int → Option Value} (h : MapF w b n F) {t e : TypeId} (ht : Try.prog.underlying t = some (.map 3 e)) (hn : n < maxLen) {x : Int} (hx : W64 x) (v : Value) :
    ∃ w', (Instr.mapUpdate t (.map (some b)) (.int .i64 x) v).run Try.prog w = .ok () w' ∧ MapF w' b (n + 1) (updF F x v) ∧ w.grownBy w' (some b) := by
  obtain ⟨D, hD, hm, hF⟩ := h
  obtain ⟨w', hr, hD', hg⟩ := hD.update keyedI ht hn (keyI hx) (val := v) (d := .held v) (ps := []) rfl
  refine ⟨w', hr, ⟨_, hD', hm.put _ _, fun y hy => ?_⟩, hg⟩
  by_cases e : y = x
  · subst e
    rw [updF_same]
    have hk : WideAt.IsKeyLit (.int .i64 y) := trivial
    exact ⟨has_put_same hm hk _, fun z => by rw [atKey_put_same hm hk]; rfl⟩
  · rw [updF_other F v e]
    exact ⟨by rw [has_put_other (lit_ne e)]; exact (hF y hy).1, fun z => by rw [atKey_put_other (lit_ne e)]; exact (hF y hy).2 z⟩

end Go.Proofs.Ytinhdpiecifmhaa

/-
  package spec: Run BY ITS CONTRACT, for a program that is one block and a halt behind it.
-/
import Derived.Test.YtjbbjbbkembknaaAllB
import Derived.Deep.RegionHeld3
import Derived.Lib.AppendZeros
import Derived.Deep.MidRow
namespace Go.Proofs.Ytjbbjbbkembknaa
set_option linter.unusedVariables false
set_option linter.unusedSimpArgs false
open Go.RowKit
attribute [local go_sem] Oper.semAt_some

theorem bool_app {w : World} {ao : Option Addr} {cap : Nat} {l : List Bool} (hr : SRow 1 bcell w (.slice ao l.length cap) l) (hn : l.length ≤ 1000) :
    ∃ ao' cap' w', (Builtin.append_ #[45, 45] 45 #[.slice none 0 0, .slice ao l.length cap]).run Try.prog w = .ok (.slice ao' l.length cap') w' ∧ SRow 1 bcell w' (.slice ao' l.length cap') l ∧ Touch w w' [] ∧ (∀ g, (Value.slice ao' l.length cap').ownBlock = some g → w.heap.size ≤ g) := by
  obtain ⟨i0, hi, hz0, hz1, hz2⟩ := info_partsE Try.info_bool
  obtain ⟨v', w', h1, h2, h3, h4⟩ := run_app (P := Try.prog) (cells := bcell) 45 45 4 i0 _ 1 1 Try.underlying45 hi hz0 hz1 hz2 rfl (by decide) (fun _ => rfl) (fun x u hu => by simp [bcell] at hu; subst hu; rfl) (World.ownsRow_nil w w.heap.size _ _) (l := l) hr (by simp; omega) (by decide) (Nat.le_refl _)
  simp only [List.length_nil, Nat.zero_add] at h2 h1
  obtain ⟨ao', cap', rfl⟩ := owns_slice h2
  refine ⟨ao', cap', w', h1, srow_of (cells := bcell) (n := 1) (fun _ => rfl) (by simpa using h2), (Touch.refl w _).grown h3 (fun k hk => by simp [Value.ownBlock] at hk), fun g hg => (World.ownsRow.lt h2 g hg).1⟩

theorem wpList_nameS {P : Program} {ops : Array Oper} {l : List Oper} {Q : Exit → Act → World → Prop} {a : Act} {w : World} (h : ∀ W, W = w → wpList P ops Q l a W) : wpList P ops Q l a w := h w rfl
theorem Try.size_out : (Try.prog.info? 47).map (·.size) = some 11 := by kernel_rfl
theorem out_one (kd : Int) (D : WD) (a1 a2 a3 a4 : Option Addr) (n1 n2 n3 n4 c1 c2 c3 c4 : Nat) (er : Int) : (outA kd D (.slice a1 n1 c1) (.slice a2 n2 c2) (.slice a3 n3 c3) (.slice a4 n4 c4) er).all (·.oneCell') = true := by
  simp [Value.oneCell']
theorem out_there {w : World} {p : Nat} {kd : Int} {D : WD} {vs vo vh va : Value} {er : Int} (h : OutB w p (outA kd D vs vo vh va er)) : w.there p 0 11 := fun j hj => by
  rw [Nat.zero_add]
  refine ⟨?_, h.fr j⟩
  rw [h.cell j]
  match j, hj with
  | 0, _ | 1, _ | 2, _ | 3, _ | 4, _ | 5, _ | 6, _ | 7, _ | 8, _ | 9, _ | 10, _ => rfl
theorem out_sets {w : World} {p : Nat} {kd0 : Int} {D0 : WD} {vs0 vo0 vh0 va0 : Value} {er0 : Int} (h : OutB w p (outA kd0 D0 vs0 vo0 vh0 va0 er0)) (kd : Int) (D : WD) (vs vo vh va : Value) (er : Int) : ∀ W, W = w.setCells p 0 (outA kd D vs vo vh va er).toList → OutB W p (outA kd D vs vo vh va er) ∧ Touch w W [p] := fun W hW => by
  subst hW
  exact ⟨h.put kd D vs vo vh va er, outPut_touch w p kd D vs vo vh va er⟩

theorem run_mid {w W2 W3 : World} {o1 n nh0 sd od hd ad hc : Nat} {sb ob1 hb ab ha : Option Addr} {D : WD} {H : List Int} {am : List Bool} (ham : am.length ≤ 1000) (g1 : OutB W3 o1 (outA 1 D (.slice sb D.st.length sd) (.slice ob1 D.out.length od) (.slice hb H.length hd) (.slice ab am.length ad) 0)) (g2 : OutB W3 n (outA 0 zWD (.slice none 0 0) (.slice none 0 0) (.slice ha nh0 hc) (.slice none 0 0) 0)) (g3 : Touch w W3 []) (g4 : VRow W3 (.slice sb D.st.length sd) D.st) (g5 : VRow W3 (.slice ob1 D.out.length od) D.out) (g6 : VRow W3 (.slice hb H.length hd) H) (g7 : SRow 1 bcell W3 (.slice ab am.length ad) am) (g8 : W2.heap.size ≤ W3.heap.size) (g9 : OutB W3 w.heap.size (outA 0 zWD (.slice none 0 0) (.slice none 0 0) (.slice none 0 0) (.slice none 0 0) 0))
    (z1 : FrA W2 (.slice sb D.st.length sd)) (z2 : FrA W2 (.slice ob1 D.out.length od)) (z3 : FrA W2 (.slice hb H.length hd)) (lo : o1 < W2.heap.size) (ln : n < W2.heap.size) (hne : n ≠ o1) (h1 : w.heap.size < o1) (h2 : w.heap.size < n) :
    ∃ a4 c4 w4, (Builtin.append_ #[45, 45] 45 #[.slice none 0 0, (.slice ab am.length ad)]).run Try.prog W3 = .ok (.slice a4 am.length c4) w4 ∧ OutB w4 o1 (outA 1 D (.slice sb D.st.length sd) (.slice ob1 D.out.length od) (.slice hb H.length hd) (.slice ab am.length ad) 0) ∧ (w4.setCell ⟨o1, 9, none⟩ (.slice a4 am.length c4)).there n 0 11 ∧ ∀ W5, W5 = (w4.setCell ⟨o1, 9, none⟩ (.slice a4 am.length c4)).setCells n 0 (outA 1 D (.slice sb D.st.length sd) (.slice ob1 D.out.length od) (.slice hb H.length hd) (.slice a4 am.length c4) 0).toList → OutB W5 n (outA 1 D (.slice sb D.st.length sd) (.slice ob1 D.out.length od) (.slice hb H.length hd) (.slice a4 am.length c4) 0) ∧ Touch w W5 [] ∧ VRow W5 (.slice sb D.st.length sd) D.st ∧ VRow W5 (.slice ob1 D.out.length od) D.out ∧ VRow W5 (.slice hb H.length hd) H ∧ SRow 1 bcell W5 (.slice a4 am.length c4) am ∧ (∀ g, Value.ownBlock (.slice hb H.length hd) = some g → w.heap.size < g) ∧ (∀ g, Value.ownBlock (.slice a4 am.length c4) = some g → w.heap.size < g) ∧ OutB W5 w.heap.size (outA 0 zWD (.slice none 0 0) (.slice none 0 0) (.slice none 0 0) (.slice none 0 0) 0) := by
  obtain ⟨a4, c4, w4, h4, q5, t4, z5⟩ := bool_app g7 ham
  have t5 : Touch w4 (w4.setCell ⟨o1, 9, none⟩ (.slice a4 am.length c4)) [o1] := (Touch.refl w4 _).setCell (.inl (by simp)) _
  have hn4 := (g2.touch t4 (by simp)).touch t5 (by simp; omega)
  have hz5 : ∀ g, Value.ownBlock (.slice a4 am.length c4) = some g → W3.heap.size ≤ g := z5
  have hw2 := g3.size
  refine ⟨a4, c4, w4, h4, g1.touch t4 (by simp), out_there hn4, fun W5 hW => ?_⟩
  obtain ⟨k1, k2⟩ := out_sets hn4 1 D (.slice sb D.st.length sd) (.slice ob1 D.out.length od) (.slice hb H.length hd) (.slice a4 am.length c4) 0 W5 hW
  have kp : ∀ {m : Nat} {α : Type} {cs : α → List Value} {v : Value} {l : List α}, SRow m cs w4 v l → (∀ g, v.ownBlock = some g → W2.heap.size ≤ g) → SRow m cs W5 v l := fun r z => SRow.keepB (SRow.keepB r t5 (fun _ g hg => by have := z g hg; simp; omega)) k2 (fun _ g hg => by have := z g hg; simp; omega)
  exact ⟨k1, ((g3.trans t4 (by simp)).trans t5 (fun x hx => .inr (by simp at hx; omega))).trans k2 (fun x hx => .inr (by simp at hx; omega)), kp (SRow.keep g4 t4 (by simp)) z1, kp (SRow.keep g5 t4 (by simp)) z2, kp (SRow.keep g6 t4 (by simp)) z3, kp q5 (fun g hg => Nat.le_trans g8 (hz5 g hg)), fun g hg => by have := z3 g hg; omega, fun g hg => by have := hz5 g hg; omega, ((g9.touch t4 (by simp)).touch t5 (by simp; omega)).touch k2 (by simp; omega)⟩

theorem row_lt {α : Type} {m : Nat} {cs : α → List Value} {w : World} {v : Value} {l : List α} (h : SRow m cs w v l) (hne : l ≠ []) (g : Nat) (hg : v.ownBlock = some g) : g < w.heap.size := by
  obtain ⟨ao, cap, rfl, h1⟩ := h
  obtain ⟨g', off, rfl, hlt, _⟩ := h1 hne
  simp only [Value.ownBlock, Option.some.injEq] at hg
  subst hg
  exact hlt
def RunP (w : World) (D : WD) (h : List Int) (am : List Bool) (e : Ending) (w' : World) : Prop := ∃ sa sc oa oc ha hc aa ac, e = .returned (.agg (outA 1 D (.slice sa D.st.length sc) (.slice oa D.out.length oc) (.slice ha h.length hc) (.slice aa am.length ac) 0)) ∧ VRow w' (.slice ha h.length hc) h ∧ SRow 1 bcell w' (.slice aa am.length ac) am ∧ Touch w w' []
end Go.Proofs.Ytjbbjbbkembknaa

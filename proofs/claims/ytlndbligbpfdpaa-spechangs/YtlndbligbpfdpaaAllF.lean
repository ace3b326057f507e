/-
  package spec: Run AS PLAIN DATA, AND ITS WORLDS. No walk.
-/
import Derived.Test.YtlndbligbpfdpaaSkPlain
import Derived.Test.YtlndbligbpfdpaaSpRun
import Derived.Deep.RegionHeld3
import Derived.Deep.MidRow
namespace Go.Proofs.Ytlndbligbpfdpaa
set_option linter.unusedVariables false
set_option linter.unusedSimpArgs false
open Go.RowKit

/-- Run: so many blocks may still be done; how it ends, the State, the heap, the arms. -/
def runR (l : List InsD) (f : Int) : Nat → WD → List Int → List Bool → (Int × Int) × WD × List Int × List Bool
  | 0, D, h, am => if (plainX l D f).1.1 ≠ 4 then ((plainX l D f).1, (plainX l D f).2, h, am) else ((3, 11), (plainX l D f).2, h, am)
  | n + 1, D, h, am => if (plainX l D f).1.1 ≠ 4 then ((plainX l D f).1, (plainX l D f).2, h, am)
      else if (outX l (plainX l D f).2 h f).1 = 0 then runR l f n (outX l (plainX l D f).2 h f).2.D (outX l (plainX l D f).2 h f).2.h (am ++ (outX l (plainX l D f).2 h f).2.arms)
      else ((if (outX l (plainX l D f).2 h f).1 = -1 then 2 else 3, if (outX l (plainX l D f).2 h f).1 = -1 then 0 else (outX l (plainX l D f).2 h f).1), (plainX l D f).2, h, am)
theorem run_far {l : List InsD} {f : Int} {n : Nat} {D : WD} {h : List Int} {am : List Bool} (hk : (plainX l D f).1.1 ≠ 4) : runR l f n D h am = ((plainX l D f).1, (plainX l D f).2, h, am) := by
  cases n <;> (unfold runR; rw [if_pos hk])
theorem run_out {l : List InsD} {f : Int} {D : WD} {h : List Int} {am : List Bool} (hk : (plainX l D f).1.1 = 4) : runR l f 0 D h am = ((3, 11), (plainX l D f).2, h, am) := by
  unfold runR; rw [if_neg (fun q => q hk)]
theorem run_next {l : List InsD} {f : Int} {n : Nat} {D : WD} {h : List Int} {am : List Bool} (hk : (plainX l D f).1.1 = 4) : runR l f (n + 1) D h am = if (outX l (plainX l D f).2 h f).1 = 0 then runR l f n (outX l (plainX l D f).2 h f).2.D (outX l (plainX l D f).2 h f).2.h (am ++ (outX l (plainX l D f).2 h f).2.arms)
      else ((if (outX l (plainX l D f).2 h f).1 = -1 then 2 else 3, if (outX l (plainX l D f).2 h f).1 = -1 then 0 else (outX l (plainX l D f).2 h f).1), (plainX l D f).2, h, am) := by
  conv => lhs; unfold runR
  rw [if_neg (fun q => q hk)]

/-! ### What is right stays right -/
theorem SWf.heap {D : WD} {h h2 : List Int} (k : SWf D h) (h1 : h2.length ≤ 1000) (hw : ∀ x ∈ h2, Wf64 x) : SWf D h2 := ⟨k.st, k.out, h1, k.ws, hw, k.w0, k.w1, k.w2, k.w3⟩
theorem pln_keep {l : List InsD} (hl : ∀ i ∈ l, i.Wf) {h : List Int} : ∀ (n : Nat) {D : WD}, SWf D h → SWf (plnN l n D).2 h
  | 0, D, k => by
    unfold plnN
    split
    · exact k
    · split
      · exact k
      · exact k
  | n + 1, D, k => by
    unfold plnN
    split
    · exact k
    · split
      · exact k
      · split
        · rename_i h0
          exact pln_keep hl n (step_keep (k.fuel _) hl h0)
        · exact k.fuel _
theorem plain_keep {l : List InsD} (hl : ∀ i ∈ l, i.Wf) {h : List Int} {D : WD} (k : SWf D h) (f : Int) : SWf (plainX l D f).2 h := pln_keep hl _ (k.fuel _)
theorem here_mem {l : List InsD} {pc : Int} {i : InsD} (h : hereP l pc = some i) : rightI i = true := by
  unfold hereP at h
  split at h
  · split at h
    · rename_i hr
      simp only [Option.some.injEq] at h
      rw [← h]; exact hr
    · cases h
  · cases h
theorem runB_keep {l : List InsD} (hl : ∀ i ∈ l, i.Wf) : ∀ (n : Nat) (X : BX) (k : Nat), BW X k → (runB l n X).1 = 0 → BW (runB l n X).2 (k + n)
  | 0, X, k, hX, h0 => by
    unfold runB at h0
    split at h0 <;> simp at h0
  | n + 1, X, k, hX, h0 => by
    cases hh : hereP l X.D.pc with
    | none => unfold runB at h0; rw [hh] at h0; simp at h0
    | some i =>
      rw [run_some hh] at h0 ⊢
      have hX1 : BW { X with D := { X.D with fuel := X.D.fuel - 1 } } k := ⟨hX.s.fuel _, hX.m, hX.ms, hX.arms⟩
      have ha := right_arg (here_mem hh)
      split at h0
      · rename_i hd
        rw [if_pos hd]
        have h1 := do_keep hX1 hl (i := i) (fun _ => by omega) hd
        split at h0
        · rename_i h22; rw [if_pos h22]; exact h1.mono (by omega)
        · rename_i h22
          rw [if_neg h22]
          exact (runB_keep hl n _ _ h1 h0).mono (by omega)
      · rename_i hd; exact absurd h0 hd
theorem out_keep {l : List InsD} (hl : ∀ i ∈ l, i.Wf) {D : WD} {h : List Int} (k : SWf D h) {f : Int} (h0 : (outX l D h f).1 = 0) : SWf (outX l D h f).2.D (outX l D h f).2.h ∧ (outX l D h f).2.arms.length ≤ 300 := by
  unfold outX endB at h0 ⊢
  split at h0
  · rename_i q
    rw [if_pos q]
    have hf : (fuelW f).toNat ≤ 300 := by unfold fuelW; split <;> omega
    have := runB_keep hl (fuelW f).toNat ⟨{ D with fuel := fuelW f, pc := D.pc + 1 }, h, [], []⟩ 0 ⟨(k.fuel (fuelW f)).pc _, fun m hm => (by cases hm), Nat.zero_le _, Nat.zero_le _⟩ h0
    exact ⟨this.s, by have := this.arms; simp only at this ⊢; omega⟩
  · simp at h0

/-- What Run answers. -/
def RunQ (w : World) (K : (Int × Int) × WD × List Int × List Bool) (e : Ending) (w' : World) : Prop := ∃ sa sc oa oc ha hc aa ac, e = .returned (.agg (outA K.1.1 K.2.1 (.slice sa K.2.1.st.length sc) (.slice oa K.2.1.out.length oc) (.slice ha K.2.2.1.length hc) (.slice aa K.2.2.2.length ac) K.1.2)) ∧ VRow w' (.slice sa K.2.1.st.length sc) K.2.1.st ∧ VRow w' (.slice oa K.2.1.out.length oc) K.2.1.out ∧ VRow w' (.slice ha K.2.2.1.length hc) K.2.2.1 ∧ SRow 1 bcell w' (.slice aa K.2.2.2.length ac) K.2.2.2 ∧ Touch w w' []

/-! ### now, where it lies -/
abbrev z0 : Array Value := outA 0 zWD (.slice none 0 0) (.slice none 0 0) (.slice none 0 0) (.slice none 0 0) 0
abbrev arOwn (w : World) (B : Nat) (v : Value) (am : List Bool) : Prop := w.ownsRow B 4 1 v am.length (am.map Value.bool)
/-- Rows of a State and a heap, apart from some blocks. -/
structure RwAt (w wr : World) (X : Nat → Prop) (D : WD) (h : List Int) (vs vo vh : Value) : Prop where
  s : VRow wr vs D.st
  u : VRow wr vo D.out
  hp : VRow wr vh h
  gs : D.st ≠ [] → ∀ g, vs.ownBlock = some g → w.heap.size < g ∧ ¬ X g
  gu : D.out ≠ [] → ∀ g, vo.ownBlock = some g → w.heap.size < g ∧ ¬ X g
  gh : h ≠ [] → ∀ g, vh.ownBlock = some g → w.heap.size < g ∧ ¬ X g
theorem RwAt.keep {w wr w' : World} {X : Nat → Prop} {D : WD} {h : List Int} {vs vo vh : Value} {S : List Nat} (k : RwAt w wr X D h vs vo vh) (t : Touch wr w' S) (hS : ∀ x ∈ S, X x ∨ x ≤ w.heap.size) : RwAt w w' X D h vs vo vh := by
  have hg : ∀ (v : Value) (l : List Int), (l ≠ [] → ∀ g, v.ownBlock = some g → w.heap.size < g ∧ ¬ X g) → l ≠ [] → ∀ g, v.ownBlock = some g → g ∉ S := fun v l hv hl g hg hm => by
    obtain ⟨h1, h2⟩ := hv hl g hg
    rcases hS g hm with q | q
    · exact h2 q
    · omega
  exact ⟨SRow.keepB k.s t (hg _ _ k.gs), SRow.keepB k.u t (hg _ _ k.gu), SRow.keepB k.hp t (hg _ _ k.gh), k.gs, k.gu, k.gh⟩
theorem RwAt.mono {w wr : World} {X Y : Nat → Prop} {D : WD} {h : List Int} {vs vo vh : Value} (k : RwAt w wr X D h vs vo vh) (hXY : ∀ g, w.heap.size < g → Y g → X g ∨ wr.heap.size ≤ g) : RwAt w wr Y D h vs vo vh := by
  refine ⟨k.s, k.u, k.hp, fun hne g hg => ⟨(k.gs hne g hg).1, fun q => ?_⟩, fun hne g hg => ⟨(k.gu hne g hg).1, fun q => ?_⟩, fun hne g hg => ⟨(k.gh hne g hg).1, fun q => ?_⟩⟩
  · rcases hXY g (k.gs hne g hg).1 q with r | r
    · exact (k.gs hne g hg).2 r
    · have := row_lt k.s hne g hg; omega
  · rcases hXY g (k.gu hne g hg).1 q with r | r
    · exact (k.gu hne g hg).2 r
    · have := row_lt k.u hne g hg; omega
  · rcases hXY g (k.gh hne g hg).1 q with r | r
    · exact (k.gh hne g hg).2 r
    · have := row_lt k.hp hne g hg; omega

/-- now: its block n; the arms its own. -/
structure NowAt (w wr : World) (n : Nat) (kd : Int) (D : WD) (h : List Int) (am : List Bool) (vs vo vh va : Value) : Prop where
  b : OutB wr n (outA kd D vs vo vh va 0)
  rw' : RwAt w wr (fun g => g = n ∨ va.ownBlock = some g) D h vs vo vh
  ar : arOwn wr (w.heap.size + 1) va am
  an : va.ownBlock ≠ some n
  t : Touch w wr []
  r : OutB wr w.heap.size z0
  hn : w.heap.size < n
theorem NowAt.keep {w wr w' : World} {n : Nat} {kd : Int} {D : WD} {h : List Int} {am : List Bool} {vs vo vh va : Value} (k : NowAt w wr n kd D h am vs vo vh va) (t : Touch wr w' []) : NowAt w w' n kd D h am vs vo vh va :=
  ⟨k.b.touch t (by simp), k.rw'.keep t (by simp), ownsRow_touch k.ar t (by simp), k.an, k.t.trans t (by simp), k.r.touch t (by simp), k.hn⟩
theorem OutB.set9 {w : World} {p : Nat} {kd : Int} {D : WD} {vs vo vh va : Value} {er : Int} (h : OutB w p (outA kd D vs vo vh va er)) (x : Value) : OutB (w.setCell ⟨p, 9, none⟩ x) p (outA kd D vs vo vh x er) := ⟨by rw [heap_setCell_same _ _ _ _ _ _ h.st]; rfl⟩

theorem flat_bool (l : List Bool) : l.flatMap bcell = l.map Value.bool := by
  induction l with
  | nil => rfl
  | cons x l ih => simp only [List.flatMap_cons, List.map_cons, ih]; rfl
theorem arm_app {w : World} {B : Nat} {va : Value} {am : List Bool} (ho : arOwn w B va am) (hB : B ≤ w.heap.size) {ab : Option Addr} {ad : Nat} {bm : List Bool} (hr : SRow 1 bcell w (.slice ab bm.length ad) bm) (hn : am.length + bm.length ≤ 100000) :
    ∃ a4 c4 w4, (Builtin.append_ #[39, 39] 39 #[va, .slice ab bm.length ad]).run Try.prog w = .ok (.slice a4 (am ++ bm).length c4) w4 ∧ arOwn w4 B (.slice a4 (am ++ bm).length c4) (am ++ bm) ∧ Touch w w4 va.ownBlock.toList ∧ ((Value.slice a4 (am ++ bm).length c4).ownBlock = va.ownBlock ∨ (Value.slice a4 (am ++ bm).length c4).ownBlock = some w.heap.size) := by
  obtain ⟨i0, hi, hz0, hz1, hz2⟩ := info_partsE Try.info_bool
  obtain ⟨v', w', h1, h2, h3, h4⟩ := run_app (P := Try.prog) (cells := bcell) 39 39 4 i0 _ 1 1 Try.underlying39 hi hz0 hz1 hz2 rfl (by decide) (fun _ => rfl) (fun x u hu => by simp [bcell] at hu; subst hu; rfl) ho (l := bm) hr (by omega) (by decide) hB
  have e : bm.flatMap bcell = bm.map Value.bool := flat_bool bm
  rw [e, ← List.map_append, ← List.length_append] at h2
  obtain ⟨ao', cap', rfl⟩ := owns_slice h2
  exact ⟨ao', cap', w', h1, h2, (Touch.refl w _).grown h3 (fun k hk => by simp [hk]), h4⟩

/-- The blocks of an outcome that was just made: rows since W2. -/
theorem rw_new {w W2 W3 : World} {D : WD} {h : List Int} {vs vo vh : Value} {X : Nat → Prop} (hw : w.heap.size < W2.heap.size) (s : VRow W3 vs D.st) (u : VRow W3 vo D.out) (hp : VRow W3 vh h) (z1 : FrA W2 vs) (z2 : FrA W2 vo) (z3 : FrA W2 vh) (hX : ∀ g, X g → g < W2.heap.size) : RwAt w W3 X D h vs vo vh :=
  ⟨s, u, hp, fun _ g hg => ⟨by have := z1 g hg; omega, fun q => by have := z1 g hg; have := hX g q; omega⟩, fun _ g hg => ⟨by have := z2 g hg; omega, fun q => by have := z2 g hg; have := hX g q; omega⟩, fun _ g hg => ⟨by have := z3 g hg; omega, fun q => by have := z3 g hg; have := hX g q; omega⟩⟩

/-- Behind a block: its outcome lies at o1; the arms are put behind now's. -/
theorem run_mid2 {w W2 W3 : World} {o1 n : Nat} {kd kd1 er1 : Int} {D D1 : WD} {h H1 : List Int} {am bm : List Bool} {vs vo vh va vs1 vo1 vh1 : Value} {ab : Option Addr} {ad : Nat}
    (N : NowAt w W3 n kd D h am vs vo vh va) (hva : ∀ g, va.ownBlock = some g → g < W2.heap.size) (hsz : W2.heap.size ≤ W3.heap.size) (hn : n < W2.heap.size) (ho : o1 < W2.heap.size) (ho1 : w.heap.size < o1) (hne : n ≠ o1) (hao : va.ownBlock ≠ some o1)
    (g1 : OutB W3 o1 (outA kd1 D1 vs1 vo1 vh1 (.slice ab bm.length ad) er1)) (s : VRow W3 vs1 D1.st) (u : VRow W3 vo1 D1.out) (hp : VRow W3 vh1 H1) (z1 : FrA W2 vs1) (z2 : FrA W2 vo1) (z3 : FrA W2 vh1)
    (hr : SRow 1 bcell W3 (.slice ab bm.length ad) bm) (hl : am.length + bm.length ≤ 100000) :
    ∃ a4 c4 w4, (Builtin.append_ #[39, 39] 39 #[va, .slice ab bm.length ad]).run Try.prog W3 = .ok (.slice a4 (am ++ bm).length c4) w4 ∧ OutB w4 o1 (outA kd1 D1 vs1 vo1 vh1 (.slice ab bm.length ad) er1) ∧
      (w4.setCell ⟨o1, 9, none⟩ (.slice a4 (am ++ bm).length c4)).there n 0 11 ∧ (w4.setCell ⟨o1, 9, none⟩ (.slice a4 (am ++ bm).length c4)).there w.heap.size 0 11 ∧
      (er1 = 0 → ∀ W5, W5 = (w4.setCell ⟨o1, 9, none⟩ (.slice a4 (am ++ bm).length c4)).setCells n 0 (outA kd1 D1 vs1 vo1 vh1 (.slice a4 (am ++ bm).length c4) er1).toList → NowAt w W5 n kd1 D1 H1 (am ++ bm) vs1 vo1 vh1 (.slice a4 (am ++ bm).length c4)) ∧
      (∀ W5, W5 = (w4.setCell ⟨o1, 9, none⟩ (.slice a4 (am ++ bm).length c4)).setCells w.heap.size 0 (outA kd1 D1 vs1 vo1 vh1 (.slice a4 (am ++ bm).length c4) er1).toList → OutB W5 w.heap.size (outA kd1 D1 vs1 vo1 vh1 (.slice a4 (am ++ bm).length c4) er1) ∧ RwAt w W5 (fun _ => False) D1 H1 vs1 vo1 vh1 ∧ SRow 1 bcell W5 (.slice a4 (am ++ bm).length c4) (am ++ bm) ∧ Touch w W5 []) := by
  have hw3 := N.t.size
  have hn' := N.hn
  obtain ⟨a4, c4, w4, h4, q4, t4, e4⟩ := arm_app N.ar (by omega) hr hl
  have R0 : RwAt w W3 (fun g => g < W2.heap.size ∨ g = W3.heap.size) D1 H1 vs1 vo1 vh1 := (rw_new (X := fun g => g < W2.heap.size) (by omega) s u hp z1 z2 z3 (fun g q => q)).mono (fun g _ q => by rcases q with q | q; exact .inl q; exact .inr (by omega))
  have R4 : RwAt w w4 (fun g => g < W2.heap.size ∨ g = W3.heap.size) D1 H1 vs1 vo1 vh1 := R0.keep t4 (fun x hx => .inl (.inl (hva x (by simpa using hx))))
  have hs4 := t4.size
  have t5 : Touch w4 (w4.setCell ⟨o1, 9, none⟩ (.slice a4 (am ++ bm).length c4)) [o1] := (Touch.refl w4 _).setCell (.inl (by simp)) _
  have R5 := R4.keep t5 (fun x hx => .inl (.inl (by simp at hx; omega)))
  have ge4 : ∀ g, (Value.slice a4 (am ++ bm).length c4).ownBlock = some g → w.heap.size < g ∧ g ≠ n ∧ g ≠ o1 := fun g hg => by
    have hge := (World.ownsRow.lt q4 g hg).1
    rcases e4 with q | q
    · rw [q] at hg
      exact ⟨by omega, fun e => N.an (by rw [← e]; exact hg), fun e => hao (by rw [← e]; exact hg)⟩
    · rw [q] at hg
      simp only [Option.some.injEq] at hg
      exact ⟨by omega, by omega, by omega⟩
  have hvn : ∀ g, va.ownBlock = some g → w.heap.size < g := fun g hg => by have := (World.ownsRow.lt N.ar g hg).1; omega
  have b4 : OutB w4 n (outA kd D vs vo vh va 0) := N.b.touch t4 (fun q => N.an (by simpa using q))
  have b5 := b4.touch t5 (by simpa using hne)
  have r4 : OutB w4 w.heap.size z0 := N.r.touch t4 (fun q => by have := hvn _ (by simpa using q); omega)
  have r5 := r4.touch t5 (by simp; omega)
  have T5 : Touch w (w4.setCell ⟨o1, 9, none⟩ (.slice a4 (am ++ bm).length c4)) [] := (N.t.trans t4 (fun x hx => .inr (by have := hvn x (by simpa using hx); omega))).trans t5 (fun x hx => .inr (by simp at hx; omega))
  have q5 : arOwn (w4.setCell ⟨o1, 9, none⟩ (.slice a4 (am ++ bm).length c4)) (w.heap.size + 1) (.slice a4 (am ++ bm).length c4) (am ++ bm) := ownsRow_touch q4 t5 (fun g hg => by have := ge4 g hg; simp; omega)
  refine ⟨a4, c4, w4, h4, g1.touch t4 (fun q => hao (by simpa using q)), out_there b5, out_there r5, fun he W5 hW => ?_, fun W5 hW => ?_⟩
  · subst he
    obtain ⟨k1, k2⟩ := out_sets b5 kd1 D1 vs1 vo1 vh1 (.slice a4 (am ++ bm).length c4) 0 W5 hW
    have R6 := R5.keep k2 (fun x hx => .inl (.inl (by simp at hx; omega)))
    refine ⟨k1, R6.mono (fun g hg hY => ?_), ownsRow_touch q5 k2 (fun g hg => by have := ge4 g hg; simp; omega), fun q => (ge4 n q).2.1 rfl, T5.trans k2 (fun x hx => .inr (by simp at hx; omega)), r5.touch k2 (by simp; omega), hn'⟩
    rcases hY with rfl | q
    · exact .inl (.inl hn)
    · rcases e4 with e | e
      · rw [e] at q; exact .inl (.inl (hva g q))
      · rw [e] at q
        simp only [Option.some.injEq] at q
        exact .inl (.inr q.symm)
  · obtain ⟨k1, k2⟩ := out_sets r5 kd1 D1 vs1 vo1 vh1 (.slice a4 (am ++ bm).length c4) er1 W5 hW
    have R6 := R5.keep k2 (fun x hx => .inr (by simp at hx; omega))
    refine ⟨k1, R6.mono (fun g _ q => q.elim), ?_, T5.trans k2 (fun x hx => .inr (by simp at hx; omega))⟩
    have q6 : arOwn W5 (w.heap.size + 1) (.slice a4 (am ++ bm).length c4) (am ++ bm) := ownsRow_touch q5 k2 (fun g hg => by have := ge4 g hg; simp; omega)
    refine srow_of (cells := bcell) (n := 1) (fun _ => rfl) (e := 4) (B := w.heap.size + 1) ?_
    rw [flat_bool]; exact q6

end Go.Proofs.Ytlndbligbpfdpaa
/-
  package spec: Run BY ITS CONTRACT.
-/
namespace Go.Proofs.Ytlndbligbpfdpaa
set_option linter.unusedVariables false
set_option linter.unusedSimpArgs false
open Go.RowKit
attribute [local go_sem] Oper.semAt_some

theorem fin_q {w W : World} {kd er : Int} {D : WD} {h : List Int} {am : List Bool} {vs vo vh va : Value} (T : Touch w W []) (r : OutB W w.heap.size z0) (R : RwAt w W (fun _ => False) D h vs vo vh) (q : SRow 1 bcell W va am) (qa : am ≠ [] → ∀ g, va.ownBlock = some g → w.heap.size < g) :
    ∀ W8, W8 = W.setCells w.heap.size 0 (outA kd D vs vo vh va er).toList → OutB W8 w.heap.size (outA kd D vs vo vh va er) ∧ RunQ w ((kd, er), D, h, am) (.returned (.agg (outA kd D vs vo vh va er))) W8 := fun W8 hW => by
  obtain ⟨k1, k2⟩ := out_sets r kd D vs vo vh va er W8 hW
  have R6 := R.keep k2 (fun x hx => .inr (by simp at hx; omega))
  have q6 : SRow 1 bcell W8 va am := SRow.keepB q k2 (fun hne g hg => by have := qa hne g hg; simp; omega)
  obtain ⟨sa, sc, rfl⟩ := R6.s.form
  obtain ⟨oa, oc, rfl⟩ := R6.u.form
  obtain ⟨ha, hc, rfl⟩ := R6.hp.form
  obtain ⟨aa, ac, rfl⟩ := q6.form
  exact ⟨k1, sa, sc, oa, oc, ha, hc, aa, ac, rfl, R6.s, R6.u, R6.hp, q6, T.trans k2 (fun x hx => .inr (by simp at hx; omega))⟩
theorem arm_row {w : World} {B : Nat} {va : Value} {am : List Bool} (h : arOwn w B va am) : SRow 1 bcell w va am :=
  srow_of (cells := bcell) (n := 1) (fun _ => rfl) (e := 4) (B := B) (by rw [flat_bool]; exact h)

/-- now, and a new outcome beside it whose rows are new. -/
structure BothAt (w W : World) (n o1 : Nat) (kd : Int) (D : WD) (h : List Int) (am : List Bool) (vs vo vh va : Value) (kd2 er2 : Int) (D2 : WD) (vs2 vo2 : Value) : Prop where
  N : NowAt w W n kd D h am vs vo vh va
  o : OutB W o1 (outA kd2 D2 vs2 vo2 (.slice none 0 0) (.slice none 0 0) er2)
  R : RwAt w W (fun g => g = o1) D2 h vs2 vo2 vh
  ho : w.heap.size < o1
  hne : n ≠ o1
  hva : ∀ g, va.ownBlock = some g → g < o1
  NX : RwAt w W (fun g => g = o1 ∨ g = n ∨ va.ownBlock = some g) D h vs vo vh
theorem both_new {w wr w2 : World} {n : Nat} {kd : Int} {D : WD} {h : List Int} {am : List Bool} {vs vo vh va : Value} (N : NowAt w wr n kd D h am vs vo vh va) {kd2 er2 : Int} {D2 : WD} {vs2 vo2 : Value} (s : VRow w2 vs2 D2.st) (u : VRow w2 vo2 D2.out) (t : Touch wr w2 []) (z1 : FrA wr vs2) (z2 : FrA wr vo2) :
    BothAt w (w2.alloc (.cells (outA kd2 D2 vs2 vo2 (.slice none 0 0) (.slice none 0 0) er2) 41)) n w2.heap.size kd D h am vs vo vh va kd2 er2 D2 vs2 vo2 := by
  have tA : Touch w2 (w2.alloc (.cells (outA kd2 D2 vs2 vo2 (.slice none 0 0) (.slice none 0 0) er2) 41)) [] := (Touch.refl w2 []).alloc _
  have tt := t.trans tA (by simp)
  have hw := N.t.size
  have hs := t.size
  have hr := lt_of_heap N.r.st
  refine ⟨N.keep tt, ⟨heap_alloc_new w2 _⟩, ⟨SRow.keep s tA (by simp), SRow.keep u tA (by simp), SRow.keep N.rw'.hp tt (by simp), fun hne g hg => ⟨by have := z1 g hg; omega, fun e => by have := row_lt s hne g hg; omega⟩, fun hne g hg => ⟨by have := z2 g hg; omega, fun e => by have := row_lt u hne g hg; omega⟩, fun hne g hg => ⟨(N.rw'.gh hne g hg).1, fun e => by have := row_lt N.rw'.hp hne g hg; omega⟩⟩, by omega, by have := lt_of_heap N.b.st; omega, fun g hg => by have := (World.ownsRow.lt N.ar g hg).2; omega, ((N.keep t).rw'.mono (Y := fun g => g = w2.heap.size ∨ g = n ∨ va.ownBlock = some g) (fun g _ q => by rcases q with q | q; exact .inr (by omega); exact .inl q)).keep tA (by simp)⟩
/-- o with now's heap and arms, as what Run answers. -/
theorem both_far {w W : World} {n o1 : Nat} {kd : Int} {D : WD} {h : List Int} {am : List Bool} {vs vo vh va : Value} {kd2 er2 : Int} {D2 : WD} {vs2 vo2 : Value} (B : BothAt w W n o1 kd D h am vs vo vh va kd2 er2 D2 vs2 vo2) :
    ((W.setCell ⟨o1, 8, none⟩ vh).setCell ⟨o1, 9, none⟩ va).drew.there w.heap.size 0 11 ∧ ∀ W8, W8 = ((W.setCell ⟨o1, 8, none⟩ vh).setCell ⟨o1, 9, none⟩ va).drew.setCells w.heap.size 0 (outA kd2 D2 vs2 vo2 vh va er2).toList → OutB W8 w.heap.size (outA kd2 D2 vs2 vo2 vh va er2) ∧ RunQ w ((kd2, er2), D2, h, am) (.returned (.agg (outA kd2 D2 vs2 vo2 vh va er2))) W8 := by
  have tW : Touch W ((W.setCell ⟨o1, 8, none⟩ vh).setCell ⟨o1, 9, none⟩ va).drew [o1] := (((Touch.refl W [o1]).setCell (.inl (by simp)) _).setCell (.inl (by simp)) _).drew
  have ho := B.ho
  have r7 := B.N.r.touch tW (by simp; omega)
  refine ⟨out_there r7, fin_q (B.N.t.trans tW (fun x hx => .inr (by simp at hx; omega))) r7 ((B.R.keep tW (fun x hx => .inl (by simpa using hx))).mono (fun _ _ q => q.elim)) ?_ (fun _ g hg => by have := (World.ownsRow.lt B.N.ar g hg).1; omega)⟩
  exact SRow.keepB (arm_row B.N.ar) tW (fun _ g hg => by have := B.hva g hg; simp; omega)
theorem both_out {w W : World} {n o1 : Nat} {kd : Int} {D : WD} {h : List Int} {am : List Bool} {vs vo vh va : Value} {kd2 er2 : Int} {D2 : WD} {vs2 vo2 : Value} (B : BothAt w W n o1 kd D h am vs vo vh va kd2 er2 D2 vs2 vo2) :
    W.there w.heap.size 0 11 ∧ ∀ W8, W8 = W.setCells w.heap.size 0 (outA 3 D2 vs2 vo2 vh va 11).toList → OutB W8 w.heap.size (outA 3 D2 vs2 vo2 vh va 11) ∧ RunQ w ((3, 11), D2, h, am) (.returned (.agg (outA 3 D2 vs2 vo2 vh va 11))) W8 :=
  ⟨out_there B.N.r, fin_q B.N.t B.N.r (B.R.mono (fun _ _ q => q.elim)) (arm_row B.N.ar) (fun _ g hg => by have := (World.ownsRow.lt B.N.ar g hg).1; omega)⟩
/-- Behind the block: its outcome stored at o1. -/
theorem both_blk {w W w3 : World} {n o1 : Nat} {kd : Int} {D : WD} {h : List Int} {am : List Bool} {vs vo vh va : Value} {kd2 er2 : Int} {D2 : WD} {vs2 vo2 : Value} (B : BothAt w W n o1 kd D h am vs vo vh va kd2 er2 D2 vs2 vo2) (t : Touch W w3 [])
    {kd1 er1 : Int} {D1 : WD} {H1 : List Int} {bm : List Bool} {vs1 vo1 vh1 : Value} {ab : Option Addr} {ad : Nat} (s : VRow w3 vs1 D1.st) (u : VRow w3 vo1 D1.out) (hp : VRow w3 vh1 H1) (hr : SRow 1 bcell w3 (.slice ab bm.length ad) bm) (z1 : FrA W vs1) (z2 : FrA W vo1) (z3 : FrA W vh1) (z4 : FrA W (.slice ab bm.length ad)) (hl : am.length + bm.length ≤ 100000) :
    w3.there o1 0 11 ∧ ∀ W3, W3 = w3.setCells o1 0 (outA kd1 D1 vs1 vo1 vh1 (.slice ab bm.length ad) er1).toList → W3.cell? ⟨n, 9, none⟩ = some va ∧ W3.cell? ⟨o1, 9, none⟩ = some (.slice ab bm.length ad) ∧
    ∃ a4 c4 w4, (Builtin.append_ #[39, 39] 39 #[va, .slice ab bm.length ad]).run Try.prog W3 = .ok (.slice a4 (am ++ bm).length c4) w4 ∧ OutB w4 o1 (outA kd1 D1 vs1 vo1 vh1 (.slice ab bm.length ad) er1) ∧
      (w4.setCell ⟨o1, 9, none⟩ (.slice a4 (am ++ bm).length c4)).there n 0 11 ∧ (w4.setCell ⟨o1, 9, none⟩ (.slice a4 (am ++ bm).length c4)).there w.heap.size 0 11 ∧
      (er1 = 0 → ∀ W5, W5 = (w4.setCell ⟨o1, 9, none⟩ (.slice a4 (am ++ bm).length c4)).setCells n 0 (outA kd1 D1 vs1 vo1 vh1 (.slice a4 (am ++ bm).length c4) er1).toList → NowAt w W5 n kd1 D1 H1 (am ++ bm) vs1 vo1 vh1 (.slice a4 (am ++ bm).length c4)) ∧
      (∀ W5, W5 = (w4.setCell ⟨o1, 9, none⟩ (.slice a4 (am ++ bm).length c4)).setCells w.heap.size 0 (outA kd1 D1 vs1 vo1 vh1 (.slice a4 (am ++ bm).length c4) er1).toList → OutB W5 w.heap.size (outA kd1 D1 vs1 vo1 vh1 (.slice a4 (am ++ bm).length c4) er1) ∧ RunQ w ((kd1, er1), D1, H1, am ++ bm) (.returned (.agg (outA kd1 D1 vs1 vo1 vh1 (.slice a4 (am ++ bm).length c4) er1))) W5) := by
  have ho := B.ho
  have hoW := lt_of_heap B.o.st
  have hnW := lt_of_heap B.N.b.st
  have o3 := B.o.touch t (by simp)
  refine ⟨out_there o3, fun W3 hW3 => ?_⟩
  obtain ⟨k1, k2⟩ := out_sets o3 kd1 D1 vs1 vo1 vh1 (.slice ab bm.length ad) er1 W3 hW3
  have hs3 := t.size
  have hs4 := k2.size
  have N3 := B.N.keep t
  have hvn : ∀ g, va.ownBlock = some g → w.heap.size < g := fun g hg => by have := (World.ownsRow.lt B.N.ar g hg).1; omega
  have fr : ∀ (v : Value), FrA W v → ∀ g, v.ownBlock = some g → g ∉ [o1] := fun v z g hg => by have := z g hg; simp; omega
  -- now behind the store
  have NN : NowAt w W3 n kd D h am vs vo vh va := by
    have hx := (B.NX.keep t (by simp)).keep k2 (fun x hx => .inl (.inl (by simpa using hx)))
    exact ⟨N3.b.touch k2 (by simpa using B.hne), hx.mono (fun g _ q => .inl (.inr q)), ownsRow_touch N3.ar k2 (fun g hg => by have := B.hva g hg; simp; omega), N3.an, N3.t.trans k2 (fun x hx => .inr (by simp at hx; omega)), N3.r.touch k2 (by simp; omega), N3.hn⟩
  obtain ⟨a4, c4, w4, m1, m2, m3, m4, m5, m6⟩ := run_mid2 (W2 := W) NN (fun g hg => by have := B.hva g hg; omega) (by omega) hnW hoW ho B.hne (fun e => by have := B.hva _ e; omega) k1 (SRow.keepB s k2 (fun _ => fr _ z1)) (SRow.keepB u k2 (fun _ => fr _ z2)) (SRow.keepB hp k2 (fun _ => fr _ z3)) z1 z2 z3 (SRow.keepB hr k2 (fun _ => fr _ z4)) hl
  refine ⟨NN.b.cell 9, k1.cell 9, a4, c4, w4, m1, m2, m3, m4, m5, fun W5 hW5 => ?_⟩
  obtain ⟨e1, e2, e3, e4⟩ := m6 W5 hW5
  obtain ⟨sa, sc, rfl⟩ := e2.s.form
  obtain ⟨oa, oc, rfl⟩ := e2.u.form
  obtain ⟨ha, hc, rfl⟩ := e2.hp.form
  exact ⟨e1, sa, sc, oa, oc, ha, hc, a4, c4, rfl, e2.s, e2.u, e2.hp, e3, e4⟩

end Go.Proofs.Ytlndbligbpfdpaa
/-
  package spec: Run, WALKED.
-/
namespace Go.Proofs.Ytlndbligbpfdpaa
set_option linter.unusedVariables false
set_option linter.unusedSimpArgs false
open Go.RowKit
attribute [local go_sem] Oper.semAt_some

set_option maxRecDepth 100000 in
set_option maxHeartbeats 8000000 in
theorem run_any {w : World} {ap : Option Addr} {cp : Nat} {l : List InsD} {ah : Option Addr} {ch : Nat} {h : List Int} (hh : VRow w (.slice ah h.length ch) h) (hl : InsRow w (.slice ap l.length cp) l) (hll : l.length ≤ 1000) (hlw : ∀ i ∈ l, i.Wf) (hS : SWf zWD h) (f : Int) :
    Calls Try.prog 18 #[.slice ap l.length cp, .slice ah h.length ch, .int .i64 f] w (RunQ w (runR l f 20 zWD h [])) := by
  have HCL : Hid (∀ W, Touch w W [] → HidC Try.prog 32 #[.slice ah h.length ch] W (PushP W h)) := fun W t => ⟨sclone_any (SRow.keep hh t (by simp)) (by have := hS.hl; omega)⟩
  have HPL : Hid (∀ (W : World) (D : WD) vs vo, Touch w W [] → VRow W vs D.st → VRow W vo D.out → SWf D [] → HidC Try.prog 20 #[.slice ap l.length cp, stV D vs vo, .int .i64 f] W (PlnQ W (plainX l D f))) := fun W D vs vo t r1 r2 k => ⟨plain_any r1 r2 (SRow.keep hl t (by simp)) hll hlw k f⟩
  have HBK : Hid (∀ (W : World) (D : WD) vs vo ha hc (h : List Int), Touch w W [] → VRow W vs D.st → VRow W vo D.out → VRow W (.slice ha h.length hc) h → SWf D h → HidC Try.prog 15 #[.slice ap l.length cp, stV D vs vo, .slice ha h.length hc, .int .i64 f] W (BlkF W (outX l D h f) D h)) := fun W D vs vo ha hc h t r1 r2 r3 k => ⟨block_fresh r1 r2 r3 (SRow.keep hl t (by simp)) hll hlw k f⟩
  have HLW : Hid _ := hlw
  have HS0 : Hid _ := hS
  have HR0 : Hid (OutB (w.alloc (.cells z0 41)) w.heap.size z0) := ⟨heap_alloc_new w _⟩
  have HT0 : Hid (Touch w (w.alloc (.cells z0 41)) []) := (Touch.refl w []).alloc _
  have HQS : Hid ((w.alloc (.cells z0 41)).heap.size = w.heap.size + 1) := by show _ = _; simp
  generalize hK : runR l f 20 zWD h [] = K
  have HK : Hid _ := hK
  clear hh hl hll hlw hS hK
  go_enter Try.func18, Try.ntmps18
  go_wp2_with fail
  generalize (w.alloc (.cells z0 41)) = Q at *
  refine (HCL.out _ HT0.out).out.mono ?_
  rintro e w1 ⟨vh, rfl, p1, t1⟩
  obtain ⟨ha, hc, rfl⟩ := owns_slice p1
  have tA : Touch w1 (w1.alloc (.cells (outA 0 zWD (.slice none 0 0) (.slice none 0 0) (.slice ha h.length hc) (.slice none 0 0) 0) 41)) [] := (Touch.refl w1 []).alloc _
  have hsz1 := t1.size
  have HN1 : Hid (NowAt w (w1.alloc (.cells (outA 0 zWD (.slice none 0 0) (.slice none 0 0) (.slice ha h.length hc) (.slice none 0 0) 0) 41)) w1.heap.size 0 zWD h [] (.slice none 0 0) (.slice none 0 0) (.slice ha h.length hc) (.slice none 0 0)) := by
    have hq := HQS.out
    refine ⟨⟨heap_alloc_new w1 _⟩, ⟨vrow_z _, vrow_z _, SRow.keep (vrow_of p1) tA (by simp), fun hne => absurd rfl hne, fun hne => absurd rfl hne, fun _ g hg => ⟨by have := own_ge p1 g hg; omega, fun q => ?_⟩⟩, World.ownsRow_nil _ _ _ _, by simp [Value.ownBlock], HT0.out.trans (t1.trans tA (by simp)) (by simp), HR0.out.touch (t1.trans tA (by simp)) (by simp), by omega⟩
    rcases q with q | q
    · have := own_lt p1 g hg; omega
    · simp [Value.ownBlock] at q
  clear HCL t1 tA p1 hsz1 HR0 HT0 HQS
  go_wp2_with fail
  generalize (w1.alloc (.cells (outA 0 zWD (.slice none 0 0) (.slice none 0 0) (.slice ha h.length hc) (.slice none 0 0) 0) 41)) = W1 at *
  generalize w1.heap.size = n at *
  go_loopw [8] (fun i wr => ∃ (k : Nat) (kd : Int) (D : WD) (h : List Int) (am : List Bool) (vs vo vh va : Value), i = .int .i64 k ∧ k ≤ 20 ∧ NowAt w wr n kd D h am vs vo vh va ∧ SWf D h ∧ am.length ≤ 300 * k ∧ runR l f (20 - k) D h am = K) (fun i _ => 20 - (intOf i).toNat)
  case atStart => exact ⟨0, 0, zWD, h, [], _, _, _, _, rfl, by omega, HN1.out, HS0.out, by simp, HK.out⟩
  case round =>
    obtain ⟨k, kd, D, h, am, vs, vo, vh, va, rfl, hk, hN, hsw, ham, hrun⟩ := hrel
    obtain ⟨sa, sc, rfl⟩ := hN.rw'.s.form
    obtain ⟨oa, oc, rfl⟩ := hN.rw'.u.form
    obtain ⟨ha, hc, rfl⟩ := hN.rw'.hp.form
    obtain ⟨aa, ac, rfl⟩ := owns_slice hN.ar
    have HN : Hid _ := hN
    have HSW : Hid _ := hsw
    have HAM : Hid _ := ham
    have HRUN : Hid _ := hrun
    have xn0 := hN.b.cell 0
    have xn1 := hN.b.cell 1
    have xn2 := hN.b.cell 2
    have xn3 := hN.b.cell 3
    have xn4 := hN.b.cell 4
    have xn5 := hN.b.cell 5
    have xn6 := hN.b.cell 6
    have xn7 := hN.b.cell 7
    simp only [outA, List.getElem?_toArray, List.getElem?_cons_zero, List.getElem?_cons_succ] at xn0 xn1 xn2 xn3 xn4 xn5 xn6 xn7
    have HPP := HPL.out wr D _ _ hN.t hN.rw'.s hN.rw'.u (hsw.heap (by simp) (fun x hx => by cases hx))
    have HPK : Hid (SWf (plainX l D f).2 h) := plain_keep HLW.out hsw f
    have HFAR : Hid ((plainX l D f).1.1 ≠ 4 → K = ((plainX l D f).1, (plainX l D f).2, h, am)) := fun q => by rw [← hrun]; exact run_far q
    have HOUT : Hid ((plainX l D f).1.1 = 4 → k = 20 → K = ((3, 11), (plainX l D f).2, h, am)) := fun q q2 => by rw [← hrun, q2]; exact run_out q
    have HNEX : Hid ((plainX l D f).1.1 = 4 → k < 20 → K = if (outX l (plainX l D f).2 h f).1 = 0 then runR l f (20 - (k + 1)) (outX l (plainX l D f).2 h f).2.D (outX l (plainX l D f).2 h f).2.h (am ++ (outX l (plainX l D f).2 h f).2.arms) else ((if (outX l (plainX l D f).2 h f).1 = -1 then 2 else 3, if (outX l (plainX l D f).2 h f).1 = -1 then 0 else (outX l (plainX l D f).2 h f).1), (plainX l D f).2, h, am)) := fun q q2 => by
      rw [← hrun, show 20 - k = (20 - (k + 1)) + 1 by omega]; exact run_next q
    generalize plainX l D f = P at *
    obtain ⟨⟨pk, pe⟩, D2⟩ := P
    simp only at HPK HFAR HOUT HNEX
    clear hN hsw ham hrun HN1 HS0 HK HPL
    go_wp2_with fail
    refine HPP.out.mono ?_
    rintro e w2 ⟨sa2, sc2, oa2, oc2, rfl, q1, q2, t2, z1, z2⟩
    have HB : Hid (BothAt w (w2.alloc (.cells (outA pk D2 (.slice sa2 D2.st.length sc2) (.slice oa2 D2.out.length oc2) (.slice none 0 0) (.slice none 0 0) pe) 41)) n w2.heap.size kd D h am _ _ _ _ pk pe D2 (.slice sa2 D2.st.length sc2) (.slice oa2 D2.out.length oc2)) := both_new HN.out q1 q2 t2 z1 z2
    clear xn0 xn1 xn2 xn3 xn4 xn5 xn6 xn7 q1 q2 t2 z1 z2 HPP HN
    have ho := HB.out.o
    have hn := HB.out.N.b
    have yo0 := ho.cell 0
    have yo1 := ho.cell 1
    have yo2 := ho.cell 2
    have yo3 := ho.cell 3
    have yo4 := ho.cell 4
    have yo5 := ho.cell 5
    have yo6 := ho.cell 6
    have yo7 := ho.cell 7
    have yo8 := ho.cell 8
    have yo9 := ho.cell 9
    have yo10 := ho.cell 10
    have xn8 := hn.cell 8
    have xn9 := hn.cell 9
    have g8 := ho.fr 8
    have g9 := ho.fr 9
    simp only [outA, List.getElem?_toArray, List.getElem?_cons_zero, List.getElem?_cons_succ] at yo0 yo1 yo2 yo3 yo4 yo5 yo6 yo7 yo8 yo9 yo10 xn8 xn9
    by_cases h4 : pk = 4
    · subst h4
      by_cases hk20 : k = 20
      · have hK4 := HOUT.out rfl hk20
        subst hK4
        subst hk20
        obtain ⟨th, fin⟩ := both_out HB.out
        have HTH : Hid _ := th
        have HEND : Hid _ := fin
        clear hn ho th fin HNEX HOUT HFAR HBK HPK
        go_wp2_with (refine wpList_store_mid rfl 41 _ _ rfl w.heap.size 0 (outA 3 D2 (.slice sa2 D2.st.length sc2) (.slice oa2 D2.out.length oc2) (.slice ha h.length hc) (.slice aa am.length ac) 11) rfl rfl HTH.out Try.size_out (out_one _ _ _ _ _ _ _ _ _ _ _ _ _ _ _) ?_; refine wpList_nameS fun W8 hW8 => ?_; have H8 : Hid _ := HEND.out W8 hW8; clear hW8 HEND HTH)
        obtain ⟨b8, r8⟩ := H8.out
        refine bodyPost_ret (v := .agg (outA 3 D2 (.slice sa2 D2.st.length sc2) (.slice oa2 D2.out.length oc2) (.slice ha h.length hc) (.slice aa am.length ac) 11)) ?_ rfl r8
        rw [res_cell rfl]
        have p0 := b8.cell 0
        have p1 := b8.cell 1
        have p2 := b8.cell 2
        have p3 := b8.cell 3
        have p4 := b8.cell 4
        have p5 := b8.cell 5
        have p6 := b8.cell 6
        have p7 := b8.cell 7
        have p8 := b8.cell 8
        have p9 := b8.cell 9
        have p10 := b8.cell 10
        simp only [outA, List.getElem?_toArray, List.getElem?_cons_zero, List.getElem?_cons_succ] at p0 p1 p2 p3 p4 p5 p6 p7 p8 p9 p10
        simp [go_sem, p0, p1, p2, p3, p4, p5, p6, p7, p8, p9, p10]
      · have hk20' : ((k : Int) == 20) = false := by simpa using (by omega : ¬ (k : Int) = 20)
        have hK4 := HNEX.out rfl (by omega)
        have HKK : Hid _ := hK4
        have HBP := HBK.out _ D2 _ _ _ _ h HB.out.N.t HB.out.R.s HB.out.R.u HB.out.R.hp HPK.out
        have HKP : Hid ((outX l D2 h f).1 = 0 → SWf (outX l D2 h f).2.D (outX l D2 h f).2.h ∧ (outX l D2 h f).2.arms.length ≤ 300) := fun q => out_keep HLW.out HPK.out q
        generalize outX l D2 h f = r at *
        have hkk : (k : Int) < 20 := by omega
        clear hn ho hK4 HNEX HOUT HFAR HPK
        go_wp2_with fail
        generalize (w2.alloc (.cells (outA 4 D2 (.slice sa2 D2.st.length sc2) (.slice oa2 D2.out.length oc2) (.slice none 0 0) (.slice none 0 0) pe) 41)) = W2 at *
        generalize w2.heap.size = o1 at *
        clear yo0 yo1 yo2 yo3 yo4 yo5 yo6 yo7 yo8 yo9 yo10 xn8 xn9 g8 g9
        refine HBP.out.mono ?_
        rintro e w3 (⟨b0, vs1, vo1, vh1, va1, rfl, r1, r2, r3, r4, t3, y1, y2, y3, y4⟩ | ⟨b0, vs1, vo1, vh1, rfl, r1, r2, r3, t3, y1, y2, y3⟩)
        · obtain ⟨sb, sd, rfl⟩ := r1.form
          obtain ⟨ob1, od, rfl⟩ := r2.form
          obtain ⟨hb, hd, rfl⟩ := r3.form
          obtain ⟨ab, ad, rfl⟩ := r4.form
          obtain ⟨kp1, kp2⟩ := HKP.out b0
          have hKr : K = _ := HKK.out
          rw [if_pos b0] at hKr
          obtain ⟨th, mid⟩ := both_blk HB.out t3 (kd1 := 1) (er1 := 0) r1 r2 r3 r4 y1 y2 y3 y4 (by have := HAM.out; omega)
          have HTH : Hid _ := th
          have HKR : Hid _ := hKr
          have HK1 : Hid _ := kp1
          have HK2 : Hid ((am ++ r.2.arms).length ≤ 300 * (k + 1)) := by show _ ≤ _; rw [List.length_append]; have := HAM.out; omega
          obtain ⟨nm, hnm⟩ : ∃ nm, nm = (am ++ r.2.arms).length := ⟨_, rfl⟩
          rw [← hnm] at mid
          have HMID : Hid _ := mid
          clear r1 r2 r3 r4 t3 y1 y2 y3 y4 kp1 kp2 hKr th mid HBP HKP HKK hnm
          go_wp2_with (first
          | (refine wpList_store_mid rfl 41 _ _ rfl o1 0 (outA 1 r.2.D (.slice sb r.2.D.st.length sd) (.slice ob1 r.2.D.out.length od) (.slice hb r.2.h.length hd) (.slice ab r.2.arms.length ad) 0) rfl rfl HTH.out Try.size_out (out_one _ _ _ _ _ _ _ _ _ _ _ _ _ _ _) ?_; refine wpList_nameS fun W3 hW3 => ?_; obtain ⟨m9, p9, a4, c4, w4, h4, e1, e2, e2b, e3, e4⟩ := HMID.out W3 hW3; have f9 := e1.fr 9; have k0 := e1.cell 0; have k1 := e1.cell 1; have k2 := e1.cell 2; have k3 := e1.cell 3; have k4 := e1.cell 4; have k5 := e1.cell 5; have k6 := e1.cell 6; have k7 := e1.cell 7; have k8 := e1.cell 8; have k9 := e1.cell 9; have k10 := e1.cell 10; simp only [outA, List.getElem?_toArray, List.getElem?_cons_zero, List.getElem?_cons_succ] at m9 p9 k0 k1 k2 k3 k4 k5 k6 k7 k8 k9 k10; have HTH2 : Hid _ := e2; have HST2 : Hid _ := e3 (by trivial); clear hW3 HMID HTH e1 e2 e2b e3 e4)
          | (at_builtin; refine Lib.wpList_append_run _ rfl _ _ _ _ rfl _ _ rfl rfl _ _ h4 ?_; clear h4)
          | (refine wpList_store_mid rfl 41 _ _ rfl n 0 (outA 1 r.2.D (.slice sb r.2.D.st.length sd) (.slice ob1 r.2.D.out.length od) (.slice hb r.2.h.length hd) (.slice a4 nm c4) 0) rfl rfl HTH2.out Try.size_out (out_one _ _ _ _ _ _ _ _ _ _ _ _ _ _ _) ?_; refine wpList_nameS fun W5 hW5 => ?_; have H8 : Hid _ := HST2.out W5 hW5; clear hW5 HST2 HTH2 k0 k1 k2 k3 k4 k5 k6 k7 k8 k9 k10 m9 p9 f9))
          go_roundw
          case rel => exact ⟨k + 1, 1, r.2.D, r.2.h, am ++ r.2.arms, _, _, _, _, by go_num, by omega, H8.out, HK1.out, HK2.out, HKR.out.symm⟩
          case measure => simp [intOf]; omega
        · obtain ⟨sb, sd, rfl⟩ := r1.form
          obtain ⟨ob1, od, rfl⟩ := r2.form
          obtain ⟨hb, hd, rfl⟩ := r3.form
          have hKr : K = _ := HKK.out
          rw [if_neg b0] at hKr
          have nilB : SRow 1 bcell w3 (.slice none ([] : List Bool).length 0) ([] : List Bool) := ⟨none, 0, rfl, fun h => absurd rfl h⟩
          obtain ⟨kf, hkf⟩ : ∃ kf : Int, kf = (if r.1 = -1 then 2 else 3) := ⟨_, rfl⟩
          obtain ⟨ef, hef⟩ : ∃ ef : Int, ef = (if r.1 = -1 then 0 else r.1) := ⟨_, rfl⟩
          have hk1 : (kf == 1) = false := by rw [hkf]; split <;> rfl
          rw [← hkf, ← hef] at hKr
          rw [← hkf, ← hef]
          obtain ⟨th, mid⟩ := both_blk HB.out t3 (kd1 := kf) (er1 := ef) r1 r2 r3 nilB y1 y2 y3 (fun g hg => by simp [Value.ownBlock] at hg) (by have := HAM.out; simp; omega)
          obtain ⟨nm, hnm⟩ : ∃ nm, nm = (am ++ ([] : List Bool)).length := ⟨_, rfl⟩
          rw [← hnm] at mid
          rw [show (([] : List Bool).length) = 0 from rfl] at mid
          have HTH : Hid _ := th
          have HMID : Hid _ := mid
          have HKR : Hid (K = ((kf, ef), D2, h, am ++ ([] : List Bool))) := by show _ = _; rw [hKr, List.append_nil]
          clear r1 r2 r3 t3 y1 y2 y3 hKr th mid HBP HKP HKK hkf hef nilB hnm
          go_wp2_with (first
          | (refine wpList_store_mid rfl 41 _ _ rfl o1 0 (outA kf D2 (.slice sb D2.st.length sd) (.slice ob1 D2.out.length od) (.slice hb h.length hd) (.slice none 0 0) ef) rfl rfl HTH.out Try.size_out (out_one _ _ _ _ _ _ _ _ _ _ _ _ _ _ _) ?_; refine wpList_nameS fun W3 hW3 => ?_; obtain ⟨m9, p9, a4, c4, w4, h4, e1, e2, e2b, e3, e4⟩ := HMID.out W3 hW3; have f9 := e1.fr 9; have k0 := e1.cell 0; have k1 := e1.cell 1; have k2 := e1.cell 2; have k3 := e1.cell 3; have k4 := e1.cell 4; have k5 := e1.cell 5; have k6 := e1.cell 6; have k7 := e1.cell 7; have k8 := e1.cell 8; have k9 := e1.cell 9; have k10 := e1.cell 10; simp only [outA, List.getElem?_toArray, List.getElem?_cons_zero, List.getElem?_cons_succ] at m9 p9 k0 k1 k2 k3 k4 k5 k6 k7 k8 k9 k10; have HTH2 : Hid _ := e2b; have HST2 : Hid _ := e4; clear hW3 HMID HTH e1 e2 e2b e3 e4)
          | (at_builtin; refine Lib.wpList_append_run _ rfl _ _ _ _ rfl _ _ rfl rfl _ _ h4 ?_; clear h4)
          | (refine wpList_store_mid rfl 41 _ _ rfl w.heap.size 0 (outA kf D2 (.slice sb D2.st.length sd) (.slice ob1 D2.out.length od) (.slice hb h.length hd) (.slice a4 nm c4) ef) rfl rfl HTH2.out Try.size_out (out_one _ _ _ _ _ _ _ _ _ _ _ _ _ _ _) ?_; refine wpList_nameS fun W5 hW5 => ?_; have H8 : Hid _ := HST2.out W5 hW5; clear hW5 HST2 HTH2 k0 k1 k2 k3 k4 k5 k6 k7 k8 k9 k10 m9 p9 f9))
          obtain ⟨b8, r8⟩ := H8.out
          rw [← HKR.out] at r8
          refine bodyPost_ret (v := .agg (outA kf D2 (.slice sb D2.st.length sd) (.slice ob1 D2.out.length od) (.slice hb h.length hd) (.slice a4 nm c4) ef)) ?_ rfl r8
          rw [res_cell rfl]
          have p0 := b8.cell 0
          have p1 := b8.cell 1
          have p2 := b8.cell 2
          have p3 := b8.cell 3
          have p4 := b8.cell 4
          have p5 := b8.cell 5
          have p6 := b8.cell 6
          have p7 := b8.cell 7
          have p8 := b8.cell 8
          have p9 := b8.cell 9
          have p10 := b8.cell 10
          simp only [outA, List.getElem?_toArray, List.getElem?_cons_zero, List.getElem?_cons_succ] at p0 p1 p2 p3 p4 p5 p6 p7 p8 p9 p10
          simp [go_sem, p0, p1, p2, p3, p4, p5, p6, p7, p8, p9, p10]
    · have h4' : (pk == 4) = false := by simpa using h4
      have hK4 := HFAR.out h4
      subst hK4
      obtain ⟨th, fin⟩ := both_far HB.out
      have HTH : Hid _ := th
      have HEND : Hid _ := fin
      have hne := HB.out.hne
      have hdw : ∀ W, Touch W W.drew [] := fun W => (Touch.refl W []).drew
      clear hn ho th fin HNEX HOUT HFAR HBK HPK h4
      go_wp2_with fail
      generalize (w2.alloc (.cells (outA pk D2 (.slice sa2 D2.st.length sc2) (.slice oa2 D2.out.length oc2) (.slice none 0 0) (.slice none 0 0) pe) 41)) = W6 at *
      generalize w2.heap.size = o2 at *
      have HS : Hid (∀ W', Touch W6 W' [o2] → W'.cell? ⟨n, 8, none⟩ = some (.slice ha h.length hc) ∧ W'.cell? ⟨n, 9, none⟩ = some (.slice aa am.length ac)) := fun W' t => by
        have hn6 := HB.out.N.b.touch t (by simpa using HB.out.hne)
        exact ⟨hn6.cell 8, hn6.cell 9⟩
      have hdw : Touch W6 W6.drew [] := (Touch.refl W6 []).drew
      go_region_held3 (fun W' => W'.cell? ⟨n, 8, none⟩ = some (.slice ha h.length hc) ∧ W'.cell? ⟨n, 9, none⟩ = some (.slice aa am.length ac)) ((first | exact HS.out _ (hdw.mono (by simp)) | exact HS.out _ ((hdw.mono (by simp)).setCell (.inl (by simp)) _) | exact HS.out _ (((hdw.mono (by simp)).setCell (.inl (by simp)) _).setCell (.inl (by simp)) _))) (fail)
      rename_i hHeld
      clear hHeld
      go_wp2_with (refine wpList_store_mid rfl 41 _ _ rfl w.heap.size 0 (outA pk D2 (.slice sa2 D2.st.length sc2) (.slice oa2 D2.out.length oc2) (.slice ha h.length hc) (.slice aa am.length ac) pe) rfl rfl HTH.out Try.size_out (out_one _ _ _ _ _ _ _ _ _ _ _ _ _ _ _) ?_; refine wpList_nameS fun W8 hW8 => ?_; have H8 : Hid _ := HEND.out W8 hW8; clear hW8 HEND HTH)
      obtain ⟨b8, r8⟩ := H8.out
      refine bodyPost_ret (v := .agg (outA pk D2 (.slice sa2 D2.st.length sc2) (.slice oa2 D2.out.length oc2) (.slice ha h.length hc) (.slice aa am.length ac) pe)) ?_ rfl r8
      rw [res_cell rfl]
      have p0 := b8.cell 0
      have p1 := b8.cell 1
      have p2 := b8.cell 2
      have p3 := b8.cell 3
      have p4 := b8.cell 4
      have p5 := b8.cell 5
      have p6 := b8.cell 6
      have p7 := b8.cell 7
      have p8 := b8.cell 8
      have p9 := b8.cell 9
      have p10 := b8.cell 10
      simp only [outA, List.getElem?_toArray, List.getElem?_cons_zero, List.getElem?_cons_succ] at p0 p1 p2 p3 p4 p5 p6 p7 p8 p9 p10
      simp [go_sem, p0, p1, p2, p3, p4, p5, p6, p7, p8, p9, p10]

end Go.Proofs.Ytlndbligbpfdpaa

/-
  package spec: Run AS PLAIN DATA, AND ITS WORLDS. No walk.
-/
import Derived.Test.YtlndbligbpfdpaaSkPlain
import Derived.Test.YtlndbligbpfdpaaSpRun
namespace Go.Proofs.Ytlndbligbpfdpaa
set_option linter.unusedVariables false
set_option linter.unusedSimpArgs false
open Go.RowKit

/-- Run: so many blocks may still be done; how it ends, the State, the heap, the arms. -/
def runR (l : List InsD) (f : Int) : Nat → WD → List Int → List Bool → (Int × Int) × WD × List Int × List Bool
  | 0, D, h, am => if (plainX l D f).1.1 ≠ 4 then ((plainX l D f).1, (plainX l D f).2, h, am) else ((3, 11), (plainX l D f).2, h, am)
  | n + 1, D, h, am => if (plainX l D f).1.1 ≠ 4 then ((plainX l D f).1, (plainX l D f).2, h, am)
      else if (outX l (plainX l D f).2 h f).1 = 0 then runR l f n (outX l (plainX l D f).2 h f).2.D (outX l (plainX l D f).2 h f).2.h (am ++ (outX l (plainX l D f).2 h f).2.arms)
      else ((if (outX l (plainX l D f).2 h f).1 = -1 then 2 else 3, if (outX l (plainX l D f).2 h f).1 = -1 then 0 else (outX l (plainX l D f).2 h f).1), (plainX l D f).2, h, am)
theorem run_far {l : List InsD} {f : Int} {n : Nat} {D : WD} {h : List Int} {am : List Bool} (hk : (plainX l D f).1.1 ≠ 4) : runR l f n D h am = ((plainX l D f).1, (plainX l D f).2, h, am) := by
  cases n <;> (unfold runR; rw [if_pos hk])
theorem run_out {l : List InsD} {f : Int} {D : WD} {h : List Int} {am : List Bool} (hk : (plainX l D f).1.1 = 4) : runR l f 0 D h am = ((3, 11), (plainX l D f).2, h, am) := by
  unfold runR; rw [if_neg (fun q => q hk)]
theorem run_next {l : List InsD} {f : Int} {n : Nat} {D : WD} {h : List Int} {am : List Bool} (hk : (plainX l D f).1.1 = 4) : runR l f (n + 1) D h am = if (outX l (plainX l D f).2 h f).1 = 0 then runR l f n (outX l (plainX l D f).2 h f).2.D (outX l (plainX l D f).2 h f).2.h (am ++ (outX l (plainX l D f).2 h f).2.arms)
      else ((if (outX l (plainX l D f).2 h f).1 = -1 then 2 else 3, if (outX l (plainX l D f).2 h f).1 = -1 then 0 else (outX l (plainX l D f).2 h f).1), (plainX l D f).2, h, am) := by
  conv => lhs; unfold runR
  rw [if_neg (fun q => q hk)]

/-! ### What is right stays right -/
theorem SWf.heap {D : WD} {h h2 : List Int} (k : SWf D h) (h1 : h2.length ≤ 1000) (hw : ∀ x ∈ h2, Wf64 x) : SWf D h2 := ⟨k.st, k.out, h1, k.ws, hw, k.w0, k.w1, k.w2, k.w3⟩
theorem pln_keep {l : List InsD} (hl : ∀ i ∈ l, i.Wf) {h : List Int} : ∀ (n : Nat) {D : WD}, SWf D h → SWf (plnN l n D).2 h
  | 0, D, k => by
    unfold plnN
    split
    · exact k
    · split
      · exact k
      · exact k
  | n + 1, D, k => by
    unfold plnN
    split
    · exact k
    · split
      · exact k
      · split
        · rename_i h0
          exact pln_keep hl n (step_keep (k.fuel _) hl h0)
        · exact k.fuel _
theorem plain_keep {l : List InsD} (hl : ∀ i ∈ l, i.Wf) {h : List Int} {D : WD} (k : SWf D h) (f : Int) : SWf (plainX l D f).2 h := pln_keep hl _ (k.fuel _)
theorem here_mem {l : List InsD} {pc : Int} {i : InsD} (h : hereP l pc = some i) : rightI i = true := by
  unfold hereP at h
  split at h
  · split at h
    · rename_i hr
      simp only [Option.some.injEq] at h
      rw [← h]; exact hr
    · cases h
  · cases h
theorem runB_keep {l : List InsD} (hl : ∀ i ∈ l, i.Wf) : ∀ (n : Nat) (X : BX) (k : Nat), BW X k → (runB l n X).1 = 0 → BW (runB l n X).2 (k + n)
  | 0, X, k, hX, h0 => by
    unfold runB at h0
    split at h0 <;> simp at h0
  | n + 1, X, k, hX, h0 => by
    cases hh : hereP l X.D.pc with
    | none => unfold runB at h0; rw [hh] at h0; simp at h0
    | some i =>
      rw [run_some hh] at h0 ⊢
      have hX1 : BW { X with D := { X.D with fuel := X.D.fuel - 1 } } k := ⟨hX.s.fuel _, hX.m, hX.ms, hX.arms⟩
      have ha := right_arg (here_mem hh)
      split at h0
      · rename_i hd
        rw [if_pos hd]
        have h1 := do_keep hX1 hl (i := i) (fun _ => by omega) hd
        split at h0
        · rename_i h22; rw [if_pos h22]; exact h1.mono (by omega)
        · rename_i h22
          rw [if_neg h22]
          exact (runB_keep hl n _ _ h1 h0).mono (by omega)
      · rename_i hd; exact absurd h0 hd
theorem out_keep {l : List InsD} (hl : ∀ i ∈ l, i.Wf) {D : WD} {h : List Int} (k : SWf D h) {f : Int} (h0 : (outX l D h f).1 = 0) : SWf (outX l D h f).2.D (outX l D h f).2.h ∧ (outX l D h f).2.arms.length ≤ 300 := by
  unfold outX endB at h0 ⊢
  split at h0
  · rename_i q
    rw [if_pos q]
    have hf : (fuelW f).toNat ≤ 300 := by unfold fuelW; split <;> omega
    have := runB_keep hl (fuelW f).toNat ⟨{ D with fuel := fuelW f, pc := D.pc + 1 }, h, [], []⟩ 0 ⟨(k.fuel (fuelW f)).pc _, fun m hm => (by cases hm), Nat.zero_le _, Nat.zero_le _⟩ h0
    exact ⟨this.s, by have := this.arms; simp only at this ⊢; omega⟩
  · simp at h0

/-- What Run answers. -/
def RunQ (w : World) (K : (Int × Int) × WD × List Int × List Bool) (e : Ending) (w' : World) : Prop := ∃ sa sc oa oc ha hc aa ac, e = .returned (.agg (outA K.1.1 K.2.1 (.slice sa K.2.1.st.length sc) (.slice oa K.2.1.out.length oc) (.slice ha K.2.2.1.length hc) (.slice aa K.2.2.2.length ac) K.1.2)) ∧ VRow w' (.slice sa K.2.1.st.length sc) K.2.1.st ∧ VRow w' (.slice oa K.2.1.out.length oc) K.2.1.out ∧ VRow w' (.slice ha K.2.2.1.length hc) K.2.2.1 ∧ SRow 1 bcell w' (.slice aa K.2.2.2.length ac) K.2.2.2 ∧ Touch w w' []

/-! ### now, where it lies -/
abbrev z0 : Array Value := outA 0 zWD (.slice none 0 0) (.slice none 0 0) (.slice none 0 0) (.slice none 0 0) 0
abbrev arOwn (w : World) (B : Nat) (v : Value) (am : List Bool) : Prop := w.ownsRow B 4 1 v am.length (am.map Value.bool)
/-- Rows of a State and a heap, apart from some blocks. -/
structure RwAt (w wr : World) (X : Nat → Prop) (D : WD) (h : List Int) (vs vo vh : Value) : Prop where
  s : VRow wr vs D.st
  u : VRow wr vo D.out
  hp : VRow wr vh h
  gs : D.st ≠ [] → ∀ g, vs.ownBlock = some g → w.heap.size < g ∧ ¬ X g
  gu : D.out ≠ [] → ∀ g, vo.ownBlock = some g → w.heap.size < g ∧ ¬ X g
  gh : h ≠ [] → ∀ g, vh.ownBlock = some g → w.heap.size < g ∧ ¬ X g
theorem RwAt.keep {w wr w' : World} {X : Nat → Prop} {D : WD} {h : List Int} {vs vo vh : Value} {S : List Nat} (k : RwAt w wr X D h vs vo vh) (t : Touch wr w' S) (hS : ∀ x ∈ S, X x ∨ x ≤ w.heap.size) : RwAt w w' X D h vs vo vh := by
  have hg : ∀ (v : Value) (l : List Int), (l ≠ [] → ∀ g, v.ownBlock = some g → w.heap.size < g ∧ ¬ X g) → l ≠ [] → ∀ g, v.ownBlock = some g → g ∉ S := fun v l hv hl g hg hm => by
    obtain ⟨h1, h2⟩ := hv hl g hg
    rcases hS g hm with q | q
    · exact h2 q
    · omega
  exact ⟨SRow.keepB k.s t (hg _ _ k.gs), SRow.keepB k.u t (hg _ _ k.gu), SRow.keepB k.hp t (hg _ _ k.gh), k.gs, k.gu, k.gh⟩
theorem RwAt.mono {w wr : World} {X Y : Nat → Prop} {D : WD} {h : List Int} {vs vo vh : Value} (k : RwAt w wr X D h vs vo vh) (hXY : ∀ g, w.heap.size < g → Y g → X g ∨ wr.heap.size ≤ g) : RwAt w wr Y D h vs vo vh := by
  refine ⟨k.s, k.u, k.hp, fun hne g hg => ⟨(k.gs hne g hg).1, fun q => ?_⟩, fun hne g hg => ⟨(k.gu hne g hg).1, fun q => ?_⟩, fun hne g hg => ⟨(k.gh hne g hg).1, fun q => ?_⟩⟩
  · rcases hXY g (k.gs hne g hg).1 q with r | r
    · exact (k.gs hne g hg).2 r
    · have := row_lt k.s hne g hg; omega
  · rcases hXY g (k.gu hne g hg).1 q with r | r
    · exact (k.gu hne g hg).2 r
    · have := row_lt k.u hne g hg; omega
  · rcases hXY g (k.gh hne g hg).1 q with r | r
    · exact (k.gh hne g hg).2 r
    · have := row_lt k.hp hne g hg; omega

/-- now: its block n; the arms its own. -/
structure NowAt (w wr : World) (n : Nat) (kd : Int) (D : WD) (h : List Int) (am : List Bool) (vs vo vh va : Value) : Prop where
  b : OutB wr n (outA kd D vs vo vh va 0)
  rw' : RwAt w wr (fun g => g = n ∨ va.ownBlock = some g) D h vs vo vh
  ar : arOwn wr (w.heap.size + 1) va am
  an : va.ownBlock ≠ some n
  t : Touch w wr []
  r : OutB wr w.heap.size z0
  hn : w.heap.size < n
theorem NowAt.keep {w wr w' : World} {n : Nat} {kd : Int} {D : WD} {h : List Int} {am : List Bool} {vs vo vh va : Value} (k : NowAt w wr n kd D h am vs vo vh va) (t : Touch wr w' []) : NowAt w w' n kd D h am vs vo vh va :=
  ⟨k.b.touch t (by simp), k.rw'.keep t (by simp), ownsRow_touch k.ar t (by simp), k.an, k.t.trans t (by simp), k.r.touch t (by simp), k.hn⟩
theorem OutB.set9 {w : World} {p : Nat} {kd : Int} {D : WD} {vs vo vh va : Value} {er : Int} (h : OutB w p (outA kd D vs vo vh va er)) (x : Value) : OutB (w.setCell ⟨p, 9, none⟩ x) p (outA kd D vs vo vh x er) := ⟨by rw [heap_setCell_same _ _ _ _ _ _ h.st]; rfl⟩

theorem flat_bool (l : List Bool) : l.flatMap bcell = l.map Value.bool := by
  induction l with
  | nil => rfl
  | cons x l ih => simp only [List.flatMap_cons, List.map_cons, ih]; rfl
theorem arm_app {w : World} {B : Nat} {va : Value} {am : List Bool} (ho : arOwn w B va am) (hB : B ≤ w.heap.size) {ab : Option Addr} {ad : Nat} {bm : List Bool} (hr : SRow 1 bcell w (.slice ab bm.length ad) bm) (hn : am.length + bm.length ≤ 100000) :
    ∃ a4 c4 w4, (Builtin.append_ #[39, 39] 39 #[va, .slice ab bm.length ad]).run Try.prog w = .ok (.slice a4 (am ++ bm).length c4) w4 ∧ arOwn w4 B (.slice a4 (am ++ bm).length c4) (am ++ bm) ∧ Touch w w4 va.ownBlock.toList ∧ ((Value.slice a4 (am ++ bm).length c4).ownBlock = va.ownBlock ∨ (Value.slice a4 (am ++ bm).length c4).ownBlock = some w.heap.size) := by
  obtain ⟨i0, hi, hz0, hz1, hz2⟩ := info_partsE Try.info_bool
  obtain ⟨v', w', h1, h2, h3, h4⟩ := run_app (P := Try.prog) (cells := bcell) 39 39 4 i0 _ 1 1 Try.underlying39 hi hz0 hz1 hz2 rfl (by decide) (fun _ => rfl) (fun x u hu => by simp [bcell] at hu; subst hu; rfl) ho (l := bm) hr (by omega) (by decide) hB
  have e : bm.flatMap bcell = bm.map Value.bool := flat_bool bm
  rw [e, ← List.map_append, ← List.length_append] at h2
  obtain ⟨ao', cap', rfl⟩ := owns_slice h2
  exact ⟨ao', cap', w', h1, h2, (Touch.refl w _).grown h3 (fun k hk => by simp [hk]), h4⟩

/-- The blocks of an outcome that was just made: rows since W2. -/
theorem rw_new {w W2 W3 : World} {D : WD} {h : List Int} {vs vo vh : Value} {X : Nat → Prop} (hw : w.heap.size < W2.heap.size) (s : VRow W3 vs D.st) (u : VRow W3 vo D.out) (hp : VRow W3 vh h) (z1 : FrA W2 vs) (z2 : FrA W2 vo) (z3 : FrA W2 vh) (hX : ∀ g, X g → g < W2.heap.size) : RwAt w W3 X D h vs vo vh :=
  ⟨s, u, hp, fun _ g hg => ⟨by have := z1 g hg; omega, fun q => by have := z1 g hg; have := hX g q; omega⟩, fun _ g hg => ⟨by have := z2 g hg; omega, fun q => by have := z2 g hg; have := hX g q; omega⟩, fun _ g hg => ⟨by have := z3 g hg; omega, fun q => by have := z3 g hg; have := hX g q; omega⟩⟩

/-- Behind a block: its outcome lies at o1; the arms are put behind now's. -/
theorem run_mid2 {w W2 W3 : World} {o1 n : Nat} {kd kd1 er1 : Int} {D D1 : WD} {h H1 : List Int} {am bm : List Bool} {vs vo vh va vs1 vo1 vh1 : Value} {ab : Option Addr} {ad : Nat}
    (N : NowAt w W3 n kd D h am vs vo vh va) (hva : ∀ g, va.ownBlock = some g → g < W2.heap.size) (hsz : W2.heap.size ≤ W3.heap.size) (hn : n < W2.heap.size) (ho : o1 < W2.heap.size) (ho1 : w.heap.size < o1) (hne : n ≠ o1) (hao : va.ownBlock ≠ some o1)
    (g1 : OutB W3 o1 (outA kd1 D1 vs1 vo1 vh1 (.slice ab bm.length ad) er1)) (s : VRow W3 vs1 D1.st) (u : VRow W3 vo1 D1.out) (hp : VRow W3 vh1 H1) (z1 : FrA W2 vs1) (z2 : FrA W2 vo1) (z3 : FrA W2 vh1)
    (hr : SRow 1 bcell W3 (.slice ab bm.length ad) bm) (hl : am.length + bm.length ≤ 100000) :
    ∃ a4 c4 w4, (Builtin.append_ #[39, 39] 39 #[va, .slice ab bm.length ad]).run Try.prog W3 = .ok (.slice a4 (am ++ bm).length c4) w4 ∧ OutB w4 o1 (outA kd1 D1 vs1 vo1 vh1 (.slice ab bm.length ad) er1) ∧
      (w4.setCell ⟨o1, 9, none⟩ (.slice a4 (am ++ bm).length c4)).there n 0 11 ∧ (w4.setCell ⟨o1, 9, none⟩ (.slice a4 (am ++ bm).length c4)).there w.heap.size 0 11 ∧
      (er1 = 0 → ∀ W5, W5 = (w4.setCell ⟨o1, 9, none⟩ (.slice a4 (am ++ bm).length c4)).setCells n 0 (outA kd1 D1 vs1 vo1 vh1 (.slice a4 (am ++ bm).length c4) er1).toList → NowAt w W5 n kd1 D1 H1 (am ++ bm) vs1 vo1 vh1 (.slice a4 (am ++ bm).length c4)) ∧
      (∀ W5, W5 = (w4.setCell ⟨o1, 9, none⟩ (.slice a4 (am ++ bm).length c4)).setCells w.heap.size 0 (outA kd1 D1 vs1 vo1 vh1 (.slice a4 (am ++ bm).length c4) er1).toList → OutB W5 w.heap.size (outA kd1 D1 vs1 vo1 vh1 (.slice a4 (am ++ bm).length c4) er1) ∧ RwAt w W5 (fun _ => False) D1 H1 vs1 vo1 vh1 ∧ SRow 1 bcell W5 (.slice a4 (am ++ bm).length c4) (am ++ bm) ∧ Touch w W5 []) := by
  have hw3 := N.t.size
  have hn' := N.hn
  obtain ⟨a4, c4, w4, h4, q4, t4, e4⟩ := arm_app N.ar (by omega) hr hl
  have R0 : RwAt w W3 (fun g => g < W2.heap.size ∨ g = W3.heap.size) D1 H1 vs1 vo1 vh1 := (rw_new (X := fun g => g < W2.heap.size) (by omega) s u hp z1 z2 z3 (fun g q => q)).mono (fun g _ q => by rcases q with q | q; exact .inl q; exact .inr (by omega))
  have R4 : RwAt w w4 (fun g => g < W2.heap.size ∨ g = W3.heap.size) D1 H1 vs1 vo1 vh1 := R0.keep t4 (fun x hx => .inl (.inl (hva x (by simpa using hx))))
  have hs4 := t4.size
  have t5 : Touch w4 (w4.setCell ⟨o1, 9, none⟩ (.slice a4 (am ++ bm).length c4)) [o1] := (Touch.refl w4 _).setCell (.inl (by simp)) _
  have R5 := R4.keep t5 (fun x hx => .inl (.inl (by simp at hx; omega)))
  have ge4 : ∀ g, (Value.slice a4 (am ++ bm).length c4).ownBlock = some g → w.heap.size < g ∧ g ≠ n ∧ g ≠ o1 := fun g hg => by
    have hge := (World.ownsRow.lt q4 g hg).1
    rcases e4 with q | q
    · rw [q] at hg
      exact ⟨by omega, fun e => N.an (by rw [← e]; exact hg), fun e => hao (by rw [← e]; exact hg)⟩
    · rw [q] at hg
      simp only [Option.some.injEq] at hg
      exact ⟨by omega, by omega, by omega⟩
  have hvn : ∀ g, va.ownBlock = some g → w.heap.size < g := fun g hg => by have := (World.ownsRow.lt N.ar g hg).1; omega
  have b4 : OutB w4 n (outA kd D vs vo vh va 0) := N.b.touch t4 (fun q => N.an (by simpa using q))
  have b5 := b4.touch t5 (by simpa using hne)
  have r4 : OutB w4 w.heap.size z0 := N.r.touch t4 (fun q => by have := hvn _ (by simpa using q); omega)
  have r5 := r4.touch t5 (by simp; omega)
  have T5 : Touch w (w4.setCell ⟨o1, 9, none⟩ (.slice a4 (am ++ bm).length c4)) [] := (N.t.trans t4 (fun x hx => .inr (by have := hvn x (by simpa using hx); omega))).trans t5 (fun x hx => .inr (by simp at hx; omega))
  have q5 : arOwn (w4.setCell ⟨o1, 9, none⟩ (.slice a4 (am ++ bm).length c4)) (w.heap.size + 1) (.slice a4 (am ++ bm).length c4) (am ++ bm) := ownsRow_touch q4 t5 (fun g hg => by have := ge4 g hg; simp; omega)
  refine ⟨a4, c4, w4, h4, g1.touch t4 (fun q => hao (by simpa using q)), out_there b5, out_there r5, fun he W5 hW => ?_, fun W5 hW => ?_⟩
  · subst he
    obtain ⟨k1, k2⟩ := out_sets b5 kd1 D1 vs1 vo1 vh1 (.slice a4 (am ++ bm).length c4) 0 W5 hW
    have R6 := R5.keep k2 (fun x hx => .inl (.inl (by simp at hx; omega)))
    refine ⟨k1, R6.mono (fun g hg hY => ?_), ownsRow_touch q5 k2 (fun g hg => by have := ge4 g hg; simp; omega), fun q => (ge4 n q).2.1 rfl, T5.trans k2 (fun x hx => .inr (by simp at hx; omega)), r5.touch k2 (by simp; omega), hn'⟩
    rcases hY with rfl | q
    · exact .inl (.inl hn)
    · rcases e4 with e | e
      · rw [e] at q; exact .inl (.inl (hva g q))
      · rw [e] at q
        simp only [Option.some.injEq] at q
        exact .inl (.inr q.symm)
  · obtain ⟨k1, k2⟩ := out_sets r5 kd1 D1 vs1 vo1 vh1 (.slice a4 (am ++ bm).length c4) er1 W5 hW
    have R6 := R5.keep k2 (fun x hx => .inr (by simp at hx; omega))
    refine ⟨k1, R6.mono (fun g _ q => q.elim), ?_, T5.trans k2 (fun x hx => .inr (by simp at hx; omega))⟩
    have q6 : arOwn W5 (w.heap.size + 1) (.slice a4 (am ++ bm).length c4) (am ++ bm) := ownsRow_touch q5 k2 (fun g hg => by have := ge4 g hg; simp; omega)
    refine srow_of (cells := bcell) (n := 1) (fun _ => rfl) (e := 4) (B := w.heap.size + 1) ?_
    rw [flat_bool]; exact q6

end Go.Proofs.Ytlndbligbpfdpaa

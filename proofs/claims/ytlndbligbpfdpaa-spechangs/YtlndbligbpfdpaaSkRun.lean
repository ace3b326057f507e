/-
  package spec: Run BY ITS CONTRACT.
-/
import Derived.Test.YtlndbligbpfdpaaSkRunPl
import Derived.Deep.RegionHeld3
import Derived.Deep.MidRow
namespace Go.Proofs.Ytlndbligbpfdpaa
set_option linter.unusedVariables false
set_option linter.unusedSimpArgs false
open Go.RowKit
attribute [local go_sem] Oper.semAt_some

theorem fin_q {w W : World} {kd er : Int} {D : WD} {h : List Int} {am : List Bool} {vs vo vh va : Value} (T : Touch w W []) (r : OutB W w.heap.size z0) (R : RwAt w W (fun _ => False) D h vs vo vh) (q : SRow 1 bcell W va am) (qa : am ≠ [] → ∀ g, va.ownBlock = some g → w.heap.size < g) :
    ∀ W8, W8 = W.setCells w.heap.size 0 (outA kd D vs vo vh va er).toList → OutB W8 w.heap.size (outA kd D vs vo vh va er) ∧ RunQ w ((kd, er), D, h, am) (.returned (.agg (outA kd D vs vo vh va er))) W8 := fun W8 hW => by
  obtain ⟨k1, k2⟩ := out_sets r kd D vs vo vh va er W8 hW
  have R6 := R.keep k2 (fun x hx => .inr (by simp at hx; omega))
  have q6 : SRow 1 bcell W8 va am := SRow.keepB q k2 (fun hne g hg => by have := qa hne g hg; simp; omega)
  obtain ⟨sa, sc, rfl⟩ := R6.s.form
  obtain ⟨oa, oc, rfl⟩ := R6.u.form
  obtain ⟨ha, hc, rfl⟩ := R6.hp.form
  obtain ⟨aa, ac, rfl⟩ := q6.form
  exact ⟨k1, sa, sc, oa, oc, ha, hc, aa, ac, rfl, R6.s, R6.u, R6.hp, q6, T.trans k2 (fun x hx => .inr (by simp at hx; omega))⟩
theorem arm_row {w : World} {B : Nat} {va : Value} {am : List Bool} (h : arOwn w B va am) : SRow 1 bcell w va am :=
  srow_of (cells := bcell) (n := 1) (fun _ => rfl) (e := 4) (B := B) (by rw [flat_bool]; exact h)

/-- now, and a new outcome beside it whose rows are new. -/
structure BothAt (w W : World) (n o1 : Nat) (kd : Int) (D : WD) (h : List Int) (am : List Bool) (vs vo vh va : Value) (kd2 er2 : Int) (D2 : WD) (vs2 vo2 : Value) : Prop where
  N : NowAt w W n kd D h am vs vo vh va
  o : OutB W o1 (outA kd2 D2 vs2 vo2 (.slice none 0 0) (.slice none 0 0) er2)
  R : RwAt w W (fun g => g = o1) D2 h vs2 vo2 vh
  ho : w.heap.size < o1
  hne : n ≠ o1
  hva : ∀ g, va.ownBlock = some g → g < o1
  NX : RwAt w W (fun g => g = o1 ∨ g = n ∨ va.ownBlock = some g) D h vs vo vh
theorem both_new {w wr w2 : World} {n : Nat} {kd : Int} {D : WD} {h : List Int} {am : List Bool} {vs vo vh va : Value} (N : NowAt w wr n kd D h am vs vo vh va) {kd2 er2 : Int} {D2 : WD} {vs2 vo2 : Value} (s : VRow w2 vs2 D2.st) (u : VRow w2 vo2 D2.out) (t : Touch wr w2 []) (z1 : FrA wr vs2) (z2 : FrA wr vo2) :
    BothAt w (w2.alloc (.cells (outA kd2 D2 vs2 vo2 (.slice none 0 0) (.slice none 0 0) er2) 41)) n w2.heap.size kd D h am vs vo vh va kd2 er2 D2 vs2 vo2 := by
  have tA : Touch w2 (w2.alloc (.cells (outA kd2 D2 vs2 vo2 (.slice none 0 0) (.slice none 0 0) er2) 41)) [] := (Touch.refl w2 []).alloc _
  have tt := t.trans tA (by simp)
  have hw := N.t.size
  have hs := t.size
  have hr := lt_of_heap N.r.st
  refine ⟨N.keep tt, ⟨heap_alloc_new w2 _⟩, ⟨SRow.keep s tA (by simp), SRow.keep u tA (by simp), SRow.keep N.rw'.hp tt (by simp), fun hne g hg => ⟨by have := z1 g hg; omega, fun e => by have := row_lt s hne g hg; omega⟩, fun hne g hg => ⟨by have := z2 g hg; omega, fun e => by have := row_lt u hne g hg; omega⟩, fun hne g hg => ⟨(N.rw'.gh hne g hg).1, fun e => by have := row_lt N.rw'.hp hne g hg; omega⟩⟩, by omega, by have := lt_of_heap N.b.st; omega, fun g hg => by have := (World.ownsRow.lt N.ar g hg).2; omega, ((N.keep t).rw'.mono (Y := fun g => g = w2.heap.size ∨ g = n ∨ va.ownBlock = some g) (fun g _ q => by rcases q with q | q; exact .inr (by omega); exact .inl q)).keep tA (by simp)⟩
/-- o with now's heap and arms, as what Run answers. -/
theorem both_far {w W : World} {n o1 : Nat} {kd : Int} {D : WD} {h : List Int} {am : List Bool} {vs vo vh va : Value} {kd2 er2 : Int} {D2 : WD} {vs2 vo2 : Value} (B : BothAt w W n o1 kd D h am vs vo vh va kd2 er2 D2 vs2 vo2) :
    ((W.setCell ⟨o1, 8, none⟩ vh).setCell ⟨o1, 9, none⟩ va).drew.there w.heap.size 0 11 ∧ ∀ W8, W8 = ((W.setCell ⟨o1, 8, none⟩ vh).setCell ⟨o1, 9, none⟩ va).drew.setCells w.heap.size 0 (outA kd2 D2 vs2 vo2 vh va er2).toList → OutB W8 w.heap.size (outA kd2 D2 vs2 vo2 vh va er2) ∧ RunQ w ((kd2, er2), D2, h, am) (.returned (.agg (outA kd2 D2 vs2 vo2 vh va er2))) W8 := by
  have tW : Touch W ((W.setCell ⟨o1, 8, none⟩ vh).setCell ⟨o1, 9, none⟩ va).drew [o1] := (((Touch.refl W [o1]).setCell (.inl (by simp)) _).setCell (.inl (by simp)) _).drew
  have ho := B.ho
  have r7 := B.N.r.touch tW (by simp; omega)
  refine ⟨out_there r7, fin_q (B.N.t.trans tW (fun x hx => .inr (by simp at hx; omega))) r7 ((B.R.keep tW (fun x hx => .inl (by simpa using hx))).mono (fun _ _ q => q.elim)) ?_ (fun _ g hg => by have := (World.ownsRow.lt B.N.ar g hg).1; omega)⟩
  exact SRow.keepB (arm_row B.N.ar) tW (fun _ g hg => by have := B.hva g hg; simp; omega)
theorem both_out {w W : World} {n o1 : Nat} {kd : Int} {D : WD} {h : List Int} {am : List Bool} {vs vo vh va : Value} {kd2 er2 : Int} {D2 : WD} {vs2 vo2 : Value} (B : BothAt w W n o1 kd D h am vs vo vh va kd2 er2 D2 vs2 vo2) :
    W.there w.heap.size 0 11 ∧ ∀ W8, W8 = W.setCells w.heap.size 0 (outA 3 D2 vs2 vo2 vh va 11).toList → OutB W8 w.heap.size (outA 3 D2 vs2 vo2 vh va 11) ∧ RunQ w ((3, 11), D2, h, am) (.returned (.agg (outA 3 D2 vs2 vo2 vh va 11))) W8 :=
  ⟨out_there B.N.r, fin_q B.N.t B.N.r (B.R.mono (fun _ _ q => q.elim)) (arm_row B.N.ar) (fun _ g hg => by have := (World.ownsRow.lt B.N.ar g hg).1; omega)⟩
/-- Behind the block: its outcome stored at o1. -/
theorem both_blk {w W w3 : World} {n o1 : Nat} {kd : Int} {D : WD} {h : List Int} {am : List Bool} {vs vo vh va : Value} {kd2 er2 : Int} {D2 : WD} {vs2 vo2 : Value} (B : BothAt w W n o1 kd D h am vs vo vh va kd2 er2 D2 vs2 vo2) (t : Touch W w3 [])
    {kd1 er1 : Int} {D1 : WD} {H1 : List Int} {bm : List Bool} {vs1 vo1 vh1 : Value} {ab : Option Addr} {ad : Nat} (s : VRow w3 vs1 D1.st) (u : VRow w3 vo1 D1.out) (hp : VRow w3 vh1 H1) (hr : SRow 1 bcell w3 (.slice ab bm.length ad) bm) (z1 : FrA W vs1) (z2 : FrA W vo1) (z3 : FrA W vh1) (z4 : FrA W (.slice ab bm.length ad)) (hl : am.length + bm.length ≤ 100000) :
    w3.there o1 0 11 ∧ ∀ W3, W3 = w3.setCells o1 0 (outA kd1 D1 vs1 vo1 vh1 (.slice ab bm.length ad) er1).toList → W3.cell? ⟨n, 9, none⟩ = some va ∧ W3.cell? ⟨o1, 9, none⟩ = some (.slice ab bm.length ad) ∧
    ∃ a4 c4 w4, (Builtin.append_ #[39, 39] 39 #[va, .slice ab bm.length ad]).run Try.prog W3 = .ok (.slice a4 (am ++ bm).length c4) w4 ∧ OutB w4 o1 (outA kd1 D1 vs1 vo1 vh1 (.slice ab bm.length ad) er1) ∧
      (w4.setCell ⟨o1, 9, none⟩ (.slice a4 (am ++ bm).length c4)).there n 0 11 ∧ (w4.setCell ⟨o1, 9, none⟩ (.slice a4 (am ++ bm).length c4)).there w.heap.size 0 11 ∧
      (er1 = 0 → ∀ W5, W5 = (w4.setCell ⟨o1, 9, none⟩ (.slice a4 (am ++ bm).length c4)).setCells n 0 (outA kd1 D1 vs1 vo1 vh1 (.slice a4 (am ++ bm).length c4) er1).toList → NowAt w W5 n kd1 D1 H1 (am ++ bm) vs1 vo1 vh1 (.slice a4 (am ++ bm).length c4)) ∧
      (∀ W5, W5 = (w4.setCell ⟨o1, 9, none⟩ (.slice a4 (am ++ bm).length c4)).setCells w.heap.size 0 (outA kd1 D1 vs1 vo1 vh1 (.slice a4 (am ++ bm).length c4) er1).toList → OutB W5 w.heap.size (outA kd1 D1 vs1 vo1 vh1 (.slice a4 (am ++ bm).length c4) er1) ∧ RunQ w ((kd1, er1), D1, H1, am ++ bm) (.returned (.agg (outA kd1 D1 vs1 vo1 vh1 (.slice a4 (am ++ bm).length c4) er1))) W5) := by
  have ho := B.ho
  have hoW := lt_of_heap B.o.st
  have hnW := lt_of_heap B.N.b.st
  have o3 := B.o.touch t (by simp)
  refine ⟨out_there o3, fun W3 hW3 => ?_⟩
  obtain ⟨k1, k2⟩ := out_sets o3 kd1 D1 vs1 vo1 vh1 (.slice ab bm.length ad) er1 W3 hW3
  have hs3 := t.size
  have hs4 := k2.size
  have N3 := B.N.keep t
  have hvn : ∀ g, va.ownBlock = some g → w.heap.size < g := fun g hg => by have := (World.ownsRow.lt B.N.ar g hg).1; omega
  have fr : ∀ (v : Value), FrA W v → ∀ g, v.ownBlock = some g → g ∉ [o1] := fun v z g hg => by have := z g hg; simp; omega
  -- now behind the store
  have NN : NowAt w W3 n kd D h am vs vo vh va := by
    have hx := (B.NX.keep t (by simp)).keep k2 (fun x hx => .inl (.inl (by simpa using hx)))
    exact ⟨N3.b.touch k2 (by simpa using B.hne), hx.mono (fun g _ q => .inl (.inr q)), ownsRow_touch N3.ar k2 (fun g hg => by have := B.hva g hg; simp; omega), N3.an, N3.t.trans k2 (fun x hx => .inr (by simp at hx; omega)), N3.r.touch k2 (by simp; omega), N3.hn⟩
  obtain ⟨a4, c4, w4, m1, m2, m3, m4, m5, m6⟩ := run_mid2 (W2 := W) NN (fun g hg => by have := B.hva g hg; omega) (by omega) hnW hoW ho B.hne (fun e => by have := B.hva _ e; omega) k1 (SRow.keepB s k2 (fun _ => fr _ z1)) (SRow.keepB u k2 (fun _ => fr _ z2)) (SRow.keepB hp k2 (fun _ => fr _ z3)) z1 z2 z3 (SRow.keepB hr k2 (fun _ => fr _ z4)) hl
  refine ⟨NN.b.cell 9, k1.cell 9, a4, c4, w4, m1, m2, m3, m4, m5, fun W5 hW5 => ?_⟩
  obtain ⟨e1, e2, e3, e4⟩ := m6 W5 hW5
  obtain ⟨sa, sc, rfl⟩ := e2.s.form
  obtain ⟨oa, oc, rfl⟩ := e2.u.form
  obtain ⟨ha, hc, rfl⟩ := e2.hp.form
  exact ⟨e1, sa, sc, oa, oc, ha, hc, a4, c4, rfl, e2.s, e2.u, e2.hp, e3, e4⟩

end Go.Proofs.Ytlndbligbpfdpaa

/-
  The document's own table BY CONTRACTS: the same plain functions.
-/
import Derived.Test.YthkphhjhgkclfaaDoorStripesOps
namespace Go.Proofs.YthkphhjhgkclfaaDoor
set_option linter.unusedVariables false
set_option linter.unusedSimpArgs false
open Go.RowKit

theorem RObj.words {B : Nat} {w : World} {b : Nat} {vw : Value} {now : Int} {ws : List Int} (h : RObj B w b vw now ws) (hp : 0 < ws.length) :
    ∃ g cap, vw = .slice (some ⟨g, 0, none⟩) ws.length cap ∧ (∀ j, j < ws.length → w.cell? ⟨g, j, none⟩ = some (.int .u64 (ws.getD j 0))) ∧ (∀ j, w.frozen? ⟨g, j, none⟩ = false) ∧ B ≤ g ∧ g < w.heap.size ∧ ws.length ≤ cap ∧ cap ≤ maxLen ∧ g ≠ b := by
  obtain ⟨g, cap, rfl, hg, hlt⟩ := h.own.form hp
  refine ⟨g, cap, rfl, fun j hj => ?_, fun j => h.own.frozenAt j, hg, hlt, ?_⟩
  · rw [h.own.cellAt j (by omega), List.getElem?_map, List.getD_eq_getElem?_getD, List.getElem?_eq_getElem hj]
    rfl
  · rcases h.own.2 with ⟨h', _⟩ | ⟨g', cap', cur, h', _, hh, h1, h2, _, _⟩
    · simp at h'
    · simp only [Value.slice.injEq, Option.some.injEq, Addr.mk.injEq, and_true, true_and] at h'
      obtain ⟨rfl, rfl⟩ := h'
      refine ⟨h1, h2, ?_⟩
      rintro rfl
      have := h.st
      rw [hh] at this
      simp only [Option.some.injEq, Obj.cells.injEq] at this
      exact absurd this.2.1 (by decide)

theorem RObj.cNow {B : Nat} {w : World} {b : Nat} {vw : Value} {now : Int} {ws : List Int} (h : RObj B w b vw now ws) : w.cell? ⟨b, 0, none⟩ = some vw ∧ w.cell? ⟨b, 1, none⟩ = some (.int .u64 now) ∧ ∀ j, w.frozen? ⟨b, j, none⟩ = false := by
  refine ⟨?_, ?_, fun j => ?_⟩ <;> simp [World.cell?, World.frozen?, h.st]

theorem RObj.set {B : Nat} {w : World} {b g cap : Nat} {now : Int} {ws : List Int} (h : RObj B w b (.slice (some ⟨g, 0, none⟩) ws.length cap) now ws) (hgb : g ≠ b) (i : Nat) (hi : i < ws.length) (v : Int) : RObj B (w.setCell ⟨g, i, none⟩ (.int .u64 v)) b (.slice (some ⟨g, 0, none⟩) ws.length cap) now (ws.set i v) := by
  refine ⟨h.hb, ?_, ?_⟩
  · exact (Below.heap_setCell _ _ _ _ (by simpa using hgb.symm)).trans h.st
  · have := (h.own.stored i (.int .u64 v)).1
    rw [List.length_set, List.map_set]
    exact this

theorem RObj.setNow {B : Nat} {w : World} {b : Nat} {vw : Value} {now : Int} {ws : List Int} (h : RObj B w b vw now ws) (hgb : ∀ k, vw.ownBlock = some k → k ≠ b) (v : Int) : RObj B (w.setCell ⟨b, 1, none⟩ (.int .u64 v)) b vw v ws := by
  refine ⟨h.hb, ?_, ?_⟩
  · simp [World.setCell, Array.getElem?_modify, h.st]
  · exact ownsRow_touch (S := [b]) h.own ((Touch.refl _ _).setCell (.inl (by simp)) _) (fun k hk => by simpa using hgb k hk)

theorem RObj.apart {B : Nat} {w : World} {b : Nat} {vw : Value} {now : Int} {ws : List Int} (h : RObj B w b vw now ws) (hp : 0 < ws.length) : ∀ k, vw.ownBlock = some k → k ≠ b ∧ k < w.heap.size ∧ B ≤ k := by
  obtain ⟨g, cap, rfl, _, _, h1, h2, _, _, h3⟩ := h.words hp
  intro k hk
  have : g = k := by simpa [Value.ownBlock] using hk
  subst this
  exact ⟨h3, h2, h1⟩

/-- The blocks of the document's table. -/
def rfoot (b : Nat) (vw : Value) : List Nat := b :: vw.ownBlock.toList

theorem may_in {B : Nat} {w : World} {b : Nat} {vw : Value} {now : Int} {ws : List Int} (h : RObj B w b vw now ws) (hp : 0 < ws.length) (s : Int) (hs : inS ws s) : Calls Tryd.prog 50 #[ptr b, .int .i64 s] w fun e w' => e = .returned (.int .i64 0) ∧ w = w' := by
  obtain ⟨c0, _, _⟩ := h.cNow
  obtain ⟨g, cap, rfl, _⟩ := h.words hp
  have h1 : ¬ s < 0 := by have := hs.1; omega
  have h2 : ¬ (ws.length : Int) ≤ s := by have := hs.2; omega
  clear h
  go_enter Tryd.func50, Tryd.ntmps50
  go_wp2
  go_ret
  exact ⟨by simp, rfl⟩

theorem may_out {B : Nat} {w : World} {b : Nat} {vw : Value} {now : Int} {ws : List Int} (h : RObj B w b vw now ws) (hp : 0 < ws.length) (s : Int) (hs : ¬ inS ws s) : Calls Tryd.prog 50 #[ptr b, .int .i64 s] w fun e w' => e = .returned (.int .i64 2) ∧ w = w' := by
  obtain ⟨c0, _, _⟩ := h.cNow
  obtain ⟨g, cap, rfl, _⟩ := h.words hp
  clear h
  by_cases h1 : s < 0
  · go_enter Tryd.func50, Tryd.ntmps50
    go_wp2
    go_ret
    exact ⟨by simp, rfl⟩
  · have h1' : decide (s < 0) = false := decide_eq_false h1
    have h2 : (ws.length : Int) ≤ s := by unfold inS at hs; omega
    go_enter Tryd.func50, Tryd.ntmps50
    go_wp2
    go_ret
    exact ⟨by simp, rfl⟩

/-- What is left of a change. -/
def RPost (B : Nat) (w : World) (b : Nat) (vw : Value) (now : Int) (r : Int × List Int) (e : Ending) (w' : World) : Prop := e = .returned (.int .i64 r.1) ∧ RObj B w' b vw now r.2 ∧ Touch w w' (rfoot b vw)

theorem rlock_ext {B : Nat} {w : World} {b : Nat} {vw : Value} {now : Int} {ws : List Int} (h : RObj B w b vw now ws) (G : Good now ws) (o s : Int) : Calls Tryd.prog 35 #[ptr b, .int .i64 o, .int .i64 s] w (RPost B w b vw now (lockS ws o s)) := by
  unfold lockS RPost
  obtain ⟨c0, _, _⟩ := h.cNow
  obtain ⟨g, cap, rfl, hc, hfr, _, hlt, _, _, hgb⟩ := h.words G.pos
  by_cases hs : inS ws s
  · rw [if_pos hs]
    have hm := may_in h G.pos s hs
    have hlen : s.toNat < ws.length := by unfold inS at hs; omega
    have h0 : 0 ≤ s := hs.1
    have h1 : s < ws.length := hs.2
    have ci := hc s.toNat hlen
    have hr := rlock_any (wordAt ws s) o (G.at hs).1 w
    have HN : Hid _ := h.set hgb s.toNat hlen (lockP (wordAt ws s) o).1
    have HO : Hid _ := h
    have HT : Hid (Touch w (w.setCell ⟨g, s.toNat, none⟩ (.int .u64 (lockP (wordAt ws s) o).1)) (rfoot b (.slice (some ⟨g, 0, none⟩) ws.length cap))) := (Touch.refl _ _).setCell (.inl (by simp [rfoot, Value.ownBlock])) _
    clear h hc
    unfold putS
    have e0 : ws.getD s.toNat 0 = wordAt ws s := rfl
    rw [e0] at ci
    clear e0
    generalize lockP (wordAt ws s) o = r at *
    generalize wordAt ws s = n at *
    obtain ⟨r1, r2⟩ := r
    by_cases hz : r2 = 0
    · subst hz
      simp only [if_true]
      go_enter Tryd.func35, Tryd.ntmps35
      go_wp2_with fail
      refine hm.mono ?_
      rintro e w1 ⟨rfl, rfl⟩
      clear hm
      go_wp2_with fail
      refine hr.mono ?_
      rintro e w1 ⟨rfl, rfl⟩
      clear hr
      go_wp2
      go_ret
      exact ⟨by simp, HN.out, HT.out⟩
    · have hz' : (r2 == 0) = false := by simpa using hz
      simp only [if_neg hz]
      go_enter Tryd.func35, Tryd.ntmps35
      go_wp2_with fail
      refine hm.mono ?_
      rintro e w1 ⟨rfl, rfl⟩
      clear hm
      go_wp2_with fail
      refine hr.mono ?_
      rintro e w1 ⟨rfl, rfl⟩
      clear hr
      go_wp2
      go_ret
      exact ⟨by simp, HO.out, Touch.refl _ _⟩
  · rw [if_neg hs]
    have hm := may_out h G.pos s hs
    have HO : Hid _ := h
    clear h hc
    go_enter Tryd.func35, Tryd.ntmps35
    go_wp2_with fail
    refine hm.mono ?_
    rintro e w1 ⟨rfl, rfl⟩
    clear hm
    go_wp2
    go_ret
    exact ⟨by simp, HO.out, Touch.refl _ _⟩

theorem rrestore_ext {B : Nat} {w : World} {b : Nat} {vw : Value} {now : Int} {ws : List Int} (h : RObj B w b vw now ws) (G : Good now ws) (o s : Int) : Calls Tryd.prog 37 #[ptr b, .int .i64 o, .int .i64 s] w (RPost B w b vw now (restoreS ws o s)) := by
  unfold restoreS RPost
  obtain ⟨c0, _, _⟩ := h.cNow
  obtain ⟨g, cap, rfl, hc, hfr, _, hlt, _, _, hgb⟩ := h.words G.pos
  by_cases hs : inS ws s
  · rw [if_pos hs]
    have hm := may_in h G.pos s hs
    have hlen : s.toNat < ws.length := by unfold inS at hs; omega
    have h0 : 0 ≤ s := hs.1
    have h1 : s < ws.length := hs.2
    have ci := hc s.toNat hlen
    have hr := rrestore_any (wordAt ws s) o (G.at hs).1 w
    have HN : Hid _ := h.set hgb s.toNat hlen (restoreP (wordAt ws s) o).1
    have HO : Hid _ := h
    have HT : Hid (Touch w (w.setCell ⟨g, s.toNat, none⟩ (.int .u64 (restoreP (wordAt ws s) o).1)) (rfoot b (.slice (some ⟨g, 0, none⟩) ws.length cap))) := (Touch.refl _ _).setCell (.inl (by simp [rfoot, Value.ownBlock])) _
    clear h hc
    unfold putS
    have e0 : ws.getD s.toNat 0 = wordAt ws s := rfl
    rw [e0] at ci
    clear e0
    generalize restoreP (wordAt ws s) o = r at *
    generalize wordAt ws s = n at *
    obtain ⟨r1, r2⟩ := r
    by_cases hz : r2 = 0
    · subst hz
      simp only [if_true]
      go_enter Tryd.func37, Tryd.ntmps37
      go_wp2_with fail
      refine hm.mono ?_
      rintro e w1 ⟨rfl, rfl⟩
      clear hm
      go_wp2_with fail
      refine hr.mono ?_
      rintro e w1 ⟨rfl, rfl⟩
      clear hr
      go_wp2
      go_ret
      exact ⟨by simp, HN.out, HT.out⟩
    · have hz' : (r2 == 0) = false := by simpa using hz
      simp only [if_neg hz]
      go_enter Tryd.func37, Tryd.ntmps37
      go_wp2_with fail
      refine hm.mono ?_
      rintro e w1 ⟨rfl, rfl⟩
      clear hm
      go_wp2_with fail
      refine hr.mono ?_
      rintro e w1 ⟨rfl, rfl⟩
      clear hr
      go_wp2
      go_ret
      exact ⟨by simp, HO.out, Touch.refl _ _⟩
  · rw [if_neg hs]
    have hm := may_out h G.pos s hs
    have HO : Hid _ := h
    clear h hc
    go_enter Tryd.func37, Tryd.ntmps37
    go_wp2_with fail
    refine hm.mono ?_
    rintro e w1 ⟨rfl, rfl⟩
    clear hm
    go_wp2
    go_ret
    exact ⟨by simp, HO.out, Touch.refl _ _⟩

theorem runlock_ext {B : Nat} {w : World} {b : Nat} {vw : Value} {now : Int} {ws : List Int} (h : RObj B w b vw now ws) (G : Good now ws) (o s v : Int) (hv : 0 ≤ v) : Calls Tryd.prog 36 #[ptr b, .int .i64 o, .int .i64 s, .int .u64 v] w (RPost B w b vw now (unlockS now ws o s v)) := by
  unfold unlockS RPost
  obtain ⟨c0, c1, _⟩ := h.cNow
  obtain ⟨g, cap, rfl, hc, hfr, _, hlt, _, _, hgb⟩ := h.words G.pos
  by_cases hs : inS ws s
  · rw [if_pos hs]
    have hm := may_in h G.pos s hs
    by_cases hnv : now < v
    · rw [if_pos hnv]
      have HO : Hid _ := h
      clear h hc
      go_enter Tryd.func36, Tryd.ntmps36
      go_wp2_with fail
      refine hm.mono ?_
      rintro e w1 ⟨rfl, rfl⟩
      clear hm
      go_wp2
      go_ret
      exact ⟨by simp, HO.out, Touch.refl _ _⟩
    rw [if_neg hnv]
    have hnv' : decide (now < v) = false := decide_eq_false hnv
    have hlen : s.toNat < ws.length := by unfold inS at hs; omega
    have h0 : 0 ≤ s := hs.1
    have h1 : s < ws.length := hs.2
    have ci := hc s.toNat hlen
    have hr := runlock_any (wordAt ws s) o v (G.at hs).1 hv w
    have HN : Hid _ := h.set hgb s.toNat hlen (unlockP (wordAt ws s) o v).1
    have HO : Hid _ := h
    have HT : Hid (Touch w (w.setCell ⟨g, s.toNat, none⟩ (.int .u64 (unlockP (wordAt ws s) o v).1)) (rfoot b (.slice (some ⟨g, 0, none⟩) ws.length cap))) := (Touch.refl _ _).setCell (.inl (by simp [rfoot, Value.ownBlock])) _
    clear h hc
    unfold putS
    have e0 : ws.getD s.toNat 0 = wordAt ws s := rfl
    rw [e0] at ci
    clear e0
    generalize unlockP (wordAt ws s) o v = r at *
    generalize wordAt ws s = n at *
    obtain ⟨r1, r2⟩ := r
    by_cases hz : r2 = 0
    · subst hz
      simp only [if_true]
      go_enter Tryd.func36, Tryd.ntmps36
      go_wp2_with fail
      refine hm.mono ?_
      rintro e w1 ⟨rfl, rfl⟩
      clear hm
      go_wp2_with fail
      refine hr.mono ?_
      rintro e w1 ⟨rfl, rfl⟩
      clear hr
      go_wp2
      go_ret
      exact ⟨by simp, HN.out, HT.out⟩
    · have hz' : (r2 == 0) = false := by simpa using hz
      simp only [if_neg hz]
      go_enter Tryd.func36, Tryd.ntmps36
      go_wp2_with fail
      refine hm.mono ?_
      rintro e w1 ⟨rfl, rfl⟩
      clear hm
      go_wp2_with fail
      refine hr.mono ?_
      rintro e w1 ⟨rfl, rfl⟩
      clear hr
      go_wp2
      go_ret
      exact ⟨by simp, HO.out, Touch.refl _ _⟩
  · rw [if_neg hs]
    have hm := may_out h G.pos s hs
    have HO : Hid _ := h
    clear h hc
    go_enter Tryd.func36, Tryd.ntmps36
    go_wp2_with fail
    refine hm.mono ?_
    rintro e w1 ⟨rfl, rfl⟩
    clear hm
    go_wp2
    go_ret
    exact ⟨by simp, HO.out, Touch.refl _ _⟩

theorem rtick_ext {B : Nat} {w : World} {b : Nat} {vw : Value} {now : Int} {ws : List Int} (h : RObj B w b vw now ws) (G : Good now ws) : Calls Tryd.prog 39 #[ptr b] w fun e w' => e = .returned (two (tickS now).1) ∧ RObj B w' b vw (tickS now).2 ws ∧ Touch w w' (rfoot b vw) := by
  unfold tickS
  obtain ⟨_, c1, hfr⟩ := h.cNow
  have hn := rnext_any now G.c0 w
  have HN : Hid _ := h.setNow (fun k hk => (h.apart G.pos k hk).1) (nextP now).1
  have HO : Hid _ := h
  clear h
  generalize nextP now = r at *
  obtain ⟨r1, r2⟩ := r
  simp only at hn HN ⊢
  by_cases h0 : r2 = 0
  · subst h0
    rw [if_pos rfl]
    go_enter Tryd.func39, Tryd.ntmps39
    go_wp2_with fail
    refine hn.mono ?_
    rintro e w1 ⟨rfl, rfl⟩
    clear hn
    go_wp2
    go_ret2
    exact ⟨by simp, HN.out, (Touch.refl _ _).setCell (.inl (by simp [rfoot])) _⟩
  · have h0' : (r2 == 0) = false := by simpa using h0
    rw [if_neg h0]
    go_enter Tryd.func39, Tryd.ntmps39
    go_wp2_with fail
    refine hn.mono ?_
    rintro e w1 ⟨rfl, rfl⟩
    clear hn
    go_wp2
    go_ret2
    exact ⟨by simp, HO.out, Touch.refl _ _⟩

end Go.Proofs.YthkphhjhgkclfaaDoor

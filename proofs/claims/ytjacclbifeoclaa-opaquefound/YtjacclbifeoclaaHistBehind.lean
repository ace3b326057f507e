/-
  package history: (course).behind BY ITS CONTRACT.
-/
import Derived.Test.YtjacclbifeoclaaHistBase
namespace Go.Proofs.Ytjacclbifeoclaa
set_option linter.unusedVariables false
set_option linter.unusedSimpArgs false
open Go.RowKit Go.Maps
attribute [local go_sem] Oper.semAt_some

/-- The course behind an event, if it can come now. -/
def behindS (st : Int) (Fs : List Fr) (e : EvD) : Option (Int × List Fr) :=
  if namedS e = false then none
  else if e.k = 1 then (if st = 0 then some (1, [f0]) else none)
  else if 2 ≤ e.k ∧ e.k ≤ 6 then (if st = 1 ∧ (noteS Fs e).1 = 0 then some (1, (noteS Fs e).2) else none)
  else if e.k = 7 then (if st = 1 ∧ Fs.length - 1 = 0 then some (2, Fs) else none)
  else if e.k = 8 then (if st = 2 then some (3, Fs) else none)
  else if e.k = 9 then (if st = 1 ∨ st = 2 then some (4, Fs) else none)
  else none

/-- A course: how far, and the log of its own (of none that has begun no log). -/
def Crs (B : Nat) (w : World) (st : Int) (pv : Value) (ft : List Nat) (Fs : List Fr) : Prop :=
  (st = 0 ∧ pv = .pointer none ∧ ft = [] ∧ Fs = []) ∨ ((1 ≤ st ∧ st ≤ 4) ∧ ∃ b ch, pv = ptr b ∧ ft = pfoot b ch ∧ PLog B w b ch Fs)
theorem Crs.keep {B : Nat} {w w' : World} {st : Int} {pv : Value} {ft : List Nat} {Fs : List Fr} {S : List Nat} (h : Crs B w st pv ft Fs) (t : Touch w w' S) (hS : ∀ x ∈ ft, x ∉ S) : Crs B w' st pv ft Fs := by
  rcases h with h | ⟨h1, b, ch, h2, rfl, h3⟩
  · exact .inl h
  · exact .inr ⟨h1, b, ch, h2, rfl, h3.keep t hS⟩
theorem Crs.touch {B : Nat} {w w' : World} {st : Int} {pv : Value} {ft : List Nat} {Fs : List Fr} (h : Crs B w st pv ft Fs) (t : Touch w w' []) : Crs B w' st pv ft Fs := h.keep t (by simp)
theorem Crs.foot_lt {B : Nat} {w : World} {st : Int} {pv : Value} {ft : List Nat} {Fs : List Fr} (h : Crs B w st pv ft Fs) : ∀ x ∈ ft, B ≤ x ∧ x < w.heap.size := by
  rcases h with ⟨_, _, rfl, _⟩ | ⟨h1, b, ch, h2, rfl, h3⟩
  · simp
  · exact h3.foot_lt
theorem PLog.lower {B B' : Nat} {w : World} {b : Nat} {ch : List (Nat × Nat)} {Fs : List Fr} (h : PLog B' w b ch Fs) (hB : B ≤ B') : PLog B w b ch Fs :=
  { h with hb := Nat.le_trans hB h.hb, hn := fun p hp => ⟨Nat.le_trans hB (h.hn p hp).1, Nat.le_trans hB (h.hn p hp).2⟩ }

/-- What behind comes to. -/
def BehE (B : Nat) (w : World) (ft : List Nat) (res : Option (Int × List Fr)) (x : Ending) (w' : World) : Prop :=
  (res = none ∧ GaveUp x ∧ Touch w w' ft) ∨ ∃ st' Fs' pv' ft', res = some (st', Fs') ∧ x = .returned (.agg #[.int .u8 st', pv']) ∧ Crs B w' st' pv' ft' Fs' ∧ Touch w w' ft ∧ ∀ y ∈ ft', y ∈ ft ∨ w.heap.size ≤ y

/-- behind's three boxes. -/
structure Box3 (W : World) (cb : Nat) (st : Int) (pv : Value) (e : EvD) : Prop where
  c : W.heap[cb]? = some (.cells #[.int .u8 st, pv] 78 (0, 0))
  e : W.heap[cb + 1]? = some e.obj
  r : W.heap[cb + 2]? = some (.cells #[.int .u8 0, .pointer none] 78 (0, 0))
theorem Box3.touch {W W' : World} {cb : Nat} {st : Int} {pv : Value} {e : EvD} {S : List Nat} (h : Box3 W cb st pv e) (t : Touch W W' S) (hS : ∀ x ∈ S, x < cb ∨ cb + 2 < x) : Box3 W' cb st pv e :=
  ⟨(t.block _ (lt_of_heap h.c) (fun hs => by have := hS _ hs; omega)).trans h.c, (t.block _ (lt_of_heap h.e) (fun hs => by have := hS _ hs; omega)).trans h.e, (t.block _ (lt_of_heap h.r) (fun hs => by have := hS _ hs; omega)).trans h.r⟩
theorem Box3.new (w : World) (st : Int) (pv : Value) (e : EvD) : Box3 (((w.alloc (.cells #[.int .u8 st, pv] 78)).alloc e.obj).alloc (.cells #[.int .u8 0, .pointer none] 78)) w.heap.size st pv e := by
  refine ⟨?_, ?_, ?_⟩
  · rw [heap_alloc_old _ _ (by simp; omega), heap_alloc_old _ _ (by simp)]; exact heap_alloc_new w _
  · rw [heap_alloc_old _ _ (by simp)]
    have := heap_alloc_new (w.alloc (.cells #[.int .u8 st, pv] 78)) e.obj
    simpa using this
  · have := heap_alloc_new ((w.alloc (.cells #[.int .u8 st, pv] 78)).alloc e.obj) (.cells #[.int .u8 0, .pointer none] 78)
    simpa using this
theorem Box3.cells {W : World} {cb : Nat} {st : Int} {pv : Value} {e : EvD} (h : Box3 W cb st pv e) :
    (W.cell? ⟨cb, 0, none⟩ = some (.int .u8 st) ∧ W.cell? ⟨cb, 1, none⟩ = some pv ∧ W.frozen? ⟨cb, 0, none⟩ = false) ∧
    (W.cell? ⟨cb + 1, 0, none⟩ = some (.int .u8 e.k) ∧ W.cell? ⟨cb + 1, 1, none⟩ = some (.int .i64 e.a) ∧ W.cell? ⟨cb + 1, 2, none⟩ = some (.int .i64 e.t) ∧ W.cell? ⟨cb + 1, 3, none⟩ = some (.int .u64 e.v)) ∧
    (W.cell? ⟨cb + 2, 0, none⟩ = some (.int .u8 0) ∧ W.cell? ⟨cb + 2, 1, none⟩ = some (.pointer none) ∧ W.frozen? ⟨cb + 2, 0, none⟩ = false ∧ W.frozen? ⟨cb + 2, 1, none⟩ = false) := by
  obtain ⟨h1, h2, h3⟩ := h
  simp [World.cell?, World.frozen?, h1, h2, h3, EvD.obj]

set_option maxRecDepth 100000 in
set_option maxHeartbeats 2000000 in
theorem behind_new {B : Nat} {w : World} (hB : B ≤ w.heap.size) (e : EvD) (he : e.Wf) :
    Calls Try.prog 37 #[.agg #[.int .u8 0, .pointer none], e.val] w (BehE B w [] (behindS 0 [] e)) := by
  obtain ⟨res, hres⟩ : ∃ r, r = behindS 0 [] e := ⟨_, rfl⟩
  rw [← hres]
  have HRES : Hid _ := hres
  clear hres
  have T0 : Hid (Touch w (((w.alloc (.cells #[.int .u8 0, .pointer none] 78)).alloc e.obj).alloc (.cells #[.int .u8 0, .pointer none] 78)) []) := (((Touch.refl w []).alloc _).alloc _).alloc _
  have B0 : Hid _ := Box3.new w 0 (.pointer none) e
  have hn := named_any e he
  have HE : Hid _ := he
  clear he
  go_enter Try.func37, Try.ntmps37
  go_wp2_with fail
  refine (hn _).mono ?_
  intro x w1 hne
  cases hq : namedS e with
  | false =>
    rw [hq] at hne
    obtain ⟨hx, t1⟩ := hne
    obtain rfl : x = _ := hx
    exact ⟨rfl, .inl ⟨by rw [HRES.out]; unfold behindS; rw [if_pos hq], rfl, T0.out.trans t1 (by simp)⟩⟩
  | true =>
    rw [hq] at hne
    obtain ⟨hx, t1⟩ := hne
    obtain rfl : x = _ := hx
    have T1 : Hid _ := T0.out.trans t1 (by simp)
    have b1 := B0.out.touch t1 (by simp)
    have B1 : Hid _ := b1
    obtain ⟨⟨c0, c1, c2⟩, ⟨e0, e1, e2, e3⟩, ⟨r0, r1, r2, r3⟩⟩ := b1.cells
    clear B0 T0 t1 b1 hn
    by_cases hk1 : e.k = 1
    · have hr1 : res = some (1, [f0]) := by rw [HRES.out]; unfold behindS; rw [if_neg (by rw [hq]; simp), if_pos hk1, if_pos rfl]
      rw [hk1] at e0
      have HK : Hid _ := hk1
      clear hk1 HRES
      subst hr1
      go_wp2_with fail
      refine (hneed_yes _).mono ?_
      rintro x w2 ⟨rfl, rfl⟩
      go_wp2_with fail
      refine (new_any _).mono ?_
      rintro x w2 ⟨b, ch, rfl, hp, t2⟩
      obtain ⟨⟨c0', c1', c2'⟩, ⟨e0', e1', e2', e3'⟩, ⟨r0', r1', r2', r3'⟩⟩ := (B1.out.touch t2 (by simp)).cells
      have HP : Hid _ := hp
      have T2 : Hid _ := T1.out.trans t2 (by simp)
      clear hp c0 c1 c2 e0 e1 e2 e3 r0 r1 r2 r3
      go_wp2
      have T3 : Touch w2 ((w2.setCell ⟨w.heap.size + 1 + 1, 0, none⟩ (.int .u8 1)).setCell ⟨w.heap.size + 1 + 1, 1, none⟩ (ptr b)) [w.heap.size + 2] := ((Touch.refl w2 _).setCell (.inl (by simp)) _).setCell (.inl (by simp)) _
      have hlt := lt_of_heap (B1.out.r)
      refine bodyPost_ret (v := .agg #[.int .u8 1, ptr b]) ?_ rfl (.inr ⟨1, [f0], ptr b, pfoot b ch, rfl, rfl, .inr ⟨by omega, b, ch, rfl, rfl, (HP.out.keep T3 (fun x hx hs => by have := (HP.out.foot_lt x hx).1; simp at hs; omega)).lower (Nat.le_trans hB T1.out.size)⟩, T2.out.trans T3 (by intro x hx; simp at hx; exact .inr (by omega)), fun y hy => .inr (Nat.le_trans T1.out.size (HP.out.foot_lt y hy).1)⟩)
      simp [results, Try.results37, go_sem, r0', r1', r2', r3']
    · have hr1 : res = none := by
        rw [HRES.out]; unfold behindS; rw [if_neg (by rw [hq]; simp), if_neg hk1]
        split
        · rw [if_neg (by simp)]
        · split
          · rw [if_neg (by simp)]
          · split
            · rw [if_neg (by simp)]
            · split
              · rw [if_neg (by simp)]
              · rfl
      clear HRES
      subst hr1
      have hall : e.k = 2 ∨ e.k = 3 ∨ e.k = 4 ∨ e.k = 5 ∨ e.k = 6 ∨ e.k = 7 ∨ e.k = 8 ∨ e.k = 9 ∨ (¬ e.k = 2 ∧ ¬ e.k = 3 ∧ ¬ e.k = 4 ∧ ¬ e.k = 5 ∧ ¬ e.k = 6 ∧ ¬ e.k = 7 ∧ ¬ e.k = 8 ∧ ¬ e.k = 9) := by omega
      rcases hall with h | h | h | h | h | h | h | h | ⟨h2, h3, h4, h5, h6, h7, h8, h9⟩
      case inr.inr.inr.inr.inr.inr.inr.inr =>
        go_wp2_with fail
        refine (hneed_no _).mono ?_
        rintro x w2 ⟨rfl, rfl⟩
        exact ⟨rfl, .inl ⟨rfl, rfl, T1.out⟩⟩
      all_goals
        rw [h] at e0
        clear h hk1
        go_wp2_with fail
        refine (hneed_no _).mono ?_
        rintro x w2 ⟨rfl, rfl⟩
        exact ⟨rfl, .inl ⟨rfl, rfl, T1.out⟩⟩

set_option maxRecDepth 100000 in
set_option maxHeartbeats 4000000 in
theorem behind_old {B : Nat} {w : World} {st : Int} {b : Nat} {ch : List (Nat × Nat)} {Fs : List Fr} (h : PLog B w b ch Fs) (hst : 1 ≤ st ∧ st ≤ 4) (hB : B ≤ w.heap.size) (e : EvD) (he : e.Wf) :
    Calls Try.prog 37 #[.agg #[.int .u8 st, ptr b], e.val] w (BehE B w (pfoot b ch) (behindS st Fs e)) := by
  obtain ⟨res, hres⟩ : ∃ r, r = behindS st Fs e := ⟨_, rfl⟩
  rw [← hres]
  have HRES : Hid _ := hres
  clear hres
  have T0 : Hid (Touch w (((w.alloc (.cells #[.int .u8 st, ptr b] 78)).alloc e.obj).alloc (.cells #[.int .u8 0, .pointer none] 78)) []) := (((Touch.refl w []).alloc _).alloc _).alloc _
  have B0 : Hid _ := Box3.new w st (ptr b) e
  have hn := named_any e he
  have HE : Hid _ := he
  have HP0 : Hid _ := h
  clear he h
  go_enter Try.func37, Try.ntmps37
  go_wp2_with fail
  refine (hn _).mono ?_
  intro x w1 hne
  cases hq : namedS e with
  | false =>
    rw [hq] at hne
    obtain ⟨hx, t1⟩ := hne
    obtain rfl : x = _ := hx
    exact ⟨rfl, .inl ⟨by rw [HRES.out]; unfold behindS; rw [if_pos hq], rfl, (T0.out.trans t1 (by simp)).mono (by simp)⟩⟩
  | true =>
    rw [hq] at hne
    obtain ⟨hx, t1⟩ := hne
    obtain rfl : x = _ := hx
    have T1 : Hid (Touch w w1 []) := T0.out.trans t1 (by simp)
    have B1 : Hid _ := B0.out.touch t1 (by simp)
    have P1 : Hid _ := HP0.out.touch T1.out
    have FT : Hid _ := HP0.out.foot_lt
    obtain ⟨⟨c0, c1, c2⟩, ⟨e0, e1, e2, e3⟩, ⟨r0, r1, r2, r3⟩⟩ := B1.out.cells
    clear B0 T0 t1 hn
    have hnm : ¬ namedS e = false := by rw [hq]; simp
    have HNM : Hid _ := hnm
    clear hnm hq
    by_cases hk1 : e.k = 1
    · have hr1 : res = none := by rw [HRES.out]; unfold behindS; rw [if_neg HNM.out, if_pos hk1, if_neg (by omega)]
      subst hr1
      have s0 : (st == 0) = false := by simp; omega
      rw [hk1] at e0
      clear hk1 HRES
      go_wp2_with fail
      refine (hneed_no _).mono ?_
      rintro x w2 ⟨rfl, rfl⟩
      exact ⟨rfl, .inl ⟨rfl, rfl, T1.out.mono (by simp)⟩⟩
    · by_cases hk26 : 2 ≤ e.k ∧ e.k ≤ 6
      · by_cases hs1 : st = 1
        · subst hs1
          have hr1 : res = if (noteS Fs e).1 = 0 then some (1, (noteS Fs e).2) else none := by rw [HRES.out]; unfold behindS; rw [if_neg HNM.out, if_neg hk1, if_pos hk26]; simp
          have hno := note_any P1.out e HE.out
          have hrk : reachS e.k 1 = 1 := by unfold reachS; rw [if_neg (by omega), if_neg (by omega), if_neg (by omega)]
          have hre := reached_any e 1
          rw [hrk] at hre
          have HRE : Hid _ := hre
          have HR1 : Hid _ := hr1
          have HK26 : Hid _ := hk26
          clear hr1 hre hrk HRES hk1
          generalize noteS Fs e = nr at *
          obtain ⟨z, Gs⟩ := nr
          have hall : e.k = 2 ∨ e.k = 3 ∨ e.k = 4 ∨ e.k = 5 ∨ e.k = 6 := by omega
          have hval : ∃ k, e.k = k ∧ e.val = .agg #[.int .u8 k, .int .i64 e.a, .int .i64 e.t, .int .u64 e.v] := ⟨_, rfl, rfl⟩
          clear hval hk26
          rcases hall with hk | hk | hk | hk | hk
          all_goals
            have hval : e.val = .agg #[.int .u8 e.k, .int .i64 e.a, .int .i64 e.t, .int .u64 e.v] := rfl
            rw [hk] at hval e0
            rw [hval] at hno
            have HKE : Hid _ := hk
            have hre' := HRE.out
            rw [hval] at hre'
            clear HRE
            have HRE : Hid _ := hre'
            clear hval hk hre'
            go_wp2_with fail
            refine (hneed_yes _).mono ?_
            rintro x w2 ⟨rfl, rfl⟩
            go_wp2_with fail
            refine hno.mono ?_
            rintro x w2 ⟨ch2, rfl, p2, t2, f2⟩
            have BW : Hid _ := B1.out.touch t2 (fun x hx => by have := (FT.out x hx).2; omega)
            have PW : Hid _ := p2
            have TW : Hid (Touch w w2 (pfoot b ch)) := (T1.out.mono (by simp)).trans t2 (fun x hx => .inl hx)
            have FX : Hid _ := f2
            have FW : Hid (∀ x ∈ pfoot b ch2, x < w.heap.size ∨ w.heap.size + 2 < x) := fun x hx => by
              have hl := lt_of_heap B1.out.r
              rcases f2 x hx with h1 | h1
              · exact .inl (FT.out x h1).2
              · exact .inr (by omega)
            have FX : Hid (∀ y ∈ pfoot b ch2, y ∈ pfoot b ch ∨ w.heap.size ≤ y) := fun y hy => (f2 y hy).imp id (fun h => Nat.le_trans T1.out.size h)
            clear hno p2 t2 f2 B1 c0 c1 c2 e0 e1 e2 e3 r0 r1 r2 r3
            simp only at *
            by_cases hz : z = 0
            · subst hz
              have hr2 : res = some (1, Gs) := by rw [HR1.out]; simp
              have HR2 : Hid _ := hr2
              clear hr2 HR1
              obtain ⟨⟨c0, c1, c2⟩, ⟨e0, e1, e2, e3⟩, ⟨r0, r1, r2, r3⟩⟩ := BW.out.cells
              rw [HKE.out] at e0
              go_wp2_with fail
              refine (hneed_yes _).mono ?_
              rintro x w3 ⟨rfl, rfl⟩
              clear c0 c1 c2 e0 e1 e2 e3 r0 r1 r2 r3
              obtain ⟨⟨c0, c1, c2⟩, ⟨e0, e1, e2, e3⟩, ⟨r0, r1, r2, r3⟩⟩ := BW.out.cells
              rw [HKE.out] at e0
              go_wp2_with fail
              refine (HRE.out _).mono ?_
              rintro x w7 ⟨rfl, t7⟩
              have b7 := BW.out.touch t7 (by simp)
              obtain ⟨⟨d0, d1, d2⟩, _, ⟨r0', r1', r2', r3'⟩⟩ := b7.cells
              clear b7 c0 c1 c2 e0 e1 e2 e3 r0 r1 r2 r3
              go_wp2
              have T8 : Touch w7 (((w7.setCell ⟨w.heap.size, 0, none⟩ (.int .u8 1)).setCell ⟨w.heap.size + 1 + 1, 0, none⟩ (.int .u8 1)).setCell ⟨w.heap.size + 1 + 1, 1, none⟩ (ptr b)) [w.heap.size, w.heap.size + 2] := (((Touch.refl w7 _).setCell (.inl (by simp)) _).setCell (.inl (by simp)) _).setCell (.inl (by simp)) _
              refine bodyPost_ret (v := .agg #[.int .u8 1, ptr b]) ?_ rfl (.inr ⟨1, _, ptr b, _, HR2.out, rfl, .inr ⟨by omega, b, _, rfl, rfl, (PW.out.touch t7).keep T8 (fun x hx hs => by have h1 := FW.out x hx; simp at hs; omega)⟩, (TW.out.trans t7 (by simp)).trans T8 (by intro x hx; simp at hx; exact .inr (by omega)), FX.out⟩)
              simp [results, Try.results37, go_sem, d0, d1, d2, r0', r1', r2', r3']
            · have hr2 : res = none := by rw [HR1.out, if_neg hz]
              have hz0 : (z == 0) = false := by simpa using hz
              subst hr2
              go_wp2_with fail
              refine (hneed_no _).mono ?_
              rintro x w3 ⟨rfl, rfl⟩
              exact ⟨rfl, .inl ⟨rfl, rfl, TW.out⟩⟩
        · have hr1 : res = none := by rw [HRES.out]; unfold behindS; rw [if_neg HNM.out, if_neg hk1, if_pos hk26, if_neg (fun h => hs1 h.1)]
          subst hr1
          have s0 : (st == 1) = false := by simpa using hs1
          have hall : e.k = 2 ∨ e.k = 3 ∨ e.k = 4 ∨ e.k = 5 ∨ e.k = 6 := by omega
          clear HRES hk1 hk26 hs1
          rcases hall with hk | hk | hk | hk | hk
          all_goals
            rw [hk] at e0
            clear hk
            go_wp2_with fail
            refine (hneed_no _).mono ?_
            rintro x w3 ⟨rfl, rfl⟩
            exact ⟨rfl, .inl ⟨rfl, rfl, T1.out.mono (by simp)⟩⟩
      · by_cases hk7 : e.k = 7
        · have hk := hk7
          by_cases hs1 : st = 1
          · subst hs1
            have hr1 : res = if Fs.length - 1 = 0 then some (2, Fs) else none := by rw [HRES.out]; unfold behindS; rw [if_neg HNM.out, if_neg hk1, if_neg hk26, if_pos hk7]; simp
            have hd := depth_any P1.out
            have HR1 : Hid _ := hr1
            clear hr1 HRES hk1 hk26 hk7
            have hre := reached_any e 1
            have hval : e.val = .agg #[.int .u8 e.k, .int .i64 e.a, .int .i64 e.t, .int .u64 e.v] := rfl
            rw [hk] at hval e0
            rw [hval, hk, show reachS 7 1 = 2 from by decide] at hre
            have HKE : Hid _ := hk
            have HRE : Hid _ := hre
            clear hre hval hk
            generalize hD : Fs.length - 1 = D at hd HR1
            have hD4 : D ≤ 4 := by have h1 := HP0.out.le; have h2 := HP0.out.len; omega
            have HD : Hid _ := hD
            clear hD
            go_wp2_with fail
            refine hd.mono ?_
            rintro x w2 ⟨rfl, t2⟩
            have BB : Hid _ := B1.out.touch t2 (by simp)
            have TT : Hid (Touch w w2 []) := T1.out.trans t2 (by simp)
            clear hd B1 t2 c0 c1 c2 e0 e1 e2 e3 r0 r1 r2 r3
            by_cases hz : D = 0
            · subst hz
              have hr2 : res = some (2, Fs) := by rw [HR1.out]; simp
              have HR2 : Hid _ := hr2
              clear hr2 HR1
              obtain ⟨⟨c0, c1, c2⟩, ⟨e0, e1, e2, e3⟩, ⟨r0, r1, r2, r3⟩⟩ := BB.out.cells
              rw [HKE.out] at e0
              go_wp2_with fail
              refine (hneed_yes _).mono ?_
              rintro x w3 ⟨rfl, rfl⟩
              clear c0 c1 c2 e0 e1 e2 e3 r0 r1 r2 r3
              have BW : Hid (Box3 w2 w.heap.size _ (ptr b) e) := BB.out
              have PW : Hid _ := HP0.out.touch TT.out
              have TW : Hid (Touch w w2 (pfoot b ch)) := TT.out.mono (by simp)
              have FW : Hid (∀ x ∈ pfoot b ch, x < w.heap.size ∨ w.heap.size + 2 < x) := fun x hx => .inl (FT.out x hx).2
              have FX : Hid (∀ y ∈ pfoot b ch, y ∈ pfoot b ch ∨ w.heap.size ≤ y) := fun y hy => .inl hy
              obtain ⟨⟨c0, c1, c2⟩, ⟨e0, e1, e2, e3⟩, ⟨r0, r1, r2, r3⟩⟩ := BW.out.cells
              rw [HKE.out] at e0
              go_wp2_with fail
              refine (HRE.out _).mono ?_
              rintro x w7 ⟨rfl, t7⟩
              have b7 := BW.out.touch t7 (by simp)
              obtain ⟨⟨d0, d1, d2⟩, _, ⟨r0', r1', r2', r3'⟩⟩ := b7.cells
              clear b7 c0 c1 c2 e0 e1 e2 e3 r0 r1 r2 r3
              go_wp2
              have T8 : Touch w7 (((w7.setCell ⟨w.heap.size, 0, none⟩ (.int .u8 2)).setCell ⟨w.heap.size + 1 + 1, 0, none⟩ (.int .u8 2)).setCell ⟨w.heap.size + 1 + 1, 1, none⟩ (ptr b)) [w.heap.size, w.heap.size + 2] := (((Touch.refl w7 _).setCell (.inl (by simp)) _).setCell (.inl (by simp)) _).setCell (.inl (by simp)) _
              refine bodyPost_ret (v := .agg #[.int .u8 2, ptr b]) ?_ rfl (.inr ⟨2, _, ptr b, _, HR2.out, rfl, .inr ⟨by omega, b, _, rfl, rfl, (PW.out.touch t7).keep T8 (fun x hx hs => by have h1 := FW.out x hx; simp at hs; omega)⟩, (TW.out.trans t7 (by simp)).trans T8 (by intro x hx; simp at hx; exact .inr (by omega)), FX.out⟩)
              simp [results, Try.results37, go_sem, d0, d1, d2, r0', r1', r2', r3']
            · have hr2 : res = none := by rw [HR1.out, if_neg hz]
              have hz0 : ¬ (D : Int) = 0 := by omega
              have hz1 : ((D : Int) == 0) = false := by simpa using hz0
              subst hr2
              go_wp2_with fail
              refine (hneed_no _).mono ?_
              rintro x w3 ⟨rfl, rfl⟩
              exact ⟨rfl, .inl ⟨rfl, rfl, TT.out.mono (by simp)⟩⟩
          · have hr1 : res = none := by rw [HRES.out]; unfold behindS; rw [if_neg HNM.out, if_neg hk1, if_neg hk26, if_pos hk7, if_neg (fun h => hs1 h.1)]
            subst hr1
            have s0 : (st == 1) = false := by simpa using hs1
            rw [hk] at e0
            clear HRES hk1 hk26 hs1 hk hk7
            go_wp2_with fail
            refine (hneed_no _).mono ?_
            rintro x w3 ⟨rfl, rfl⟩
            exact ⟨rfl, .inl ⟨rfl, rfl, T1.out.mono (by simp)⟩⟩
        · by_cases hk8 : e.k = 8
          · have hk := hk8
            by_cases hs1 : st = 2
            · subst hs1
              have hr1 : res = some (3, Fs) := by rw [HRES.out]; unfold behindS; rw [if_neg HNM.out, if_neg hk1, if_neg hk26, if_neg hk7, if_pos hk8]; simp
              have HR2 : Hid _ := hr1
              clear hr1 HRES hk1 hk26 hk7 hk8
              have hre := reached_any e 2
              have hval : e.val = .agg #[.int .u8 e.k, .int .i64 e.a, .int .i64 e.t, .int .u64 e.v] := rfl
              rw [hk] at hval e0
              rw [hval, hk, show reachS 8 2 = 3 from by decide] at hre
              have HKE : Hid _ := hk
              have HRE : Hid _ := hre
              clear hre hval hk
              have BB : Hid _ := B1.out
              have TT : Hid (Touch w w1 []) := T1.out
              go_wp2_with fail
              refine (hneed_yes _).mono ?_
              rintro x w3 ⟨rfl, rfl⟩
              clear c0 c1 c2 e0 e1 e2 e3 r0 r1 r2 r3
              have BW : Hid (Box3 w1 w.heap.size _ (ptr b) e) := BB.out
              have PW : Hid _ := HP0.out.touch TT.out
              have TW : Hid (Touch w w1 (pfoot b ch)) := TT.out.mono (by simp)
              have FW : Hid (∀ x ∈ pfoot b ch, x < w.heap.size ∨ w.heap.size + 2 < x) := fun x hx => .inl (FT.out x hx).2
              have FX : Hid (∀ y ∈ pfoot b ch, y ∈ pfoot b ch ∨ w.heap.size ≤ y) := fun y hy => .inl hy
              obtain ⟨⟨c0, c1, c2⟩, ⟨e0, e1, e2, e3⟩, ⟨r0, r1, r2, r3⟩⟩ := BW.out.cells
              rw [HKE.out] at e0
              go_wp2_with fail
              refine (HRE.out _).mono ?_
              rintro x w7 ⟨rfl, t7⟩
              have b7 := BW.out.touch t7 (by simp)
              obtain ⟨⟨d0, d1, d2⟩, _, ⟨r0', r1', r2', r3'⟩⟩ := b7.cells
              clear b7 c0 c1 c2 e0 e1 e2 e3 r0 r1 r2 r3
              go_wp2
              have T8 : Touch w7 (((w7.setCell ⟨w.heap.size, 0, none⟩ (.int .u8 3)).setCell ⟨w.heap.size + 1 + 1, 0, none⟩ (.int .u8 3)).setCell ⟨w.heap.size + 1 + 1, 1, none⟩ (ptr b)) [w.heap.size, w.heap.size + 2] := (((Touch.refl w7 _).setCell (.inl (by simp)) _).setCell (.inl (by simp)) _).setCell (.inl (by simp)) _
              refine bodyPost_ret (v := .agg #[.int .u8 3, ptr b]) ?_ rfl (.inr ⟨3, _, ptr b, _, HR2.out, rfl, .inr ⟨by omega, b, _, rfl, rfl, (PW.out.touch t7).keep T8 (fun x hx hs => by have h1 := FW.out x hx; simp at hs; omega)⟩, (TW.out.trans t7 (by simp)).trans T8 (by intro x hx; simp at hx; exact .inr (by omega)), FX.out⟩)
              simp [results, Try.results37, go_sem, d0, d1, d2, r0', r1', r2', r3']
            · have hr1 : res = none := by rw [HRES.out]; unfold behindS; rw [if_neg HNM.out, if_neg hk1, if_neg hk26, if_neg hk7, if_pos hk8, if_neg hs1]
              subst hr1
              have s0 : (st == 2) = false := by simpa using hs1
              rw [hk] at e0
              clear HRES hk1 hk26 hs1 hk hk7 hk8
              go_wp2_with fail
              refine (hneed_no _).mono ?_
              rintro x w3 ⟨rfl, rfl⟩
              exact ⟨rfl, .inl ⟨rfl, rfl, T1.out.mono (by simp)⟩⟩
          · by_cases hk9 : e.k = 9
            · have hk := hk9
              by_cases hs1 : st = 1
              · subst hs1
                have hr1 : res = some (4, Fs) := by rw [HRES.out]; unfold behindS; rw [if_neg HNM.out, if_neg hk1, if_neg hk26, if_neg hk7, if_neg hk8, if_pos hk9]; simp
                have HR2 : Hid _ := hr1
                clear hr1 HRES hk1 hk26 hk7 hk8 hk9
                have hre := reached_any e 1
                have hval : e.val = .agg #[.int .u8 e.k, .int .i64 e.a, .int .i64 e.t, .int .u64 e.v] := rfl
                rw [hk] at hval e0
                rw [hval, hk, show reachS 9 1 = 4 from by decide] at hre
                have HKE : Hid _ := hk
                have HRE : Hid _ := hre
                clear hre hval hk
                have BB : Hid _ := B1.out
                have TT : Hid (Touch w w1 []) := T1.out
                go_wp2_with fail
                refine (hneed_yes _).mono ?_
                rintro x w3 ⟨rfl, rfl⟩
                clear c0 c1 c2 e0 e1 e2 e3 r0 r1 r2 r3
                have BW : Hid (Box3 w1 w.heap.size _ (ptr b) e) := BB.out
                have PW : Hid _ := HP0.out.touch TT.out
                have TW : Hid (Touch w w1 (pfoot b ch)) := TT.out.mono (by simp)
                have FW : Hid (∀ x ∈ pfoot b ch, x < w.heap.size ∨ w.heap.size + 2 < x) := fun x hx => .inl (FT.out x hx).2
                have FX : Hid (∀ y ∈ pfoot b ch, y ∈ pfoot b ch ∨ w.heap.size ≤ y) := fun y hy => .inl hy
                obtain ⟨⟨c0, c1, c2⟩, ⟨e0, e1, e2, e3⟩, ⟨r0, r1, r2, r3⟩⟩ := BW.out.cells
                rw [HKE.out] at e0
                go_wp2_with fail
                refine (HRE.out _).mono ?_
                rintro x w7 ⟨rfl, t7⟩
                have b7 := BW.out.touch t7 (by simp)
                obtain ⟨⟨d0, d1, d2⟩, _, ⟨r0', r1', r2', r3'⟩⟩ := b7.cells
                clear b7 c0 c1 c2 e0 e1 e2 e3 r0 r1 r2 r3
                go_wp2
                have T8 : Touch w7 (((w7.setCell ⟨w.heap.size, 0, none⟩ (.int .u8 4)).setCell ⟨w.heap.size + 1 + 1, 0, none⟩ (.int .u8 4)).setCell ⟨w.heap.size + 1 + 1, 1, none⟩ (ptr b)) [w.heap.size, w.heap.size + 2] := (((Touch.refl w7 _).setCell (.inl (by simp)) _).setCell (.inl (by simp)) _).setCell (.inl (by simp)) _
                refine bodyPost_ret (v := .agg #[.int .u8 4, ptr b]) ?_ rfl (.inr ⟨4, _, ptr b, _, HR2.out, rfl, .inr ⟨by omega, b, _, rfl, rfl, (PW.out.touch t7).keep T8 (fun x hx hs => by have h1 := FW.out x hx; simp at hs; omega)⟩, (TW.out.trans t7 (by simp)).trans T8 (by intro x hx; simp at hx; exact .inr (by omega)), FX.out⟩)
                simp [results, Try.results37, go_sem, d0, d1, d2, r0', r1', r2', r3']
              · by_cases hs2 : st = 2
                · subst hs2
                  have hr1 : res = some (4, Fs) := by rw [HRES.out]; unfold behindS; rw [if_neg HNM.out, if_neg hk1, if_neg hk26, if_neg hk7, if_neg hk8, if_pos hk9]; simp
                  have HR2 : Hid _ := hr1
                  clear hr1 HRES hk1 hk26 hk7 hk8 hk9
                  have hre := reached_any e 2
                  have hval : e.val = .agg #[.int .u8 e.k, .int .i64 e.a, .int .i64 e.t, .int .u64 e.v] := rfl
                  rw [hk] at hval e0
                  rw [hval, hk, show reachS 9 2 = 4 from by decide] at hre
                  have HKE : Hid _ := hk
                  have HRE : Hid _ := hre
                  clear hre hval hk
                  have BB : Hid _ := B1.out
                  have TT : Hid (Touch w w1 []) := T1.out
                  go_wp2_with fail
                  refine (hneed_yes _).mono ?_
                  rintro x w3 ⟨rfl, rfl⟩
                  clear c0 c1 c2 e0 e1 e2 e3 r0 r1 r2 r3
                  have BW : Hid (Box3 w1 w.heap.size _ (ptr b) e) := BB.out
                  have PW : Hid _ := HP0.out.touch TT.out
                  have TW : Hid (Touch w w1 (pfoot b ch)) := TT.out.mono (by simp)
                  have FW : Hid (∀ x ∈ pfoot b ch, x < w.heap.size ∨ w.heap.size + 2 < x) := fun x hx => .inl (FT.out x hx).2
                  have FX : Hid (∀ y ∈ pfoot b ch, y ∈ pfoot b ch ∨ w.heap.size ≤ y) := fun y hy => .inl hy
                  obtain ⟨⟨c0, c1, c2⟩, ⟨e0, e1, e2, e3⟩, ⟨r0, r1, r2, r3⟩⟩ := BW.out.cells
                  rw [HKE.out] at e0
                  go_wp2_with fail
                  refine (HRE.out _).mono ?_
                  rintro x w7 ⟨rfl, t7⟩
                  have b7 := BW.out.touch t7 (by simp)
                  obtain ⟨⟨d0, d1, d2⟩, _, ⟨r0', r1', r2', r3'⟩⟩ := b7.cells
                  clear b7 c0 c1 c2 e0 e1 e2 e3 r0 r1 r2 r3
                  go_wp2
                  have T8 : Touch w7 (((w7.setCell ⟨w.heap.size, 0, none⟩ (.int .u8 4)).setCell ⟨w.heap.size + 1 + 1, 0, none⟩ (.int .u8 4)).setCell ⟨w.heap.size + 1 + 1, 1, none⟩ (ptr b)) [w.heap.size, w.heap.size + 2] := (((Touch.refl w7 _).setCell (.inl (by simp)) _).setCell (.inl (by simp)) _).setCell (.inl (by simp)) _
                  refine bodyPost_ret (v := .agg #[.int .u8 4, ptr b]) ?_ rfl (.inr ⟨4, _, ptr b, _, HR2.out, rfl, .inr ⟨by omega, b, _, rfl, rfl, (PW.out.touch t7).keep T8 (fun x hx hs => by have h1 := FW.out x hx; simp at hs; omega)⟩, (TW.out.trans t7 (by simp)).trans T8 (by intro x hx; simp at hx; exact .inr (by omega)), FX.out⟩)
                  simp [results, Try.results37, go_sem, d0, d1, d2, r0', r1', r2', r3']
                · have hr1 : res = none := by rw [HRES.out]; unfold behindS; rw [if_neg HNM.out, if_neg hk1, if_neg hk26, if_neg hk7, if_neg hk8, if_pos hk9, if_neg (fun h => by rcases h with h | h <;> contradiction)]
                  subst hr1
                  have s0 : (st == 1) = false := by simpa using hs1
                  have s1 : (st == 2) = false := by simpa using hs2
                  rw [hk] at e0
                  clear HRES hk1 hk26 hs1 hs2 hk hk7 hk8 hk9
                  go_wp2_with fail
                  refine (hneed_no _).mono ?_
                  rintro x w3 ⟨rfl, rfl⟩
                  exact ⟨rfl, .inl ⟨rfl, rfl, T1.out.mono (by simp)⟩⟩
            · have hr1 : res = none := by rw [HRES.out]; unfold behindS; rw [if_neg HNM.out, if_neg hk1, if_neg hk26, if_neg hk7, if_neg hk8, if_neg hk9]
              subst hr1
              have hk2 : ¬ e.k = 2 := by omega
              have hk3 : ¬ e.k = 3 := by omega
              have hk4 : ¬ e.k = 4 := by omega
              have hk5 : ¬ e.k = 5 := by omega
              have hk6 : ¬ e.k = 6 := by omega
              clear HRES hk26
              go_wp2_with fail
              refine (hneed_no _).mono ?_
              rintro x w3 ⟨rfl, rfl⟩
              exact ⟨rfl, .inl ⟨rfl, rfl, T1.out.mono (by simp)⟩⟩

end Go.Proofs.Ytjacclbifeoclaa

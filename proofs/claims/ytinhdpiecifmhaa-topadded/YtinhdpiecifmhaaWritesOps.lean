/-
  package writes: New, Put, Push, Drop, Merge BY THEIR CONTRACTS.
-/
import Derived.Test.YtinhdpiecifmhaaWritesGets
import Derived.Maps.RangeWalk
import Derived.Laws.IdiomRangeMap
namespace Go.Proofs.Ytinhdpiecifmhaa
set_option linter.unusedVariables false
set_option linter.unusedSimpArgs false
open Go.RowKit Go.Maps Go.Shelf

def putS : List Fr → Int → Int → Int × List Fr
  | [], _, _ => (0, [])
  | f :: r, t, v => if ¬ (0 ≤ t ∧ t < 12) then (2, f :: r) else if rightB v = false then (3, f :: r) else if (fget f t).isSome = false ∧ 16 ≤ lenF (f :: r) then (4, f :: r) else (0, fput f t v :: r)
def pushS (Fs : List Fr) : Int × List Fr := if 4 ≤ Fs.length - 1 then (4, Fs) else (0, f0 :: Fs)
def dropS : List Fr → Int × List Fr
  | _ :: g :: r => (0, g :: r)
  | Fs => (8, Fs)
def mergeS : List Fr → Int × List Fr
  | f :: g :: r => (0, fover f g :: r)
  | Fs => (8, Fs)

/-- What a deed leaves. -/
def OpPost (B : Nat) (w : World) (b : Nat) (ch : List (Nat × Nat)) (res : Int × List Fr) (e : Ending) (w' : World) : Prop :=
  ∃ ch', e = .returned (.int .i64 res.1) ∧ PLog B w' b ch' res.2 ∧ Touch w w' (pfoot b ch) ∧ ∀ x ∈ pfoot b ch', x ∈ pfoot b ch ∨ w.heap.size ≤ x

theorem PLog.stays {B : Nat} {w w' : World} {b : Nat} {ch : List (Nat × Nat)} {Fs : List Fr} (h : PLog B w b ch Fs) (t : Touch w w' []) (z : Int) : OpPost B w b ch (z, Fs) (.returned (.int .i64 z)) w' :=
  ⟨ch, rfl, h.touch t, t.mono (by simp), fun x hx => .inl hx⟩

theorem OpPost.after {B : Nat} {w w1 w' : World} {b : Nat} {ch : List (Nat × Nat)} {res : Int × List Fr} {e : Ending} (h : OpPost B w1 b ch res e w') (t : Touch w w1 []) : OpPost B w b ch res e w' := by
  obtain ⟨ch', he, hl, ht, hf⟩ := h
  exact ⟨ch', he, hl, (t.mono (by simp)).trans ht (fun x hx => .inl hx), fun x hx => (hf x hx).imp id (fun h => Nat.le_trans t.size h)⟩

/-- The uppermost frame turns. -/
theorem PLog.turn {B : Nat} {w w' : World} {b n m : Nat} {ch : List (Nat × Nat)} {f f' : Fr} {Fs : List Fr} (h : PLog B w b ((n, m) :: ch) (f :: Fs)) (t : Touch w w' [m]) (hf : FrAt w' m f') : PLog B w' b ((n, m) :: ch) (f' :: Fs) := by
  have hmap := (h.fr 0 (by simp) (by simp)).isMap
  obtain ⟨es, c, hm⟩ := hmap
  simp only [List.getElem_cons_zero] at hm
  have hb : b ∉ [m] := by
    simp only [List.mem_singleton]
    rintro rfl
    rw [h.st] at hm; cases hm
  have hN : ∀ p ∈ (n, m) :: ch, p.1 ∉ [m] := by
    intro p hp
    simp only [List.mem_singleton]
    intro e
    obtain ⟨i, hi, rfl⟩ := List.getElem_of_mem hp
    have := h.nodes i hi
    rw [e, hm] at this; cases this
  refine { h with st := (t.block _ (lt_of_heap h.st) hb).trans h.st, nodes := h.nodes.touch t hN, len := by simpa using h.len, fr := ?_ }
  intro k hk hk'
  cases k with
  | zero => exact hf
  | succ k =>
    have h1 := h.fr (k + 1) hk (by simpa using hk')
    simp only [List.getElem_cons_succ] at h1 ⊢
    refine h1.touch t ?_
    have := h.ndm
    simp only [List.map_cons, List.nodup_cons] at this
    simp only [List.mem_singleton]
    intro e
    exact this.1 (by rw [List.mem_map]; exact ⟨ch[k]'(by simpa using hk), List.getElem_mem _, e⟩)

theorem PLog.two {B : Nat} {w : World} {b : Nat} {ch : List (Nat × Nat)} {Fs : List Fr} (h : PLog B w b ch Fs) : ∃ n m c f r, ch = (n, m) :: c ∧ Fs = f :: r := by
  have h1 := h.pos
  have h2 := h.len
  match ch, Fs, h1, h2 with
  | (n, m) :: c, f :: r, _, _ => exact ⟨n, m, c, f, r, rfl, rfl⟩
  | (n, m) :: c, [], _, h => simp at h
  | [], _, h, _ => simp at h

theorem PLog.node0 {B : Nat} {w : World} {b n m : Nat} {ch : List (Nat × Nat)} {Fs : List Fr} (h : PLog B w b ((n, m) :: ch) Fs) : w.cell? ⟨n, 0, none⟩ = some (.map (some m)) ∧ w.cell? ⟨n, 1, none⟩ = some (hp ch) := by
  have := h.nodes 0 (by simp)
  simp only [List.getElem_cons_zero] at this
  simp [World.cell?, this]

set_option maxRecDepth 100000 in
theorem new_any (w : World) : Calls Try.prog 23 #[] w fun e w' => ∃ b ch, e = .returned (ptr b) ∧ PLog w.heap.size w' b ch [f0] ∧ Touch w w' [] := by
  have hmm := @run_makeMap Try.prog
  go_enter Try.func23, Try.ntmps23
  go_wp2
  go_ret
  have hm : FrAt (((w.alloc (.map #[] 0)).alloc (.cells #[.map (some w.heap.size), .pointer none] 116)).alloc (.cells #[ptr (w.heap.size + 1)] 118)) w.heap.size f0 :=
    FrAt.mk' (n := 0) (((World.ownsMap_made w _ _ _).alloc _).alloc _) FrOk.f0
  have hn := heap_alloc_new (w.alloc (.map #[] 0)) (.cells #[.map (some w.heap.size), .pointer none] 116)
  have hb := heap_alloc_new ((w.alloc (.map #[] 0)).alloc (.cells #[.map (some w.heap.size), .pointer none] 116)) (.cells #[ptr (w.heap.size + 1)] 118)
  rw [World.size_alloc] at hn
  rw [World.size_alloc, World.size_alloc] at hb
  refine ⟨w.heap.size + 1 + 1, [(w.heap.size + 1, w.heap.size)], by simp, ⟨by omega, by simp, hb, ?_, rfl, ?_, by simp, by simp, by simp, by simp⟩, (((Touch.refl w []).alloc _).alloc _).alloc _⟩
  · intro k hk
    obtain rfl : k = 0 := by simpa using hk
    exact (heap_alloc_old _ _ (lt_of_heap hn)).trans hn
  · intro k hk hk'
    obtain rfl : k = 0 := by simpa using hk
    exact hm

set_option maxRecDepth 100000 in
theorem put_any {B : Nat} {w : World} {b : Nat} {ch : List (Nat × Nat)} {Fs : List Fr} (h : PLog B w b ch Fs) (t v : Int) (ht : -9223372036854775808 ≤ t ∧ t ≤ 9223372036854775807) (hv : Wf64 v) :
    Calls Try.prog 64 #[ptr b, .int .i64 t, .int .u64 v] w (OpPost B w b ch (putS Fs t v)) := by
  obtain ⟨n, m, c, f, r, rfl, rfl⟩ := h.two
  unfold putS
  dsimp only
  by_cases h0 : 0 ≤ t ∧ t < 12
  · rw [if_neg (fun hh => hh h0)]
    have hr := right_any v
    obtain ⟨h0, h1⟩ := h0
    cases hrv : rightB v
    · rw [if_pos rfl]
      rw [hrv] at hr
      have HS : Hid _ := h
      clear h
      go_enter Try.func64, Try.ntmps64
      go_wp2_with fail
      refine (hr _).mono ?_
      rintro e w1 ⟨rfl, rfl⟩
      clear hr
      go_wp2
      go_ret
      exact HS.out.stays (Touch.refl _ _) 3
    · rw [if_neg (by simp)]
      rw [hrv] at hr
      have c0 : w.cell? ⟨b, 0, none⟩ = some (ptr n) := h.cell
      obtain ⟨c1, _⟩ := h.node0
      have hfr : FrAt w m f := h.fr 0 (by simp) (by simp)
      have hlk := hfr.look ht
      have hln := len_any h
      have HS : Hid _ := h
      clear h hfr
      cases hq : (fget f t).isSome
      · rw [hq] at hlk
        by_cases h16 : 16 ≤ lenF (f :: r)
        · rw [if_pos ⟨rfl, h16⟩]
          have h16' : (16 : Int) ≤ (lenF (f :: r) : Nat) := by omega
          go_enter Try.func64, Try.ntmps64
          go_wp2_with fail
          refine (hr _).mono ?_
          rintro e w1 ⟨rfl, rfl⟩
          clear hr
          go_wp2_with fail
          refine hln.mono ?_
          rintro e w1 ⟨rfl, t1⟩
          clear hln
          go_wp2
          go_ret
          exact HS.out.stays t1 4
        · rw [if_neg (fun hh => h16 hh.2)]
          have h16' : ¬ (16 : Int) ≤ (lenF (f :: r) : Nat) := by omega
          go_enter Try.func64, Try.ntmps64
          go_wp2_with fail
          refine (hr _).mono ?_
          rintro e w1 ⟨rfl, rfl⟩
          clear hr
          go_wp2_with fail
          refine hln.mono ?_
          rintro e w1 ⟨rfl, t1⟩
          clear hln c0 c1
          have h1' := HS.out.touch t1
          have c0 : w1.cell? ⟨b, 0, none⟩ = some (ptr n) := h1'.cell
          obtain ⟨c1, _⟩ := h1'.node0
          obtain ⟨w2, hst, hfr2, t2⟩ := (h1'.fr 0 (by simp) (by simp)).store (t := t) ⟨h0, h1⟩ hv
          simp only [List.getElem_cons_zero] at hst hfr2 t2
          have HP : Hid _ := h1'.turn t2 hfr2
          have HT : Hid _ := t2
          clear h1' hfr2 t2
          go_wp2
          go_ret
          exact OpPost.after ⟨_, rfl, HP.out, HT.out.mono (by simp [pfoot]), fun x hx => .inl hx⟩ t1
      · rw [hq] at hlk
        rw [if_neg (fun hh => by cases hh.1)]
        obtain ⟨w2, hst, hfr2, t2⟩ := (HS.out.fr 0 (by simp) (by simp)).store (t := t) ⟨h0, h1⟩ hv
        simp only [List.getElem_cons_zero] at hst hfr2 t2
        have HP : Hid _ := HS.out.turn t2 hfr2
        have HT : Hid _ := t2
        clear hfr2 t2 hln
        go_enter Try.func64, Try.ntmps64
        go_wp2_with fail
        refine (hr _).mono ?_
        rintro e w1 ⟨rfl, rfl⟩
        clear hr
        go_wp2
        go_ret
        exact ⟨_, rfl, HP.out, HT.out.mono (by simp [pfoot]), fun x hx => .inl hx⟩
  · rw [if_pos h0]
    have HS : Hid _ := h
    clear h
    by_cases h1 : 0 ≤ t
    · have h2 : ¬ t < 12 := fun hh => h0 ⟨h1, hh⟩
      clear h0
      go_enter Try.func64, Try.ntmps64
      go_wp2
      go_ret
      exact HS.out.stays (Touch.refl _ _) 2
    · clear h0
      go_enter Try.func64, Try.ntmps64
      go_wp2
      go_ret
      exact HS.out.stays (Touch.refl _ _) 2

/-- One frame more. -/
theorem PLog.push {B : Nat} {w w' : World} {b n m : Nat} {ch : List (Nat × Nat)} {Fs : List Fr} (h : PLog B w b ch Fs) (hB : B ≤ w.heap.size) (hl : ch.length < 5) (hm : w.heap.size ≤ m) (hn : w.heap.size ≤ n) (t : Touch w w' [b])
    (hb' : w'.heap[b]? = some (.cells #[ptr n] 118 (0, 0))) (hn' : w'.heap[n]? = some (nodeC m (hp ch))) (hf : FrAt w' m f0) : PLog B w' b ((n, m) :: ch) (f0 :: Fs) := by
  have hlt := h.foot_lt
  have hin1 : ∀ p ∈ ch, p.1 ∈ pfoot b ch := fun p hp => by simp only [pfoot, List.mem_cons, List.mem_append]; exact .inr (.inl (List.mem_map_of_mem hp))
  have hin2 : ∀ p ∈ ch, p.2 ∈ pfoot b ch := fun p hp => by simp only [pfoot, List.mem_cons, List.mem_append]; exact .inr (.inr (List.mem_map_of_mem hp))
  have hb1 : ∀ p ∈ ch, p.1 ∉ [b] := by
    intro p hp
    simp only [List.mem_singleton]
    rintro e
    obtain ⟨i, hi, rfl⟩ := List.getElem_of_mem hp
    have := h.nodes i hi
    rw [e, h.st] at this
    simp [nodeC] at this
  have hb2 : ∀ p ∈ ch, p.2 ∉ [b] := by
    intro p hp
    simp only [List.mem_singleton]
    rintro e
    obtain ⟨i, hi, rfl⟩ := List.getElem_of_mem hp
    obtain ⟨es, c, hm⟩ := (h.fr i hi (by rw [← h.len]; exact hi)).isMap
    rw [e, h.st] at hm
    cases hm
  refine ⟨h.hb, ?_, hb', ?_, by simp [h.len], ?_, ?_, ?_, by simp, by simp; omega⟩
  · intro p hp
    simp only [List.mem_cons] at hp
    rcases hp with rfl | hp
    · exact ⟨by simp; omega, by simp; omega⟩
    · exact h.hn p hp
  · intro k hk
    cases k with
    | zero => exact hn'
    | succ k => exact h.nodes.touch t hb1 k (by simpa using hk)
  · intro k hk hk'
    cases k with
    | zero => exact hf
    | succ k =>
      have hk2 : k < ch.length := by simpa using hk
      exact (h.fr k hk2 (by simpa using hk')).touch t (hb2 _ (List.getElem_mem hk2))
  · simp only [List.map_cons, List.nodup_cons]
    refine ⟨fun hh => ?_, h.ndn⟩
    obtain ⟨p, hp, e⟩ := List.mem_map.1 hh
    have := (hlt _ (hin1 p hp)).2
    omega
  · simp only [List.map_cons, List.nodup_cons]
    refine ⟨fun hh => ?_, h.ndm⟩
    obtain ⟨p, hp, e⟩ := List.mem_map.1 hh
    have := (hlt _ (hin2 p hp)).2
    omega

/-- One frame less. -/
theorem PLog.pop {B : Nat} {w : World} {b n m n' m' : Nat} {ch : List (Nat × Nat)} {f : Fr} {Fs : List Fr} (h : PLog B w b ((n, m) :: (n', m') :: ch) (f :: Fs)) :
    PLog B (w.setCell ⟨b, 0, none⟩ (ptr n')) b ((n', m') :: ch) Fs ∧ Touch w (w.setCell ⟨b, 0, none⟩ (ptr n')) [b] := by
  have t : Touch w (w.setCell ⟨b, 0, none⟩ (ptr n')) [b] := (Touch.refl _ _).setCell (.inl (by simp)) _
  have hb1 : ∀ p ∈ (n', m') :: ch, p.1 ∉ [b] := by
    intro p hp
    simp only [List.mem_singleton]
    rintro e
    obtain ⟨i, hi, rfl⟩ := List.getElem_of_mem hp
    have := h.nodes (i + 1) (by simpa using hi)
    simp only [List.getElem_cons_succ] at this
    rw [e, h.st] at this
    simp [nodeC] at this
  have hb2 : ∀ p ∈ (n', m') :: ch, p.2 ∉ [b] := by
    intro p hp
    simp only [List.mem_singleton]
    rintro e
    obtain ⟨i, hi, rfl⟩ := List.getElem_of_mem hp
    have hl := h.len
    simp only [List.length_cons] at hl hi
    obtain ⟨es, c, hm⟩ := (h.fr (i + 1) (by simp; omega) (by simp; omega)).isMap
    simp only [List.getElem_cons_succ] at hm
    rw [e, h.st] at hm
    cases hm
  have hl := h.len
  have h5 := h.le
  have hndn := h.ndn
  have hndm := h.ndm
  simp only [List.length_cons] at hl h5
  rw [List.map_cons, List.nodup_cons] at hndn hndm
  refine ⟨⟨h.hb, fun p hp => h.hn p (List.mem_cons_of_mem _ hp), ?_, ?_, by simp; omega, ?_, hndn.2, hndm.2, by simp, by simp; omega⟩, t⟩
  · have := h.st
    rw [heap_setCell_same _ _ _ _ _ _ this]; rfl
  · intro k hk
    have := h.nodes (k + 1) (by simpa using hk)
    exact (t.block _ (lt_of_heap this) (hb1 _ (List.getElem_mem hk))).trans this
  · intro k hk hk'
    exact (h.fr (k + 1) (by simpa using hk) (by simpa using hk')).touch t (hb2 _ (List.getElem_mem hk))

set_option maxRecDepth 100000 in
theorem push_any {B : Nat} {w : World} {b : Nat} {ch : List (Nat × Nat)} {Fs : List Fr} (h : PLog B w b ch Fs) : Calls Try.prog 38 #[ptr b] w (OpPost B w b ch (pushS Fs)) := by
  have hmm := @run_makeMap Try.prog
  have hd := depth_any h
  have hlen := h.len
  have h5 := h.le
  have HS : Hid _ := h
  clear h
  unfold pushS
  by_cases h4 : 4 ≤ Fs.length - 1
  · rw [if_pos h4]
    have h4' : (4 : Int) ≤ ((Fs.length - 1 : Nat) : Int) := by omega
    generalize ((Fs.length - 1 : Nat) : Int) = D at *
    go_enter Try.func38, Try.ntmps38
    go_wp2_with fail
    refine hd.mono ?_
    rintro e w1 ⟨rfl, t1⟩
    clear hd
    go_wp2
    go_ret
    exact HS.out.stays t1 4
  · rw [if_neg h4]
    have h4' : ¬ (4 : Int) ≤ ((Fs.length - 1 : Nat) : Int) := by omega
    generalize ((Fs.length - 1 : Nat) : Int) = D at *
    go_enter Try.func38, Try.ntmps38
    go_wp2_with fail
    refine hd.mono ?_
    rintro e w1 ⟨rfl, t1⟩
    clear hd
    have h1 := HS.out.touch t1
    have HB : Hid _ := Nat.le_trans (Nat.le_of_lt (Nat.lt_of_le_of_lt h1.hb (lt_of_heap h1.st))) (Nat.le_refl _)
    obtain ⟨p, hp'⟩ := hp_is ch
    have c0 : ∀ o, (w1.alloc o).cell? ⟨b, 0, none⟩ = some (.pointer p) := fun o => ((h1.touch ((Touch.refl w1 []).alloc o)).cell).trans (by rw [hp'])
    have c0' := h1.cell
    rw [hp'] at c0'
    have f0' := h1.frozen
    have HP : Hid _ := hp'
    have H1 : Hid _ := h1
    have hbl : b < w1.heap.size := lt_of_heap h1.st
    clear h1 hp'
    go_wp2
    go_ret
    obtain ⟨v, hv⟩ : ∃ v, v = ptr (w1.heap.size + 1) := ⟨_, rfl⟩
    have hsz : (w1.setCell ⟨b, 0, none⟩ v).heap.size = w1.heap.size := by simp [World.setCell]
    have hm := FrAt.mk' (n := 0) ((World.ownsMap_made (w1.setCell ⟨b, 0, none⟩ v) Try.prog 3 (plainElem (H := Unit) Try.prog 26)).alloc (nodeC w1.heap.size (.pointer p))) FrOk.f0
    have hn := heap_alloc_new ((w1.setCell ⟨b, 0, none⟩ v).alloc (.map #[] 0)) (nodeC w1.heap.size (.pointer p))
    have hb : (w1.setCell ⟨b, 0, none⟩ v).heap[b]? = some (.cells #[v] 118 (0, 0)) := by rw [heap_setCell_same _ _ _ _ _ _ H1.out.st]; rfl
    have hb2 := (heap_alloc_old ((w1.setCell ⟨b, 0, none⟩ v).alloc (.map #[] 0)) (nodeC w1.heap.size (.pointer p)) (r := b) (by rw [World.size_alloc, hsz]; omega)).trans ((heap_alloc_old (w1.setCell ⟨b, 0, none⟩ v) (.map #[] 0) (r := b) (by rw [hsz]; omega)).trans hb)
    rw [World.size_alloc, hsz] at hn
    rw [hsz] at hm
    have T : Touch w1 (((w1.setCell ⟨b, 0, none⟩ v).alloc (.map #[] 0)).alloc (nodeC w1.heap.size (.pointer p))) [b] := (((Touch.refl w1 [b]).setCell (.inl (by simp)) _).alloc _).alloc _
    rw [← HP.out] at hn hm hb2 T
    subst hv
    have hL := H1.out.push (n := w1.heap.size + 1) (m := w1.heap.size) HB.out (by omega) (Nat.le_refl _) (by omega) T hb2 hn hm
    rw [HP.out] at hL T
    refine OpPost.after ⟨_, rfl, hL, T.mono (by simp [pfoot]), ?_⟩ t1
    intro x hx
    simp only [pfoot, List.map_cons, List.cons_append, List.mem_cons, List.mem_append] at hx ⊢
    rcases hx with hx | hx | hx | hx | hx
    · exact .inl (.inl hx)
    · exact .inr (by omega)
    · exact .inl (.inr (.inl hx))
    · exact .inr (by omega)
    · exact .inl (.inr (.inr hx))

/-- What pop leaves. -/
def PopPost (B : Nat) (w : World) (b : Nat) (ch : List (Nat × Nat)) (Fs : List Fr) (e : Ending) (w' : World) : Prop :=
  match ch, Fs with
  | (n, m) :: (n', m') :: c, _ :: r => e = .returned (.tuple #[.map (some m), .int .i64 0]) ∧ PLog B w' b ((n', m') :: c) r ∧ w' = w.setCell ⟨b, 0, none⟩ (ptr n')
  | _, _ => e = .returned (.tuple #[.map none, .int .i64 8]) ∧ w = w'

set_option maxRecDepth 100000 in
theorem pop_any {B : Nat} {w : World} {b : Nat} {ch : List (Nat × Nat)} {Fs : List Fr} (h : PLog B w b ch Fs) : Calls Try.prog 65 #[ptr b] w (PopPost B w b ch Fs) := by
  obtain ⟨n, m, c, f, r, rfl, rfl⟩ := h.two
  have c0 : w.cell? ⟨b, 0, none⟩ = some (ptr n) := h.cell
  have f0' := h.frozen
  obtain ⟨c1, c2⟩ := h.node0
  cases c with
  | nil =>
    unfold PopPost
    dsimp only
    have c2' : w.cell? ⟨n, 1, none⟩ = some (.pointer none) := c2
    clear c2 h
    go_enter Try.func65, Try.ntmps65
    go_wp2
    go_ret2
    exact ⟨rfl, rfl⟩
  | cons p c =>
    obtain ⟨n', m'⟩ := p
    unfold PopPost
    dsimp only
    have c2' : w.cell? ⟨n, 1, none⟩ = some (ptr n') := c2
    obtain ⟨hp1, t1⟩ := h.pop
    have HP : Hid _ := hp1
    clear c2 h hp1 t1
    go_enter Try.func65, Try.ntmps65
    go_wp2
    go_ret2
    exact ⟨rfl, HP.out, rfl⟩

theorem pfoot_pop {b n m n' m' : Nat} {c : List (Nat × Nat)} : ∀ x ∈ pfoot b ((n', m') :: c), x ∈ pfoot b ((n, m) :: (n', m') :: c) := by
  intro x hx
  simp only [pfoot, List.map_cons, List.cons_append, List.mem_cons, List.mem_append] at hx ⊢
  rcases hx with hx | hx | hx | hx | hx
  · exact .inl hx
  · exact .inr (.inr (.inl hx))
  · exact .inr (.inr (.inr (.inl hx)))
  · exact .inr (.inr (.inr (.inr (.inr (.inl hx)))))
  · exact .inr (.inr (.inr (.inr (.inr (.inr hx)))))

set_option maxRecDepth 100000 in
theorem drop_any {B : Nat} {w : World} {b : Nat} {ch : List (Nat × Nat)} {Fs : List Fr} (h : PLog B w b ch Fs) : Calls Try.prog 39 #[ptr b] w (OpPost B w b ch (dropS Fs)) := by
  have hp1 := pop_any h
  obtain ⟨n, m, c, f, r, rfl, rfl⟩ := h.two
  have hl := h.len
  cases c with
  | nil =>
    obtain rfl : r = [] := by simpa [eq_comm] using hl
    unfold PopPost at hp1
    dsimp only at hp1
    unfold dropS
    dsimp only
    have HS : Hid _ := h
    clear h
    go_enter Try.func39, Try.ntmps39
    go_wp2_with fail
    refine hp1.mono ?_
    rintro e w1 ⟨rfl, rfl⟩
    clear hp1
    go_wp2
    go_ret
    exact HS.out.stays (Touch.refl _ _) 8
  | cons p c =>
    obtain ⟨n', m'⟩ := p
    cases r with
    | nil => simp at hl
    | cons g r =>
      unfold PopPost at hp1
      dsimp only at hp1
      unfold dropS
      dsimp only
      clear h hl
      go_enter Try.func39, Try.ntmps39
      go_wp2_with fail
      refine hp1.mono ?_
      rintro e w1 ⟨rfl, h1, hw1⟩
      have HP : Hid _ := h1
      have HW : Hid _ := hw1
      clear hp1 h1 hw1
      go_wp2
      go_ret
      refine ⟨_, rfl, HP.out, ?_, fun x hx => .inl (pfoot_pop x hx)⟩
      rw [HW.out]
      exact (Touch.refl _ _).setCell (.inl (by simp [pfoot])) _

set_option maxHeartbeats 4000000 in
set_option maxRecDepth 100000 in
theorem copy_any {w : World} {d s : Nat} {f g : Fr} (hd : FrAt w d g) (hs : FrAt w s f) (hne : d ≠ s) :
    Calls Try.prog 66 #[.map (some d), .map (some s)] w fun e w' => e = .returned (.tuple #[]) ∧ FrAt w' d (fover f g) ∧ Touch w w' [d] := by
  have hdo := hd.own
  have hso := hs.own
  have hbd := hdo.lt
  have hbs := hso.lt
  have K := Try.keyed
  have hok := hs.ok.over hd.ok
  have hsz : Maps.size (frameD f) ≤ 12 := by rw [size_frame]; exact fcnt_le hs.ok
  have HEQ : Hid (Canon (Lib.mergeD (frameD g) (frameD f)) → Lib.mergeD (frameD g) (frameD f) = frameD (fover f g)) := fun c => frame_over hs.ok hd.ok c
  have HOK : Hid _ := hok
  clear hok hd hs
  go_enter Try.func66, Try.ntmps66
  go_wp2_with (first
    | (at_range; refine wpList_range_own _ rfl _ 114 rfl 3 26 K Try.underlying114 (plainElem (H := Unit) Try.prog 26) s 12 _ rfl hso ?_; intro w0 hrg0 hg0 hs0)
    | go_in)
  go_frame
  go_loopw [8] (fun _ wr => ∃ (left : Lit → Bool) (cnt : Nat) (Dout : DataW Unit), wr.ranges Try.prog 3 (plainElem (H := Unit) Try.prog 26) s w.heap.size 12 (frameD f) left cnt ∧ cnt ≤ Maps.size (frameD f) ∧
      wr.ownsMap Try.prog 3 (plainElem (H := Unit) Try.prog 26) d (12 + (Maps.size (frameD f) - cnt)) Dout ∧ Merged Dout (frameD g) (frameD f) left ∧ w.grownBy wr (some d))
    (fun _ wr => wr.rangeLeft s w.heap.size)
  case atStart =>
    exact ⟨_, _, frameD g, hrg0, Nat.le_refl _, (hdo.kept hg0 (by simp)).mono (by omega), merged_start _ _, hg0.but _⟩
  case round =>
    obtain ⟨left, cnt, Dout, hrg, hcs, hout, hM, hgw⟩ := hrel
    go_wp2_with (first
      | (at_next; refine wpList_next_ranges _ rfl _ rfl 3 K (plainElem (H := Unit) Try.prog 26) id id (fun key _ _ => ⟨key, rfl⟩) (fun v _ _ => ⟨v, rfl⟩) s w.heap.size 12 _ _ _ rfl hrg ?_ ?_)
      | go_in)
    · intro hc0 hl0
      go_wp2
      go_end0
      subst hc0
      have e := merged_eq K.one hM hl0 (hout.canon K) (hdo.canonK K) (hso.canonK K)
      subst e
      have hc := hout.canon K
      rw [HEQ.out hc] at hout
      exact ⟨rfl, FrAt.mk' hout HOK.out, ⟨hgw.os, hgw.tape, hgw.output, hgw.size, fun k hk hne => hgw.block k hk (fun e => hne (by cases e; simp))⟩⟩
    · intro x c kl yd yp w1 cnt1 hkey hlx hv hat hrg1 hlt hg1 hs1 hen
      have hout1 := hout.kept hg1 (fun e => by have := Option.some.inj e; omega)
      go_wp2_with (first
        | (at_mapUpdate; refine wpList_mapUpdate_own _ rfl _ _ _ 114 rfl 3 26 K Try.underlying114 (plainElem (H := Unit) Try.prog 26) d _ _ rfl hout1 (by unfold maxLen; omega) _ _ _ rfl rfl hkey yd yp hv ?_; intro w2 hout2 hg2; go_frame)
        | go_in)
      have hrg2 := hrg1.kept hg2 (fun e => hne (Option.some.inj e).symm) (fun e => by have := Option.some.inj e; omega)
      go_roundw
      case rel =>
        exact ⟨_, cnt1, _, hrg2, by omega, hout2.mono (by omega), merged_step hM hout.isMap (K.key hkey) hat, (hgw.andThen hg1 (fun j hj => .inl (by cases hj; exact Nat.le_refl _))).andThen hg2 (fun j hj => .inr hj)⟩
      case measure => rw [hrg2.left_eq, hrg.left_eq]; exact hlt

set_option maxRecDepth 100000 in
theorem merge_any {B : Nat} {w : World} {b : Nat} {ch : List (Nat × Nat)} {Fs : List Fr} (h : PLog B w b ch Fs) : Calls Try.prog 40 #[ptr b] w (OpPost B w b ch (mergeS Fs)) := by
  have hp1 := pop_any h
  obtain ⟨n, m, c, f, r, rfl, rfl⟩ := h.two
  have hl := h.len
  cases c with
  | nil =>
    obtain rfl : r = [] := by simpa [eq_comm] using hl
    unfold PopPost at hp1
    dsimp only at hp1
    unfold mergeS
    dsimp only
    have HS : Hid _ := h
    clear h
    go_enter Try.func40, Try.ntmps40
    go_wp2_with fail
    refine hp1.mono ?_
    rintro e w1 ⟨rfl, rfl⟩
    clear hp1
    go_wp2
    go_ret
    exact HS.out.stays (Touch.refl _ _) 8
  | cons p c =>
    obtain ⟨n', m'⟩ := p
    cases r with
    | nil => simp at hl
    | cons g r =>
      unfold PopPost at hp1
      dsimp only at hp1
      unfold mergeS
      dsimp only
      have hmm : m' ≠ m := by
        have := h.ndm
        simp only [List.map_cons, List.nodup_cons, List.mem_cons] at this
        exact fun e => this.1 (.inl e.symm)
      have hfm : FrAt w m f := h.fr 0 (by simp) (by simp)
      obtain ⟨h1', t1⟩ := h.pop
      have hmb : m ∉ [b] := by
        simp only [List.mem_singleton]
        rintro rfl
        obtain ⟨es, c, hm⟩ := hfm.isMap
        rw [h.st] at hm; cases hm
      have hfm1 := hfm.touch t1 hmb
      have HT1 : Hid _ := t1
      have HF1 : Hid _ := hfm1
      clear h hl hfm t1 h1' hfm1
      go_enter Try.func40, Try.ntmps40
      go_wp2_with fail
      refine hp1.mono ?_
      rintro e w1 ⟨rfl, h1, hw1⟩
      have hfm1 := HF1.out
      have t1 := HT1.out
      rw [← hw1] at hfm1 t1
      have c0 : w1.cell? ⟨b, 0, none⟩ = some (ptr n') := h1.cell
      obtain ⟨c1, _⟩ := h1.node0
      have hc := copy_any (h1.fr 0 (by simp) (by simp)) hfm1 hmm
      simp only [List.getElem_cons_zero] at hc
      have H1 : Hid _ := h1
      have HT : Hid _ := t1
      clear hp1 h1 hw1 hfm1 t1 HT1 HF1
      go_wp2_with fail
      refine hc.mono ?_
      rintro e w2 ⟨rfl, hf2, t2⟩
      have HP : Hid _ := H1.out.turn t2 hf2
      have HT2 : Hid _ := t2
      clear hc hf2 t2
      go_wp2
      go_ret
      refine ⟨_, rfl, HP.out, (HT.out.mono (by simp [pfoot])).trans HT2.out (by simp [pfoot]), fun x hx => .inl (pfoot_pop x hx)⟩

end Go.Proofs.Ytinhdpiecifmhaa

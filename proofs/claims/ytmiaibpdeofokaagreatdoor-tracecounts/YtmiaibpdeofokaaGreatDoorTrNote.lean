/-
  package trace: A ROW OF COURSES; note, before BY THEIR CONTRACTS.
-/
import Derived.Test.YtmiaibpdeofokaaGreatDoorTrBusy
import Derived.Deep.RegionHeld3
namespace Go.Proofs.YtmiaibpdeofokaaGreatDoor
set_option linter.unusedVariables false
set_option linter.unusedSimpArgs false
open Go.RowKit Go.Maps
attribute [local go_sem] Oper.semAt_some

/-- Four cells. -/
structure Q4 where
  v0 : Value
  v1 : Value
  v2 : Value
  v3 : Value
def Q4.cells (q : Q4) : List Value := [q.v0, q.v1, q.v2, q.v3]
abbrev Q4.val (q : Q4) : Value := .agg #[q.v0, q.v1, q.v2, q.v3]
/-- A row of such in a block of its own. -/
structure R4 (w : World) (g : Nat) (X : List Q4) : Prop where
  st : w.heap[g]? = some (.cells (X.flatMap Q4.cells).toArray 74 (0, 0))
theorem R4.touch {w w' : World} {g : Nat} {X : List Q4} {S : List Nat} (h : R4 w g X) (t : Touch w w' S) (hS : g ∉ S) : R4 w' g X := ⟨(t.block g (lt_of_heap h.st) hS).trans h.st⟩
theorem R4.cell {w : World} {g : Nat} {X : List Q4} (h : R4 w g X) {k : Nat} {q : Q4} (hk : X[k]? = some q) (j : Nat) (hj : j < 4) : w.cell? ⟨g, k * 4 + j, none⟩ = q.cells[j]? := by
  obtain ⟨hl, he⟩ := List.getElem?_eq_some_iff.1 hk
  have h2 := flat_at (cells := Q4.cells) (n := 4) (fun _ => rfl) X k hl j hj
  rw [he] at h2
  unfold World.cell?
  rw [h.st, ← h2]
  simp
theorem R4.fr {w : World} {g : Nat} {X : List Q4} (h : R4 w g X) (j : Nat) : w.frozen? ⟨g, j, none⟩ = false := by unfold World.frozen?; rw [h.st]; simp
theorem flat_put {X : List Q4} : ∀ {k : Nat} {q q' : Q4} (j : Nat) (v : Value), X[k]? = some q → j < 4 → q'.cells = q.cells.set j v → (X.flatMap Q4.cells).set (k * 4 + j) v = (X.set k q').flatMap Q4.cells := by
  induction X with
  | nil => intro k q q' j v h; simp at h
  | cons x X ih =>
    intro k q q' j v h hj hq
    cases k with
    | zero =>
      simp at h
      subst h
      simp only [List.flatMap_cons, List.set_cons_zero, Nat.zero_mul, Nat.zero_add]
      rw [List.set_append_left _ _ (by show j < 4; exact hj), hq]
    | succ k =>
      simp only [List.flatMap_cons, List.set_cons_succ]
      rw [List.set_append_right _ _ (by show 4 ≤ (k + 1) * 4 + j; omega)]
      have e : (k + 1) * 4 + j - x.cells.length = k * 4 + j := by show (k + 1) * 4 + j - 4 = _; omega
      rw [e, ih j v (by simpa using h) hj hq]
theorem R4.put {w : World} {g : Nat} {X : List Q4} (h : R4 w g X) {k : Nat} {q q' : Q4} (hk : X[k]? = some q) (j : Nat) (hj : j < 4) (v : Value) (hq : q'.cells = q.cells.set j v) : R4 (w.setCell ⟨g, k * 4 + j, none⟩ v) g (X.set k q') :=
  ⟨by rw [heap_setCell_same _ _ _ _ _ _ h.st, ← flat_put j v hk hj hq]; simp⟩
theorem R4.set_same {X : List Q4} {k : Nat} {q : Q4} (h : X[k]? = some q) : X.set k q = X := by
  apply List.ext_getElem?
  intro i
  rw [List.getElem?_set]
  split
  · rename_i e
    subst e
    split
    · exact h.symm
    · rename_i hn; rw [List.getElem?_eq_none (by omega)]
  · rfl
/-- Kinds as a map's values. -/
def liftK (G : Int → Option Int) : Int → Option Value := fun x => (G x).map (Value.int .u8)
theorem lift_upd (G : Int → Option Int) (t v : Int) : liftK (updF G t v) = updF (liftK G) t (.int .u8 v) := by
  funext x
  unfold liftK updF
  split <;> simp_all
/-- What an event does to a course: where it began, where it ended, what it touched. -/
def begQ (b a : Int) (e : EvD) : Int := if e.k = 1 then min b a else b
def endQ (x a : Int) (e : EvD) : Int := if e.k = 8 ∨ e.k = 9 then min x a else x
def tchQ (G : Int → Option Int) (e : EvD) : Int → Option Int := if tchB e then updF G e.t (max ((G e.t).getD 0) e.k) else G

set_option maxRecDepth 100000 in
set_option maxHeartbeats 4000000 in
theorem note_ev {w : World} {g p m n : Nat} {X : List Q4} {va : Value} {b x : Int} {G : Int → Option Int} (hX : R4 w g X) (hp : X[p]? = some ⟨va, .int .i64 b, .int .i64 x, .map (some m)⟩) (hm : MapF w m n (liftK G)) (hgm : m ≠ g) (hn : n ≤ 100000) (a : Int) (e : EvD) (he : e.Wf) :
    Calls Tryz.prog 61 #[.pointer (some ⟨g, p * 4, none⟩), .int .i64 a, e.val] w fun y w' => y = .returned (.tuple #[]) ∧ R4 w' g (X.set p ⟨va, .int .i64 (begQ b a e), .int .i64 (endQ x a e), .map (some m)⟩) ∧ MapF w' m (n + 1) (liftK (tchQ G e)) ∧ Touch w w' [g, m] := by
  obtain ⟨ek, ea, et, ev⟩ := e
  have het : W64 et := he.t
  clear he
  by_cases h2 : ek = 2
  · subst h2
    have hnk : True := trivial
    clear hnk
    have T1 : Touch w (w.alloc (.cells #[.int .u8 2, .int .i64 ea, .int .i64 et, .int .u64 ev] 50)) [] := (Touch.refl w []).alloc _
    have hlk := ((hm.touch T1 (by simp)).touch ((Touch.refl _ []).drew) (by simp)).look Tryz.underlying72 (z := .int .u8 0) (by kernel_rfl) het
    have hlk2 : (liftK G et).getD (.int .u8 0) = .int .u8 ((G et).getD 0) := by unfold liftK; cases G et <;> rfl
    rw [hlk2] at hlk
    obtain ⟨w2, hst, hm2, hg2⟩ := ((hm.touch T1 (by simp)).touch ((Touch.refl _ []).drew) (by simp)).store Tryz.underlying72 (by unfold maxLen; omega) het (.int .u8 (max ((G et).getD 0) 2))
    have t2 : Touch w w2 [m] := ((T1.drew).mono (by simp)).grown hg2 (by intro q hq; cases hq; exact .inl (by simp))
    have c3 : (w.alloc (.cells #[.int .u8 2, .int .i64 ea, .int .i64 et, .int .u64 ev] 50)).cell? ⟨g, p * 4 + 3, none⟩ = some (.map (some m)) := (T1.cell (p := ⟨g, p * 4 + 3, none⟩) (lt_of_heap hX.st) (by simp)).trans (hX.cell hp 3 (by omega))
    have x0 : (w.alloc (.cells #[.int .u8 2, .int .i64 ea, .int .i64 et, .int .u64 ev] 50)).cell? ⟨w.heap.size, 0, none⟩ = some (.int .u8 2) := by simp [go_sem]
    have x2 : (w.alloc (.cells #[.int .u8 2, .int .i64 ea, .int .i64 et, .int .u64 ev] 50)).cell? ⟨w.heap.size, 2, none⟩ = some (.int .i64 et) := by simp [go_sem]
    have tg : Touch (w.alloc (.cells #[.int .u8 2, .int .i64 ea, .int .i64 et, .int .u64 ev] 50)) w2 [m] := (((Touch.refl _ []).drew).mono (by simp)).grown hg2 (by intro q hq; cases hq; exact .inl (by simp))
    have hml := hm.lt
    have HKP : Hid (w2.cell? ⟨w.heap.size, 0, none⟩ = some (.int .u8 2) ∧ w2.cell? ⟨w.heap.size, 2, none⟩ = some (.int .i64 et) ∧ w2.cell? ⟨g, p * 4 + 3, none⟩ = some (.map (some m))) := ⟨(tg.cell (by simp) (by simp; omega)).trans x0, (tg.cell (by simp) (by simp; omega)).trans x2, (t2.cell (p := ⟨g, p * 4 + 3, none⟩) (lt_of_heap hX.st) (by simp; omega)).trans (hX.cell hp 3 (by omega))⟩
    have HFIN : Hid (R4 w2 g (X.set p ⟨va, .int .i64 (begQ b a ⟨2, ea, et, ev⟩), .int .i64 (endQ x a ⟨2, ea, et, ev⟩), .map (some m)⟩) ∧ MapF w2 m (n + 1) (liftK (tchQ G ⟨2, ea, et, ev⟩)) ∧ Touch w w2 [g, m]) := by
      refine ⟨?_, ?_, t2.mono (by simp)⟩
      · have e1 : begQ b a ⟨2, ea, et, ev⟩ = b := by simp [begQ]
        have e2 : endQ x a ⟨2, ea, et, ev⟩ = x := by simp [endQ]
        rw [e1, e2, R4.set_same hp]
        exact hX.touch t2 (by simp; omega)
      · have e3 : tchQ G ⟨2, ea, et, ev⟩ = updF G et (max ((G et).getD 0) 2) := by simp [tchQ, tchB]
        rw [e3, lift_upd]
        exact hm2
    clear T1 hlk2 hm2 hg2 t2 tg hml hm hX hp hgm hn
    go_enter Tryz.func61, Tryz.ntmps61
    go_wp2_with fail
    refine wp_region_held_drew (S := (fun W : World => W.cell? ⟨w.heap.size, 0, none⟩ = some (.int .u8 2) ∧ W.cell? ⟨w.heap.size, 2, none⟩ = some (.int .i64 et) ∧ W.cell? ⟨g, p * 4 + 3, none⟩ = some (.map (some m)))) (by kernel_rfl) ⟨by simp, by simp, by simpa using c3⟩ (fun hHeld => ?_)
    try simp only [Act.put, List.getElem_toArray, List.getElem_cons_succ, List.getElem_cons_zero, List.setIfInBounds_toArray, List.set_cons_zero, List.set_cons_succ]
    refine wpAnyH_take (i := 0) (v := (.pointer (some ⟨g, p * 4, none⟩))) rfl (by kernel_rfl) (by kernel_rfl) (by kernel_rfl) (fun _ _ _ h => h) (Or.inl ⟨by rfl, ?_⟩) hHeld ?_
    · intro w' hSw
      try simp only [Act.put, List.getElem_toArray, List.getElem_cons_succ, List.getElem_cons_zero, List.setIfInBounds_toArray, List.set_cons_zero, List.set_cons_succ]
      (obtain ⟨q0, q2, q3⟩ := hSw; go_simp)
    try simp only [Act.put, List.getElem_toArray, List.getElem_cons_succ, List.getElem_cons_zero, List.setIfInBounds_toArray, List.set_cons_zero, List.set_cons_succ]
    refine wpAnyH_take (i := 1) (v := (.pointer (some ⟨g, p * 4, none⟩))) rfl (by kernel_rfl) (by kernel_rfl) (by kernel_rfl) (fun _ _ _ h => h) (Or.inl ⟨by rfl, ?_⟩) hHeld ?_
    · intro w' hSw
      try simp only [Act.put, List.getElem_toArray, List.getElem_cons_succ, List.getElem_cons_zero, List.setIfInBounds_toArray, List.set_cons_zero, List.set_cons_succ]
      (obtain ⟨q0, q2, q3⟩ := hSw; go_simp)
    try simp only [Act.put, List.getElem_toArray, List.getElem_cons_succ, List.getElem_cons_zero, List.setIfInBounds_toArray, List.set_cons_zero, List.set_cons_succ]
    refine wpAnyH_take (i := 2) (v := (.pointer (some ⟨g, p * 4 + 3, none⟩))) rfl (by kernel_rfl) (by kernel_rfl) (by kernel_rfl) (fun _ _ _ h => h) (Or.inl ⟨by rfl, ?_⟩) hHeld ?_
    · intro w' hSw
      try simp only [Act.put, List.getElem_toArray, List.getElem_cons_succ, List.getElem_cons_zero, List.setIfInBounds_toArray, List.set_cons_zero, List.set_cons_succ]
      (obtain ⟨q0, q2, q3⟩ := hSw; go_simp)
    try simp only [Act.put, List.getElem_toArray, List.getElem_cons_succ, List.getElem_cons_zero, List.setIfInBounds_toArray, List.set_cons_zero, List.set_cons_succ]
    refine wpAnyH_take (i := 3) (v := (.map (some m))) rfl (by kernel_rfl) (by kernel_rfl) (by kernel_rfl) (fun _ _ _ h => h) (Or.inl ⟨by rfl, ?_⟩) hHeld ?_
    · intro w' hSw
      try simp only [Act.put, List.getElem_toArray, List.getElem_cons_succ, List.getElem_cons_zero, List.setIfInBounds_toArray, List.set_cons_zero, List.set_cons_succ]
      (obtain ⟨q0, q2, q3⟩ := hSw; go_simp)
    try simp only [Act.put, List.getElem_toArray, List.getElem_cons_succ, List.getElem_cons_zero, List.setIfInBounds_toArray, List.set_cons_zero, List.set_cons_succ]
    refine wpAnyH_take (i := 4) (v := (.pointer (some ⟨w.heap.size, 2, none⟩))) rfl (by kernel_rfl) (by kernel_rfl) (by kernel_rfl) (fun _ _ _ h => h) (Or.inl ⟨by rfl, ?_⟩) hHeld ?_
    · intro w' hSw
      try simp only [Act.put, List.getElem_toArray, List.getElem_cons_succ, List.getElem_cons_zero, List.setIfInBounds_toArray, List.set_cons_zero, List.set_cons_succ]
      (obtain ⟨q0, q2, q3⟩ := hSw; go_simp)
    try simp only [Act.put, List.getElem_toArray, List.getElem_cons_succ, List.getElem_cons_zero, List.setIfInBounds_toArray, List.set_cons_zero, List.set_cons_succ]
    refine wpAnyH_take (i := 5) (v := (.int .i64 et)) rfl (by kernel_rfl) (by kernel_rfl) (by kernel_rfl) (fun _ _ _ h => h) (Or.inl ⟨by rfl, ?_⟩) hHeld ?_
    · intro w' hSw
      try simp only [Act.put, List.getElem_toArray, List.getElem_cons_succ, List.getElem_cons_zero, List.setIfInBounds_toArray, List.set_cons_zero, List.set_cons_succ]
      (obtain ⟨q0, q2, q3⟩ := hSw; go_simp)
    try simp only [Act.put, List.getElem_toArray, List.getElem_cons_succ, List.getElem_cons_zero, List.setIfInBounds_toArray, List.set_cons_zero, List.set_cons_succ]
    refine wpAnyH_take (i := 6) (v := (.pointer (some ⟨g, p * 4, none⟩))) rfl (by kernel_rfl) (by kernel_rfl) (by kernel_rfl) (fun _ _ _ h => h) (Or.inl ⟨by rfl, ?_⟩) hHeld ?_
    · intro w' hSw
      try simp only [Act.put, List.getElem_toArray, List.getElem_cons_succ, List.getElem_cons_zero, List.setIfInBounds_toArray, List.set_cons_zero, List.set_cons_succ]
      (obtain ⟨q0, q2, q3⟩ := hSw; go_simp)
    try simp only [Act.put, List.getElem_toArray, List.getElem_cons_succ, List.getElem_cons_zero, List.setIfInBounds_toArray, List.set_cons_zero, List.set_cons_succ]
    refine wpAnyH_take (i := 7) (v := (.pointer (some ⟨g, p * 4, none⟩))) rfl (by kernel_rfl) (by kernel_rfl) (by kernel_rfl) (fun _ _ _ h => h) (Or.inl ⟨by rfl, ?_⟩) hHeld ?_
    · intro w' hSw
      try simp only [Act.put, List.getElem_toArray, List.getElem_cons_succ, List.getElem_cons_zero, List.setIfInBounds_toArray, List.set_cons_zero, List.set_cons_succ]
      (obtain ⟨q0, q2, q3⟩ := hSw; go_simp)
    try simp only [Act.put, List.getElem_toArray, List.getElem_cons_succ, List.getElem_cons_zero, List.setIfInBounds_toArray, List.set_cons_zero, List.set_cons_succ]
    refine wpAnyH_take (i := 8) (v := (.pointer (some ⟨g, p * 4 + 3, none⟩))) rfl (by kernel_rfl) (by kernel_rfl) (by kernel_rfl) (fun _ _ _ h => h) (Or.inl ⟨by rfl, ?_⟩) hHeld ?_
    · intro w' hSw
      try simp only [Act.put, List.getElem_toArray, List.getElem_cons_succ, List.getElem_cons_zero, List.setIfInBounds_toArray, List.set_cons_zero, List.set_cons_succ]
      (obtain ⟨q0, q2, q3⟩ := hSw; go_simp)
    try simp only [Act.put, List.getElem_toArray, List.getElem_cons_succ, List.getElem_cons_zero, List.setIfInBounds_toArray, List.set_cons_zero, List.set_cons_succ]
    refine wpAnyH_take (i := 9) (v := (.map (some m))) rfl (by kernel_rfl) (by kernel_rfl) (by kernel_rfl) (fun _ _ _ h => h) (Or.inl ⟨by rfl, ?_⟩) hHeld ?_
    · intro w' hSw
      try simp only [Act.put, List.getElem_toArray, List.getElem_cons_succ, List.getElem_cons_zero, List.setIfInBounds_toArray, List.set_cons_zero, List.set_cons_succ]
      (obtain ⟨q0, q2, q3⟩ := hSw; go_simp)
    try simp only [Act.put, List.getElem_toArray, List.getElem_cons_succ, List.getElem_cons_zero, List.setIfInBounds_toArray, List.set_cons_zero, List.set_cons_succ]
    refine wpAnyH_take (i := 10) (v := (.pointer (some ⟨w.heap.size, 2, none⟩))) rfl (by kernel_rfl) (by kernel_rfl) (by kernel_rfl) (fun _ _ _ h => h) (Or.inl ⟨by rfl, ?_⟩) hHeld ?_
    · intro w' hSw
      try simp only [Act.put, List.getElem_toArray, List.getElem_cons_succ, List.getElem_cons_zero, List.setIfInBounds_toArray, List.set_cons_zero, List.set_cons_succ]
      (obtain ⟨q0, q2, q3⟩ := hSw; go_simp)
    try simp only [Act.put, List.getElem_toArray, List.getElem_cons_succ, List.getElem_cons_zero, List.setIfInBounds_toArray, List.set_cons_zero, List.set_cons_succ]
    refine wpAnyH_take (i := 11) (v := (.int .i64 et)) rfl (by kernel_rfl) (by kernel_rfl) (by kernel_rfl) (fun _ _ _ h => h) (Or.inl ⟨by rfl, ?_⟩) hHeld ?_
    · intro w' hSw
      try simp only [Act.put, List.getElem_toArray, List.getElem_cons_succ, List.getElem_cons_zero, List.setIfInBounds_toArray, List.set_cons_zero, List.set_cons_succ]
      (obtain ⟨q0, q2, q3⟩ := hSw; go_simp)
    try simp only [Act.put, List.getElem_toArray, List.getElem_cons_succ, List.getElem_cons_zero, List.setIfInBounds_toArray, List.set_cons_zero, List.set_cons_succ]
    refine wpAnyH_take (i := 13) (v := (.pointer (some ⟨w.heap.size, 0, none⟩))) rfl (by kernel_rfl) (by kernel_rfl) (by kernel_rfl) (fun _ _ _ h => h) (Or.inl ⟨by rfl, ?_⟩) hHeld ?_
    · intro w' hSw
      try simp only [Act.put, List.getElem_toArray, List.getElem_cons_succ, List.getElem_cons_zero, List.setIfInBounds_toArray, List.set_cons_zero, List.set_cons_succ]
      (obtain ⟨q0, q2, q3⟩ := hSw; go_simp)
    try simp only [Act.put, List.getElem_toArray, List.getElem_cons_succ, List.getElem_cons_zero, List.setIfInBounds_toArray, List.set_cons_zero, List.set_cons_succ]
    refine wpAnyH_take (i := 14) (v := (.int .u8 2)) rfl (by kernel_rfl) (by kernel_rfl) (by kernel_rfl) (fun _ _ _ h => h) (Or.inl ⟨by rfl, ?_⟩) hHeld ?_
    · intro w' hSw
      try simp only [Act.put, List.getElem_toArray, List.getElem_cons_succ, List.getElem_cons_zero, List.setIfInBounds_toArray, List.set_cons_zero, List.set_cons_succ]
      (obtain ⟨q0, q2, q3⟩ := hSw; go_simp)
    try simp only [Act.put, List.getElem_toArray, List.getElem_cons_succ, List.getElem_cons_zero, List.setIfInBounds_toArray, List.set_cons_zero, List.set_cons_succ]
    clear hHeld
    refine wpAnyH_ready (rs := [12]) (by kernel_rfl) (by simp) (AllReadyH.cons rfl (fun K hK => ?_) (AllReadyH.nil))
    rw [if_pos (by rfl)]
    go_simp
    refine hK.out _ _ ⟨by simp, by simp, by simpa using c3⟩ (fun hHeld => ?_)
    clear hK
    try simp only [Act.put, List.getElem_toArray, List.getElem_cons_succ, List.getElem_cons_zero, List.setIfInBounds_toArray, List.set_cons_zero, List.set_cons_succ]
    refine wpAnyH_take (i := 15) (v := (.int .u8 (max ((G et).getD 0) 2))) rfl (by kernel_rfl) (by kernel_rfl) (by kernel_rfl) (fun _ _ _ h => h) (Or.inl ⟨by rfl, ?_⟩) hHeld ?_
    · intro w' hSw
      try simp only [Act.put, List.getElem_toArray, List.getElem_cons_succ, List.getElem_cons_zero, List.setIfInBounds_toArray, List.set_cons_zero, List.set_cons_succ]
      (obtain ⟨q0, q2, q3⟩ := hSw; go_simp; split <;> omega)
    try simp only [Act.put, List.getElem_toArray, List.getElem_cons_succ, List.getElem_cons_zero, List.setIfInBounds_toArray, List.set_cons_zero, List.set_cons_succ]
    clear hHeld
    refine wpAnyH_ready (rs := [16]) (by kernel_rfl) (by simp) (AllReadyH.cons rfl (fun K hK => ?_) (AllReadyH.nil))
    rw [if_pos (by rfl)]
    go_simp
    refine hK.out _ _ HKP.out (fun hHeld => ?_)
    clear hK
    try simp only [Act.put, List.getElem_toArray, List.getElem_cons_succ, List.getElem_cons_zero, List.setIfInBounds_toArray, List.set_cons_zero, List.set_cons_succ]
    clear hHeld
    refine wpAnyH_done (by kernel_rfl) ?_ _
    go_wp2
    go_end0
    exact ⟨rfl, HFIN.out⟩
  by_cases h3 : ek = 3
  · subst h3
    have hnk : True := trivial
    clear hnk
    have T1 : Touch w (w.alloc (.cells #[.int .u8 3, .int .i64 ea, .int .i64 et, .int .u64 ev] 50)) [] := (Touch.refl w []).alloc _
    have hlk := ((hm.touch T1 (by simp)).touch ((Touch.refl _ []).drew) (by simp)).look Tryz.underlying72 (z := .int .u8 0) (by kernel_rfl) het
    have hlk2 : (liftK G et).getD (.int .u8 0) = .int .u8 ((G et).getD 0) := by unfold liftK; cases G et <;> rfl
    rw [hlk2] at hlk
    obtain ⟨w2, hst, hm2, hg2⟩ := ((hm.touch T1 (by simp)).touch ((Touch.refl _ []).drew) (by simp)).store Tryz.underlying72 (by unfold maxLen; omega) het (.int .u8 (max ((G et).getD 0) 3))
    have t2 : Touch w w2 [m] := ((T1.drew).mono (by simp)).grown hg2 (by intro q hq; cases hq; exact .inl (by simp))
    have c3 : (w.alloc (.cells #[.int .u8 3, .int .i64 ea, .int .i64 et, .int .u64 ev] 50)).cell? ⟨g, p * 4 + 3, none⟩ = some (.map (some m)) := (T1.cell (p := ⟨g, p * 4 + 3, none⟩) (lt_of_heap hX.st) (by simp)).trans (hX.cell hp 3 (by omega))
    have x0 : (w.alloc (.cells #[.int .u8 3, .int .i64 ea, .int .i64 et, .int .u64 ev] 50)).cell? ⟨w.heap.size, 0, none⟩ = some (.int .u8 3) := by simp [go_sem]
    have x2 : (w.alloc (.cells #[.int .u8 3, .int .i64 ea, .int .i64 et, .int .u64 ev] 50)).cell? ⟨w.heap.size, 2, none⟩ = some (.int .i64 et) := by simp [go_sem]
    have tg : Touch (w.alloc (.cells #[.int .u8 3, .int .i64 ea, .int .i64 et, .int .u64 ev] 50)) w2 [m] := (((Touch.refl _ []).drew).mono (by simp)).grown hg2 (by intro q hq; cases hq; exact .inl (by simp))
    have hml := hm.lt
    have HKP : Hid (w2.cell? ⟨w.heap.size, 0, none⟩ = some (.int .u8 3) ∧ w2.cell? ⟨w.heap.size, 2, none⟩ = some (.int .i64 et) ∧ w2.cell? ⟨g, p * 4 + 3, none⟩ = some (.map (some m))) := ⟨(tg.cell (by simp) (by simp; omega)).trans x0, (tg.cell (by simp) (by simp; omega)).trans x2, (t2.cell (p := ⟨g, p * 4 + 3, none⟩) (lt_of_heap hX.st) (by simp; omega)).trans (hX.cell hp 3 (by omega))⟩
    have HFIN : Hid (R4 w2 g (X.set p ⟨va, .int .i64 (begQ b a ⟨3, ea, et, ev⟩), .int .i64 (endQ x a ⟨3, ea, et, ev⟩), .map (some m)⟩) ∧ MapF w2 m (n + 1) (liftK (tchQ G ⟨3, ea, et, ev⟩)) ∧ Touch w w2 [g, m]) := by
      refine ⟨?_, ?_, t2.mono (by simp)⟩
      · have e1 : begQ b a ⟨3, ea, et, ev⟩ = b := by simp [begQ]
        have e2 : endQ x a ⟨3, ea, et, ev⟩ = x := by simp [endQ]
        rw [e1, e2, R4.set_same hp]
        exact hX.touch t2 (by simp; omega)
      · have e3 : tchQ G ⟨3, ea, et, ev⟩ = updF G et (max ((G et).getD 0) 3) := by simp [tchQ, tchB]
        rw [e3, lift_upd]
        exact hm2
    clear T1 hlk2 hm2 hg2 t2 tg hml hm hX hp hgm hn
    go_enter Tryz.func61, Tryz.ntmps61
    go_wp2_with fail
    refine wp_region_held_drew (S := (fun W : World => W.cell? ⟨w.heap.size, 0, none⟩ = some (.int .u8 3) ∧ W.cell? ⟨w.heap.size, 2, none⟩ = some (.int .i64 et) ∧ W.cell? ⟨g, p * 4 + 3, none⟩ = some (.map (some m)))) (by kernel_rfl) ⟨by simp, by simp, by simpa using c3⟩ (fun hHeld => ?_)
    try simp only [Act.put, List.getElem_toArray, List.getElem_cons_succ, List.getElem_cons_zero, List.setIfInBounds_toArray, List.set_cons_zero, List.set_cons_succ]
    refine wpAnyH_take (i := 0) (v := (.pointer (some ⟨g, p * 4, none⟩))) rfl (by kernel_rfl) (by kernel_rfl) (by kernel_rfl) (fun _ _ _ h => h) (Or.inl ⟨by rfl, ?_⟩) hHeld ?_
    · intro w' hSw
      try simp only [Act.put, List.getElem_toArray, List.getElem_cons_succ, List.getElem_cons_zero, List.setIfInBounds_toArray, List.set_cons_zero, List.set_cons_succ]
      (obtain ⟨q0, q2, q3⟩ := hSw; go_simp)
    try simp only [Act.put, List.getElem_toArray, List.getElem_cons_succ, List.getElem_cons_zero, List.setIfInBounds_toArray, List.set_cons_zero, List.set_cons_succ]
    refine wpAnyH_take (i := 1) (v := (.pointer (some ⟨g, p * 4, none⟩))) rfl (by kernel_rfl) (by kernel_rfl) (by kernel_rfl) (fun _ _ _ h => h) (Or.inl ⟨by rfl, ?_⟩) hHeld ?_
    · intro w' hSw
      try simp only [Act.put, List.getElem_toArray, List.getElem_cons_succ, List.getElem_cons_zero, List.setIfInBounds_toArray, List.set_cons_zero, List.set_cons_succ]
      (obtain ⟨q0, q2, q3⟩ := hSw; go_simp)
    try simp only [Act.put, List.getElem_toArray, List.getElem_cons_succ, List.getElem_cons_zero, List.setIfInBounds_toArray, List.set_cons_zero, List.set_cons_succ]
    refine wpAnyH_take (i := 2) (v := (.pointer (some ⟨g, p * 4 + 3, none⟩))) rfl (by kernel_rfl) (by kernel_rfl) (by kernel_rfl) (fun _ _ _ h => h) (Or.inl ⟨by rfl, ?_⟩) hHeld ?_
    · intro w' hSw
      try simp only [Act.put, List.getElem_toArray, List.getElem_cons_succ, List.getElem_cons_zero, List.setIfInBounds_toArray, List.set_cons_zero, List.set_cons_succ]
      (obtain ⟨q0, q2, q3⟩ := hSw; go_simp)
    try simp only [Act.put, List.getElem_toArray, List.getElem_cons_succ, List.getElem_cons_zero, List.setIfInBounds_toArray, List.set_cons_zero, List.set_cons_succ]
    refine wpAnyH_take (i := 3) (v := (.map (some m))) rfl (by kernel_rfl) (by kernel_rfl) (by kernel_rfl) (fun _ _ _ h => h) (Or.inl ⟨by rfl, ?_⟩) hHeld ?_
    · intro w' hSw
      try simp only [Act.put, List.getElem_toArray, List.getElem_cons_succ, List.getElem_cons_zero, List.setIfInBounds_toArray, List.set_cons_zero, List.set_cons_succ]
      (obtain ⟨q0, q2, q3⟩ := hSw; go_simp)
    try simp only [Act.put, List.getElem_toArray, List.getElem_cons_succ, List.getElem_cons_zero, List.setIfInBounds_toArray, List.set_cons_zero, List.set_cons_succ]
    refine wpAnyH_take (i := 4) (v := (.pointer (some ⟨w.heap.size, 2, none⟩))) rfl (by kernel_rfl) (by kernel_rfl) (by kernel_rfl) (fun _ _ _ h => h) (Or.inl ⟨by rfl, ?_⟩) hHeld ?_
    · intro w' hSw
      try simp only [Act.put, List.getElem_toArray, List.getElem_cons_succ, List.getElem_cons_zero, List.setIfInBounds_toArray, List.set_cons_zero, List.set_cons_succ]
      (obtain ⟨q0, q2, q3⟩ := hSw; go_simp)
    try simp only [Act.put, List.getElem_toArray, List.getElem_cons_succ, List.getElem_cons_zero, List.setIfInBounds_toArray, List.set_cons_zero, List.set_cons_succ]
    refine wpAnyH_take (i := 5) (v := (.int .i64 et)) rfl (by kernel_rfl) (by kernel_rfl) (by kernel_rfl) (fun _ _ _ h => h) (Or.inl ⟨by rfl, ?_⟩) hHeld ?_
    · intro w' hSw
      try simp only [Act.put, List.getElem_toArray, List.getElem_cons_succ, List.getElem_cons_zero, List.setIfInBounds_toArray, List.set_cons_zero, List.set_cons_succ]
      (obtain ⟨q0, q2, q3⟩ := hSw; go_simp)
    try simp only [Act.put, List.getElem_toArray, List.getElem_cons_succ, List.getElem_cons_zero, List.setIfInBounds_toArray, List.set_cons_zero, List.set_cons_succ]
    refine wpAnyH_take (i := 6) (v := (.pointer (some ⟨g, p * 4, none⟩))) rfl (by kernel_rfl) (by kernel_rfl) (by kernel_rfl) (fun _ _ _ h => h) (Or.inl ⟨by rfl, ?_⟩) hHeld ?_
    · intro w' hSw
      try simp only [Act.put, List.getElem_toArray, List.getElem_cons_succ, List.getElem_cons_zero, List.setIfInBounds_toArray, List.set_cons_zero, List.set_cons_succ]
      (obtain ⟨q0, q2, q3⟩ := hSw; go_simp)
    try simp only [Act.put, List.getElem_toArray, List.getElem_cons_succ, List.getElem_cons_zero, List.setIfInBounds_toArray, List.set_cons_zero, List.set_cons_succ]
    refine wpAnyH_take (i := 7) (v := (.pointer (some ⟨g, p * 4, none⟩))) rfl (by kernel_rfl) (by kernel_rfl) (by kernel_rfl) (fun _ _ _ h => h) (Or.inl ⟨by rfl, ?_⟩) hHeld ?_
    · intro w' hSw
      try simp only [Act.put, List.getElem_toArray, List.getElem_cons_succ, List.getElem_cons_zero, List.setIfInBounds_toArray, List.set_cons_zero, List.set_cons_succ]
      (obtain ⟨q0, q2, q3⟩ := hSw; go_simp)
    try simp only [Act.put, List.getElem_toArray, List.getElem_cons_succ, List.getElem_cons_zero, List.setIfInBounds_toArray, List.set_cons_zero, List.set_cons_succ]
    refine wpAnyH_take (i := 8) (v := (.pointer (some ⟨g, p * 4 + 3, none⟩))) rfl (by kernel_rfl) (by kernel_rfl) (by kernel_rfl) (fun _ _ _ h => h) (Or.inl ⟨by rfl, ?_⟩) hHeld ?_
    · intro w' hSw
      try simp only [Act.put, List.getElem_toArray, List.getElem_cons_succ, List.getElem_cons_zero, List.setIfInBounds_toArray, List.set_cons_zero, List.set_cons_succ]
      (obtain ⟨q0, q2, q3⟩ := hSw; go_simp)
    try simp only [Act.put, List.getElem_toArray, List.getElem_cons_succ, List.getElem_cons_zero, List.setIfInBounds_toArray, List.set_cons_zero, List.set_cons_succ]
    refine wpAnyH_take (i := 9) (v := (.map (some m))) rfl (by kernel_rfl) (by kernel_rfl) (by kernel_rfl) (fun _ _ _ h => h) (Or.inl ⟨by rfl, ?_⟩) hHeld ?_
    · intro w' hSw
      try simp only [Act.put, List.getElem_toArray, List.getElem_cons_succ, List.getElem_cons_zero, List.setIfInBounds_toArray, List.set_cons_zero, List.set_cons_succ]
      (obtain ⟨q0, q2, q3⟩ := hSw; go_simp)
    try simp only [Act.put, List.getElem_toArray, List.getElem_cons_succ, List.getElem_cons_zero, List.setIfInBounds_toArray, List.set_cons_zero, List.set_cons_succ]
    refine wpAnyH_take (i := 10) (v := (.pointer (some ⟨w.heap.size, 2, none⟩))) rfl (by kernel_rfl) (by kernel_rfl) (by kernel_rfl) (fun _ _ _ h => h) (Or.inl ⟨by rfl, ?_⟩) hHeld ?_
    · intro w' hSw
      try simp only [Act.put, List.getElem_toArray, List.getElem_cons_succ, List.getElem_cons_zero, List.setIfInBounds_toArray, List.set_cons_zero, List.set_cons_succ]
      (obtain ⟨q0, q2, q3⟩ := hSw; go_simp)
    try simp only [Act.put, List.getElem_toArray, List.getElem_cons_succ, List.getElem_cons_zero, List.setIfInBounds_toArray, List.set_cons_zero, List.set_cons_succ]
    refine wpAnyH_take (i := 11) (v := (.int .i64 et)) rfl (by kernel_rfl) (by kernel_rfl) (by kernel_rfl) (fun _ _ _ h => h) (Or.inl ⟨by rfl, ?_⟩) hHeld ?_
    · intro w' hSw
      try simp only [Act.put, List.getElem_toArray, List.getElem_cons_succ, List.getElem_cons_zero, List.setIfInBounds_toArray, List.set_cons_zero, List.set_cons_succ]
      (obtain ⟨q0, q2, q3⟩ := hSw; go_simp)
    try simp only [Act.put, List.getElem_toArray, List.getElem_cons_succ, List.getElem_cons_zero, List.setIfInBounds_toArray, List.set_cons_zero, List.set_cons_succ]
    refine wpAnyH_take (i := 13) (v := (.pointer (some ⟨w.heap.size, 0, none⟩))) rfl (by kernel_rfl) (by kernel_rfl) (by kernel_rfl) (fun _ _ _ h => h) (Or.inl ⟨by rfl, ?_⟩) hHeld ?_
    · intro w' hSw
      try simp only [Act.put, List.getElem_toArray, List.getElem_cons_succ, List.getElem_cons_zero, List.setIfInBounds_toArray, List.set_cons_zero, List.set_cons_succ]
      (obtain ⟨q0, q2, q3⟩ := hSw; go_simp)
    try simp only [Act.put, List.getElem_toArray, List.getElem_cons_succ, List.getElem_cons_zero, List.setIfInBounds_toArray, List.set_cons_zero, List.set_cons_succ]
    refine wpAnyH_take (i := 14) (v := (.int .u8 3)) rfl (by kernel_rfl) (by kernel_rfl) (by kernel_rfl) (fun _ _ _ h => h) (Or.inl ⟨by rfl, ?_⟩) hHeld ?_
    · intro w' hSw
      try simp only [Act.put, List.getElem_toArray, List.getElem_cons_succ, List.getElem_cons_zero, List.setIfInBounds_toArray, List.set_cons_zero, List.set_cons_succ]
      (obtain ⟨q0, q2, q3⟩ := hSw; go_simp)
    try simp only [Act.put, List.getElem_toArray, List.getElem_cons_succ, List.getElem_cons_zero, List.setIfInBounds_toArray, List.set_cons_zero, List.set_cons_succ]
    clear hHeld
    refine wpAnyH_ready (rs := [12]) (by kernel_rfl) (by simp) (AllReadyH.cons rfl (fun K hK => ?_) (AllReadyH.nil))
    rw [if_pos (by rfl)]
    go_simp
    refine hK.out _ _ ⟨by simp, by simp, by simpa using c3⟩ (fun hHeld => ?_)
    clear hK
    try simp only [Act.put, List.getElem_toArray, List.getElem_cons_succ, List.getElem_cons_zero, List.setIfInBounds_toArray, List.set_cons_zero, List.set_cons_succ]
    refine wpAnyH_take (i := 15) (v := (.int .u8 (max ((G et).getD 0) 3))) rfl (by kernel_rfl) (by kernel_rfl) (by kernel_rfl) (fun _ _ _ h => h) (Or.inl ⟨by rfl, ?_⟩) hHeld ?_
    · intro w' hSw
      try simp only [Act.put, List.getElem_toArray, List.getElem_cons_succ, List.getElem_cons_zero, List.setIfInBounds_toArray, List.set_cons_zero, List.set_cons_succ]
      (obtain ⟨q0, q2, q3⟩ := hSw; go_simp; split <;> omega)
    try simp only [Act.put, List.getElem_toArray, List.getElem_cons_succ, List.getElem_cons_zero, List.setIfInBounds_toArray, List.set_cons_zero, List.set_cons_succ]
    clear hHeld
    refine wpAnyH_ready (rs := [16]) (by kernel_rfl) (by simp) (AllReadyH.cons rfl (fun K hK => ?_) (AllReadyH.nil))
    rw [if_pos (by rfl)]
    go_simp
    refine hK.out _ _ HKP.out (fun hHeld => ?_)
    clear hK
    try simp only [Act.put, List.getElem_toArray, List.getElem_cons_succ, List.getElem_cons_zero, List.setIfInBounds_toArray, List.set_cons_zero, List.set_cons_succ]
    clear hHeld
    refine wpAnyH_done (by kernel_rfl) ?_ _
    go_wp2
    go_end0
    exact ⟨rfl, HFIN.out⟩
  have T1 : Touch w (w.alloc (.cells #[.int .u8 ek, .int .i64 ea, .int .i64 et, .int .u64 ev] 50)) [] := (Touch.refl w []).alloc _
  have e3 : tchQ G ⟨ek, ea, et, ev⟩ = G := by simp [tchQ, tchB, h2, h3]
  have hlg := lt_of_heap hX.st
  have p2 : (ek == 2) = false := by simpa using h2
  have p3 : (ek == 3) = false := by simpa using h3
  by_cases h1 : ek = 1
  · subst h1
    have e1 : begQ b a ⟨1, ea, et, ev⟩ = min b a := by simp [begQ]
    have e2 : endQ x a ⟨1, ea, et, ev⟩ = x := by simp [endQ]
    rw [e1, e2, e3]
    have hX1 := hX.touch T1 (by simp)
    have c1 := hX1.cell hp 1 (by omega)
    have f1 := hX1.fr (p * 4 + 1)
    have HFIN : Hid (∀ y : Int, R4 ((w.setCell ⟨g, p * 4 + 1, none⟩ (.int .i64 y)).alloc (.cells #[.int .u8 1, .int .i64 ea, .int .i64 et, .int .u64 ev] 50)) g (X.set p ⟨va, .int .i64 y, .int .i64 x, .map (some m)⟩) ∧ MapF ((w.setCell ⟨g, p * 4 + 1, none⟩ (.int .i64 y)).alloc (.cells #[.int .u8 1, .int .i64 ea, .int .i64 et, .int .u64 ev] 50)) m (n + 1) (liftK G) ∧ Touch w ((w.setCell ⟨g, p * 4 + 1, none⟩ (.int .i64 y)).alloc (.cells #[.int .u8 1, .int .i64 ea, .int .i64 et, .int .u64 ev] 50)) [g, m]) := fun y => by
      have t3 : Touch w ((w.setCell ⟨g, p * 4 + 1, none⟩ (.int .i64 y)).alloc (.cells #[.int .u8 1, .int .i64 ea, .int .i64 et, .int .u64 ev] 50)) [g] := ((Touch.refl w [g]).setCell (.inl (by simp)) _).alloc _
      exact ⟨(hX.put (q' := ⟨va, .int .i64 y, .int .i64 x, .map (some m)⟩) hp 1 (by omega) (.int .i64 y) rfl).touch ((Touch.refl _ []).alloc _) (by simp), (hm.touch t3 (by simpa using hgm)).mono (Nat.le_succ _), t3.mono (by simp)⟩
    simp only [Q4.cells, List.getElem?_cons_succ, List.getElem?_cons_zero] at c1
    clear T1 e1 e2 e3 hX hX1 hp hm hgm hn p2 p3 h2 h3
    by_cases hab : a < b
    · have hmn : min b a = a := by omega
      rw [hmn]
      clear hmn
      go_enter Tryz.func61, Tryz.ntmps61
      go_wp2
      go_end0
      exact ⟨rfl, HFIN.out a⟩
    · have hmn : min b a = b := by omega
      rw [hmn]
      clear hmn
      go_enter Tryz.func61, Tryz.ntmps61
      go_wp2
      go_end0
      exact ⟨rfl, HFIN.out b⟩
  have p1 : (ek == 1) = false := by simpa using h1
  have e1 : begQ b a ⟨ek, ea, et, ev⟩ = b := by simp [begQ, h1]
  by_cases h89 : ek = 8 ∨ ek = 9
  · have e2 : endQ x a ⟨ek, ea, et, ev⟩ = min x a := by simp [endQ, h89]
    rw [e1, e2, e3]
    have hX1 := hX.touch T1 (by simp)
    have c1 := hX1.cell hp 2 (by omega)
    have f1 := hX1.fr (p * 4 + 2)
    have HFIN : Hid (∀ y : Int, R4 ((w.setCell ⟨g, p * 4 + 2, none⟩ (.int .i64 y)).alloc (.cells #[.int .u8 ek, .int .i64 ea, .int .i64 et, .int .u64 ev] 50)) g (X.set p ⟨va, .int .i64 b, .int .i64 y, .map (some m)⟩) ∧ MapF ((w.setCell ⟨g, p * 4 + 2, none⟩ (.int .i64 y)).alloc (.cells #[.int .u8 ek, .int .i64 ea, .int .i64 et, .int .u64 ev] 50)) m (n + 1) (liftK G) ∧ Touch w ((w.setCell ⟨g, p * 4 + 2, none⟩ (.int .i64 y)).alloc (.cells #[.int .u8 ek, .int .i64 ea, .int .i64 et, .int .u64 ev] 50)) [g, m]) := fun y => by
      have t3 : Touch w ((w.setCell ⟨g, p * 4 + 2, none⟩ (.int .i64 y)).alloc (.cells #[.int .u8 ek, .int .i64 ea, .int .i64 et, .int .u64 ev] 50)) [g] := ((Touch.refl w [g]).setCell (.inl (by simp)) _).alloc _
      exact ⟨(hX.put (q' := ⟨va, .int .i64 b, .int .i64 y, .map (some m)⟩) hp 2 (by omega) (.int .i64 y) rfl).touch ((Touch.refl _ []).alloc _) (by simp), (hm.touch t3 (by simpa using hgm)).mono (Nat.le_succ _), t3.mono (by simp)⟩
    simp only [Q4.cells, List.getElem?_cons_succ, List.getElem?_cons_zero] at c1
    clear T1 e1 e2 e3 hX hX1 hp hm hgm hn h2 h3 h1
    rcases h89 with rfl | rfl
    · clear p1 p2 p3
      by_cases hab : a < x
      · have hmn : min x a = a := by omega
        rw [hmn]
        clear hmn
        go_enter Tryz.func61, Tryz.ntmps61
        go_wp2
        go_end0
        exact ⟨rfl, HFIN.out a⟩
      · have hmn : min x a = x := by omega
        rw [hmn]
        clear hmn
        go_enter Tryz.func61, Tryz.ntmps61
        go_wp2
        go_end0
        exact ⟨rfl, HFIN.out x⟩
    · clear p1 p2 p3
      by_cases hab : a < x
      · have hmn : min x a = a := by omega
        rw [hmn]
        clear hmn
        go_enter Tryz.func61, Tryz.ntmps61
        go_wp2
        go_end0
        exact ⟨rfl, HFIN.out a⟩
      · have hmn : min x a = x := by omega
        rw [hmn]
        clear hmn
        go_enter Tryz.func61, Tryz.ntmps61
        go_wp2
        go_end0
        exact ⟨rfl, HFIN.out x⟩
  have p8 : (ek == 8) = false := by simp; exact fun e => h89 (.inl e)
  have p9 : (ek == 9) = false := by simp; exact fun e => h89 (.inr e)
  have e2 : endQ x a ⟨ek, ea, et, ev⟩ = x := by simp [endQ, h89]
  rw [e1, e2, e3, R4.set_same hp]
  have HFIN : Hid (R4 (w.alloc (.cells #[.int .u8 ek, .int .i64 ea, .int .i64 et, .int .u64 ev] 50)) g X ∧ MapF (w.alloc (.cells #[.int .u8 ek, .int .i64 ea, .int .i64 et, .int .u64 ev] 50)) m (n + 1) (liftK G) ∧ Touch w (w.alloc (.cells #[.int .u8 ek, .int .i64 ea, .int .i64 et, .int .u64 ev] 50)) [g, m]) := ⟨hX.touch T1 (by simp), (hm.touch T1 (by simp)).mono (Nat.le_succ _), T1.mono (by simp)⟩
  clear T1 e1 e2 e3 hX hp hm hgm hn h2 h3 h1 h89
  go_enter Tryz.func61, Tryz.ntmps61
  go_wp2
  go_end0
  exact ⟨rfl, HFIN.out⟩

set_option maxRecDepth 100000 in
theorem before_crs (p q : Q4) (x b : Int) (hp : p.v2 = .int .i64 x) (hq : q.v1 = .int .i64 b) (w : World) :
    Calls Tryz.prog 35 #[p.val, q.val] w fun e w' => e = .returned (.bool (decide (x < b))) ∧ Touch w w' [] := by
  obtain ⟨p0, p1, p2, p3⟩ := p
  obtain ⟨q0, q1, q2, q3⟩ := q
  simp only at hp hq
  subst hp hq
  unfold Q4.val
  simp only
  have T : Hid (Touch w ((w.alloc (.cells #[p0, p1, .int .i64 x, p3] 74)).alloc (.cells #[q0, .int .i64 b, q2, q3] 74)) []) := ((Touch.refl w []).alloc _).alloc _
  go_enter Tryz.func35, Tryz.ntmps35
  go_wp2
  go_ret
  exact ⟨rfl, T.out⟩

end Go.Proofs.YtmiaibpdeofokaaGreatDoor

/-
  package norec: moveTo, lookAgain, done, tell, thread, firstOf BY THEIR CONTRACTS.
-/
import Derived.Test.YtinhdpiecifmhaaNrEnter
namespace Go.Proofs.Ytinhdpiecifmhaa.Nr
set_option linter.unusedVariables false
set_option linter.unusedSimpArgs false
open Go.RowKit Go.Maps

theorem res_cell {fn : Func} {p : Tmp} {ty : TypeId} (h : fn.results = #[.cell p ty]) (tmps : Array Value) (P : Program) (w : World) :
    (results fn tmps).run P w = ((asAddr (tmps.getD p undef)).run P w).andThen fun a w₁ => (loadVar ty a).run P w₁ := by
  simp only [results, h]
  simp [Sem.run_bind, Result.andThen]

/-- A step's answer, where nothing has moved. -/
def SPost (w : World) (X : ELoc) (E : Eng) (R : RpD) (x : Ending) (w' : World) : Prop := x = .returned R.val' ∧ EObj w' X E ∧ Next w X w' X
/-- A step's answer. -/
def RPost (w : World) (X : ELoc) (E : Eng) (R : RpD) (x : Ending) (w' : World) : Prop := ∃ X', x = .returned R.val' ∧ EObj w' X' E ∧ Next w X w' X'
theorem SPost.r {w : World} {X : ELoc} {E : Eng} {R : RpD} {x : Ending} {w' : World} (h : SPost w X E R x w') : RPost w X E R x w' := ⟨X, h.1, h.2.1, h.2.2⟩

/-- An attempt where it lies. -/
structure At (w : World) (X : ELoc) (E : Eng) (k : Nat) (l : Loc) (A : Att) : Prop where
  h : EObj w X E
  hl : X.at' k = some l
  hA : E.th k = some A
theorem At.obj {w : World} {X : ELoc} {E : Eng} {k : Nat} {l : Loc} {A : Att} (h : At w X E k l A) : AObj w l A := by
  have := h.h.at' k
  rw [h.hl, h.hA] at this
  exact this
theorem At.fresh {w w' : World} {X : ELoc} {E : Eng} {k : Nat} {l : Loc} {A : Att} (h : At w X E k l A) (t : Touch w w' []) : At w' X E k l A := ⟨h.h.fresh t, h.hl, h.hA⟩

structure ACells (w : World) (a : Nat) (A : Att) (rb ob : Nat) : Prop where
  c0 : w.cell? ⟨a, 0, none⟩ = some (.int .u64 A.count)
  c1 : w.cell? ⟨a, 1, none⟩ = some (.int .i64 A.back)
  c2 : w.cell? ⟨a, 2, none⟩ = some (.int .u8 A.ask.k)
  c3 : w.cell? ⟨a, 3, none⟩ = some (.int .i64 A.ask.t)
  c4 : w.cell? ⟨a, 4, none⟩ = some (.int .u64 A.ask.v)
  c5 : w.cell? ⟨a, 5, none⟩ = some (.int .i64 A.place)
  c6 : w.cell? ⟨a, 6, none⟩ = some (.int .i64 A.gone)
  c7 : w.cell? ⟨a, 7, none⟩ = some (.int .u64 A.val)
  c8 : w.cell? ⟨a, 8, none⟩ = some (.int .i64 A.thr)
  c9 : w.cell? ⟨a, 9, none⟩ = some (.int .i64 A.num)
  c10 : w.cell? ⟨a, 10, none⟩ = some (ptr rb)
  c11 : w.cell? ⟨a, 11, none⟩ = some (ptr ob)
  f : ∀ j, w.frozen? ⟨a, j, none⟩ = false
theorem AObj.cells {w : World} {l : Loc} {A : Att} (h : AObj w l A) : ACells w l.a A l.rb l.ob := by
  constructor
  all_goals first | (simp [World.cell?, h.st, acells]; done) | (intro j; simp [World.frozen?, h.st])

theorem thread_any (X : ELoc) (E : Eng) (k : Nat) (hk : k < 4) (w : World) (h : EObj w X E) : Calls Try.prog 17 #[ptr X.e, .int .i64 k] w fun x w' => x = .returned (.tuple #[tptr (X.at' k), .int .i64 0]) ∧ w = w' := by
  have c : w.cell? ⟨X.e, 4 + k, none⟩ = some (tptr (X.at' k)) := by
    match k, hk with
    | 0, _ => simp [World.cell?, h.st, ecells]
    | 1, _ => simp [World.cell?, h.st, ecells]
    | 2, _ => simp [World.cell?, h.st, ecells]
    | 3, _ => simp [World.cell?, h.st, ecells]
  have h0 : ¬ ((k : Int) < 0) := by omega
  have h00 : 0 ≤ (k : Int) := by omega
  have h1 : (k : Int) < 4 := by omega
  obtain ⟨p, hp⟩ : ∃ p, tptr (X.at' k) = .pointer p := by cases X.at' k <;> exact ⟨_, rfl⟩
  rw [hp] at c ⊢
  clear h hp
  go_enter Try.func17, Try.ntmps17
  go_wp2
  go_ret2
  exact ⟨rfl, rfl⟩

theorem thread_no (X : ELoc) (th : Int) (hth : ¬ (0 ≤ th ∧ th < 4)) (w : World) : Calls Try.prog 17 #[ptr X.e, .int .i64 th] w fun x w' => x = .returned (.tuple #[.pointer none, .int .i64 2]) ∧ w = w' := by
  by_cases h0 : th < 0
  · go_enter Try.func17, Try.ntmps17
    go_wp2
    go_ret2
    exact ⟨rfl, rfl⟩
  · have h1 : (4 : Int) ≤ th := by omega
    go_enter Try.func17, Try.ntmps17
    go_wp2
    go_ret2
    exact ⟨rfl, rfl⟩

theorem set_cell {w : World} {a : Nat} {cs : Array Value} {T : TypeId} (h : w.heap[a]? = some (.cells cs T (0, 0))) (o : Nat) (u : Value) : (w.setCell ⟨a, o, none⟩ u).heap[a]? = some (.cells (cs.setIfInBounds o u) T (0, 0)) := heap_setCell_same _ _ _ _ _ _ h

/-! ### The task -/
def movedA (A : Att) (p : Int) : Att := { A with place := p, gone := 0 }
def backA (A : Att) (b : Int) : Att := { A with back := b }
def doneA (A : Att) : Att := { A with count := 0, back := 0, ask := ⟨0, 0, 0⟩, place := 0, gone := 0, val := 0 }
abbrev rpC (R : RpD) : Obj := .cells #[.bool R.done, .int .u64 R.val, .bool R.busy, .int .i64 R.own, .bool R.ended, .int .u8 R.why, .int .i64 R.err] 38 (0, 0)

/-! ### A step's answer is another one's -/
abbrev rpL (R : RpD) : List Value := [.bool R.done, .int .u64 R.val, .bool R.busy, .int .i64 R.own, .bool R.ended, .int .u8 R.why, .int .i64 R.err]
/-- Room for an answer. -/
def Slot (w : World) (r : Nat) : Prop := ∃ R, w.heap[r]? = some (rpC R)
theorem Slot.new (w : World) : Slot (w.alloc (rpC rp0)) w.heap.size := ⟨rp0, heap_alloc_new w _⟩
theorem Slot.next {w w' : World} {X X' : ELoc} {r : Nat} (h : Slot w r) (n : Next w X w' X') (hr : ¬ X.Has r) : Slot w' r := by
  obtain ⟨R, h⟩ := h
  exact ⟨R, (n.block r (lt_of_heap h) hr).trans h⟩
theorem Slot.touch {w w' : World} {r : Nat} {S : List Nat} (h : Slot w r) (t : Touch w w' S) (hr : r ∉ S) : Slot w' r := by
  obtain ⟨R, h⟩ := h
  exact ⟨R, (t.block r (lt_of_heap h) hr).trans h⟩
theorem Try.size_reply : (Try.prog.info? 38).map (·.size) = some 7 := by kernel_rfl
theorem rp_one (R : RpD) : (rpL R).toArray.all (·.oneCell') = true := by simp [rpL, Value.oneCell']
theorem Slot.there {w : World} {r : Nat} (h : Slot w r) (R : RpD) : w.there r 0 (rpL R).toArray.size := by
  obtain ⟨R', h⟩ := h
  exact there_of h rfl
theorem Slot.load {W : World} {r : Nat} {R : RpD} (h : W.rangeAt r 0 (rpL R)) (tmps : Array Value) {p : Tmp} {fn : Func} (hf : fn.results = #[.cell p 38]) (hp : tmps.getD p undef = .pointer (some ⟨r, 0, none⟩)) :
    (results fn tmps).run Try.prog W = .ok R.val' W := by
  rw [res_cell hf, hp]
  have := run_loadVar_mid (P := Try.prog) W r 0 38 (rpL R) _ h Try.underlying38 rfl Try.size_reply
  simp only [asAddr, Sem.run_pure, Result.andThen_ok, this]
theorem Next.slot {w0 w2 w3 : World} {X X2 : ELoc} {r : Nat} (n : Next w0 X w2 X2) (t : Touch w2 w3 [r]) (hr : w0.heap.size ≤ r) : Next w0 X w3 X2 :=
  ⟨n.e, t.os.trans n.os, t.tape.trans n.tape, t.output.trans n.output, Nat.le_trans n.size t.size, fun k hk hn => (t.block k (Nat.lt_of_lt_of_le hk n.size) (by simp; omega)).trans (n.block k hk hn), n.has⟩
/-- The world behind the store of an answer. -/
theorem slot_end {w0 w2 : World} {X X2 : ELoc} {E : Eng} {r : Nat} {R : RpD} (hs : Slot w2 r) (h2 : EObj w2 X2 E) (n : Next w0 X w2 X2) (hr : w0.heap.size ≤ r) (hx : ∀ c, ∀ x ∈ X2.foot c, x ≠ r) :
    ∀ W3, W3 = w2.setCells r 0 (rpL R) → W3.rangeAt r 0 (rpL R) ∧ EObj W3 X2 E ∧ Next w0 X W3 X2 := by
  rintro W3 rfl
  have t := setCells_touch r (rpL R) 0 w2
  exact ⟨World.rangeAt_setCells_same _ _ _ _ (hs.there R), h2.keep t (fun c x hx' hs' => hx c x hx' (by simpa using hs')), n.slot t hr⟩
theorem foot_ne {w0 w2 : World} {X X2 : ELoc} {r : Nat} (n : Next w0 X w2 X2) (hlt : ∀ c, ∀ x ∈ X.foot c, x < r) (hr : r < w0.heap.size) : ∀ c, ∀ x ∈ X2.foot c, x ≠ r := fun c x hx e => by
  rcases n.has x ⟨c, hx⟩ with ⟨d, hd⟩ | q
  · have := hlt d x hd; omega
  · omega

set_option maxRecDepth 100000 in
theorem moveTo_any {w : World} {X : ELoc} {E : Eng} {k : Nat} {l : Loc} {A : Att} (h : At w X E k l A) (p : Int) : Calls Try.prog 70 #[ptr l.a, .int .i64 p] w (SPost w X (E.put k (some (movedA A p))) rp0) := by
  have hc := h.obj.cells
  have c5 := hc.c5
  have c6 := hc.c6
  have f5 := hc.f 5
  have f6 := hc.f 6
  have hlt := lt_of_heap h.obj.st
  have hst := set_cell (set_cell h.obj.st 5 (.int .i64 p)) 6 (.int .i64 0)
  have t : Touch w ((w.setCell ⟨l.a, 5, none⟩ (.int .i64 p)).setCell ⟨l.a, 6, none⟩ (.int .i64 0)) [l.a] := ((Touch.refl w _).setCell (.inl (by simp)) _).setCell (.inl (by simp)) _
  obtain ⟨r1, r2⟩ := h.h.setA (A' := movedA A p) h.hl h.hA rfl rfl hst t
  have HF : Hid (SPost w X (E.put k (some (movedA A p))) rp0 (.returned rp0.val') (((w.setCell ⟨l.a, 5, none⟩ (.int .i64 p)).setCell ⟨l.a, 6, none⟩ (.int .i64 0)).alloc (rpC rp0))) := ⟨rfl, r1.fresh ((Touch.refl _ []).alloc _), r2.then ((Touch.refl _ []).alloc _)⟩
  clear h hc hst t r1 r2
  go_enter Try.func70, Try.ntmps70
  go_wp2
  refine bodyPost_ret (v := rp0.val') ?_ rfl HF.out
  rw [res_cell rfl]
  go_simp

set_option maxRecDepth 100000 in
theorem lookAgain_any {w : World} {X : ELoc} {E : Eng} {k : Nat} {l : Loc} {A : Att} (h : At w X E k l A) (b : Int) : Calls Try.prog 73 #[ptr l.a, .int .i64 b] w (SPost w X (E.put k (some (movedA (backA A b) 7))) rp0) := by
  have hc := h.obj.cells
  have c1 := hc.c1
  have f1 := hc.f 1
  have hlt := lt_of_heap h.obj.st
  have hst := set_cell h.obj.st 1 (.int .i64 b)
  have t : Touch w (w.setCell ⟨l.a, 1, none⟩ (.int .i64 b)) [l.a] := (Touch.refl w _).setCell (.inl (by simp)) _
  obtain ⟨r1, r2⟩ := h.h.setA (A' := backA A b) h.hl h.hA rfl rfl hst t
  have ta : Touch (w.setCell ⟨l.a, 1, none⟩ (.int .i64 b)) ((w.setCell ⟨l.a, 1, none⟩ (.int .i64 b)).alloc (rpC rp0)) [] := (Touch.refl _ []).alloc _
  have hat : At ((w.setCell ⟨l.a, 1, none⟩ (.int .i64 b)).alloc (rpC rp0)) X (E.put k (some (backA A b))) k l (backA A b) := ⟨r1.fresh ta, h.hl, by simp [Eng.put, setT_same]⟩
  have MV := HidC.mk (moveTo_any hat 7)
  have HN : Hid (Next w X ((w.setCell ⟨l.a, 1, none⟩ (.int .i64 b)).alloc (rpC rp0)) X) := r2.then ta
  have hs0 : Slot ((w.setCell ⟨l.a, 1, none⟩ (.int .i64 b)).alloc (rpC rp0)) w.heap.size := by have := Slot.new (w.setCell ⟨l.a, 1, none⟩ (.int .i64 b)); simpa [World.setCell] using this
  have HS : Hid (Slot ((w.setCell ⟨l.a, 1, none⟩ (.int .i64 b)).alloc (rpC rp0)) w.heap.size) := hs0
  have HL : Hid (∀ c, ∀ x ∈ X.foot c, x < w.heap.size) := h.h.lt
  have hz0 : w.heap.size < ((w.setCell ⟨l.a, 1, none⟩ (.int .i64 b)).alloc (rpC rp0)).heap.size := by simp [World.setCell]
  have HZ : Hid (w.heap.size < ((w.setCell ⟨l.a, 1, none⟩ (.int .i64 b)).alloc (rpC rp0)).heap.size) := hz0
  have e2 : (E.put k (some (backA A b))).put k (some (movedA (backA A b) 7)) = E.put k (some (movedA (backA A b) 7)) := by
    simp only [Eng.put, Eng.mk.injEq, true_and]
    funext j
    simp only [setT]
    split <;> rfl
  rw [e2] at MV
  clear h hc hst t r1 r2 ta hat e2 hs0 hz0
  go_enter Try.func73, Try.ntmps73
  go_wp2_with fail
  refine MV.out.mono ?_
  rintro x w2 ⟨rfl, h2, n2⟩
  clear MV
  have s2 := HS.out.next n2 (fun ⟨c, hc⟩ => by have := HL.out c _ hc; omega)
  have hfn := foot_ne n2 HL.out HZ.out
  have HE : Hid _ := slot_end (R := rp0) s2 h2 (HN.out.trans n2) (Nat.le_refl _) hfn
  have HH : Hid (World.there _ w.heap.size 0 (rpL rp0).toArray.size) := s2.there rp0
  clear h2 n2 s2 hfn HS HL HN HZ
  go_wp2_with (refine wpList_store_mid rfl 38 _ _ rfl w.heap.size 0 (rpL rp0).toArray rfl rfl HH.out Try.size_reply (rp_one rp0) ?_; refine wpList_name fun W3 hW3 => ?_; obtain ⟨g1, g2, g3⟩ := HE.out W3 hW3; clear hW3)
  refine bodyPost_ret (v := (rp0).val') (Slot.load g1 _ rfl rfl) rfl ?_
  exact ⟨rfl, g2, g3⟩

end Go.Proofs.Ytinhdpiecifmhaa.Nr

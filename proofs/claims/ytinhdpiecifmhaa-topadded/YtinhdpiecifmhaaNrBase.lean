/-
  package norec: AN ENGINE AS PLAIN DATA, AND WHERE IT LIES. No walk.
-/
import Derived.Test.YtinhdpiecifmhaaAllA
import Derived.Test.YtinhdpiecifmhaaReadsOps
import Derived.Test.YtinhdpiecifmhaaWritesAll
import Derived.Test.YtinhdpiecifmhaaHistBase
import Derived.Test.YtinhdpiecifmhaaMidMove
import Derived.Handy
namespace Go.Proofs.Ytinhdpiecifmhaa.Nr
set_option linter.unusedVariables false
set_option linter.unusedSimpArgs false
open Go.RowKit Go.Maps

/-- A contract, hidden. -/
structure HidC (P : Program) (f : Nat) (a : Array Value) (w : World) (Q : Ending → World → Prop) : Prop where
  out : Calls P f a w Q

/-- The world under a name, at a list of operations. -/
theorem wpList_name {P : Program} {ops : Array Oper} {l : List Oper} {Q : Exit → Act → World → Prop} {a : Act} {w : World} (h : ∀ W, W = w → wpList P ops Q l a W) : wpList P ops Q l a w := h w rfl

/-- What is asked for. -/
structure AskD where
  k : Int
  t : Int
  v : Int
abbrev AskD.val (a : AskD) : Value := .agg #[.int .u8 a.k, .int .i64 a.t, .int .u64 a.v]

/-- An attempt. -/
structure Att where
  count : Int
  back : Int
  ask : AskD
  place : Int
  gone : Int
  val : Int
  thr : Nat
  num : Nat
  L : List Rd.EntD
  Fs : List Fr

/-- What is known of an attempt by its number. -/
structure PgD where
  s : Int
  wr : Bool
  why : Int
def PgD.cells (p : PgD) : List Value := [.int .u64 p.s, .bool p.wr, .int .u8 p.why]

/-- An engine. -/
structure Eng where
  ev : List EvD
  pg : List PgD
  hp : List Int
  lk : Sq.SLk
  th : Nat → Option Att

/-- What a step answers. -/
structure RpD where
  done : Bool
  val : Int
  busy : Bool
  own : Int
  ended : Bool
  why : Int
  err : Int
abbrev RpD.val' (r : RpD) : Value := .agg #[.bool r.done, .int .u64 r.val, .bool r.busy, .int .i64 r.own, .bool r.ended, .int .u8 r.why, .int .i64 r.err]
abbrev rp0 : RpD := ⟨false, 0, false, 0, false, 0, 0⟩

/-! ### Where it lies -/
structure Loc where
  a : Nat
  rb : Nat
  rm : Nat
  rv : Value
  ob : Nat
  ch : List (Nat × Nat)
def Loc.foot (l : Loc) : List Nat := l.a :: (Rd.rdfoot l.rb l.rm l.rv ++ pfoot l.ob l.ch)

abbrev acells (A : Att) (rb ob : Nat) : Array Value := #[.int .u64 A.count, .int .i64 A.back, .int .u8 A.ask.k, .int .i64 A.ask.t, .int .u64 A.ask.v, .int .i64 A.place, .int .i64 A.gone, .int .u64 A.val, .int .i64 A.thr, .int .i64 A.num, ptr rb, ptr ob]

structure AObj (w : World) (l : Loc) (A : Att) : Prop where
  st : w.heap[l.a]? = some (.cells (acells A l.rb l.ob) 74 (0, 0))
  rd : Rd.RdSet 0 w l.rb l.rm l.rv A.L
  lg : PLog 0 w l.ob l.ch A.Fs
  d1 : l.a ∉ Rd.rdfoot l.rb l.rm l.rv
  d2 : l.a ∉ pfoot l.ob l.ch
  d3 : ∀ x ∈ Rd.rdfoot l.rb l.rm l.rv, x ∉ pfoot l.ob l.ch

theorem AObj.lt {w : World} {l : Loc} {A : Att} (h : AObj w l A) : ∀ x ∈ l.foot, x < w.heap.size := by
  intro x hx
  simp only [Loc.foot, List.mem_cons, List.mem_append] at hx
  rcases hx with rfl | hx | hx
  · exact lt_of_heap h.st
  · exact (h.rd.foot_lt x hx).2
  · exact (h.lg.foot_lt x hx).2

theorem AObj.keep {w w' : World} {l : Loc} {A : Att} {S : List Nat} (h : AObj w l A) (t : Touch w w' S) (hS : ∀ x ∈ l.foot, x ∉ S) : AObj w' l A :=
  ⟨(t.block _ (lt_of_heap h.st) (hS _ (by simp [Loc.foot]))).trans h.st, h.rd.keep t (fun x hx => hS x (by simp [Loc.foot, hx])), h.lg.keep t (fun x hx => hS x (by simp [Loc.foot, hx])), h.d1, h.d2, h.d3⟩

structure ELoc where
  e : Nat
  ve : Value
  vp : Value
  vh : Value
  lk : Nat
  at' : Nat → Option Loc

def tptr : Option Loc → Value
  | none => .pointer none
  | some l => ptr l.a
abbrev ecells (X : ELoc) : Array Value := #[X.ve, X.vp, X.vh, ptr X.lk, tptr (X.at' 0), tptr (X.at' 1), tptr (X.at' 2), tptr (X.at' 3)]

def lfoot : Option Loc → List Nat
  | none => []
  | some l => l.foot
def ELoc.foot (X : ELoc) : Nat → List Nat
  | 0 => [X.e]
  | 1 => X.ve.ownBlock.toList
  | 2 => X.vp.ownBlock.toList
  | 3 => X.vh.ownBlock.toList
  | 4 => [X.lk]
  | k + 5 => lfoot (X.at' k)
def ELoc.Apart (X : ELoc) : Prop := ∀ c d, c ≠ d → ∀ x ∈ X.foot c, x ∉ X.foot d
/-- All that an engine holds. -/
def ELoc.Has (X : ELoc) (x : Nat) : Prop := ∃ c, x ∈ X.foot c
def ELoc.all (X : ELoc) : List Nat := X.foot 0 ++ X.foot 1 ++ X.foot 2 ++ X.foot 3 ++ X.foot 4 ++ X.foot 5 ++ X.foot 6 ++ X.foot 7 ++ X.foot 8

theorem apart_upd {X X' : ELoc} {n : Nat} (h : X.Apart) (hlt : ∀ c, ∀ x ∈ X.foot c, x < n) (c0 : Nat) (h1 : ∀ c, c ≠ c0 → X'.foot c = X.foot c) (h2 : ∀ x ∈ X'.foot c0, x ∈ X.foot c0 ∨ n ≤ x) : X'.Apart := by
  intro c d hcd x hx hx'
  by_cases hc : c = c0
  · subst hc
    rw [h1 d (Ne.symm hcd)] at hx'
    rcases h2 x hx with h3 | h3
    · exact h c d hcd x h3 hx'
    · have := hlt d x hx'; omega
  · rw [h1 c hc] at hx
    by_cases hd : d = c0
    · subst hd
      rcases h2 x hx' with h3 | h3
      · exact h c d hcd x hx h3
      · have := hlt c x hx; omega
    · rw [h1 d hd] at hx'
      exact h c d hcd x hx hx'

abbrev evRow (w : World) (v : Value) (l : List EvD) : Prop := w.ownsRow 0 107 4 v l.length (l.flatMap EvD.cells)
abbrev pgRow (w : World) (v : Value) (l : List PgD) : Prop := w.ownsRow 0 104 3 v l.length (l.flatMap PgD.cells)
abbrev hpRow (w : World) (v : Value) (l : List Int) : Prop := w.ownsRow 0 26 1 v l.length (l.map (Value.int .u64))

def AtObj (w : World) : Option Loc → Option Att → Prop
  | none, none => True
  | some l, some A => AObj w l A
  | _, _ => False
theorem AtObj.keep {w w' : World} {l : Option Loc} {A : Option Att} {S : List Nat} (h : AtObj w l A) (t : Touch w w' S) (hS : ∀ x ∈ lfoot l, x ∉ S) : AtObj w' l A := by
  match l, A, h with
  | none, none, _ => trivial
  | some l, some A, h => exact AObj.keep h t hS
theorem AtObj.lt {w : World} {l : Option Loc} {A : Option Att} (h : AtObj w l A) : ∀ x ∈ lfoot l, x < w.heap.size := by
  match l, A, h with
  | none, none, _ => intro x hx; simp [lfoot] at hx
  | some l, some A, h => exact AObj.lt h

structure EObj (w : World) (X : ELoc) (E : Eng) : Prop where
  st : w.heap[X.e]? = some (.cells (ecells X) 63 (0, 0))
  ev : evRow w X.ve E.ev
  pg : pgRow w X.vp E.pg
  hp : hpRow w X.vh E.hp
  lk : Sq.LObj w X.lk E.lk.c E.lk.o
  at' : ∀ k, AtObj w (X.at' k) (E.th k)
  ap : X.Apart

theorem own_lt {w : World} {B : Nat} {e : TypeId} {n sz : Nat} {v : Value} {xs : List Value} (h : w.ownsRow B e sz v n xs) : ∀ x ∈ v.ownBlock.toList, x < w.heap.size := by
  intro x hx
  exact (h.lt x (by simpa using hx)).2

theorem EObj.lt {w : World} {X : ELoc} {E : Eng} (h : EObj w X E) : ∀ c, ∀ x ∈ X.foot c, x < w.heap.size := by
  intro c x hx
  match c, hx with
  | 0, hx => simp only [ELoc.foot, List.mem_singleton] at hx; subst hx; exact lt_of_heap h.st
  | 1, hx => exact own_lt h.ev x hx
  | 2, hx => exact own_lt h.pg x hx
  | 3, hx => exact own_lt h.hp x hx
  | 4, hx => simp only [ELoc.foot, List.mem_singleton] at hx; subst hx; exact lt_of_heap h.lk.st
  | k + 5, hx => exact (h.at' k).lt x hx

theorem EObj.keep {w w' : World} {X : ELoc} {E : Eng} {S : List Nat} (h : EObj w X E) (t : Touch w w' S) (hS : ∀ c, ∀ x ∈ X.foot c, x ∉ S) : EObj w' X E :=
  ⟨(t.block _ (lt_of_heap h.st) (hS 0 _ (by simp [ELoc.foot]))).trans h.st, ownsRow_touch h.ev t (fun k hk => hS 1 k (by simp [ELoc.foot, hk])), ownsRow_touch h.pg t (fun k hk => hS 2 k (by simp [ELoc.foot, hk])), ownsRow_touch h.hp t (fun k hk => hS 3 k (by simp [ELoc.foot, hk])),
    h.lk.touch t (hS 4 _ (by simp [ELoc.foot])), fun k => (h.at' k).keep t (hS (k + 5)), h.ap⟩

theorem EObj.fresh {w w' : World} {X : ELoc} {E : Eng} (h : EObj w X E) (t : Touch w w' []) : EObj w' X E := h.keep t (fun _ _ _ => by simp)

/-- From one place to the next one: what is new is new, what is written was the engine's. -/
structure Next (w : World) (X : ELoc) (w' : World) (X' : ELoc) : Prop where
  e : X'.e = X.e
  os : w'.os = w.os
  tape : w'.tape = w.tape
  output : w'.output = w.output
  size : w.heap.size ≤ w'.heap.size
  block : ∀ k, k < w.heap.size → ¬ X.Has k → w'.heap[k]? = w.heap[k]?
  has : ∀ x, X'.Has x → X.Has x ∨ w.heap.size ≤ x

theorem Next.of {w w' : World} {X X' : ELoc} {S : List Nat} (t : Touch w w' S) (hS : ∀ x ∈ S, X.Has x ∨ w.heap.size ≤ x) (he : X'.e = X.e) (hh : ∀ x, X'.Has x → X.Has x ∨ w.heap.size ≤ x) : Next w X w' X' :=
  ⟨he, t.os, t.tape, t.output, t.size, fun k hk hn => t.block k hk (fun hs => by rcases hS k hs with h | h; exact hn h; omega), hh⟩
theorem Next.same {w w' : World} {X : ELoc} {S : List Nat} (t : Touch w w' S) (hS : ∀ x ∈ S, X.Has x ∨ w.heap.size ≤ x) : Next w X w' X := Next.of t hS rfl (fun _ h => .inl h)
theorem Next.trans {w w1 w2 : World} {X X1 X2 : ELoc} (h : Next w X w1 X1) (g : Next w1 X1 w2 X2) : Next w X w2 X2 :=
  ⟨g.e.trans h.e, g.os.trans h.os, g.tape.trans h.tape, g.output.trans h.output, Nat.le_trans h.size g.size,
    fun k hk hn => (g.block k (Nat.lt_of_lt_of_le hk h.size) (fun hh => by rcases h.has k hh with q | q; exact hn q; omega)).trans (h.block k hk hn),
    fun x hx => by rcases g.has x hx with q | q; exact h.has x q; exact .inr (Nat.le_trans h.size q)⟩
theorem Next.after {w w1 w2 : World} {X X2 : ELoc} (t : Touch w w1 []) (g : Next w1 X w2 X2) : Next w X w2 X2 := (Next.same t (by simp)).trans g
theorem Next.then {w w1 w2 : World} {X X1 : ELoc} (h : Next w X w1 X1) (t : Touch w1 w2 []) : Next w X w2 X1 := h.trans (Next.same t (by simp))
/-- An engine that a call has made itself. -/
theorem Next.touch {w0 w w' : World} {X X' : ELoc} (h : Next w X w' X') (t : Touch w0 w []) (hn : ∀ x, X.Has x → w0.heap.size ≤ x) : Touch w0 w' [] :=
  ⟨h.os.trans t.os, h.tape.trans t.tape, h.output.trans t.output, Nat.le_trans t.size h.size, fun k hk _ => (h.block k (Nat.lt_of_lt_of_le hk t.size) (fun hh => by have := hn k hh; omega)).trans (t.block k hk (by simp))⟩

/-! ### Threads -/
def setT {α : Type} (f : Nat → Option α) (k : Nat) (x : Option α) : Nat → Option α := fun j => if j = k then x else f j
theorem setT_same {α : Type} (f : Nat → Option α) (k : Nat) (x : Option α) : setT f k x k = x := by simp [setT]
theorem setT_other {α : Type} (f : Nat → Option α) {k j : Nat} (x : Option α) (h : j ≠ k) : setT f k x j = f j := by simp [setT, h]

def Eng.put (E : Eng) (k : Nat) (A : Option Att) : Eng := { E with th := setT E.th k A }
def ELoc.put (X : ELoc) (k : Nat) (l : Option Loc) : ELoc := { X with at' := setT X.at' k l }

theorem ELoc.put_foot (X : ELoc) (k : Nat) (l : Option Loc) (c : Nat) (h : c ≠ k + 5) : (X.put k l).foot c = X.foot c := by
  match c, h with
  | 0, _ => rfl
  | 1, _ => rfl
  | 2, _ => rfl
  | 3, _ => rfl
  | 4, _ => rfl
  | j + 5, h => simp only [ELoc.foot, ELoc.put]; rw [setT_other _ _ (by omega)]
theorem ELoc.put_at (X : ELoc) (k : Nat) (l : Option Loc) : (X.put k l).foot (k + 5) = lfoot l := by simp [ELoc.foot, ELoc.put, setT_same]

theorem ecells_put (X : ELoc) (k : Nat) (l l' : Loc) (h : X.at' k = some l) (ha : l'.a = l.a) : ecells (X.put k (some l')) = ecells X := by
  have e : ∀ j, tptr ((X.put k (some l')).at' j) = tptr (X.at' j) := fun j => by
    by_cases hj : j = k
    · subst hj; simp [ELoc.put, setT_same, h, tptr, ha]
    · simp [ELoc.put, setT_other _ _ hj]
  simp only [ecells, e]
  rfl

/-- One attempt is another one. -/
theorem EObj.setAt {w w' : World} {X : ELoc} {E : Eng} (h : EObj w X E) {k : Nat} {l l' : Loc} {A' : Att} (hl : X.at' k = some l) (ha : l'.a = l.a) (hA : AObj w' l' A') (t : Touch w w' l.foot) (hf : ∀ x ∈ l'.foot, x ∈ l.foot ∨ w.heap.size ≤ x) : EObj w' (X.put k (some l')) (E.put k (some A')) ∧ Next w X w' (X.put k (some l')) := by
  have hlf : X.foot (k + 5) = l.foot := by simp [ELoc.foot, hl, lfoot]
  have hno : ∀ c, c ≠ k + 5 → ∀ x ∈ X.foot c, x ∉ l.foot := fun c hc x hx hx' => h.ap c (k + 5) hc x hx (by rw [hlf]; exact hx')
  refine ⟨⟨?_, ?_, ?_, ?_, ?_, fun j => ?_, ?_⟩, ?_⟩
  · rw [ecells_put X k l l' hl ha]
    exact (t.block _ (lt_of_heap h.st) (hno 0 (by omega) _ (by simp [ELoc.foot]))).trans h.st
  · have hh := ownsRow_touch h.ev t (fun q hq => hno 1 (by omega) q (by simp [ELoc.foot, hq]))
    exact hh
  · have hh := ownsRow_touch h.pg t (fun q hq => hno 2 (by omega) q (by simp [ELoc.foot, hq]))
    exact hh
  · have hh := ownsRow_touch h.hp t (fun q hq => hno 3 (by omega) q (by simp [ELoc.foot, hq]))
    exact hh
  · exact h.lk.touch t (hno 4 (by omega) _ (by simp [ELoc.foot]))
  · by_cases hj : j = k
    · subst hj
      simp only [ELoc.put, Eng.put, setT_same]
      exact hA
    · simp only [ELoc.put, Eng.put, setT_other _ _ hj]
      exact (h.at' j).keep t (hno (j + 5) (by omega))
  · refine apart_upd h.ap h.lt (k + 5) (fun c hc => X.put_foot k _ c hc) (fun x hx => ?_)
    rw [X.put_at] at hx
    rw [hlf]
    exact hf x hx
  · refine Next.of t (fun x hx => .inl ⟨k + 5, by rw [hlf]; exact hx⟩) rfl (fun x ⟨c, hx⟩ => ?_)
    by_cases hc : c = k + 5
    · subst hc
      rw [X.put_at] at hx
      rcases hf x hx with q | q
      · exact .inl ⟨k + 5, by rw [hlf]; exact q⟩
      · exact .inr q
    · rw [X.put_foot k _ c hc] at hx
      exact .inl ⟨c, hx⟩

/-- The attempt's own block alone is written. -/
theorem EObj.setA {w w' : World} {X : ELoc} {E : Eng} (h : EObj w X E) {k : Nat} {l : Loc} {A A' : Att} (hl : X.at' k = some l) (hA : E.th k = some A) (hL : A'.L = A.L) (hF : A'.Fs = A.Fs)
    (hst : w'.heap[l.a]? = some (.cells (acells A' l.rb l.ob) 74 (0, 0))) (t : Touch w w' [l.a]) : EObj w' X (E.put k (some A')) ∧ Next w X w' X := by
  have ho := h.at' k
  rw [hl, hA] at ho
  have ho' : AObj w l A := ho
  have hn : AObj w' l A' := ⟨hst, by rw [hL]; exact ho'.rd.keep t (fun x hx hs => by simp at hs; subst hs; exact ho'.d1 hx), by rw [hF]; exact ho'.lg.keep t (fun x hx hs => by simp at hs; subst hs; exact ho'.d2 hx), ho'.d1, ho'.d2, ho'.d3⟩
  obtain ⟨h1, h2⟩ := h.setAt hl rfl hn (t.mono (by simp [Loc.foot])) (fun x hx => .inl hx)
  have e : X.put k (some l) = X := by
    have : setT X.at' k (some l) = X.at' := by
      funext j
      by_cases hj : j = k
      · subst hj; rw [setT_same, hl]
      · rw [setT_other _ _ hj]
    simp only [ELoc.put, this]
  rw [e] at h1 h2
  exact ⟨h1, h2⟩

theorem EObj.att {w : World} {X : ELoc} {E : Eng} (h : EObj w X E) {k : Nat} {A : Att} (hA : E.th k = some A) : ∃ l, X.at' k = some l ∧ AObj w l A := by
  have := h.at' k
  rw [hA] at this
  match hl : X.at' k, this with
  | some l, ho => exact ⟨l, rfl, ho⟩
  | none, ho => exact absurd ho (by simp [AtObj])
theorem EObj.noatt {w : World} {X : ELoc} {E : Eng} (h : EObj w X E) {k : Nat} (hA : E.th k = none) : X.at' k = none := by
  have := h.at' k
  rw [hA] at this
  match hl : X.at' k, this with
  | none, _ => rfl
  | some l, ho => exact absurd ho (by simp [AtObj])

end Go.Proofs.Ytinhdpiecifmhaa.Nr

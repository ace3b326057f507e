/-
  package norec: AN ENGINE's STEPS AS PLAIN DATA, AND WHAT ALWAYS HOLDS. No walk.
-/
import Derived.Test.YtinhdpiecifmhaaNrGoOn
namespace Go.Proofs.Ytinhdpiecifmhaa.Nr
set_option linter.unusedVariables false
set_option linter.unusedSimpArgs false
open Go.RowKit Go.Maps

def placeE (E : Eng) (k : Nat) (A : Att) : RpD × Eng :=
  if A.place = 1 then (rp0, noteValueE E k A) else if A.place = 2 then readNotedE E k A else if A.place = 3 then tryE E k A else if A.place = 4 then takeLockE E k A
  else if A.place = 5 then (rp0, storeE E k A) else if A.place = 6 then ({ rp0 with done := true, ended := true }, unlockE E k A) else if A.place = 7 then noteCountE E k A else if A.place = 8 then compareE E k A else (rp0, settleE E k A)

def goE (E : Eng) (k : Nat) (A : Att) : RpD × Eng :=
  if A.ask.k = 1 then (match getF A.Fs A.ask.t with | some v => ({ rp0 with done := true, val := v }, readE E k A v) | none => placeE E k A)
  else if A.ask.k = 6 then placeE E k A else if A.ask.k = 2 then writeE E k A
  else if A.ask.k = 3 then ({ rp0 with done := true }, frameE E k A 4 (pushS A.Fs).2) else if A.ask.k = 4 then ({ rp0 with done := true }, frameE E k A 5 (dropS A.Fs).2)
  else if A.ask.k = 5 then ({ rp0 with done := true }, frameE E k A 6 (mergeS A.Fs).2) else ({ rp0 with done := true, ended := true, why := 4 }, abortE E k A 4)

/-- What a frame has lies in the heap. -/
def FrIn (n : Nat) (f : Fr) : Prop := ∀ t v, fget f t = some v → 0 ≤ t ∧ t < n

/-- What always holds of an attempt: n variables, m pages. -/
structure AWf (n m : Nat) (k : Nat) (A : Att) : Prop where
  k4 : k < 4
  thr : A.thr = k
  num : A.num < m
  t : -9223372036854775808 ≤ A.ask.t ∧ A.ask.t ≤ 9223372036854775807
  v : Wf64 A.ask.v
  val : Wf64 A.val
  kk : 0 ≤ A.ask.k ∧ A.ask.k ≤ 7
  rd : A.ask.k = 1 ∨ A.ask.k = 2 → 0 ≤ A.ask.t ∧ A.ask.t < n
  L : ∀ e ∈ A.L, 0 ≤ e.tvar ∧ e.tvar < n
  ok : ∀ f ∈ A.Fs, FrOk f
  fin : ∀ f ∈ A.Fs, FrIn n f
  ne : A.Fs ≠ []
  p5 : A.place = 5 → 0 ≤ A.gone ∧ A.gone < (allA A).length
  p8 : A.place = 8 → 0 ≤ A.gone ∧ A.gone ≤ A.L.length
  one : A.ask.k = 6 → A.Fs.length = 1
  nz : A.ask.k = 6 → A.place ≠ 3 → 0 < (allA A).length
  pl1 : A.ask.k = 1 → A.place = 1 ∨ A.place = 2 ∨ (7 ≤ A.place ∧ A.place ≤ 9 ∧ A.back = 1)
  pl6 : A.ask.k = 6 → A.place = 3 ∨ A.place = 4 ∨ A.place = 5 ∨ A.place = 6 ∨ (7 ≤ A.place ∧ A.place ≤ 9 ∧ A.back = 4)

structure EWf (N : Nat) (E : Eng) : Prop where
  nb : N < 90000
  hp1 : 1 ≤ E.hp.length
  hp12 : E.hp.length ≤ 12
  hv : ∀ v ∈ E.hp, Wf64 v
  pg : E.pg.length ≤ 64
  ev : E.ev.length ≤ N
  lk0 : 0 ≤ E.lk.c
  lk1 : E.lk.c ≤ N
  th : ∀ k A, E.th k = some A → AWf E.hp.length E.pg.length k A

theorem EWf.up {N : Nat} {E : Eng} (h : EWf N E) (M : Nat) (hM : N ≤ M) (hb : M < 90000) : EWf M E :=
  ⟨hb, h.hp1, h.hp12, h.hv, h.pg, by have := h.ev; omega, h.lk0, by have := h.lk1; omega, h.th⟩

theorem EWf.upd {N : Nat} {E E' : Eng} (h : EWf N E) (hb : N + 2 < 90000) (k : Nat) (hhp : E'.hp.length = E.hp.length) (hhv : ∀ v ∈ E'.hp, Wf64 v) (hpg : E'.pg.length = E.pg.length) (hev : E'.ev.length ≤ N + 2) (hlk : 0 ≤ E'.lk.c ∧ E'.lk.c ≤ N + 2)
    (ho : ∀ j, j ≠ k → E'.th j = E.th j) (hk : ∀ A', E'.th k = some A' → AWf E.hp.length E.pg.length k A') : EWf (N + 2) E' :=
  ⟨hb, by rw [hhp]; exact h.hp1, by rw [hhp]; exact h.hp12, hhv, by rw [hpg]; exact h.pg, hev, hlk.1, by exact_mod_cast hlk.2, fun j A hj => by
    rw [hhp, hpg]
    by_cases hjk : j = k
    · subst hjk; exact hk A hj
    · rw [ho j hjk] at hj; exact h.th j A hj⟩

/-- Only the thread's attempt is another one, and events. -/
theorem EWf.att {N : Nat} {E E' : Eng} (h : EWf N E) (hb : N + 2 < 90000) (k : Nat) (hhp : E'.hp = E.hp) (hpg : E'.pg.length = E.pg.length) (hev : E'.ev.length ≤ E.ev.length + 2) (hlk : E'.lk = E.lk)
    (ho : ∀ j, j ≠ k → E'.th j = E.th j) (hk : ∀ A', E'.th k = some A' → AWf E.hp.length E.pg.length k A') : EWf (N + 2) E' :=
  h.upd hb k (by rw [hhp]) (by rw [hhp]; exact h.hv) hpg (by have := h.ev; omega) (by rw [hlk]; have := h.lk0; have := h.lk1; omega) ho hk

theorem put_other (E : Eng) (k : Nat) (a : Option Att) (j : Nat) (h : j ≠ k) : (E.put k a).th j = E.th j := by simp [Eng.put, setT_other _ _ h]

theorem doneA_wf {n m k : Nat} {A : Att} (h : AWf n m k A) : AWf n m k (doneA A) :=
  { h with
    t := by simp [doneA]
    v := by simp [doneA, Wf64]
    val := by simp [doneA, Wf64]
    kk := by simp [doneA]
    rd := by intro q; simp [doneA] at q
    p5 := by intro q; simp [doneA] at q
    p8 := by intro q; simp [doneA] at q
    one := by intro q; simp [doneA] at q
    nz := by intro q; simp [doneA] at q
    pl1 := by intro q; simp [doneA] at q
    pl6 := by intro q; simp [doneA] at q }

/-- An attempt goes on at another place. -/
theorem movedA_wf {n m k : Nat} {A : Att} (h : AWf n m k A) (p : Int) (h5 : p = 5 → 0 < (allA A).length) (hnz : A.ask.k = 6 → p ≠ 3 → 0 < (allA A).length)
    (h1 : A.ask.k = 1 → p = 1 ∨ p = 2 ∨ (7 ≤ p ∧ p ≤ 9 ∧ A.back = 1)) (h6 : A.ask.k = 6 → p = 3 ∨ p = 4 ∨ p = 5 ∨ p = 6 ∨ (7 ≤ p ∧ p ≤ 9 ∧ A.back = 4)) : AWf n m k (movedA A p) :=
  { h with
    p5 := by intro q; simp only [movedA] at q ⊢; exact ⟨Int.le_refl _, by have := h5 q; show (0 : Int) < ((allA A).length : Int); omega⟩
    p8 := by intro q; simp only [movedA]; omega
    nz := hnz
    pl1 := h1
    pl6 := h6 }

theorem lenF_pos {A : Att} (h : A.Fs.length = 1) (hz : ¬ lenF A.Fs = 0) (hok : ∀ f ∈ A.Fs, FrOk f) : 0 < (allA A).length := by
  match hF : A.Fs, h with
  | [f], _ =>
    rw [hF] at hz hok
    have hf := hok f (by simp)
    have hz' : ¬ fcnt f = 0 := by simpa [lenF] using hz
    have hex : ∃ o ∈ f, o.isSome = true := by
      rcases hq : f.filter Option.isSome with _ | ⟨o, r⟩
      · exact absurd (by simp [fcnt, hq]) hz'
      · have : o ∈ f.filter Option.isSome := by rw [hq]; simp
        rw [List.mem_filter] at this
        exact ⟨o, this.1, this.2⟩
    obtain ⟨o, ho, hs⟩ := hex
    obtain ⟨i, hi, rfl⟩ := List.getElem_of_mem ho
    obtain ⟨v, hv⟩ := Option.isSome_iff_exists.1 hs
    have hi12 : i < 12 := by rw [← hf.1]; exact hi
    have hg : getF [f] (i : Int) = some v := by
      simp only [getF, List.findSome?_cons, fget]
      rw [if_pos (by omega)]
      simp [List.getD_eq_getElem?_getD, List.getElem?_eq_getElem hi, hv]
    have := (allK_at hg hi12).1
    simp only [allA, hF]
    omega

end Go.Proofs.Ytinhdpiecifmhaa.Nr

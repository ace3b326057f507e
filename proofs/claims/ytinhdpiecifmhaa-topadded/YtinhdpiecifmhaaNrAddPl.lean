/-
  TopAdded: WHAT ALWAYS HOLDS OF THREADS THAT ADD, AS PLAIN DATA. No walk.
-/
import Derived.Test.YtinhdpiecifmhaaNrLive
import Derived.Test.YtinhdpiecifmhaaAllA
namespace Go.Proofs.Ytinhdpiecifmhaa.Nr
set_option linter.unusedVariables false
set_option linter.unusedSimpArgs false
open Go.RowKit Go.Maps

abbrev oneI : Int := 4607182418800017408
abbrev nanI : Int := 9221120237041090560
/-- A whole number as a value. -/
def VN (n : Nat) : Int := (ofB (floatOfInt .f64 (n : Int)) : Nat)
def VI (s : Int) : Int := VN (s / 2).toNat
/-- One more. -/
def addI (a : Int) : Int := (arithB .add (ofB a.toNat) (ofB oneI.toNat) : Nat)
theorem addI_VN : ∀ n, n < 160 → addI (VN n) = VN (n + 1) := by decide +kernel
theorem VN_right : ∀ n, n < 170 → ((ofB (VN n).toNat : Nat) : Int) = VN n ∧ rightB (VN n) = true := by decide +kernel
set_option maxRecDepth 100000 in
theorem VN_lt : ∀ n, n < 170 → 0 ≤ VN n ∧ VN n < 18446744073709551616 := by decide +kernel
theorem VN_wf (n : Nat) (h : n < 170) : Wf64 (VN n) := VN_lt n h
theorem VN_same {i j : Nat} (hi : i < 170) (hj : j < 170) (h : Rd.sameV (VN i) (VN j) = true) : VN i = VN j := by
  unfold Rd.sameV at h
  rw [(VN_right i hi).1, (VN_right j hj).1] at h
  simpa using h
theorem addI_VI {s : Int} (h0 : 0 ≤ s) (h1 : s ≤ 310) (he : s % 2 = 0) : addI (VI s) = VI (s + 2) := by
  unfold VI
  rw [addI_VN _ (by omega), show ((s + 2) / 2).toNat = (s / 2).toNat + 1 by omega]
theorem VI_right {s : Int} (h0 : 0 ≤ s) (h1 : s ≤ 320) : rightB (VI s) = true := (VN_right _ (by omega)).2
theorem VI_wf {s : Int} (h0 : 0 ≤ s) (h1 : s ≤ 320) : Wf64 (VI s) := VN_wf _ (by omega)

/-- What it wrote: one more than it read. -/
def W1 (g : Int) : List Fr := [fput f0 0 (addI g)]
theorem W1_get (g : Int) (h : getF [fput f0 0 (addI g)] 0 = none) : False := by simp [getF, fget, fput, f0] at h
theorem W1_len (g : Int) : lenF (W1 g) = 1 := by simp [lenF, W1, fcnt, fput, f0]
theorem W1_all (g : Int) : allK (getF (W1 g)) 12 = [(0, addI g)] := by simp [allK, W1, getF, fget, fput, f0, List.range, List.range.loop]
theorem f0_get : getF [f0] 0 = none := by simp [getF, fget, f0]
theorem f0_put (v : Int) (h : rightB v = true) : putS [f0] 0 v = (0, [fput f0 0 v]) := by simp [putS, h, lenF, fcnt, f0, fget]

/-- A snapshot. -/
structure APb (c s : Int) : Prop where
  e : s % 2 = 0
  n : 0 ≤ s
  le : s ≤ c
structure RD (s g : Int) (A : Att) : Prop where
  L : A.L = [⟨0, g, 0⟩]
  g : g = VI s
/-- A thread's attempt, by how many asks it made: c what the lock counts, o who has it, h the variable, s its snapshot, g what it read. -/
def AP (c o h s : Int) (k : Nat) (g : Int) (A : Att) (n : Nat) : Prop := ∀ P : Nat → Prop,
  ((APb c s) → (A.ask = ⟨0, 0, 0⟩) → (A.L = []) → (A.Fs = [f0]) → P 0) →
  ((APb c s) → (A.ask = ⟨1, 0, 0⟩) → (A.L = []) → (A.Fs = [f0]) → (A.place = 1) → P 1) →
  ((APb c s) → (A.ask = ⟨1, 0, 0⟩) → (A.L = []) → (A.Fs = [f0]) → (A.place = 2) → (c = s → A.val = VI s) → P 1) →
  ((APb c s) → (A.ask = ⟨1, 0, 0⟩) → (A.L = []) → (A.Fs = [f0]) → (A.back = 1) → (A.place = 7) → P 1) →
  ((APb c s) → (A.ask = ⟨1, 0, 0⟩) → (A.L = []) → (A.Fs = [f0]) → (A.back = 1) → (A.place = 8) → (A.gone = 0) → (APb c A.count) → P 1) →
  ((APb c s) → (A.ask = ⟨1, 0, 0⟩) → (A.L = []) → (A.Fs = [f0]) → (A.back = 1) → (A.place = 9) → (APb c A.count) → P 1) →
  ((APb c s) → (A.ask = ⟨0, 0, 0⟩) → (RD s g A) → (A.Fs = [f0]) → P 1) →
  ((APb c s) → (A.ask = ⟨2, 0, addI g⟩) → (RD s g A) → (A.Fs = [f0]) → P 2) →
  ((APb c s) → (A.ask = ⟨0, 0, 0⟩) → (RD s g A) → (A.Fs = W1 g) → P 2) →
  ((APb c s) → (A.ask = ⟨6, 0, 0⟩) → (RD s g A) → (A.Fs = W1 g) → (A.place = 3) → P 3) →
  ((APb c s) → (A.ask = ⟨6, 0, 0⟩) → (RD s g A) → (A.Fs = W1 g) → (A.place = 4) → P 3) →
  ((APb c s) → (A.ask = ⟨6, 0, 0⟩) → (RD s g A) → (A.Fs = W1 g) → (A.place = 5) → (A.gone = 0) → (c = s + 1) → (o = k) → P 3) →
  ((APb c s) → (A.ask = ⟨6, 0, 0⟩) → (RD s g A) → (A.Fs = W1 g) → (A.place = 6) → (c = s + 1) → (o = k) → (h = VI (s + 2)) → P 3) →
  ((APb c s) → (A.ask = ⟨6, 0, 0⟩) → (RD s g A) → (A.Fs = W1 g) → (A.back = 4) → (A.place = 7) → P 3) →
  ((APb c s) → (A.ask = ⟨6, 0, 0⟩) → (RD s g A) → (A.Fs = W1 g) → (A.back = 4) → (A.place = 8) → (A.gone = 0) → (APb c A.count) → P 3) →
  ((APb c s) → (A.ask = ⟨6, 0, 0⟩) → (RD s g A) → (A.Fs = W1 g) → (A.back = 4) → (A.place = 8) → (A.gone = 1) → (APb c A.count) → (c = A.count → g = VI A.count) → P 3) →
  ((APb c s) → (A.ask = ⟨6, 0, 0⟩) → (RD s g A) → (A.Fs = W1 g) → (A.back = 4) → (A.place = 9) → (APb c A.count) → (c = A.count → g = VI A.count) → P 3) →
  P n
theorem AP.new {c o h s : Int} {k : Nat} {g : Int} {A : Att} (b : APb c s) (ha : A.ask = ⟨0, 0, 0⟩) (hL : A.L = []) (hF : A.Fs = [f0]) : AP c o h s k g A 0 := fun P q0 q1 q2 q3 q4 q5 q6 q7 q8 q9 q10 q11 q12 q13 q14 q15 q16 => q0 b ha hL hF
theorem AP.r1 {c o h s : Int} {k : Nat} {g : Int} {A : Att} (b : APb c s) (ha : A.ask = ⟨1, 0, 0⟩) (hL : A.L = []) (hF : A.Fs = [f0]) (hp : A.place = 1) : AP c o h s k g A 1 := fun P q0 q1 q2 q3 q4 q5 q6 q7 q8 q9 q10 q11 q12 q13 q14 q15 q16 => q1 b ha hL hF hp
theorem AP.r2 {c o h s : Int} {k : Nat} {g : Int} {A : Att} (b : APb c s) (ha : A.ask = ⟨1, 0, 0⟩) (hL : A.L = []) (hF : A.Fs = [f0]) (hp : A.place = 2) (hv : c = s → A.val = VI s) : AP c o h s k g A 1 := fun P q0 q1 q2 q3 q4 q5 q6 q7 q8 q9 q10 q11 q12 q13 q14 q15 q16 => q2 b ha hL hF hp hv
theorem AP.r7 {c o h s : Int} {k : Nat} {g : Int} {A : Att} (b : APb c s) (ha : A.ask = ⟨1, 0, 0⟩) (hL : A.L = []) (hF : A.Fs = [f0]) (hb : A.back = 1) (hp : A.place = 7) : AP c o h s k g A 1 := fun P q0 q1 q2 q3 q4 q5 q6 q7 q8 q9 q10 q11 q12 q13 q14 q15 q16 => q3 b ha hL hF hb hp
theorem AP.r8 {c o h s : Int} {k : Nat} {g : Int} {A : Att} (b : APb c s) (ha : A.ask = ⟨1, 0, 0⟩) (hL : A.L = []) (hF : A.Fs = [f0]) (hb : A.back = 1) (hp : A.place = 8) (hg : A.gone = 0) (b2 : APb c A.count) : AP c o h s k g A 1 := fun P q0 q1 q2 q3 q4 q5 q6 q7 q8 q9 q10 q11 q12 q13 q14 q15 q16 => q4 b ha hL hF hb hp hg b2
theorem AP.r9 {c o h s : Int} {k : Nat} {g : Int} {A : Att} (b : APb c s) (ha : A.ask = ⟨1, 0, 0⟩) (hL : A.L = []) (hF : A.Fs = [f0]) (hb : A.back = 1) (hp : A.place = 9) (b2 : APb c A.count) : AP c o h s k g A 1 := fun P q0 q1 q2 q3 q4 q5 q6 q7 q8 q9 q10 q11 q12 q13 q14 q15 q16 => q5 b ha hL hF hb hp b2
theorem AP.got {c o h s : Int} {k : Nat} {g : Int} {A : Att} (b : APb c s) (ha : A.ask = ⟨0, 0, 0⟩) (hr : RD s g A) (hF : A.Fs = [f0]) : AP c o h s k g A 1 := fun P q0 q1 q2 q3 q4 q5 q6 q7 q8 q9 q10 q11 q12 q13 q14 q15 q16 => q6 b ha hr hF
theorem AP.wr {c o h s : Int} {k : Nat} {g : Int} {A : Att} (b : APb c s) (ha : A.ask = ⟨2, 0, addI g⟩) (hr : RD s g A) (hF : A.Fs = [f0]) : AP c o h s k g A 2 := fun P q0 q1 q2 q3 q4 q5 q6 q7 q8 q9 q10 q11 q12 q13 q14 q15 q16 => q7 b ha hr hF
theorem AP.put {c o h s : Int} {k : Nat} {g : Int} {A : Att} (b : APb c s) (ha : A.ask = ⟨0, 0, 0⟩) (hr : RD s g A) (hF : A.Fs = W1 g) : AP c o h s k g A 2 := fun P q0 q1 q2 q3 q4 q5 q6 q7 q8 q9 q10 q11 q12 q13 q14 q15 q16 => q8 b ha hr hF
theorem AP.c3 {c o h s : Int} {k : Nat} {g : Int} {A : Att} (b : APb c s) (ha : A.ask = ⟨6, 0, 0⟩) (hr : RD s g A) (hF : A.Fs = W1 g) (hp : A.place = 3) : AP c o h s k g A 3 := fun P q0 q1 q2 q3 q4 q5 q6 q7 q8 q9 q10 q11 q12 q13 q14 q15 q16 => q9 b ha hr hF hp
theorem AP.c4 {c o h s : Int} {k : Nat} {g : Int} {A : Att} (b : APb c s) (ha : A.ask = ⟨6, 0, 0⟩) (hr : RD s g A) (hF : A.Fs = W1 g) (hp : A.place = 4) : AP c o h s k g A 3 := fun P q0 q1 q2 q3 q4 q5 q6 q7 q8 q9 q10 q11 q12 q13 q14 q15 q16 => q10 b ha hr hF hp
theorem AP.c5 {c o h s : Int} {k : Nat} {g : Int} {A : Att} (b : APb c s) (ha : A.ask = ⟨6, 0, 0⟩) (hr : RD s g A) (hF : A.Fs = W1 g) (hp : A.place = 5) (hg : A.gone = 0) (hc : c = s + 1) (ho : o = k) : AP c o h s k g A 3 := fun P q0 q1 q2 q3 q4 q5 q6 q7 q8 q9 q10 q11 q12 q13 q14 q15 q16 => q11 b ha hr hF hp hg hc ho
theorem AP.c6 {c o h s : Int} {k : Nat} {g : Int} {A : Att} (b : APb c s) (ha : A.ask = ⟨6, 0, 0⟩) (hr : RD s g A) (hF : A.Fs = W1 g) (hp : A.place = 6) (hc : c = s + 1) (ho : o = k) (hh : h = VI (s + 2)) : AP c o h s k g A 3 := fun P q0 q1 q2 q3 q4 q5 q6 q7 q8 q9 q10 q11 q12 q13 q14 q15 q16 => q12 b ha hr hF hp hc ho hh
theorem AP.c7 {c o h s : Int} {k : Nat} {g : Int} {A : Att} (b : APb c s) (ha : A.ask = ⟨6, 0, 0⟩) (hr : RD s g A) (hF : A.Fs = W1 g) (hb : A.back = 4) (hp : A.place = 7) : AP c o h s k g A 3 := fun P q0 q1 q2 q3 q4 q5 q6 q7 q8 q9 q10 q11 q12 q13 q14 q15 q16 => q13 b ha hr hF hb hp
theorem AP.c80 {c o h s : Int} {k : Nat} {g : Int} {A : Att} (b : APb c s) (ha : A.ask = ⟨6, 0, 0⟩) (hr : RD s g A) (hF : A.Fs = W1 g) (hb : A.back = 4) (hp : A.place = 8) (hg : A.gone = 0) (b2 : APb c A.count) : AP c o h s k g A 3 := fun P q0 q1 q2 q3 q4 q5 q6 q7 q8 q9 q10 q11 q12 q13 q14 q15 q16 => q14 b ha hr hF hb hp hg b2
theorem AP.c81 {c o h s : Int} {k : Nat} {g : Int} {A : Att} (b : APb c s) (ha : A.ask = ⟨6, 0, 0⟩) (hr : RD s g A) (hF : A.Fs = W1 g) (hb : A.back = 4) (hp : A.place = 8) (hg : A.gone = 1) (b2 : APb c A.count) (h8 : c = A.count → g = VI A.count) : AP c o h s k g A 3 := fun P q0 q1 q2 q3 q4 q5 q6 q7 q8 q9 q10 q11 q12 q13 q14 q15 q16 => q15 b ha hr hF hb hp hg b2 h8
theorem AP.c9 {c o h s : Int} {k : Nat} {g : Int} {A : Att} (b : APb c s) (ha : A.ask = ⟨6, 0, 0⟩) (hr : RD s g A) (hF : A.Fs = W1 g) (hb : A.back = 4) (hp : A.place = 9) (b2 : APb c A.count) (h9 : c = A.count → g = VI A.count) : AP c o h s k g A 3 := fun P q0 q1 q2 q3 q4 q5 q6 q7 q8 q9 q10 q11 q12 q13 q14 q15 q16 => q16 b ha hr hF hb hp b2 h9

theorem APb.up {c c' s : Int} (h : APb c s) (hc : c ≤ c') : APb c' s := ⟨h.e, h.n, by have := h.le; omega⟩
/-- Another thread's deed. -/
theorem AP.other {c o h s c' o' h' : Int} {j k n : Nat} {g : Int} {A : Att} (H : AP c o h s j g A n) (hc : c ≤ c') (hjk : j ≠ k) (hx : c % 2 = 1 → o ≠ k → c' = c ∧ o' = o ∧ h' = h) : AP c' o' h' s j g A n := by
  refine H (fun n => AP c' o' h' s j g A n) ?_ ?_ ?_ ?_ ?_ ?_ ?_ ?_ ?_ ?_ ?_ ?_ ?_ ?_ ?_ ?_ ?_
  · intro b ha hL hF
    exact .new (b.up hc) ha hL hF
  · intro b ha hL hF hp
    exact .r1 (b.up hc) ha hL hF hp
  · intro b ha hL hF hp hv
    exact .r2 (b.up hc) ha hL hF hp (fun e => hv (by have := b.le; omega))
  · intro b ha hL hF hb hp
    exact .r7 (b.up hc) ha hL hF hb hp
  · intro b ha hL hF hb hp hg b2
    exact .r8 (b.up hc) ha hL hF hb hp hg (b2.up hc)
  · intro b ha hL hF hb hp b2
    exact .r9 (b.up hc) ha hL hF hb hp (b2.up hc)
  · intro b ha hr hF
    exact .got (b.up hc) ha hr hF
  · intro b ha hr hF
    exact .wr (b.up hc) ha hr hF
  · intro b ha hr hF
    exact .put (b.up hc) ha hr hF
  · intro b ha hr hF hp
    exact .c3 (b.up hc) ha hr hF hp
  · intro b ha hr hF hp
    exact .c4 (b.up hc) ha hr hF hp
  · intro b ha hr hF hp hg hc0 ho
    obtain ⟨e1, e2, e3⟩ := hx (by have := b.e; omega) (by omega)
    exact .c5 (b.up hc) ha hr hF hp hg (by omega) (by omega)
  · intro b ha hr hF hp hc0 ho hh
    obtain ⟨e1, e2, e3⟩ := hx (by have := b.e; omega) (by omega)
    exact .c6 (b.up hc) ha hr hF hp (by omega) (by omega) (by rw [e3]; exact hh)
  · intro b ha hr hF hb hp
    exact .c7 (b.up hc) ha hr hF hb hp
  · intro b ha hr hF hb hp hg b2
    exact .c80 (b.up hc) ha hr hF hb hp hg (b2.up hc)
  · intro b ha hr hF hb hp hg b2 h8
    exact .c81 (b.up hc) ha hr hF hb hp hg (b2.up hc) (fun e => h8 (by have := b2.le; omega))
  · intro b ha hr hF hb hp b2 h9
    exact .c9 (b.up hc) ha hr hF hb hp (b2.up hc) (fun e => h9 (by have := b2.le; omega))

def pgS (E : Eng) (n : Nat) : Int := (E.pg.getD n ⟨0, false, 0⟩).s
/-- What always holds: at how many asks each attempt made, got what it read, done how many have committed. -/
structure Inv (E : Eng) (at' : Nat → Nat) (got : Nat → Int) (done : Nat) : Prop where
  hp : ∃ h, E.hp = [h, nanI] ∧ (E.lk.c % 2 = 0 → h = VI E.lk.c)
  c0 : 0 ≤ E.lk.c
  dn : (done : Int) = E.lk.c / 2
  th3 : ∀ k, 3 ≤ k → E.th k = none
  num : ∀ i j A B, E.th i = some A → E.th j = some B → A.num = B.num → i = j
  pl : ∀ k A, E.th k = some A → A.num < E.pg.length
  ap : ∀ k A, E.th k = some A → AP E.lk.c E.lk.o (E.hp.getD 0 0) (pgS E A.num) k (got k) A (at' k)

def upd {α : Type} (f : Nat → α) (k : Nat) (x : α) : Nat → α := fun j => if j = k then x else f j
theorem upd_same {α : Type} (f : Nat → α) (k : Nat) (x : α) : upd f k x k = x := by simp [upd]
theorem upd_other {α : Type} (f : Nat → α) {k j : Nat} (x : α) (h : j ≠ k) : upd f k x j = f j := by simp [upd, h]

theorem Inv.step {E E' : Eng} {at' at2 : Nat → Nat} {got got2 : Nat → Int} {done done2 : Nat} (H : Inv E at' got done) (k : Nat) (A : Att) (hA : E.th k = some A)
    (hth : ∀ j, j ≠ k → E'.th j = E.th j)
    (hk : E'.th k = none ∨ ∃ A', E'.th k = some A' ∧ A'.num = A.num ∧ AP E'.lk.c E'.lk.o (E'.hp.getD 0 0) (pgS E' A'.num) k (got2 k) A' (at2 k))
    (hhp : ∃ h, E'.hp = [h, nanI] ∧ (E'.lk.c % 2 = 0 → h = VI E'.lk.c)) (hc : E.lk.c ≤ E'.lk.c)
    (hx : E.lk.c % 2 = 1 → E.lk.o ≠ k → E'.lk = E.lk ∧ E'.hp = E.hp)
    (hpl : E'.pg.length = E.pg.length) (hpo : ∀ n, n ≠ A.num → pgS E' n = pgS E n) (hd : (done2 : Int) = E'.lk.c / 2)
    (ha : ∀ j, j ≠ k → at2 j = at' j) (hg : ∀ j, j ≠ k → got2 j = got j) : Inv E' at2 got2 done2 := by
  refine ⟨hhp, by have := H.c0; omega, hd, ?_, ?_, ?_, ?_⟩
  · intro j hj
    by_cases hjk : j = k
    · subst hjk; rw [H.th3 j hj] at hA; simp at hA
    · rw [hth j hjk]; exact H.th3 j hj
  · intro i j B C hB hC hn
    have key : ∀ i B, E'.th i = some B → ∃ B', E.th i = some B' ∧ B'.num = B.num := by
      intro i B hB
      by_cases hik : i = k
      · subst hik
        rcases hk with q | ⟨A', q, q1, _⟩
        · rw [q] at hB; simp at hB
        · rw [q] at hB
          simp only [Option.some.injEq] at hB
          subst hB
          exact ⟨A, hA, q1.symm⟩
      · rw [hth i hik] at hB; exact ⟨B, hB, rfl⟩
    obtain ⟨B', b1, b2⟩ := key i B hB
    obtain ⟨C', c1, c2⟩ := key j C hC
    exact H.num i j B' C' b1 c1 (by omega)
  · intro i B hB
    rw [hpl]
    by_cases hik : i = k
    · subst hik
      rcases hk with q | ⟨A', q, q1, _⟩
      · rw [q] at hB; simp at hB
      · rw [q] at hB
        simp only [Option.some.injEq] at hB
        subst hB
        rw [q1]; exact H.pl _ A hA
    · rw [hth i hik] at hB; exact H.pl i B hB
  · intro i B hB
    by_cases hik : i = k
    · subst hik
      rcases hk with q | ⟨A', q, q1, q2⟩
      · rw [q] at hB; simp at hB
      · rw [q] at hB
        simp only [Option.some.injEq] at hB
        subst hB
        exact q2
    · rw [hth i hik] at hB
      rw [ha i hik, hg i hik, hpo B.num (fun e => hik (H.num i k B A hB hA e))]
      exact (H.ap i B hB).other hc hik (fun h1 h2 => by
        obtain ⟨e1, e2⟩ := hx h1 h2
        rw [e1, e2]; exact ⟨rfl, rfl, rfl⟩)

/-- The thread's attempt alone is another one. -/
theorem Inv.att {E E' : Eng} {at' : Nat → Nat} {got got2 : Nat → Int} {done : Nat} (H : Inv E at' got done) (k : Nat) (A : Att) (hA : E.th k = some A) (A' : Att)
    (hth : ∀ j, E'.th j = setT E.th k (some A') j) (hl : E'.lk = E.lk) (hh : E'.hp = E.hp) (hp : E'.pg = E.pg) (hn : A'.num = A.num)
    (hap : AP E.lk.c E.lk.o (E.hp.getD 0 0) (pgS E A.num) k (got2 k) A' (at' k)) (hg : ∀ j, j ≠ k → got2 j = got j) : Inv E' at' got2 done := by
  have e : ∀ n, pgS E' n = pgS E n := fun n => by simp only [pgS, hp]
  refine H.step k A hA (fun j hj => by rw [hth, setT_other _ _ hj]) (.inr ⟨A', by rw [hth, setT_same], hn, ?_⟩) ?_ (by rw [hl]; exact Int.le_refl _) (fun _ _ => ⟨hl, hh⟩) (by rw [hp]) (fun n _ => e n) (by rw [hl]; exact H.dn) (fun _ _ => rfl) hg
  · rw [hl, hh, e, hn]; exact hap
  · rw [hl, hh]; exact H.hp
/-- The thread's attempt is gone, by a reason. -/
theorem Inv.gone {E E' : Eng} {at' : Nat → Nat} {got : Nat → Int} {done : Nat} (H : Inv E at' got done) (k : Nat) (A : Att) (hA : E.th k = some A)
    (hth : ∀ j, E'.th j = setT E.th k none j) (hl : E'.lk = E.lk) (hh : E'.hp = E.hp) (hpl : E'.pg.length = E.pg.length) (hpo : ∀ n, n ≠ A.num → pgS E' n = pgS E n) : Inv E' (upd at' k 0) got done := by
  refine H.step k A hA (fun j hj => by rw [hth, setT_other _ _ hj]) (.inl (by rw [hth, setT_same])) ?_ (by rw [hl]; exact Int.le_refl _) (fun _ _ => ⟨hl, hh⟩) hpl hpo (by rw [hl]; exact H.dn) (fun j hj => upd_other _ _ hj) (fun _ _ => rfl)
  rw [hl, hh]; exact H.hp

theorem put_all (E : Eng) (k : Nat) (A : Option Att) (j : Nat) : (E.put k A).th j = setT E.th k A j := rfl
theorem pgS_set (E : Eng) (m n : Nat) (p : PgD) (h : n ≠ m) : pgS { E with pg := E.pg.set m p } n = pgS E n := by
  simp only [pgS, List.getD_eq_getElem?_getD, List.getElem?_set_ne (Ne.symm h)]
theorem pgS_at (E : Eng) (m : Nat) (p : PgD) (h : m < E.pg.length) : pgS { E with pg := E.pg.set m p } m = p.s := by
  simp only [pgS, List.getD_eq_getElem?_getD, List.getElem?_set_self h, Option.getD_some]

/-! ### What a step comes to -/
def atS (at' : Nat → Nat) (k : Nat) (r : RpD) : Nat → Nat := if r.ended = true then upd at' k 0 else at'
def gotS (got : Nat → Int) (at' : Nat → Nat) (k : Nat) (r : RpD) : Nat → Int := if r.ended = false ∧ r.done = true ∧ at' k = 1 then upd got k r.val else got
def doneS (done : Nat) (r : RpD) : Nat := if r.ended = true ∧ r.why = 0 then done + 1 else done

def Goes (E : Eng) (at' : Nat → Nat) (got : Nat → Int) (done k : Nat) (r : RpD × Eng) : Prop := Inv r.2 (atS at' k r.1) (gotS got at' k r.1) (doneS done r.1)

section
variable {E : Eng} {at' : Nat → Nat} {got : Nat → Int} {done k : Nat} {A : Att}
theorem goes_rp0 (H : Inv E at' got done) (hA : E.th k = some A) (E' : Eng) (A' : Att) (hth : ∀ j, E'.th j = setT E.th k (some A') j) (hl : E'.lk = E.lk) (hh : E'.hp = E.hp) (hp : E'.pg = E.pg) (hn : A'.num = A.num)
    (hap : AP E.lk.c E.lk.o (E.hp.getD 0 0) (pgS E A.num) k (got k) A' (at' k)) : Goes E at' got done k (rp0, E') := by
  have : Inv E' at' got done := H.att k A hA A' hth hl hh hp hn hap (fun _ _ => rfl)
  simpa [Goes, atS, gotS, doneS] using this
theorem goes_busy (H : Inv E at' got done) (o : Int) : Goes E at' got done k ({ rp0 with busy := true, own := o }, E) := by
  simpa [Goes, atS, gotS, doneS] using H
theorem goes_abort (H : Inv E at' got done) (hA : E.th k = some A) (why : Int) (hw : why ≠ 0) : Goes E at' got done k ({ rp0 with done := true, ended := true, why := why }, abortE E k A why) := by
  have : Inv (abortE E k A why) (upd at' k 0) got done := H.gone k A hA (fun j => rfl) rfl rfl (by simp [abortE, giveUpE, noteE, pageE, Eng.put]) (fun n hn => pgS_set _ _ _ _ hn)
  simpa [Goes, atS, gotS, doneS, hw] using this

theorem go_comm (ha : A.ask = ⟨6, 0, 0⟩) : goE E k A = placeE E k A := by simp [goE, ha]
theorem go_read (ha : A.ask = ⟨1, 0, 0⟩) (hF : A.Fs = [f0]) : goE E k A = placeE E k A := by simp [goE, ha, hF, f0_get]

theorem goes_step (H : Inv E at' got done) (hA : E.th k = some A) (hb : E.lk.c ≤ 302) (hk : k < 4) (h0 : A.ask.k ≠ 0) : Goes E at' got done k (goE E k A) := by
  have hpl := H.pl k A hA
  obtain ⟨h, hhp, hhv⟩ := H.hp
  have hg0 : E.hp.getD 0 0 = h := by simp [hhp]
  have hAP := H.ap k A hA
  generalize hs : pgS E A.num = s at hAP
  generalize ha1 : at' k = n at hAP
  have hs' : (E.pg.getD A.num ⟨0, false, 0⟩).s = s := hs
  refine hAP (fun n => at' k = n → Goes E at' got done k (goE E k A)) ?_ ?_ ?_ ?_ ?_ ?_ ?_ ?_ ?_ ?_ ?_ ?_ ?_ ?_ ?_ ?_ ?_ ha1
  · intro b ha hL hF ha1
    simp [ha] at h0
  · intro b ha hL hF hp ha1
    rw [go_read ha hF]
    simp only [placeE, hp, if_true]
    refine goes_rp0 H hA _ _ (fun _ => rfl) rfl rfl rfl rfl ?_
    rw [hs, ha1]
    exact .r2 b ha hL hF rfl (fun e => by
      have : (movedA (valA A (E.hp.getD A.ask.t.toNat 0)) 2).val = E.hp.getD 0 0 := by simp [movedA, valA, ha]
      rw [this, hg0, hhv (by have := b.e; omega), e])
  · intro b ha hL hF hp hv ha1
    rw [go_read ha hF]
    simp only [placeE, hp, if_neg (show ¬ (2 : Int) = 1 by decide), if_true]
    unfold readNotedE
    rw [hs']
    split
    · refine goes_rp0 H hA _ _ (fun _ => rfl) rfl rfl rfl rfl ?_
      rw [hs, ha1]
      exact .r7 b ha hL hF rfl rfl
    · rename_i hc
      have hc : E.lk.c = s := by simpa using hc
      have hvv := hv hc
      have hR : rightB A.val = true := by rw [hvv]; exact VI_right b.n (by have := b.le; omega)
      have hadd : Rd.addE A.L (entOf A) = (0, [⟨0, A.val, 0⟩]) := by
        simp [hL, entOf, ha, Rd.addE, Rd.wrongE, hR, Rd.hasT]
      rw [hadd]
      simp only [if_neg (show ¬ (0 : Int) = 4 by decide)]
      have : Inv (readE (E.put k (some { A with L := [⟨0, A.val, 0⟩] })) k { A with L := [⟨0, A.val, 0⟩] } A.val) at' (upd got k A.val) done := by
        refine H.att k A hA (doneA { A with L := [⟨0, A.val, 0⟩] }) (fun j => ?_) rfl rfl rfl rfl ?_ (fun j hj => upd_other _ _ hj)
        · simp only [readE, Eng.put, tellE, noteE, setT]; split <;> rfl
        · rw [hs, ha1, upd_same]
          exact .got b rfl ⟨rfl, hvv⟩ hF
      simpa [Goes, atS, gotS, doneS, ha1] using this
  · intro b ha hL hF hb2 hp ha1
    rw [go_read ha hF]
    simp only [placeE, hp, if_true, if_neg (show ¬ (7 : Int) = 1 by decide), if_neg (show ¬ (7 : Int) = 2 by decide), if_neg (show ¬ (7 : Int) = 3 by decide), if_neg (show ¬ (7 : Int) = 4 by decide), if_neg (show ¬ (7 : Int) = 5 by decide), if_neg (show ¬ (7 : Int) = 6 by decide)]
    unfold noteCountE
    split
    · exact goes_busy H _
    · rename_i hc
      have hc : E.lk.c % 2 = 0 := by
        unfold Sq.ownS at hc
        by_cases q : E.lk.c % 2 = 1
        · simp [q] at hc
        · omega
      refine goes_rp0 H hA _ _ (fun _ => rfl) rfl rfl rfl rfl ?_
      rw [hs, ha1]
      exact .r8 b ha hL hF hb2 rfl rfl ⟨hc, H.c0, Int.le_refl _⟩
  · intro b ha hL hF hb2 hp hg b2 ha1
    rw [go_read ha hF]
    simp only [placeE, hp, if_true, if_neg (show ¬ (8 : Int) = 1 by decide), if_neg (show ¬ (8 : Int) = 2 by decide), if_neg (show ¬ (8 : Int) = 3 by decide), if_neg (show ¬ (8 : Int) = 4 by decide), if_neg (show ¬ (8 : Int) = 5 by decide), if_neg (show ¬ (8 : Int) = 6 by decide), if_neg (show ¬ (8 : Int) = 7 by decide)]
    unfold compareE
    rw [if_pos (by rw [hg, hL]; rfl)]
    refine goes_rp0 H hA _ _ (fun _ => rfl) rfl rfl rfl rfl ?_
    rw [hs, ha1]
    exact .r9 b ha hL hF hb2 rfl b2
  · intro b ha hL hF hb2 hp b2 ha1
    rw [go_read ha hF]
    simp only [placeE, hp, if_true, if_neg (show ¬ (9 : Int) = 1 by decide), if_neg (show ¬ (9 : Int) = 2 by decide), if_neg (show ¬ (9 : Int) = 3 by decide), if_neg (show ¬ (9 : Int) = 4 by decide), if_neg (show ¬ (9 : Int) = 5 by decide), if_neg (show ¬ (9 : Int) = 6 by decide), if_neg (show ¬ (9 : Int) = 7 by decide), if_neg (show ¬ (9 : Int) = 8 by decide)]
    unfold settleE
    split
    · refine goes_rp0 H hA _ _ (fun _ => rfl) rfl rfl rfl rfl ?_
      rw [hs, ha1]
      exact .r7 b ha hL hF hb2 rfl
    · rename_i hc
      have : Inv ((pageE E A.num { E.pg.getD A.num ⟨0, false, 0⟩ with s := A.count }).put k (some (movedA A A.back))) at' got done := by
        refine H.step k A hA (fun j hj => setT_other _ _ hj) (.inr ⟨movedA A A.back, setT_same _ _ _, rfl, ?_⟩) H.hp (Int.le_refl _) (fun _ _ => ⟨rfl, rfl⟩) (by simp [pageE, Eng.put]) (fun m hm => pgS_set _ _ _ _ hm) H.dn (fun _ _ => rfl) (fun _ _ => rfl)
        have e : pgS ((pageE E A.num { E.pg.getD A.num ⟨0, false, 0⟩ with s := A.count }).put k (some (movedA A A.back))) A.num = A.count := pgS_at E _ _ hpl
        show AP E.lk.c E.lk.o _ (pgS _ A.num) k (got k) _ (at' k)
        rw [e, ha1]
        exact .r1 b2 ha hL hF (by simp [movedA, hb2])
      simpa [Goes, atS, gotS, doneS] using this
  · intro b ha hr hF ha1
    simp [ha] at h0
  · intro b ha hr hF ha1
    have e : goE E k A = writeE E k A := by simp [goE, ha]
    rw [e]
    unfold writeE
    have hR : rightB (addI (got k)) = true := by
      rw [hr.g, addI_VI b.n (by have := b.le; omega) b.e]
      exact VI_right (by have := b.n; omega) (by have := b.le; omega)
    have hput : putS A.Fs A.ask.t A.ask.v = (0, W1 (got k)) := by rw [hF, ha]; exact f0_put _ hR
    simp only [hput, if_neg (show ¬ (0 : Int) = 4 by decide)]
    have : Inv ((tellE (E.put k (some { A with Fs := W1 (got k) })) { A with Fs := W1 (got k) } 3 A.ask.t A.ask.v).put k (some (doneA { A with Fs := W1 (got k) }))) at' got done := by
      refine H.att k A hA (doneA { A with Fs := W1 (got k) }) (fun j => ?_) rfl rfl rfl rfl ?_ (fun j hj => rfl)
      · simp only [Eng.put, tellE, noteE, setT]; split <;> rfl
      · rw [hs, ha1]
        exact .put b rfl ⟨hr.L, hr.g⟩ rfl
    simpa [Goes, atS, gotS, doneS, ha1] using this
  · intro b ha hr hF ha1
    simp [ha] at h0
  · intro b ha hr hF hp ha1
    rw [go_comm ha]
    simp only [placeE, hp, if_true, if_neg (show ¬ (3 : Int) = 1 by decide), if_neg (show ¬ (3 : Int) = 2 by decide)]
    unfold tryE
    rw [if_neg (by rw [hF, W1_len]; decide)]
    refine goes_rp0 H hA _ _ (fun _ => rfl) rfl rfl rfl rfl ?_
    rw [hs, ha1]
    exact .c4 b ha ⟨hr.L, hr.g⟩ hF rfl
  · intro b ha hr hF hp ha1
    rw [go_comm ha]
    simp only [placeE, hp, if_true, if_neg (show ¬ (4 : Int) = 1 by decide), if_neg (show ¬ (4 : Int) = 2 by decide), if_neg (show ¬ (4 : Int) = 3 by decide)]
    have h4 : 0 ≤ (k : Int) ∧ (k : Int) < 4 := by omega
    have no7 : ∀ (e : Int), e ≠ 0 → e ≠ 4 → Sq.tryS E.lk k s = (e, E.lk) → Goes E at' got done k (takeLockE E k A) := by
      intro e h1 h2 h3
      unfold takeLockE
      simp only [hs', h3]
      rw [if_neg h1, if_neg h2]
      refine goes_rp0 H hA _ _ (fun _ => rfl) rfl rfl rfl rfl ?_
      rw [hs, ha1]
      exact .c7 b ha ⟨hr.L, hr.g⟩ hF rfl rfl
    by_cases hc : E.lk.c % 2 = 1
    · exact no7 7 (by decide) (by decide) (by unfold Sq.tryS; rw [if_neg (fun q => q h4), if_pos hc])
    · by_cases hcs : E.lk.c ≠ s
      · exact no7 8 (by decide) (by decide) (by unfold Sq.tryS; rw [if_neg (fun q => q h4), if_neg hc, if_pos hcs])
      · have ht : Sq.tryS E.lk k s = (0, ⟨E.lk.c + 1, k⟩) := by unfold Sq.tryS; rw [if_neg (fun q => q h4), if_neg hc, if_neg hcs, if_neg (by omega)]
        have hcs : E.lk.c = s := by simpa using hcs
        unfold takeLockE
        simp only [hs', ht, if_true]
        have : Inv ((pageE (lockE E ⟨E.lk.c + 1, k⟩) A.num ⟨s, true, (E.pg.getD A.num ⟨0, false, 0⟩).why⟩).put k (some (movedA A 5))) at' got done := by
          have he := b.e
          refine H.step k A hA (fun j hj => setT_other _ _ hj) (.inr ⟨movedA A 5, setT_same _ _ _, rfl, ?_⟩) ⟨h, hhp, fun q => ?_⟩ ?_ (fun q => absurd q hc) (by simp [pageE, lockE, Eng.put]) (fun m hm => pgS_set _ _ _ _ hm) ?_ (fun _ _ => rfl) (fun _ _ => rfl)
          · have e : pgS ((pageE (lockE E ⟨E.lk.c + 1, k⟩) A.num ⟨s, true, (E.pg.getD A.num ⟨0, false, 0⟩).why⟩).put k (some (movedA A 5))) A.num = s := pgS_at (lockE E ⟨E.lk.c + 1, k⟩) _ _ hpl
            show AP (E.lk.c + 1) k _ (pgS _ A.num) k (got k) _ (at' k)
            rw [e, ha1]
            exact .c5 (b.up (by omega)) ha ⟨hr.L, hr.g⟩ hF rfl rfl (by omega) rfl
          · exact absurd (show (E.lk.c + 1) % 2 = 0 from q) (by omega)
          · show E.lk.c ≤ E.lk.c + 1; omega
          · show (done : Int) = (E.lk.c + 1) / 2
            rw [H.dn]; omega
        simpa [Goes, atS, gotS, doneS] using this
  · intro b ha hr hF hp hg hc ho ha1
    rw [go_comm ha]
    simp only [placeE, hp, if_true, if_neg (show ¬ (5 : Int) = 1 by decide), if_neg (show ¬ (5 : Int) = 2 by decide), if_neg (show ¬ (5 : Int) = 3 by decide), if_neg (show ¬ (5 : Int) = 4 by decide)]
    unfold storeE
    have hall : allA A = [(0, addI (got k))] := by unfold allA; rw [hF]; exact W1_all _
    simp only [hall, hg]
    rw [if_pos (by rfl)]
    have : Inv ((heapE E ((List.getD [((0 : Int), addI (got k))] (Int.toNat 0) (0, 0)).1).toNat (List.getD [((0 : Int), addI (got k))] (Int.toNat 0) (0, 0)).2).put k (some (movedA A 6))) at' got done := by
      have e0 : heapE E ((List.getD [((0 : Int), addI (got k))] (Int.toNat 0) (0, 0)).1).toNat (List.getD [((0 : Int), addI (got k))] (Int.toNat 0) (0, 0)).2 = heapE E 0 (addI (got k)) := rfl
      rw [e0]
      have eh : (heapE E 0 (addI (got k))).hp = [addI (got k), nanI] := by simp [heapE, hhp]
      refine H.step k A hA (fun j hj => setT_other _ _ hj) (.inr ⟨movedA A 6, setT_same _ _ _, rfl, ?_⟩) ⟨addI (got k), eh, fun q => ?_⟩ (Int.le_refl _) (fun _ q => absurd ho q) rfl (fun m hm => rfl) H.dn (fun _ _ => rfl) (fun _ _ => rfl)
      · show AP E.lk.c E.lk.o ((heapE E 0 (addI (got k))).hp.getD 0 0) (pgS E A.num) k (got k) _ (at' k)
        rw [hs, ha1, eh]
        refine .c6 b ha ⟨hr.L, hr.g⟩ hF rfl hc ho ?_
        show addI (got k) = VI (s + 2)
        rw [hr.g]; exact addI_VI b.n (by have := b.le; omega) b.e
      · exact absurd (show E.lk.c % 2 = 0 from q) (by have := b.e; omega)
    simpa [Goes, atS, gotS, doneS] using this
  · intro b ha hr hF hp hc ho hh ha1
    rw [go_comm ha]
    simp only [placeE, hp, if_true, if_neg (show ¬ (6 : Int) = 1 by decide), if_neg (show ¬ (6 : Int) = 2 by decide), if_neg (show ¬ (6 : Int) = 3 by decide), if_neg (show ¬ (6 : Int) = 4 by decide), if_neg (show ¬ (6 : Int) = 5 by decide)]
    have he := b.e
    have hlv : Sq.leaveS E.lk k (E.lk.c + 1) = (0, ⟨E.lk.c + 1, 0⟩) := by unfold Sq.leaveS; rw [if_pos ⟨by omega, ho⟩]
    unfold unlockE
    rw [hlv]
    have : Inv (commitE (lockE E ⟨E.lk.c + 1, 0⟩) k A) (upd at' k 0) got (done + 1) := by
      refine H.step k A hA (fun j hj => setT_other _ _ hj) (.inl (setT_same _ _ _)) ⟨h, hhp, fun q => ?_⟩ ?_ (fun _ q => absurd ho q) rfl (fun m hm => rfl) ?_ (fun j hj => upd_other _ _ hj) (fun _ _ => rfl)
      · rw [← hg0, hh]
        show VI (s + 2) = VI (E.lk.c + 1)
        rw [hc]; congr 1; omega
      · show E.lk.c ≤ E.lk.c + 1; omega
      · show ((done + 1 : Nat) : Int) = (E.lk.c + 1) / 2
        have := H.dn; omega
    simpa [Goes, atS, gotS, doneS] using this
  · intro b ha hr hF hb2 hp ha1
    rw [go_comm ha]
    simp only [placeE, hp, if_true, if_neg (show ¬ (7 : Int) = 1 by decide), if_neg (show ¬ (7 : Int) = 2 by decide), if_neg (show ¬ (7 : Int) = 3 by decide), if_neg (show ¬ (7 : Int) = 4 by decide), if_neg (show ¬ (7 : Int) = 5 by decide), if_neg (show ¬ (7 : Int) = 6 by decide)]
    unfold noteCountE
    split
    · exact goes_busy H _
    · rename_i hc
      have hc : E.lk.c % 2 = 0 := by
        unfold Sq.ownS at hc
        by_cases q : E.lk.c % 2 = 1
        · simp [q] at hc
        · omega
      refine goes_rp0 H hA _ _ (fun _ => rfl) rfl rfl rfl rfl ?_
      rw [hs, ha1]
      exact .c80 b ha ⟨hr.L, hr.g⟩ hF hb2 rfl rfl ⟨hc, H.c0, Int.le_refl _⟩
  · intro b ha hr hF hb2 hp hg b2 ha1
    rw [go_comm ha]
    simp only [placeE, hp, if_true, if_neg (show ¬ (8 : Int) = 1 by decide), if_neg (show ¬ (8 : Int) = 2 by decide), if_neg (show ¬ (8 : Int) = 3 by decide), if_neg (show ¬ (8 : Int) = 4 by decide), if_neg (show ¬ (8 : Int) = 5 by decide), if_neg (show ¬ (8 : Int) = 6 by decide), if_neg (show ¬ (8 : Int) = 7 by decide)]
    unfold compareE
    rw [if_neg (by rw [hg, hr.L]; simp)]
    simp only [hr.L, hg]
    have e1 : List.getD [(⟨0, got k, 0⟩ : Rd.EntD)] (Int.toNat 0) ⟨0, 0, 0⟩ = ⟨0, got k, 0⟩ := rfl
    simp only [e1]
    have e2 : E.hp.getD (Int.toNat 0) 0 = h := hg0
    rw [e2]
    split
    · exact goes_abort H hA 1 (by decide)
    · rename_i hsm
      have hsm : Rd.sameV h (got k) = true := by simpa using hsm
      refine goes_rp0 H hA _ _ (fun _ => rfl) rfl rfl rfl rfl ?_
      rw [hs, ha1]
      refine .c81 b ha ⟨hr.L, hr.g⟩ hF hb2 hp rfl b2 (fun e => ?_)
      have e : E.lk.c = A.count := e
      have hev := b2.e
      rw [hhv (by omega), hr.g, VI, VI] at hsm
      have := VN_same (by have := b2.n; have := b2.le; omega) (by have := b.n; have := b.le; omega) hsm
      rw [hr.g, VI, ← this]
      show VN _ = VN (A.count / 2).toNat
      rw [e]
  · intro b ha hr hF hb2 hp hg b2 h8 ha1
    rw [go_comm ha]
    simp only [placeE, hp, if_true, if_neg (show ¬ (8 : Int) = 1 by decide), if_neg (show ¬ (8 : Int) = 2 by decide), if_neg (show ¬ (8 : Int) = 3 by decide), if_neg (show ¬ (8 : Int) = 4 by decide), if_neg (show ¬ (8 : Int) = 5 by decide), if_neg (show ¬ (8 : Int) = 6 by decide), if_neg (show ¬ (8 : Int) = 7 by decide)]
    unfold compareE
    rw [if_pos (by rw [hg, hr.L]; rfl)]
    refine goes_rp0 H hA _ _ (fun _ => rfl) rfl rfl rfl rfl ?_
    rw [hs, ha1]
    exact .c9 b ha ⟨hr.L, hr.g⟩ hF hb2 rfl b2 h8
  · intro b ha hr hF hb2 hp b2 h9 ha1
    rw [go_comm ha]
    simp only [placeE, hp, if_true, if_neg (show ¬ (9 : Int) = 1 by decide), if_neg (show ¬ (9 : Int) = 2 by decide), if_neg (show ¬ (9 : Int) = 3 by decide), if_neg (show ¬ (9 : Int) = 4 by decide), if_neg (show ¬ (9 : Int) = 5 by decide), if_neg (show ¬ (9 : Int) = 6 by decide), if_neg (show ¬ (9 : Int) = 7 by decide), if_neg (show ¬ (9 : Int) = 8 by decide)]
    unfold settleE
    split
    · refine goes_rp0 H hA _ _ (fun _ => rfl) rfl rfl rfl rfl ?_
      rw [hs, ha1]
      exact .c7 b ha ⟨hr.L, hr.g⟩ hF hb2 rfl
    · rename_i hc
      have hc : E.lk.c = A.count := by simpa using hc
      have : Inv ((pageE E A.num { E.pg.getD A.num ⟨0, false, 0⟩ with s := A.count }).put k (some (movedA A A.back))) at' got done := by
        refine H.step k A hA (fun j hj => setT_other _ _ hj) (.inr ⟨movedA A A.back, setT_same _ _ _, rfl, ?_⟩) H.hp (Int.le_refl _) (fun _ _ => ⟨rfl, rfl⟩) (by simp [pageE, Eng.put]) (fun m hm => pgS_set _ _ _ _ hm) H.dn (fun _ _ => rfl) (fun _ _ => rfl)
        have e : pgS ((pageE E A.num { E.pg.getD A.num ⟨0, false, 0⟩ with s := A.count }).put k (some (movedA A A.back))) A.num = A.count := pgS_at E _ _ hpl
        show AP E.lk.c E.lk.o _ (pgS _ A.num) k (got k) _ (at' k)
        rw [e, ha1]
        exact .c4 b2 ha ⟨hr.L, h9 hc⟩ hF (by simp [movedA, hb2])
      simpa [Goes, atS, gotS, doneS] using this
end

/-! ### Begin, Ask -/
theorem Inv.begins {E : Eng} {at' : Nat → Nat} {got : Nat → Int} {done : Nat} (H : Inv E at' got done) (k : Nat) (hk : k < 3) (hn : E.th k = none) :
    ((beginE E k).1.2 = 4 ∧ (beginE E k).2 = E) ∨ (((beginE E k).1.2 = 0 ∨ (beginE E k).1.2 = 7) ∧ Inv (beginE E k).2 (upd at' k 0) got done) := by
  have hsame : Inv E (upd at' k 0) got done := by
    refine ⟨H.hp, H.c0, H.dn, H.th3, H.num, H.pl, fun j A hA => ?_⟩
    have hjk : j ≠ k := fun e => by rw [e, hn] at hA; simp at hA
    rw [upd_other _ _ hjk]; exact H.ap j A hA
  unfold beginE
  rw [if_neg (fun q => q ⟨by omega, by omega⟩)]
  simp only [Int.toNat_natCast, hn]
  split
  · exact .inl ⟨rfl, rfl⟩
  · split
    · rename_i hs
      refine .inr ⟨.inr ?_, hsame⟩
      unfold Sq.snapS at hs ⊢
      split at hs
      · rename_i q; rw [if_pos q]
      · simp at hs
    · rename_i hs
      have hc : E.lk.c % 2 = 0 := by
        unfold Sq.snapS at hs
        split at hs
        · simp at hs
        · omega
      have hsn : (Sq.snapS E.lk).1 = E.lk.c := by unfold Sq.snapS; rw [if_neg (by omega)]
      refine .inr ⟨.inl rfl, ?_⟩
      rw [hsn]
      have pgo : ∀ n, n < E.pg.length → pgS ((enterE E E.lk.c).put k (some (newA k E.pg.length))) n = pgS E n := fun n hnl => by
        simp only [pgS, enterE, noteE, Eng.put, List.getD_eq_getElem?_getD, List.getElem?_append_left hnl]
      refine ⟨H.hp, H.c0, H.dn, ?_, ?_, ?_, ?_⟩
      · intro j hj
        show setT E.th k _ j = none
        rw [setT_other _ _ (by omega)]; exact H.th3 j hj
      · intro i j B C hB hC hnum
        have hB : setT E.th k (some (newA k E.pg.length)) i = some B := hB
        have hC : setT E.th k (some (newA k E.pg.length)) j = some C := hC
        by_cases hi : i = k
        · by_cases hj : j = k
          · omega
          · rw [setT_other _ _ hj] at hC
            rw [hi, setT_same] at hB
            simp only [Option.some.injEq] at hB
            have := H.pl j C hC
            rw [← hnum, ← hB] at this
            simp [newA] at this
        · rw [setT_other _ _ hi] at hB
          by_cases hj : j = k
          · rw [hj, setT_same] at hC
            simp only [Option.some.injEq] at hC
            have := H.pl i B hB
            rw [hnum, ← hC] at this
            simp [newA] at this
          · rw [setT_other _ _ hj] at hC
            exact H.num i j B C hB hC hnum
      · intro j B hB
        have hB : setT E.th k (some (newA k E.pg.length)) j = some B := hB
        show B.num < (E.pg ++ [(⟨E.lk.c, false, 0⟩ : PgD)]).length
        rw [List.length_append, List.length_singleton]
        by_cases hj : j = k
        · rw [hj, setT_same] at hB
          simp only [Option.some.injEq] at hB
          rw [← hB]; simp [newA]
        · rw [setT_other _ _ hj] at hB
          have := H.pl j B hB; omega
      · intro j B hB
        have hB : setT E.th k (some (newA k E.pg.length)) j = some B := hB
        by_cases hj : j = k
        · rw [hj, setT_same] at hB
          simp only [Option.some.injEq] at hB
          have e : pgS ((enterE E E.lk.c).put k (some (newA k E.pg.length))) B.num = E.lk.c := by
            rw [← hB]
            simp [pgS, enterE, noteE, Eng.put, newA]
          rw [e, hj, upd_same, ← hB]
          exact .new ⟨hc, H.c0, Int.le_refl _⟩ rfl rfl rfl
        · rw [setT_other _ _ hj] at hB
          rw [pgo _ (H.pl j B hB), upd_other _ _ hj]
          exact H.ap j B hB

/-- The next ask. -/
def nextA (n : Nat) (g : Int) : AskD := if n = 0 then ⟨1, 0, 0⟩ else if n = 1 then ⟨2, 0, addI g⟩ else ⟨6, 0, 0⟩
theorem Inv.asks {E : Eng} {at' : Nat → Nat} {got : Nat → Int} {done : Nat} (H : Inv E at' got done) (k : Nat) (hk : k < 3) (A : Att) (hA : E.th k = some A) (h0 : A.ask.k = 0) (hb : E.lk.c ≤ 302) :
    at' k < 3 ∧ (askE E k (nextA (at' k) (got k))).1 = 0 ∧ Inv (askE E k (nextA (at' k) (got k))).2 (upd at' k (at' k + 1)) got done := by
  have hAP := H.ap k A hA
  have hlen : E.hp.length = 2 := by obtain ⟨h, e, _⟩ := H.hp; rw [e]; rfl
  have go : ∀ a : AskD, refusedE 2 (A.Fs.length - 1) a = 0 → AP E.lk.c E.lk.o (E.hp.getD 0 0) (pgS E A.num) k (got k) (askedA A a) (at' k + 1) → (askE E k a).1 = 0 ∧ Inv (askE E k a).2 (upd at' k (at' k + 1)) got done := by
    intro a hr hap
    have e : askE E k a = (0, E.put k (some (askedA A a))) := by
      unfold askE
      rw [if_neg (fun q => q ⟨by omega, by omega⟩)]
      simp only [Int.toNat_natCast, hA]
      rw [if_neg (fun q => q h0), hlen, if_neg (fun q => q hr)]
    rw [e]
    refine ⟨rfl, H.step k A hA (fun j hj => setT_other _ _ hj) (.inr ⟨askedA A a, setT_same _ _ _, rfl, ?_⟩) H.hp (Int.le_refl _) (fun _ _ => ⟨rfl, rfl⟩) rfl (fun _ _ => rfl) H.dn (fun j hj => upd_other _ _ hj) (fun _ _ => rfl)⟩
    rw [upd_same]
    exact hap
  generalize hs : pgS E A.num = s at hAP go
  generalize ha1 : at' k = n at hAP go ⊢
  refine hAP (fun n => (∀ a : AskD, refusedE 2 (A.Fs.length - 1) a = 0 → AP E.lk.c E.lk.o (E.hp.getD 0 0) s k (got k) (askedA A a) (n + 1) → (askE E k a).1 = 0 ∧ Inv (askE E k a).2 (upd at' k (n + 1)) got done) → n < 3 ∧ (askE E k (nextA n (got k))).1 = 0 ∧ Inv (askE E k (nextA n (got k))).2 (upd at' k (n + 1)) got done) ?_ ?_ ?_ ?_ ?_ ?_ ?_ ?_ ?_ ?_ ?_ ?_ ?_ ?_ ?_ ?_ ?_ go
  · intro b ha hL hF go
    exact ⟨by omega, go ⟨1, 0, 0⟩ (by simp [refusedE]) (.r1 b rfl hL hF rfl)⟩
  · intro b ha _ _ _ go
    simp [ha] at h0
  · intro b ha _ _ _ _ go
    simp [ha] at h0
  · intro b ha _ _ _ _ go
    simp [ha] at h0
  · intro b ha _ _ _ _ _ _ go
    simp [ha] at h0
  · intro b ha _ _ _ _ _ go
    simp [ha] at h0
  · intro b ha hr hF go
    refine ⟨by omega, go ⟨2, 0, addI (got k)⟩ ?_ (.wr b rfl ⟨hr.L, hr.g⟩ hF)⟩
    have hR : rightB (addI (got k)) = true := by
      rw [hr.g, addI_VI b.n (by have := b.le; omega) b.e]
      exact VI_right (by have := b.n; omega) (by have := b.le; omega)
    simp [refusedE, hR]
  · intro b ha _ _ go
    simp [ha] at h0
  · intro b ha hr hF go
    exact ⟨by omega, go ⟨6, 0, 0⟩ (by rw [hF]; simp [refusedE, W1]) (.c3 b rfl ⟨hr.L, hr.g⟩ hF rfl)⟩
  · intro b ha _ _ _ go
    simp [ha] at h0
  · intro b ha _ _ _ go
    simp [ha] at h0
  · intro b ha _ _ _ _ _ _ go
    simp [ha] at h0
  · intro b ha _ _ _ _ _ _ go
    simp [ha] at h0
  · intro b ha _ _ _ _ go
    simp [ha] at h0
  · intro b ha _ _ _ _ _ _ go
    simp [ha] at h0
  · intro b ha _ _ _ _ _ _ _ go
    simp [ha] at h0
  · intro b ha _ _ _ _ _ _ go
    simp [ha] at h0

end Go.Proofs.Ytinhdpiecifmhaa.Nr

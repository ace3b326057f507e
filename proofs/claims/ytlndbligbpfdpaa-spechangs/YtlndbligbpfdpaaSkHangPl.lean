/-
  WHAT A RUN DOES HANGS ON THE VARIABLES THAT ITS INSTRUCTIONS NAME ALONE: plain data.
-/
import Derived.Test.YtlndbligbpfdpaaSkRunPl
namespace Go.Proofs.Ytlndbligbpfdpaa
set_option linter.unusedVariables false
set_option linter.unusedSimpArgs false
open Go.RowKit

/-- Two heaps that agree in what is named; elsewhere they are as a and b. -/
structure HR (T : Nat → Bool) (a b h k : List Int) : Prop where
  la : h.length = a.length
  lb : k.length = a.length
  eq : ∀ i, T i = true → h.getD i 0 = k.getD i 0
  ua : ∀ i, T i = false → h.getD i 0 = a.getD i 0
  ub : ∀ i, T i = false → k.getD i 0 = b.getD i 0
/-- A program that names no variable by a value, and by its Arg those in T alone. -/
def Names (T : Nat → Bool) (l : List InsD) : Prop := ∀ i ∈ l, i.op ≠ 6 ∧ i.op ≠ 7 ∧ ((i.op = 4 ∨ i.op = 5) → 0 ≤ i.arg → i.arg < 12 → T i.arg.toNat = true)
def MkR (T : Nat → Bool) (a b : List Int) : List MkD → List MkD → Prop
  | [], ns => ns = []
  | m :: ms, ns => ∃ n ns', ns = n :: ns' ∧ m.D = n.D ∧ m.e = n.e ∧ HR T a b m.h n.h ∧ MkR T a b ms ns'
structure XR (T : Nat → Bool) (a b : List Int) (X Y : BX) : Prop where
  D : X.D = Y.D
  arms : X.arms = Y.arms
  h : HR T a b X.h Y.h
  ms : MkR T a b X.ms Y.ms
theorem MkR.app {T : Nat → Bool} {a b : List Int} : ∀ {ms ns : List MkD} {m n : MkD}, MkR T a b ms ns → m.D = n.D → m.e = n.e → HR T a b m.h n.h → MkR T a b (ms ++ [m]) (ns ++ [n])
  | [], ns, m, n, h, h1, h2, h3 => by
    simp only [MkR] at h
    subst h
    exact ⟨n, [], rfl, h1, h2, h3, rfl⟩
  | x :: ms, ns, m, n, h, h1, h2, h3 => by
    obtain ⟨y, ns', rfl, g1, g2, g3, g4⟩ := h
    exact ⟨y, ns' ++ [n], rfl, g1, g2, g3, MkR.app g4 h1 h2 h3⟩
theorem MkR.last {T : Nat → Bool} {a b : List Int} : ∀ {ms ns : List MkD}, MkR T a b ms ns → (ms.getLast? = none ∧ ns.getLast? = none) ∨ ∃ m n, ms.getLast? = some m ∧ ns.getLast? = some n ∧ m.D = n.D ∧ m.e = n.e ∧ HR T a b m.h n.h ∧ MkR T a b ms.dropLast ns.dropLast
  | [], ns, h => by
    simp only [MkR] at h
    subst h
    exact .inl ⟨rfl, rfl⟩
  | [x], ns, h => by
    obtain ⟨y, ns', rfl, g1, g2, g3, g4⟩ := h
    simp only [MkR] at g4
    subst g4
    exact .inr ⟨x, y, rfl, rfl, g1, g2, g3, rfl⟩
  | x :: z :: ms, ns, h => by
    obtain ⟨y, ns', rfl, g1, g2, g3, g4⟩ := h
    obtain ⟨y2, ns2, rfl, g5⟩ := g4
    rcases MkR.last (ms := z :: ms) (ns := y2 :: ns2) ⟨y2, ns2, rfl, g5⟩ with ⟨q, _⟩ | ⟨m, n, q1, q2, q3, q4, q5, q6⟩
    · simp at q
    · exact .inr ⟨m, n, by rw [List.getLast?_cons_cons]; exact q1, by rw [List.getLast?_cons_cons]; exact q2, q3, q4, q5, ⟨y, _, rfl, g1, g2, g3, q6⟩⟩

theorem HR.put {T : Nat → Bool} {a b h k : List Int} (r : HR T a b h k) {i : Nat} (hi : i < a.length) (ht : T i = true) (x : Int) : HR T a b (h.set i x) (k.set i x) := by
  have hh : i < h.length := by rw [r.la]; exact hi
  have hk : i < k.length := by rw [r.lb]; exact hi
  have key : ∀ (l : List Int) (j : Nat), i < l.length → (l.set i x).getD j 0 = if j = i then x else l.getD j 0 := fun l j hl => by
    rw [List.getD_eq_getElem?_getD, List.getD_eq_getElem?_getD, List.getElem?_set]
    split
    · rename_i e; subst e; simp [hl]
    · rename_i e; rw [if_neg (fun q => e q.symm)]
  refine ⟨by rw [List.length_set]; exact r.la, by rw [List.length_set]; exact r.lb, fun j hj => ?_, fun j hj => ?_, fun j hj => ?_⟩
  · rw [key h j hh, key k j hk]
    split
    · rfl
    · exact r.eq j hj
  · rw [key h j hh, if_neg (fun e => by rw [e, ht] at hj; cases hj)]; exact r.ua j hj
  · rw [key k j hk, if_neg (fun e => by rw [e, ht] at hj; cases hj)]; exact r.ub j hj

section
theorem reach_hang {T : Nat → Bool} {a b : List Int} (hla : a.length = 12) {X Y : BX} (r : XR T a b X Y) {i : InsD} (h0 : 0 ≤ i.arg) (h6 : i.op ≠ 6) (h7 : i.op ≠ 7) (hT : (i.op = 4 ∨ i.op = 5) → 0 ≤ i.arg → i.arg < 12 → T i.arg.toNat = true) (hop : i.op = 4 ∨ i.op = 5 ∨ i.op = 6 ∨ i.op = 7) :
    (reachB X i).1 = (reachB Y i).1 ∧ XR T a b (reachB X i).2 (reachB Y i).2 := by
  obtain ⟨XD, Xh, Xm, Xa⟩ := X
  obtain ⟨YD, Yh, Ym, Ya⟩ := Y
  obtain ⟨r1, r2, r3, r4⟩ := r
  simp only at r1 r2 r3 r4
  subst r1
  subst r2
  have hl : Yh.length = Xh.length := by rw [r3.lb, r3.la]
  unfold reachB
  simp only [hl]
  split
  · exact ⟨rfl, rfl, rfl, r3, r4⟩
  · split
    · exact ⟨rfl, rfl, rfl, r3, r4⟩
    · rename_i tv hv
      have hi : tv = i.arg ∧ i.arg < 12 := by
        unfold varW idxW at hv
        rw [if_neg (by omega)] at hv
        simp only at hv
        split at hv
        · rename_i q
          simp only [Option.some.injEq] at hv
          rw [r3.la, hla] at q
          omega
        · cases hv
      have ht : T tv.toNat = true := by rw [hi.1]; exact hT (by omega) h0 hi.2
      split
      · refine ⟨rfl, ?_, rfl, r3, r4⟩
        show ({ XD with st := _, pc := _ } : WD) = _
        rw [r3.eq _ ht]
      · exact ⟨rfl, rfl, rfl, r3.put (by rw [hla]; omega) ht _, r4⟩
theorem br_hang {T : Nat → Bool} {a b : List Int} {X Y : BX} (r : XR T a b X Y) (i : InsD) : (brB X i).1 = (brB Y i).1 ∧ XR T a b (brB X i).2 (brB Y i).2 := by
  obtain ⟨XD, Xh, Xm, Xa⟩ := X
  obtain ⟨YD, Yh, Ym, Ya⟩ := Y
  obtain ⟨r1, r2, r3, r4⟩ := r
  simp only at r1 r2 r3 r4
  subst r1
  subst r2
  unfold brB
  simp only
  split
  · exact ⟨rfl, rfl, rfl, r3, r4.app rfl rfl r3⟩
  split
  · rcases r4.last with ⟨q1, q2⟩ | ⟨m, n, q1, q2, q3, q4, q5, q6⟩
    · rw [q1, q2]; exact ⟨rfl, rfl, rfl, r3, r4⟩
    · rw [q1, q2]; exact ⟨rfl, rfl, rfl, r3, q6⟩
  split
  · exact ⟨rfl, rfl, rfl, r3, r4⟩
  split
  · rcases r4.last with ⟨q1, q2⟩ | ⟨m, n, q1, q2, q3, q4, q5, q6⟩
    · rw [q1, q2]; exact ⟨rfl, rfl, rfl, r3, r4⟩
    · rw [q1, q2]
      simp only
      refine ⟨trivial, ?_, rfl, q5, q6⟩
      simp only [q3, q4]
  · exact ⟨rfl, rfl, rfl, r3, r4⟩
theorem do_hang {T : Nat → Bool} {a b : List Int} (hla : a.length = 12) {l : List InsD} {X Y : BX} (r : XR T a b X Y) {i : InsD} (h0 : 0 ≤ i.arg) (h6 : i.op ≠ 6) (h7 : i.op ≠ 7) (hT : (i.op = 4 ∨ i.op = 5) → 0 ≤ i.arg → i.arg < 12 → T i.arg.toNat = true) :
    (doB l X i).1 = (doB l Y i).1 ∧ XR T a b (doB l X i).2 (doB l Y i).2 := by
  unfold doB
  split
  · exact ⟨rfl, r⟩
  split
  · rename_i hop; exact reach_hang hla r h0 h6 h7 hT hop
  split
  · rw [r.D]
    split
    · exact ⟨rfl, r⟩
    · exact br_hang r i
  · rw [r.D]; exact ⟨rfl, rfl, r.arms, r.h, r.ms⟩
theorem runB_hang {T : Nat → Bool} {a b : List Int} (hla : a.length = 12) {l : List InsD} (hn : Names T l) : ∀ (n : Nat) (X Y : BX), XR T a b X Y → (runB l n X).1 = (runB l n Y).1 ∧ XR T a b (runB l n X).2 (runB l n Y).2 := by
  intro n
  induction n with
  | zero =>
    intro X Y r
    unfold runB
    rw [r.D]
    split
    · exact ⟨rfl, r⟩
    · exact ⟨rfl, r⟩
  | succ n ih =>
    intro X Y r
    cases hh : hereP l Y.D.pc with
    | none =>
      unfold runB
      rw [r.D, hh]
      exact ⟨rfl, r⟩
    | some i =>
      have hh' : hereP l X.D.pc = some i := by rw [r.D]; exact hh
      have hm : i ∈ l := by
        unfold hereP at hh
        split at hh
        · rename_i hp
          split at hh
          · simp only [Option.some.injEq] at hh
            rw [← hh]
            unfold placeP at hp
            simp only [Bool.and_eq_true, decide_eq_true_eq] at hp
            have hk : Y.D.pc.toNat < l.length := by omega
            rw [List.getD_eq_getElem?_getD, List.getElem?_eq_getElem hk]
            exact List.getElem_mem hk
          · cases hh
        · cases hh
      obtain ⟨n6, n7, nT⟩ := hn i hm
      have ha := right_arg (here_mem hh)
      rw [run_some hh, run_some hh']
      have r1 : XR T a b { X with D := { X.D with fuel := X.D.fuel - 1 } } { Y with D := { Y.D with fuel := Y.D.fuel - 1 } } := ⟨by simp only [r.D], r.arms, r.h, r.ms⟩
      obtain ⟨d1, d2⟩ := do_hang hla (l := l) r1 ha.1 n6 n7 nT
      rw [← d1]
      split
      · split
        · exact ⟨d1, d2⟩
        · exact ih _ _ d2
      · exact ⟨d1, d2⟩
theorem out_hang {T : Nat → Bool} {a b : List Int} (hla : a.length = 12) {l : List InsD} (hn : Names T l) (D : WD) {h k : List Int} (r : HR T a b h k) (f : Int) : (outX l D h f).1 = (outX l D k f).1 ∧ XR T a b (outX l D h f).2 (outX l D k f).2 := by
  unfold outX endB
  simp only
  split
  · exact runB_hang hla hn _ _ _ ⟨rfl, rfl, r, rfl⟩
  · exact ⟨rfl, rfl, rfl, r, rfl⟩
theorem run_hang {T : Nat → Bool} {a b : List Int} (hla : a.length = 12) {l : List InsD} (hn : Names T l) (f : Int) : ∀ (n : Nat) (D : WD) (h k : List Int) (am : List Bool), HR T a b h k → (runR l f n D h am).1 = (runR l f n D k am).1 ∧ (runR l f n D h am).2.1 = (runR l f n D k am).2.1 ∧ HR T a b (runR l f n D h am).2.2.1 (runR l f n D k am).2.2.1 := by
  intro n
  induction n with
  | zero =>
    intro D h k am r
    by_cases h4 : (plainX l D f).1.1 = 4
    · rw [run_out h4, run_out h4]; exact ⟨rfl, rfl, r⟩
    · rw [run_far h4, run_far h4]; exact ⟨rfl, rfl, r⟩
  | succ n ih =>
    intro D h k am r
    by_cases h4 : (plainX l D f).1.1 = 4
    · rw [run_next h4, run_next h4]
      obtain ⟨o1, o2⟩ := out_hang hla hn (plainX l D f).2 r f
      rw [← o1]
      split
      · rw [o2.D, o2.arms]
        exact ih _ _ _ _ o2.h
      · exact ⟨rfl, rfl, r⟩
    · rw [run_far h4, run_far h4]; exact ⟨rfl, rfl, r⟩
end

end Go.Proofs.Ytlndbligbpfdpaa

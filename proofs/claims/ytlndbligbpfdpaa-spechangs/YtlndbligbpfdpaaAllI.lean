/-
  WHAT A RUN DOES HANGS ON THE VARIABLES THAT ITS INSTRUCTIONS NAME ALONE: plain data.
-/
import Derived.Test.YtlndbligbpfdpaaAllF
import Derived.Test.YtlndbligbpfdpaaAllD
import Derived.Test.YtlndbligbpfdpaaVfRCheck
import Derived.OpenShut
import Derived.Lib.SmallJoins
namespace Go.Proofs.Ytlndbligbpfdpaa
set_option linter.unusedVariables false
set_option linter.unusedSimpArgs false
open Go.RowKit

/-- Two heaps that agree in what is named; elsewhere they are as a and b. -/
structure HR (T : Nat → Bool) (a b h k : List Int) : Prop where
  la : h.length = a.length
  lb : k.length = a.length
  eq : ∀ i, T i = true → h.getD i 0 = k.getD i 0
  ua : ∀ i, T i = false → h.getD i 0 = a.getD i 0
  ub : ∀ i, T i = false → k.getD i 0 = b.getD i 0
/-- A program that names no variable by a value, and by its Arg those in T alone. -/
def Names (T : Nat → Bool) (l : List InsD) : Prop := ∀ i ∈ l, i.op ≠ 6 ∧ i.op ≠ 7 ∧ ((i.op = 4 ∨ i.op = 5) → 0 ≤ i.arg → i.arg < 12 → T i.arg.toNat = true)
def MkR (T : Nat → Bool) (a b : List Int) : List MkD → List MkD → Prop
  | [], ns => ns = []
  | m :: ms, ns => ∃ n ns', ns = n :: ns' ∧ m.D = n.D ∧ m.e = n.e ∧ HR T a b m.h n.h ∧ MkR T a b ms ns'
structure XR (T : Nat → Bool) (a b : List Int) (X Y : BX) : Prop where
  D : X.D = Y.D
  arms : X.arms = Y.arms
  h : HR T a b X.h Y.h
  ms : MkR T a b X.ms Y.ms
theorem MkR.app {T : Nat → Bool} {a b : List Int} : ∀ {ms ns : List MkD} {m n : MkD}, MkR T a b ms ns → m.D = n.D → m.e = n.e → HR T a b m.h n.h → MkR T a b (ms ++ [m]) (ns ++ [n])
  | [], ns, m, n, h, h1, h2, h3 => by
    simp only [MkR] at h
    subst h
    exact ⟨n, [], rfl, h1, h2, h3, rfl⟩
  | x :: ms, ns, m, n, h, h1, h2, h3 => by
    obtain ⟨y, ns', rfl, g1, g2, g3, g4⟩ := h
    exact ⟨y, ns' ++ [n], rfl, g1, g2, g3, MkR.app g4 h1 h2 h3⟩
theorem MkR.last {T : Nat → Bool} {a b : List Int} : ∀ {ms ns : List MkD}, MkR T a b ms ns → (ms.getLast? = none ∧ ns.getLast? = none) ∨ ∃ m n, ms.getLast? = some m ∧ ns.getLast? = some n ∧ m.D = n.D ∧ m.e = n.e ∧ HR T a b m.h n.h ∧ MkR T a b ms.dropLast ns.dropLast
  | [], ns, h => by
    simp only [MkR] at h
    subst h
    exact .inl ⟨rfl, rfl⟩
  | [x], ns, h => by
    obtain ⟨y, ns', rfl, g1, g2, g3, g4⟩ := h
    simp only [MkR] at g4
    subst g4
    exact .inr ⟨x, y, rfl, rfl, g1, g2, g3, rfl⟩
  | x :: z :: ms, ns, h => by
    obtain ⟨y, ns', rfl, g1, g2, g3, g4⟩ := h
    obtain ⟨y2, ns2, rfl, g5⟩ := g4
    rcases MkR.last (ms := z :: ms) (ns := y2 :: ns2) ⟨y2, ns2, rfl, g5⟩ with ⟨q, _⟩ | ⟨m, n, q1, q2, q3, q4, q5, q6⟩
    · simp at q
    · exact .inr ⟨m, n, by rw [List.getLast?_cons_cons]; exact q1, by rw [List.getLast?_cons_cons]; exact q2, q3, q4, q5, ⟨y, _, rfl, g1, g2, g3, q6⟩⟩

theorem HR.put {T : Nat → Bool} {a b h k : List Int} (r : HR T a b h k) {i : Nat} (hi : i < a.length) (ht : T i = true) (x : Int) : HR T a b (h.set i x) (k.set i x) := by
  have hh : i < h.length := by rw [r.la]; exact hi
  have hk : i < k.length := by rw [r.lb]; exact hi
  have key : ∀ (l : List Int) (j : Nat), i < l.length → (l.set i x).getD j 0 = if j = i then x else l.getD j 0 := fun l j hl => by
    rw [List.getD_eq_getElem?_getD, List.getD_eq_getElem?_getD, List.getElem?_set]
    split
    · rename_i e; subst e; simp [hl]
    · rename_i e; rw [if_neg (fun q => e q.symm)]
  refine ⟨by rw [List.length_set]; exact r.la, by rw [List.length_set]; exact r.lb, fun j hj => ?_, fun j hj => ?_, fun j hj => ?_⟩
  · rw [key h j hh, key k j hk]
    split
    · rfl
    · exact r.eq j hj
  · rw [key h j hh, if_neg (fun e => by rw [e, ht] at hj; cases hj)]; exact r.ua j hj
  · rw [key k j hk, if_neg (fun e => by rw [e, ht] at hj; cases hj)]; exact r.ub j hj

section
theorem reach_hang {T : Nat → Bool} {a b : List Int} (hla : a.length = 12) {X Y : BX} (r : XR T a b X Y) {i : InsD} (h0 : 0 ≤ i.arg) (h6 : i.op ≠ 6) (h7 : i.op ≠ 7) (hT : (i.op = 4 ∨ i.op = 5) → 0 ≤ i.arg → i.arg < 12 → T i.arg.toNat = true) (hop : i.op = 4 ∨ i.op = 5 ∨ i.op = 6 ∨ i.op = 7) :
    (reachB X i).1 = (reachB Y i).1 ∧ XR T a b (reachB X i).2 (reachB Y i).2 := by
  obtain ⟨XD, Xh, Xm, Xa⟩ := X
  obtain ⟨YD, Yh, Ym, Ya⟩ := Y
  obtain ⟨r1, r2, r3, r4⟩ := r
  simp only at r1 r2 r3 r4
  subst r1
  subst r2
  have hl : Yh.length = Xh.length := by rw [r3.lb, r3.la]
  unfold reachB
  simp only [hl]
  split
  · exact ⟨rfl, rfl, rfl, r3, r4⟩
  · split
    · exact ⟨rfl, rfl, rfl, r3, r4⟩
    · rename_i tv hv
      have hi : tv = i.arg ∧ i.arg < 12 := by
        unfold varW idxW at hv
        rw [if_neg (by omega)] at hv
        simp only at hv
        split at hv
        · rename_i q
          simp only [Option.some.injEq] at hv
          rw [r3.la, hla] at q
          omega
        · cases hv
      have ht : T tv.toNat = true := by rw [hi.1]; exact hT (by omega) h0 hi.2
      split
      · refine ⟨rfl, ?_, rfl, r3, r4⟩
        show ({ XD with st := _, pc := _ } : WD) = _
        rw [r3.eq _ ht]
      · exact ⟨rfl, rfl, rfl, r3.put (by rw [hla]; omega) ht _, r4⟩
theorem br_hang {T : Nat → Bool} {a b : List Int} {X Y : BX} (r : XR T a b X Y) (i : InsD) : (brB X i).1 = (brB Y i).1 ∧ XR T a b (brB X i).2 (brB Y i).2 := by
  obtain ⟨XD, Xh, Xm, Xa⟩ := X
  obtain ⟨YD, Yh, Ym, Ya⟩ := Y
  obtain ⟨r1, r2, r3, r4⟩ := r
  simp only at r1 r2 r3 r4
  subst r1
  subst r2
  unfold brB
  simp only
  split
  · exact ⟨rfl, rfl, rfl, r3, r4.app rfl rfl r3⟩
  split
  · rcases r4.last with ⟨q1, q2⟩ | ⟨m, n, q1, q2, q3, q4, q5, q6⟩
    · rw [q1, q2]; exact ⟨rfl, rfl, rfl, r3, r4⟩
    · rw [q1, q2]; exact ⟨rfl, rfl, rfl, r3, q6⟩
  split
  · exact ⟨rfl, rfl, rfl, r3, r4⟩
  split
  · rcases r4.last with ⟨q1, q2⟩ | ⟨m, n, q1, q2, q3, q4, q5, q6⟩
    · rw [q1, q2]; exact ⟨rfl, rfl, rfl, r3, r4⟩
    · rw [q1, q2]
      simp only
      refine ⟨trivial, ?_, rfl, q5, q6⟩
      simp only [q3, q4]
  · exact ⟨rfl, rfl, rfl, r3, r4⟩
theorem do_hang {T : Nat → Bool} {a b : List Int} (hla : a.length = 12) {l : List InsD} {X Y : BX} (r : XR T a b X Y) {i : InsD} (h0 : 0 ≤ i.arg) (h6 : i.op ≠ 6) (h7 : i.op ≠ 7) (hT : (i.op = 4 ∨ i.op = 5) → 0 ≤ i.arg → i.arg < 12 → T i.arg.toNat = true) :
    (doB l X i).1 = (doB l Y i).1 ∧ XR T a b (doB l X i).2 (doB l Y i).2 := by
  unfold doB
  split
  · exact ⟨rfl, r⟩
  split
  · rename_i hop; exact reach_hang hla r h0 h6 h7 hT hop
  split
  · rw [r.D]
    split
    · exact ⟨rfl, r⟩
    · exact br_hang r i
  · rw [r.D]; exact ⟨rfl, rfl, r.arms, r.h, r.ms⟩
theorem runB_hang {T : Nat → Bool} {a b : List Int} (hla : a.length = 12) {l : List InsD} (hn : Names T l) : ∀ (n : Nat) (X Y : BX), XR T a b X Y → (runB l n X).1 = (runB l n Y).1 ∧ XR T a b (runB l n X).2 (runB l n Y).2 := by
  intro n
  induction n with
  | zero =>
    intro X Y r
    unfold runB
    rw [r.D]
    split
    · exact ⟨rfl, r⟩
    · exact ⟨rfl, r⟩
  | succ n ih =>
    intro X Y r
    cases hh : hereP l Y.D.pc with
    | none =>
      unfold runB
      rw [r.D, hh]
      exact ⟨rfl, r⟩
    | some i =>
      have hh' : hereP l X.D.pc = some i := by rw [r.D]; exact hh
      have hm : i ∈ l := by
        unfold hereP at hh
        split at hh
        · rename_i hp
          split at hh
          · simp only [Option.some.injEq] at hh
            rw [← hh]
            unfold placeP at hp
            simp only [Bool.and_eq_true, decide_eq_true_eq] at hp
            have hk : Y.D.pc.toNat < l.length := by omega
            rw [List.getD_eq_getElem?_getD, List.getElem?_eq_getElem hk]
            exact List.getElem_mem hk
          · cases hh
        · cases hh
      obtain ⟨n6, n7, nT⟩ := hn i hm
      have ha := right_arg (here_mem hh)
      rw [run_some hh, run_some hh']
      have r1 : XR T a b { X with D := { X.D with fuel := X.D.fuel - 1 } } { Y with D := { Y.D with fuel := Y.D.fuel - 1 } } := ⟨by simp only [r.D], r.arms, r.h, r.ms⟩
      obtain ⟨d1, d2⟩ := do_hang hla (l := l) r1 ha.1 n6 n7 nT
      rw [← d1]
      split
      · split
        · exact ⟨d1, d2⟩
        · exact ih _ _ d2
      · exact ⟨d1, d2⟩
theorem out_hang {T : Nat → Bool} {a b : List Int} (hla : a.length = 12) {l : List InsD} (hn : Names T l) (D : WD) {h k : List Int} (r : HR T a b h k) (f : Int) : (outX l D h f).1 = (outX l D k f).1 ∧ XR T a b (outX l D h f).2 (outX l D k f).2 := by
  unfold outX endB
  simp only
  split
  · exact runB_hang hla hn _ _ _ ⟨rfl, rfl, r, rfl⟩
  · exact ⟨rfl, rfl, rfl, r, rfl⟩
theorem run_hang {T : Nat → Bool} {a b : List Int} (hla : a.length = 12) {l : List InsD} (hn : Names T l) (f : Int) : ∀ (n : Nat) (D : WD) (h k : List Int) (am : List Bool), HR T a b h k → (runR l f n D h am).1 = (runR l f n D k am).1 ∧ (runR l f n D h am).2.1 = (runR l f n D k am).2.1 ∧ HR T a b (runR l f n D h am).2.2.1 (runR l f n D k am).2.2.1 := by
  intro n
  induction n with
  | zero =>
    intro D h k am r
    by_cases h4 : (plainX l D f).1.1 = 4
    · rw [run_out h4, run_out h4]; exact ⟨rfl, rfl, r⟩
    · rw [run_far h4, run_far h4]; exact ⟨rfl, rfl, r⟩
  | succ n ih =>
    intro D h k am r
    by_cases h4 : (plainX l D f).1.1 = 4
    · rw [run_next h4, run_next h4]
      obtain ⟨o1, o2⟩ := out_hang hla hn (plainX l D f).2 r f
      rw [← o1]
      split
      · rw [o2.D, o2.arms]
        exact ih _ _ _ _ o2.h
      · exact ⟨rfl, rfl, r⟩
    · rw [run_far h4, run_far h4]; exact ⟨rfl, rfl, r⟩
end

end Go.Proofs.Ytlndbligbpfdpaa
/-
  SpecHangs: what it names, as it lies.
-/
namespace Go.Proofs.Ytlndbligbpfdpaa
set_option linter.unusedVariables false
set_option linter.unusedSimpArgs false
open Go.RowKit
attribute [local go_sem] Oper.semAt_some

abbrev namC (T : Nat → Bool) : Obj := .cells #[.bool (T 0), .bool (T 1), .bool (T 2), .bool (T 3), .bool (T 4), .bool (T 5), .bool (T 6), .bool (T 7), .bool (T 8), .bool (T 9), .bool (T 10), .bool (T 11)] 45 (0, 0)
def updT (T : Nat → Bool) (j : Nat) : Nat → Bool := fun i => if i = j then true else T i
theorem nam_cell {w : World} {a : Nat} {T : Nat → Bool} (h : w.heap[a]? = some (namC T)) (t : Nat) (ht : t < 12) : w.cell? ⟨a, t, none⟩ = some (.bool (T t)) ∧ w.frozen? ⟨a, t, none⟩ = false := by
  match t, ht with
  | 0, _ | 1, _ | 2, _ | 3, _ | 4, _ | 5, _ | 6, _ | 7, _ | 8, _ | 9, _ | 10, _ | 11, _ => exact ⟨by simp [World.cell?, h], by simp [World.frozen?, h]⟩
theorem nam_set {w : World} {a : Nat} {T : Nat → Bool} (h : w.heap[a]? = some (namC T)) (t : Nat) (ht : t < 12) : (w.setCell ⟨a, t, none⟩ (.bool true)).heap[a]? = some (namC (updT T t)) := by
  rw [heap_setCell_same _ _ _ _ _ _ h]
  match t, ht with
  | 0, _ | 1, _ | 2, _ | 3, _ | 4, _ | 5, _ | 6, _ | 7, _ | 8, _ | 9, _ | 10, _ | 11, _ => rfl
/-- Does an instruction name a variable? -/
def nmI (i : InsD) : Bool := decide ((i.op = 4 ∨ i.op = 5) ∧ 0 ≤ i.arg ∧ i.arg < 12)
def namT (l : List InsD) : Nat → Bool := fun j => l.any fun i => nmI i && decide (i.arg.toNat = j)
theorem nam_snoc {l : List InsD} {k : Nat} (hk : k < l.length) : namT (l.take (k + 1)) = if nmI l[k] = true then updT (namT (l.take k)) l[k].arg.toNat else namT (l.take k) := by
  funext j
  unfold namT
  rw [List.take_succ_eq_append_getElem hk, List.any_append]
  simp only [List.any_cons, List.any_nil, Bool.or_false]
  split
  · rename_i h
    unfold updT
    rw [h]
    simp only [Bool.true_and]
    split
    · rename_i e; rw [decide_eq_true e.symm]; simp
    · rename_i e; rw [decide_eq_false (fun q => e q.symm)]; simp
  · rename_i h
    have h' : nmI l[k] = false := by simpa using h
    rw [h']; simp
theorem nam_names {l : List InsD} (h : ∀ i ∈ l, i.op ≠ 6 ∧ i.op ≠ 7) : Names (namT l) l := fun i hi => by
  refine ⟨(h i hi).1, (h i hi).2, fun ho h0 h1 => ?_⟩
  unfold namT
  rw [List.any_eq_true]
  refine ⟨i, hi, ?_⟩
  unfold nmI
  rw [decide_eq_true ⟨ho, h0, h1⟩, decide_eq_true rfl]
  rfl
/-- The two heaps, so far. -/
def aL (h : List Int) (k : Nat) : List Int := (List.range k).map fun t => h.getD t 0
def bL (T : Nat → Bool) (h o : List Int) (k : Nat) : List Int := (List.range k).map fun t => if T t = true then h.getD t 0 else o.getD t 0
theorem aL_snoc (h : List Int) (k : Nat) : aL h (k + 1) = aL h k ++ [h.getD k 0] := by unfold aL; rw [List.range_succ, List.map_append]; rfl
theorem bL_snoc (T : Nat → Bool) (h o : List Int) (k : Nat) : bL T h o (k + 1) = bL T h o k ++ [if T k = true then h.getD k 0 else o.getD k 0] := by unfold bL; rw [List.range_succ, List.map_append]; rfl
theorem aL_len (h : List Int) (k : Nat) : (aL h k).length = k := by simp [aL]
theorem bL_len (T : Nat → Bool) (h o : List Int) (k : Nat) : (bL T h o k).length = k := by simp [bL]
theorem aL_at (h : List Int) {k t : Nat} (ht : t < k) : (aL h k).getD t 0 = h.getD t 0 := by simp [aL, List.getD_eq_getElem?_getD, ht]
theorem bL_at (T : Nat → Bool) (h o : List Int) {k t : Nat} (ht : t < k) : (bL T h o k).getD t 0 = if T t = true then h.getD t 0 else o.getD t 0 := by simp [bL, List.getD_eq_getElem?_getD, ht]
theorem hr_start (T : Nat → Bool) (h o : List Int) (hT : ∀ i, 12 ≤ i → T i = false) : HR T (aL h 12) (bL T h o 12) (aL h 12) (bL T h o 12) := by
  refine ⟨rfl, by rw [aL_len, bL_len], fun i hi => ?_, fun _ _ => rfl, fun _ _ => rfl⟩
  by_cases h12 : i < 12
  · rw [aL_at h h12, bL_at T h o h12, if_pos hi]
  · rw [hT i (by omega)] at hi; cases hi
theorem namT_far (l : List InsD) : ∀ i, 12 ≤ i → namT l i = false := fun i hi => by
  unfold namT
  rw [List.any_eq_false]
  intro x _ q
  unfold nmI at q
  simp only [Bool.and_eq_true, decide_eq_true_eq] at q
  omega
theorem wf_getD' {l : List Int} (h : ∀ x ∈ l, Wf64 x) (k : Nat) : Wf64 (l.getD k 0) := wf_getD h k
theorem aL_wf {h : List Int} (hw : ∀ x ∈ h, Wf64 x) (k : Nat) : ∀ x ∈ aL h k, Wf64 x := fun x hx => by
  unfold aL at hx
  obtain ⟨t, _, rfl⟩ := List.mem_map.1 hx
  exact wf_getD hw t
theorem bL_wf {T : Nat → Bool} {h o : List Int} (hw : ∀ x ∈ h, Wf64 x) (ho : ∀ x ∈ o, Wf64 x) (k : Nat) : ∀ x ∈ bL T h o k, Wf64 x := fun x hx => by
  unfold bL at hx
  obtain ⟨t, _, rfl⟩ := List.mem_map.1 hx
  split
  · exact wf_getD hw t
  · exact wf_getD ho t
theorem swf_l {h : List Int} (hl : h.length ≤ 1000) (hw : ∀ x ∈ h, Wf64 x) : SWf zWD h := ⟨by simp, by simp, hl, fun x hx => (by cases hx), hw, wf_zero, wf_zero, wf_zero, wf_zero⟩
/-- A State stays right. -/
theorem runR_keep {l : List InsD} (hl : ∀ i ∈ l, i.Wf) (f : Int) : ∀ (n : Nat) (D : WD) (h : List Int) (am : List Bool), SWf D h → (runR l f n D h am).2.1.st.length ≤ 1000 ∧ (runR l f n D h am).2.1.out.length ≤ 1000 := by
  intro n
  induction n with
  | zero =>
    intro D h am k
    have hp := plain_keep hl k f
    by_cases h4 : (plainX l D f).1.1 = 4
    · rw [run_out h4]; exact ⟨hp.st, hp.out⟩
    · rw [run_far h4]; exact ⟨hp.st, hp.out⟩
  | succ n ih =>
    intro D h am k
    have hp := plain_keep hl k f
    by_cases h4 : (plainX l D f).1.1 = 4
    · rw [run_next h4]
      split
      · rename_i h0
        exact ih _ _ _ (out_keep hl hp h0).1
      · exact ⟨hp.st, hp.out⟩
    · rw [run_far h4]; exact ⟨hp.st, hp.out⟩
/-- One value more. -/
theorem app_one {W : World} {B : Nat} {v : Value} {xs : List Int} (h : valOwn W B v xs) (hl : xs.length ≤ 900) (hB : B ≤ W.heap.size) (x : Int) :
    ∃ ao cap w', (Builtin.append_ #[23, 23] 23 #[v, .slice (some ⟨W.heap.size, 0, none⟩) 1 1]).run Try.prog (W.alloc (.cells #[.int .u64 x] 25)) = .ok (.slice ao (xs ++ [x]).length cap) w' ∧ valOwn w' B (.slice ao (xs ++ [x]).length cap) (xs ++ [x]) ∧ Touch W w' v.ownBlock.toList ∧ (∀ g, (Value.slice ao (xs ++ [x]).length cap).ownBlock = some g → v.ownBlock = some g ∨ W.heap.size ≤ g) := by
  have tA : Touch W (W.alloc (.cells #[.int .u64 x] 25)) [] := (Touch.refl W []).alloc _
  have hr : VRow (W.alloc (.cells #[.int .u64 x] 25)) (.slice (some ⟨W.heap.size, 0, none⟩) 1 1) [x] := vrow_of (own_one _ W.heap.size (Nat.le_refl _) x)
  obtain ⟨ao, cap, w', h1, h2, h3, h4⟩ := val_app (ownsRow_touch h tA (by simp)) (by omega) (by simp; omega) hr rfl (by decide) 23
  have e : xs.length + 1 = (xs ++ [x]).length := by simp
  rw [e] at h1 h2 h4
  exact ⟨ao, cap, w', h1, h2, (tA.mono (by simp)).trans h3 (fun y hy => .inl hy), fun g hg => by rcases h4 g hg with q | q; exact .inl q; exact .inr (by simp at q; omega)⟩

/-- Both heaps, one value more each. -/
theorem hang_app {w1 wr : World} {nb k2 : Nat} {T : Nat → Bool} {u7 u8 : Value} {xs ys : List Int} (hb : wr.heap[nb]? = some (namC T)) (hnb : nb = w1.heap.size) (hva : valOwn wr (w1.heap.size + 1) u7 xs) (hvb : valOwn wr (w1.heap.size + 1) u8 ys) (hdis : ∀ g, u7.ownBlock = some g → u8.ownBlock ≠ some g) (htt : Touch w1 wr []) (hx : xs.length = k2) (hy : ys.length = k2) (hk : k2 ≤ 12) (x y : Int) :
    ∃ a1 c1 v1 a2 c2 v2, (Builtin.append_ #[23, 23] 23 #[u7, .slice (some ⟨wr.heap.size, 0, none⟩) 1 1]).run Try.prog (wr.alloc (.cells #[.int .u64 x] 25)) = .ok (.slice a1 (k2 + 1) c1) v1 ∧
      (Builtin.append_ #[23, 23] 23 #[u8, .slice (some ⟨v1.heap.size, 0, none⟩) 1 1]).run Try.prog (v1.alloc (.cells #[.int .u64 y] 25)) = .ok (.slice a2 (k2 + 1) c2) v2 ∧
      v2.heap[nb]? = some (namC T) ∧ valOwn v2 (w1.heap.size + 1) (.slice a1 (k2 + 1) c1) (xs ++ [x]) ∧ valOwn v2 (w1.heap.size + 1) (.slice a2 (k2 + 1) c2) (ys ++ [y]) ∧ (∀ g, (Value.slice a1 (k2 + 1) c1).ownBlock = some g → (Value.slice a2 (k2 + 1) c2).ownBlock ≠ some g) ∧ Touch w1 v2 [] := by
  have hwr : w1.heap.size + 1 ≤ wr.heap.size := by have := lt_of_heap hb; omega
  obtain ⟨a1, c1, v1, r1, own1, t1, g1⟩ := app_one hva (by omega) hwr x
  have hvb1 := ownsRow_touch hvb t1 (fun g hg hm => hdis g (by simpa using hm) hg)
  have hs1 := t1.size
  obtain ⟨a2, c2, v2, r2, own2, t2, g2⟩ := app_one (W := v1) (B := w1.heap.size + 1) hvb1 (by omega) (by omega) y
  have hge7 : ∀ g, u7.ownBlock = some g → w1.heap.size + 1 ≤ g ∧ g < wr.heap.size := fun g hg => World.ownsRow.lt hva g hg
  have hge8 : ∀ g, u8.ownBlock = some g → w1.heap.size + 1 ≤ g ∧ g < wr.heap.size := fun g hg => World.ownsRow.lt hvb g hg
  have own1b : valOwn v2 (w1.heap.size + 1) (.slice a1 (xs ++ [x]).length c1) (xs ++ [x]) := ownsRow_touch own1 t2 (fun g hg hm => by
    have hm' : u8.ownBlock = some g := by simpa using hm
    rcases g1 g hg with q | q
    · exact hdis g q hm'
    · have := hge8 g hm'; omega)
  have e1 := t1.block nb (lt_of_heap hb) (fun hm => by have := hge7 nb (by simpa using hm); omega)
  have e2 := t2.block nb (by have := lt_of_heap hb; omega) (fun hm => by have := hge8 nb (by simpa using hm); omega)
  have hds : ∀ g, (Value.slice a1 (xs ++ [x]).length c1).ownBlock = some g → (Value.slice a2 (ys ++ [y]).length c2).ownBlock ≠ some g := fun g q1 q2 => by
    have l1 := (World.ownsRow.lt own1 g q1).2
    rcases g1 g q1 with p1 | p1
    · rcases g2 g q2 with p2 | p2
      · exact hdis g p1 p2
      · have := hge7 g p1; omega
    · rcases g2 g q2 with p2 | p2
      · have := hge8 g p2; omega
      · omega
  have ea : (xs ++ [x]).length = k2 + 1 := by rw [List.length_append, hx]; rfl
  have eb : (ys ++ [y]).length = k2 + 1 := by rw [List.length_append, hy]; rfl
  have own2b : valOwn v2 (w1.heap.size + 1) (.slice a2 (ys ++ [y]).length c2) (ys ++ [y]) := own2
  rw [ea] at r1 own1b hds
  rw [eb] at r2 own2b hds
  exact ⟨a1, c1, v1, a2, c2, v2, r1, r2, (e2.trans e1).trans hb, own1b, own2b, hds, (htt.trans t1 (fun z hz => .inr (by have := hge7 z (by simpa using hz); omega))).trans t2 (fun z hz => .inr (by have := hge8 z (by simpa using hz); omega))⟩

end Go.Proofs.Ytlndbligbpfdpaa
/-
  SpecHangs, WALKED.
-/
namespace Go.Proofs.Ytlndbligbpfdpaa
set_option linter.unusedVariables false
set_option linter.unusedSimpArgs false
open Go.RowKit
attribute [local go_sem] Oper.semAt_some

theorem insv_cut3 {w : World} {ao : Option Addr} {cap : Nat} {l : List InsD} (h : InsV w (.slice ao l.length cap) l) : InsV w (.slice ao (l.take 64).length cap) (l.take 64) := by
  rw [cut_len]; exact row_cut h 64
theorem vrow_of' {w : World} {B : Nat} {v : Value} {l : List Int} (h : valOwn w B v l) {n : Nat} (hl : l.length = n) : VRow w v l := vrow_of h
theorem vrow_one {w : World} {ao : Option Addr} {cap : Nat} {l : List Int} (h : VRow w (.slice ao l.length cap) l) (k : Nat) (hk : k < l.length) :
    ∃ g off, ao = some ⟨g, off, none⟩ ∧ g < w.heap.size ∧ w.cell? ⟨g, off + k, none⟩ = some (.int .u64 (l.getD k 0)) := by
  obtain ⟨g, off, e, hlt, hc⟩ := h.at k hk
  refine ⟨g, off, e, hlt, ?_⟩
  rw [List.getD_eq_getElem?_getD, List.getElem?_eq_getElem hk]
  simpa using hc 0 (by omega)

set_option maxRecDepth 100000 in
set_option maxHeartbeats 12800000 in
theorem spechangs_any {w : World} {ao : Option Addr} {cap : Nat} {l : List InsD} (hr : InsV w (.slice ao l.length cap) l) (hwf : ∀ i ∈ l, i.Wf) (hc : l.length ≤ cap ∧ cap ≤ 9223372036854775807) {ah : Option Addr} {ch : Nat} {h : List Int} (hh : VRow w (.slice ah h.length ch) h) (hhw : ∀ x ∈ h, Wf64 x) {bh : Option Addr} {dh : Nat} {o : List Int} (hq : VRow w (.slice bh o.length dh) o) (how : ∀ x ∈ o, Wf64 x) :
    Calls Try.prog 5 #[.slice ao l.length cap, .slice ah h.length ch, .slice bh o.length dh] w fun e w' => e = .returned (.bool true) ∧ Touch w w' [] := by
  have FW := HidC.mk (spfew_any ao l.length cap hc.1 hc.2 w)
  have hr' := insv_cut3 hr
  have hn : (l.take 64).length ≤ 64 := by rw [List.length_take]; omega
  have hwf' : ∀ i ∈ l.take 64, i.Wf := fun i hi => hwf i (List.mem_of_mem_take hi)
  rw [← cut_len] at FW
  generalize l.take 64 = m at *
  obtain ⟨N, hN⟩ : ∃ N, N = m.length := ⟨_, rfl⟩
  obtain ⟨nh, hnh⟩ : ∃ nh, nh = h.length := ⟨_, rfl⟩
  obtain ⟨no, hno⟩ : ∃ no, no = o.length := ⟨_, rfl⟩
  have HN : Hid (N = m.length) := hN
  have HNH : Hid (nh = h.length) := hnh
  have HNO : Hid (no = o.length) := hno
  have HR : Hid (InsV w (.slice ao m.length cap) m) := hr'
  have HH : Hid (VRow w (.slice ah h.length ch) h) := hh
  have HO : Hid (VRow w (.slice bh o.length dh) o) := hq
  have HW : Hid ((∀ i ∈ m, i.Wf) ∧ (∀ x ∈ h, Wf64 x) ∧ (∀ x ∈ o, Wf64 x)) := ⟨hwf', hhw, how⟩
  have hn64 : N ≤ 64 := by omega
  rw [← hN] at FW
  rw [← hnh, ← hno]
  clear hN hnh hno hr hwf hc hh hhw hq how hr' hn hwf'
  go_enter Try.func5, Try.ntmps5
  go_wp2_with fail
  refine FW.out.mono ?_
  rintro e w1 ⟨rfl, rfl⟩
  clear FW
  have hb0 : (w1.alloc (namC fun _ => false)).heap[w1.heap.size]? = some (namC (namT (m.take 0))) := by
    rw [show namT (m.take 0) = fun _ => false from rfl]; exact heap_alloc_new w1 _
  have HB0 : Hid _ := hb0
  have HT0 : Hid (Touch w1 (w1.alloc (namC fun _ => false)) []) := (Touch.refl w1 []).alloc _
  clear hb0
  go_wp2_with fail
  obtain ⟨nb, hnb⟩ : ∃ nb, nb = w1.heap.size := ⟨_, rfl⟩
  rw [← hnb] at HB0
  simp only [← hnb]
  have HNB : Hid (nb = w1.heap.size) := hnb
  clear hnb
  go_loopw [10] (fun i wr => ∃ (k : Nat), i = .int .i64 k ∧ k ≤ N ∧ wr.heap[nb]? = some (namC (namT (m.take k))) ∧ (∀ i ∈ m.take k, i.op ≠ 6 ∧ i.op ≠ 7) ∧ Touch w1 wr []) (fun i _ => N - (intOf i).toNat)
  case atStart => exact ⟨0, rfl, Nat.zero_le _, HB0.out, by simp, HT0.out⟩
  case round =>
    obtain ⟨k, rfl, hk, hb, h67, ht⟩ := hrel
    clear HB0 HT0
    by_cases hlt : k < N
    · have hlt' : (k : Int) < N := by omega
      have hkm : k < m.length := by rw [← HN.out]; exact hlt
      obtain ⟨g, off, rfl, hg, c0, c1, c2⟩ := insv_at (SRow.keep HR.out ht (by simp)) k hkm
      have hsn := nam_snoc hkm
      have h67n : m[k].op ≠ 6 ∧ m[k].op ≠ 7 → ∀ i ∈ m.take (k + 1), i.op ≠ 6 ∧ i.op ≠ 7 := fun q i hi => by
        rw [List.take_succ_eq_append_getElem hkm] at hi
        rcases List.mem_append.1 hi with hi | hi
        · exact h67 i hi
        · rw [List.mem_singleton.1 hi]; exact q
      rw [opAt_get hkm] at c0
      rw [argAt_get hkm] at c1
      generalize m[k] = x at *
      obtain ⟨xo, xa, xv⟩ := x
      simp only at c0 c1 c2 hsn h67n
      have hbl := lt_of_heap hb
      have HSN : Hid _ := hsn
      have H67 : Hid _ := h67n
      have HBB : Hid (wr.heap[nb]? = some (namC (namT (m.take k)))) := hb
      have HTT : Hid _ := ht
      have tA : Touch wr (wr.alloc (.cells #[.int .u8 xo, .int .i64 xa, .int .u64 xv] 48)) [] := (Touch.refl wr []).alloc _
      have HBA : Hid ((wr.alloc (.cells #[.int .u8 xo, .int .i64 xa, .int .u64 xv] 48)).heap[nb]? = some (namC (namT (m.take k)))) := (tA.block nb hbl (by simp)).trans hb
      have HTA : Hid (Touch w1 (wr.alloc (.cells #[.int .u8 xo, .int .i64 xa, .int .u64 xv] 48)) []) := ht.trans tA (by simp)
      have hge : w1.heap.size ≤ nb := by have := HNB.out; omega
      have HGE : Hid _ := hge
      clear hb ht tA hsn h67n h67 hge
      by_cases h6 : xo = 6
      · subst h6
        clear HSN H67 HBB HTT HBA
        go_wp2_with fail
        refine (splive_any _).mono ?_
        rintro e w5 ⟨rfl, t5⟩
        have T5 : Hid _ := HTA.out.trans t5 (by simp)
        clear t5 HTA
        go_wp2
        go_ret
        exact ⟨rfl, T5.out⟩
      have h6' : (xo == 6) = false := by simpa using h6
      by_cases h7 : xo = 7
      · subst h7
        clear HSN H67 HBB HTT HBA
        go_wp2_with fail
        refine (splive_any _).mono ?_
        rintro e w5 ⟨rfl, t5⟩
        have T5 : Hid _ := HTA.out.trans t5 (by simp)
        clear t5 HTA
        go_wp2
        go_ret
        exact ⟨rfl, T5.out⟩
      have h7' : (xo == 7) = false := by simpa using h7
      have H67n : Hid _ := H67.out ⟨h6, h7⟩
      clear H67 h6 h7
      by_cases hnm : nmI ⟨xo, xa, xv⟩ = true
      · have hnm2 := hnm
        unfold nmI at hnm2
        simp only [decide_eq_true_eq] at hnm2
        obtain ⟨h45, ha0, ha1⟩ := hnm2
        obtain ⟨j, rfl⟩ := Int.eq_ofNat_of_zero_le ha0
        have hj : j < 12 := by omega
        have hnc := nam_cell HBA.out j hj
        obtain ⟨f1, d1⟩ := And.symm hnc
        have HNX : Hid (∀ X : Obj, ((wr.setCell ⟨nb, j, none⟩ (.bool true)).alloc X).heap[nb]? = some (namC (namT (m.take (k + 1))))) := fun X => by
          rw [HSN.out, if_pos hnm]
          exact (((Touch.refl (wr.setCell ⟨nb, j, none⟩ (.bool true)) []).alloc X).block nb (by simpa using hbl) (by simp)).trans (nam_set HBB.out j hj)
        have HTX : Hid (∀ X : Obj, Touch w1 ((wr.setCell ⟨nb, j, none⟩ (.bool true)).alloc X) []) := fun X => (HTT.out.setCell (.inr HGE.out) _).alloc X
        have hnbs : nb ≠ wr.heap.size := by omega
        clear hnc hnm HSN HBB HTT HBA HTA HGE
        rcases h45 with rfl | rfl
        all_goals
          go_wp2
          go_roundw
          case rel => exact ⟨k + 1, by go_num, by omega, HNX.out _, H67n.out, HTX.out _⟩
          case measure => simp [intOf]; omega
      · have HNX : Hid ((wr.alloc (.cells #[.int .u8 xo, .int .i64 xa, .int .u64 xv] 48)).heap[nb]? = some (namC (namT (m.take (k + 1))))) := by
          show _ = _
          rw [HSN.out, if_neg hnm]; exact HBA.out
        have hcase : (xo ≠ 4 ∧ xo ≠ 5) ∨ ((xo = 4 ∨ xo = 5) ∧ xa < 0) ∨ ((xo = 4 ∨ xo = 5) ∧ 0 ≤ xa ∧ 12 ≤ xa) := by
          unfold nmI at hnm
          simp only [decide_eq_true_eq] at hnm
          omega
        clear hnm HSN HBB HTT HBA HGE
        rcases hcase with ⟨q4, q5⟩ | ⟨q45, qa⟩ | ⟨q45, qa, qb⟩
        · have q4' : (xo == 4) = false := by simpa using q4
          have q5' : (xo == 5) = false := by simpa using q5
          clear q4 q5
          go_wp2
          go_roundw
          case rel => exact ⟨k + 1, by go_num, by omega, HNX.out, H67n.out, HTA.out⟩
          case measure => simp [intOf]; omega
        · have qa' : ¬ (0 : Int) ≤ xa := by omega
          rcases q45 with rfl | rfl
          all_goals
            go_wp2
            go_roundw
            case rel => exact ⟨k + 1, by go_num, by omega, HNX.out, H67n.out, HTA.out⟩
            case measure => simp [intOf]; omega
        · have qb' : ¬ xa < 12 := by omega
          rcases q45 with rfl | rfl
          all_goals
            go_wp2
            go_roundw
            case rel => exact ⟨k + 1, by go_num, by omega, HNX.out, H67n.out, HTA.out⟩
            case measure => simp [intOf]; omega
    · obtain rfl : k = N := by omega
      have hall : m.take k = m := by rw [HN.out, List.take_length]
      rw [hall] at hb h67
      have HNM : Hid (Names (namT m) m) := nam_names h67
      have HBM : Hid (wr.heap[nb]? = some (namC (namT m))) := hb
      have HTM : Hid _ := ht
      have HFAR : Hid (∀ i, 12 ≤ i → namT m i = false) := namT_far m
      have hge : w1.heap.size + 1 ≤ wr.heap.size := by have := lt_of_heap hb; have := HNB.out; omega
      generalize namT m = T at *
      clear hb h67 hall ht hlt
      go_wp2_with fail
      go_loopw [7, 8, 12] (fun va vb i wr' => ∃ (k2 : Nat), i = .int .i64 k2 ∧ k2 ≤ 12 ∧ wr'.heap[nb]? = some (namC T) ∧ valOwn wr' (w1.heap.size + 1) va (aL h k2) ∧ valOwn wr' (w1.heap.size + 1) vb (bL T h o k2) ∧ (∀ g, va.ownBlock = some g → vb.ownBlock ≠ some g) ∧ Touch w1 wr' []) (fun _ _ i _ => 12 - (intOf i).toNat)
      case atStart => exact ⟨0, rfl, by omega, HBM.out, World.ownsRow_nil _ _ _ _, World.ownsRow_nil _ _ _ _, by simp [Value.ownBlock], HTM.out⟩
      case round =>
        obtain ⟨k2, rfl, hk2, hb, hva, hvb, hdis, htt⟩ := hrel
        by_cases hlt2 : k2 < 12
        · have hlt2' : (k2 : Int) < 12 := by omega
          have hwr : w1.heap.size + 1 ≤ wr.heap.size := by have := lt_of_heap hb; have := HNB.out; omega
          obtain ⟨n1c, n1f⟩ := nam_cell hb k2 hlt2
          have hA := aL_snoc h k2
          have hBq := bL_snoc T h o k2
          have HCH : Hid (∀ (q : k2 < nh), ∃ g off, ah = some ⟨g, off, none⟩ ∧ wr.cell? ⟨g, off + k2, none⟩ = some (.int .u64 (h.getD k2 0))) := fun q => by
            obtain ⟨g, off, e, hg, hc⟩ := vrow_one HH.out k2 (by have := HNH.out; omega)
            exact ⟨g, off, e, (htt.cell (p := ⟨g, off + k2, none⟩) hg (by simp)).trans hc⟩
          have HCO : Hid (∀ (q : k2 < no), ∃ g off, bh = some ⟨g, off, none⟩ ∧ wr.cell? ⟨g, off + k2, none⟩ = some (.int .u64 (o.getD k2 0))) := fun q => by
            obtain ⟨g, off, e, hg, hc⟩ := vrow_one HO.out k2 (by have := HNO.out; omega)
            exact ⟨g, off, e, (htt.cell (p := ⟨g, off + k2, none⟩) hg (by simp)).trans hc⟩
          have HZH : Hid (¬ k2 < nh → h.getD k2 0 = 0) := fun q => by
            rw [List.getD_eq_getElem?_getD, List.getElem?_eq_none (by have := HNH.out; omega)]; rfl
          have HZO : Hid (¬ k2 < no → o.getD k2 0 = 0) := fun q => by
            rw [List.getD_eq_getElem?_getD, List.getElem?_eq_none (by have := HNO.out; omega)]; rfl
          generalize h.getD k2 0 = x at *
          generalize o.getD k2 0 = y at *
          by_cases q1 : k2 < nh
          · obtain ⟨gh, oh, rfl, ch1⟩ := HCH.out q1
            have q1' : (k2 : Int) < nh := by omega
            by_cases q2 : k2 < no
            · obtain ⟨go', oo, rfl, co1⟩ := HCO.out q2
              have q2' : (k2 : Int) < no := by omega
              cases hT : T k2 with
              | true =>
                rw [hT] at n1c hBq
                have HAX : Hid (aL h (k2 + 1) = aL h k2 ++ [x]) := hA
                have HBY : Hid (bL T h o (k2 + 1) = bL T h o k2 ++ [x]) := by show _ = _; rw [hBq]; simp
                clear hA hBq HCH HCO HZH HZO hT
                obtain ⟨a1, c1, v1, a2, c2, v2, r1, r2, e1, e2, e3, e4, e5⟩ := hang_app hb HNB.out hva hvb hdis htt (aL_len h k2) (bL_len T h o k2) hk2 x x
                obtain ⟨n1, hn1⟩ : ∃ n1, n1 = k2 + 1 := ⟨_, rfl⟩
                rw [← hn1] at r1 r2 e2 e3 e4
                rw [← HAX.out] at e2
                rw [← HBY.out] at e3
                have HE : Hid _ := And.intro e1 (And.intro e2 (And.intro e3 (And.intro e4 e5)))
                clear hn1 e1 e2 e3 e4 e5 hva hvb hdis htt HAX HBY hb
                go_wp2_with (at_builtin; first | (refine Lib.wpList_append_run _ rfl (.tmp 86) (.tmp 88) _ _ rfl _ _ rfl rfl _ _ r1 ?_) | (refine Lib.wpList_append_run _ rfl (.tmp 90) (.tmp 92) _ _ rfl _ _ rfl rfl _ _ r2 ?_))
                go_roundw
                case rel => exact ⟨k2 + 1, by go_num, by omega, HE.out.1, HE.out.2.1, HE.out.2.2.1, HE.out.2.2.2.1, HE.out.2.2.2.2⟩
                case measure => simp [intOf]; omega
              | false =>
                rw [hT] at n1c hBq
                have HAX : Hid (aL h (k2 + 1) = aL h k2 ++ [x]) := hA
                have HBY : Hid (bL T h o (k2 + 1) = bL T h o k2 ++ [y]) := by show _ = _; rw [hBq]; simp
                clear hA hBq HCH HCO HZH HZO hT
                obtain ⟨a1, c1, v1, a2, c2, v2, r1, r2, e1, e2, e3, e4, e5⟩ := hang_app hb HNB.out hva hvb hdis htt (aL_len h k2) (bL_len T h o k2) hk2 x y
                obtain ⟨n1, hn1⟩ : ∃ n1, n1 = k2 + 1 := ⟨_, rfl⟩
                rw [← hn1] at r1 r2 e2 e3 e4
                rw [← HAX.out] at e2
                rw [← HBY.out] at e3
                have HE : Hid _ := And.intro e1 (And.intro e2 (And.intro e3 (And.intro e4 e5)))
                clear hn1 e1 e2 e3 e4 e5 hva hvb hdis htt HAX HBY hb
                go_wp2_with (at_builtin; first | (refine Lib.wpList_append_run _ rfl (.tmp 86) (.tmp 88) _ _ rfl _ _ rfl rfl _ _ r1 ?_) | (refine Lib.wpList_append_run _ rfl (.tmp 90) (.tmp 92) _ _ rfl _ _ rfl rfl _ _ r2 ?_))
                go_roundw
                case rel => exact ⟨k2 + 1, by go_num, by omega, HE.out.1, HE.out.2.1, HE.out.2.2.1, HE.out.2.2.2.1, HE.out.2.2.2.2⟩
                case measure => simp [intOf]; omega
            · have y0 := HZO.out q2
              subst y0
              have q2' : ¬ (k2 : Int) < no := by omega
              cases hT : T k2 with
              | true =>
                rw [hT] at n1c hBq
                have HAX : Hid (aL h (k2 + 1) = aL h k2 ++ [x]) := hA
                have HBY : Hid (bL T h o (k2 + 1) = bL T h o k2 ++ [x]) := by show _ = _; rw [hBq]; simp
                clear hA hBq HCH HCO HZH HZO hT
                obtain ⟨a1, c1, v1, a2, c2, v2, r1, r2, e1, e2, e3, e4, e5⟩ := hang_app hb HNB.out hva hvb hdis htt (aL_len h k2) (bL_len T h o k2) hk2 x x
                obtain ⟨n1, hn1⟩ : ∃ n1, n1 = k2 + 1 := ⟨_, rfl⟩
                rw [← hn1] at r1 r2 e2 e3 e4
                rw [← HAX.out] at e2
                rw [← HBY.out] at e3
                have HE : Hid _ := And.intro e1 (And.intro e2 (And.intro e3 (And.intro e4 e5)))
                clear hn1 e1 e2 e3 e4 e5 hva hvb hdis htt HAX HBY hb
                go_wp2_with (at_builtin; first | (refine Lib.wpList_append_run _ rfl (.tmp 86) (.tmp 88) _ _ rfl _ _ rfl rfl _ _ r1 ?_) | (refine Lib.wpList_append_run _ rfl (.tmp 90) (.tmp 92) _ _ rfl _ _ rfl rfl _ _ r2 ?_))
                go_roundw
                case rel => exact ⟨k2 + 1, by go_num, by omega, HE.out.1, HE.out.2.1, HE.out.2.2.1, HE.out.2.2.2.1, HE.out.2.2.2.2⟩
                case measure => simp [intOf]; omega
              | false =>
                rw [hT] at n1c hBq
                have HAX : Hid (aL h (k2 + 1) = aL h k2 ++ [x]) := hA
                have HBY : Hid (bL T h o (k2 + 1) = bL T h o k2 ++ [(0 : Int)]) := by show _ = _; rw [hBq]; simp
                clear hA hBq HCH HCO HZH HZO hT
                obtain ⟨a1, c1, v1, a2, c2, v2, r1, r2, e1, e2, e3, e4, e5⟩ := hang_app hb HNB.out hva hvb hdis htt (aL_len h k2) (bL_len T h o k2) hk2 x (0 : Int)
                obtain ⟨n1, hn1⟩ : ∃ n1, n1 = k2 + 1 := ⟨_, rfl⟩
                rw [← hn1] at r1 r2 e2 e3 e4
                rw [← HAX.out] at e2
                rw [← HBY.out] at e3
                have HE : Hid _ := And.intro e1 (And.intro e2 (And.intro e3 (And.intro e4 e5)))
                clear hn1 e1 e2 e3 e4 e5 hva hvb hdis htt HAX HBY hb
                go_wp2_with (at_builtin; first | (refine Lib.wpList_append_run _ rfl (.tmp 86) (.tmp 88) _ _ rfl _ _ rfl rfl _ _ r1 ?_) | (refine Lib.wpList_append_run _ rfl (.tmp 90) (.tmp 92) _ _ rfl _ _ rfl rfl _ _ r2 ?_))
                go_roundw
                case rel => exact ⟨k2 + 1, by go_num, by omega, HE.out.1, HE.out.2.1, HE.out.2.2.1, HE.out.2.2.2.1, HE.out.2.2.2.2⟩
                case measure => simp [intOf]; omega
          · have x0 := HZH.out q1
            subst x0
            have q1' : ¬ (k2 : Int) < nh := by omega
            by_cases q2 : k2 < no
            · obtain ⟨go', oo, rfl, co1⟩ := HCO.out q2
              have q2' : (k2 : Int) < no := by omega
              cases hT : T k2 with
              | true =>
                rw [hT] at n1c hBq
                have HAX : Hid (aL h (k2 + 1) = aL h k2 ++ [(0 : Int)]) := hA
                have HBY : Hid (bL T h o (k2 + 1) = bL T h o k2 ++ [(0 : Int)]) := by show _ = _; rw [hBq]; simp
                clear hA hBq HCH HCO HZH HZO hT
                obtain ⟨a1, c1, v1, a2, c2, v2, r1, r2, e1, e2, e3, e4, e5⟩ := hang_app hb HNB.out hva hvb hdis htt (aL_len h k2) (bL_len T h o k2) hk2 (0 : Int) (0 : Int)
                obtain ⟨n1, hn1⟩ : ∃ n1, n1 = k2 + 1 := ⟨_, rfl⟩
                rw [← hn1] at r1 r2 e2 e3 e4
                rw [← HAX.out] at e2
                rw [← HBY.out] at e3
                have HE : Hid _ := And.intro e1 (And.intro e2 (And.intro e3 (And.intro e4 e5)))
                clear hn1 e1 e2 e3 e4 e5 hva hvb hdis htt HAX HBY hb
                go_wp2_with (at_builtin; first | (refine Lib.wpList_append_run _ rfl (.tmp 86) (.tmp 88) _ _ rfl _ _ rfl rfl _ _ r1 ?_) | (refine Lib.wpList_append_run _ rfl (.tmp 90) (.tmp 92) _ _ rfl _ _ rfl rfl _ _ r2 ?_))
                go_roundw
                case rel => exact ⟨k2 + 1, by go_num, by omega, HE.out.1, HE.out.2.1, HE.out.2.2.1, HE.out.2.2.2.1, HE.out.2.2.2.2⟩
                case measure => simp [intOf]; omega
              | false =>
                rw [hT] at n1c hBq
                have HAX : Hid (aL h (k2 + 1) = aL h k2 ++ [(0 : Int)]) := hA
                have HBY : Hid (bL T h o (k2 + 1) = bL T h o k2 ++ [y]) := by show _ = _; rw [hBq]; simp
                clear hA hBq HCH HCO HZH HZO hT
                obtain ⟨a1, c1, v1, a2, c2, v2, r1, r2, e1, e2, e3, e4, e5⟩ := hang_app hb HNB.out hva hvb hdis htt (aL_len h k2) (bL_len T h o k2) hk2 (0 : Int) y
                obtain ⟨n1, hn1⟩ : ∃ n1, n1 = k2 + 1 := ⟨_, rfl⟩
                rw [← hn1] at r1 r2 e2 e3 e4
                rw [← HAX.out] at e2
                rw [← HBY.out] at e3
                have HE : Hid _ := And.intro e1 (And.intro e2 (And.intro e3 (And.intro e4 e5)))
                clear hn1 e1 e2 e3 e4 e5 hva hvb hdis htt HAX HBY hb
                go_wp2_with (at_builtin; first | (refine Lib.wpList_append_run _ rfl (.tmp 86) (.tmp 88) _ _ rfl _ _ rfl rfl _ _ r1 ?_) | (refine Lib.wpList_append_run _ rfl (.tmp 90) (.tmp 92) _ _ rfl _ _ rfl rfl _ _ r2 ?_))
                go_roundw
                case rel => exact ⟨k2 + 1, by go_num, by omega, HE.out.1, HE.out.2.1, HE.out.2.2.1, HE.out.2.2.2.1, HE.out.2.2.2.2⟩
                case measure => simp [intOf]; omega
            · have y0 := HZO.out q2
              subst y0
              have q2' : ¬ (k2 : Int) < no := by omega
              cases hT : T k2 with
              | true =>
                rw [hT] at n1c hBq
                have HAX : Hid (aL h (k2 + 1) = aL h k2 ++ [(0 : Int)]) := hA
                have HBY : Hid (bL T h o (k2 + 1) = bL T h o k2 ++ [(0 : Int)]) := by show _ = _; rw [hBq]; simp
                clear hA hBq HCH HCO HZH HZO hT
                obtain ⟨a1, c1, v1, a2, c2, v2, r1, r2, e1, e2, e3, e4, e5⟩ := hang_app hb HNB.out hva hvb hdis htt (aL_len h k2) (bL_len T h o k2) hk2 (0 : Int) (0 : Int)
                obtain ⟨n1, hn1⟩ : ∃ n1, n1 = k2 + 1 := ⟨_, rfl⟩
                rw [← hn1] at r1 r2 e2 e3 e4
                rw [← HAX.out] at e2
                rw [← HBY.out] at e3
                have HE : Hid _ := And.intro e1 (And.intro e2 (And.intro e3 (And.intro e4 e5)))
                clear hn1 e1 e2 e3 e4 e5 hva hvb hdis htt HAX HBY hb
                go_wp2_with (at_builtin; first | (refine Lib.wpList_append_run _ rfl (.tmp 86) (.tmp 88) _ _ rfl _ _ rfl rfl _ _ r1 ?_) | (refine Lib.wpList_append_run _ rfl (.tmp 90) (.tmp 92) _ _ rfl _ _ rfl rfl _ _ r2 ?_))
                go_roundw
                case rel => exact ⟨k2 + 1, by go_num, by omega, HE.out.1, HE.out.2.1, HE.out.2.2.1, HE.out.2.2.2.1, HE.out.2.2.2.2⟩
                case measure => simp [intOf]; omega
              | false =>
                rw [hT] at n1c hBq
                have HAX : Hid (aL h (k2 + 1) = aL h k2 ++ [(0 : Int)]) := hA
                have HBY : Hid (bL T h o (k2 + 1) = bL T h o k2 ++ [(0 : Int)]) := by show _ = _; rw [hBq]; simp
                clear hA hBq HCH HCO HZH HZO hT
                obtain ⟨a1, c1, v1, a2, c2, v2, r1, r2, e1, e2, e3, e4, e5⟩ := hang_app hb HNB.out hva hvb hdis htt (aL_len h k2) (bL_len T h o k2) hk2 (0 : Int) (0 : Int)
                obtain ⟨n1, hn1⟩ : ∃ n1, n1 = k2 + 1 := ⟨_, rfl⟩
                rw [← hn1] at r1 r2 e2 e3 e4
                rw [← HAX.out] at e2
                rw [← HBY.out] at e3
                have HE : Hid _ := And.intro e1 (And.intro e2 (And.intro e3 (And.intro e4 e5)))
                clear hn1 e1 e2 e3 e4 e5 hva hvb hdis htt HAX HBY hb
                go_wp2_with (at_builtin; first | (refine Lib.wpList_append_run _ rfl (.tmp 86) (.tmp 88) _ _ rfl _ _ rfl rfl _ _ r1 ?_) | (refine Lib.wpList_append_run _ rfl (.tmp 90) (.tmp 92) _ _ rfl _ _ rfl rfl _ _ r2 ?_))
                go_roundw
                case rel => exact ⟨k2 + 1, by go_num, by omega, HE.out.1, HE.out.2.1, HE.out.2.2.1, HE.out.2.2.2.1, HE.out.2.2.2.2⟩
                case measure => simp [intOf]; omega
        · obtain rfl : k2 = 12 := by omega
          have HRW : Hid (∀ W, Touch w1 W [] → InsRow W (.slice ao m.length cap) m) := fun W t => SRow.keep HR.out t (by simp)
          have CK := HidC.mk (rcheck_any (N := m.length) rfl (by have := HN.out; omega) (SRow.keep HR.out htt (by simp)) HW.out.1 12)
          unfold ChkPost at CK
          generalize (chkV m 12).1 = ck at *
          generalize (chkV m 12).2 = ce at *
          obtain ⟨sa, sc, hsa⟩ := owns_slice hva
          obtain ⟨sb, sd, hsb⟩ := owns_slice hvb
          rw [aL_len] at hsa
          rw [bL_len] at hsb
          subst hsa
          subst hsb
          have HVA : Hid _ := hva
          have HVB : Hid _ := hvb
          have HDD : Hid _ := hdis
          have HBB : Hid _ := hb
          have HTT : Hid _ := htt
          rw [← HN.out] at CK
          have k12 : ¬ ((12 : Nat) : Int) < 12 := by decide
          clear hva hvb hdis hb htt hlt2
          by_cases hce : ce = 0
          · subst hce
            have hL1 := aL_len h 12
            have hL2 := bL_len T h o 12
            have HRA : Hid (∀ W, Touch wr W [] → HidC Try.prog 18 #[.slice ao k cap, .slice sa 12 sc, .int .i64 100] W (RunQ W (runR m 100 20 zWD (aL h 12) []))) := fun W t => ⟨by
              have q := run_any (w := W) (ap := ao) (cp := cap) (l := m) (ah := sa) (ch := sc) (h := aL h 12) (by rw [hL1]; exact SRow.keep (vrow_of' HVA.out hL1) t (by simp)) (HRW.out W (HTT.out.trans t (by simp))) (by have := HN.out; omega) HW.out.1 (swf_l (by omega) (aL_wf HW.out.2.1 12)) 100
              rw [hL1, ← HN.out] at q; exact q⟩
            have HRB : Hid (∀ W, Touch wr W [] → HidC Try.prog 18 #[.slice ao k cap, .slice sb 12 sd, .int .i64 100] W (RunQ W (runR m 100 20 zWD (bL T h o 12) []))) := fun W t => ⟨by
              have q := run_any (w := W) (ap := ao) (cp := cap) (l := m) (ah := sb) (ch := sd) (h := bL T h o 12) (by rw [hL2]; exact SRow.keep (vrow_of' HVB.out hL2) t (by simp)) (HRW.out W (HTT.out.trans t (by simp))) (by have := HN.out; omega) HW.out.1 (swf_l (by omega) (bL_wf HW.out.2.1 HW.out.2.2 12)) 100
              rw [hL2, ← HN.out] at q; exact q⟩
            obtain ⟨u1, u2, u3⟩ := run_hang hL1 HNM.out 100 20 zWD (aL h 12) (bL T h o 12) [] (hr_start T h o HFAR.out)
            obtain ⟨w1', w2'⟩ := runR_keep HW.out.1 100 20 zWD (aL h 12) [] (swf_l (by omega) (aL_wf HW.out.2.1 12))
            generalize runR m 100 20 zWD (aL h 12) [] = K1 at *
            generalize runR m 100 20 zWD (bL T h o 12) [] = K2 at *
            obtain ⟨⟨kd, er⟩, D, H1, am1⟩ := K1
            obtain ⟨⟨kd2, er2⟩, D2, H2, am2⟩ := K2
            simp only [Prod.mk.injEq] at u1 u2 u3 w1' w2'
            obtain ⟨rfl, rfl⟩ := u1
            subst u2
            have l1 : H1.length = 12 := by rw [u3.la, hL1]
            have l2 : H2.length = 12 := by rw [u3.lb, hL1]
            have HU : Hid (∀ t, t < 12 → (T t = true → H1.getD t 0 = H2.getD t 0) ∧ (T t = false → H1.getD t 0 = (aL h 12).getD t 0 ∧ H2.getD t 0 = (bL T h o 12).getD t 0)) := fun t ht => ⟨fun q => u3.eq t q, fun q => ⟨u3.ua t q, u3.ub t q⟩⟩
            have HSO : Hid (D.st.length ≤ 1000 ∧ D.out.length ≤ 1000) := ⟨w1', w2'⟩
            have HAA : Hid (VRow wr (.slice sa (aL h 12).length sc) (aL h 12)) := by show VRow _ _ _; rw [hL1]; exact vrow_of' HVA.out hL1
            have HBV : Hid (VRow wr (.slice sb (bL T h o 12).length sd) (bL T h o 12)) := by show VRow _ _ _; rw [hL2]; exact vrow_of' HVB.out hL2
            have HL12 : Hid ((aL h 12).length = 12 ∧ (bL T h o 12).length = 12 ∧ H1.length = 12 ∧ H2.length = 12) := ⟨hL1, hL2, l1, l2⟩
            generalize aL h 12 = A at *
            generalize bL T h o 12 = B at *
            clear u3 w1' w2' hL1 hL2 HVA HVB HDD HRW HW HH HO HR HNM HFAR HNH HNO HN hn64
            go_wp2_with fail
            refine CK.out.mono ?_
            rintro e w2 ⟨rfl, t2⟩
            clear CK
            have T2 : Hid _ := t2
            clear t2
            go_wp2_with fail
            refine (HRA.out _ T2.out).out.mono ?_
            rintro e w3 ⟨s1, sc1, o1, oc1, ha1, hc1, aa1, ac1, rfl, r1, r2, r3, r4, t3⟩
            clear HRA
            simp only at r1 r2 r3 r4
            have T3 : Hid (Touch wr w3 []) := T2.out.trans t3 (by simp)
            have R1 : Hid _ := r1
            have R2 : Hid _ := r2
            have R3 : Hid _ := r3
            clear r1 r2 r3 r4 t3 T2
            go_wp2_with fail
            refine (HRB.out _ T3.out).out.mono ?_
            rintro e w4 ⟨s2, sc2, o2, oc2, ha2, hc2, aa2, ac2, rfl, r1, r2, r3, r4, t4⟩
            clear HRB
            simp only at r1 r2 r3 r4 ⊢
            have T4 : Hid (Touch wr w4 []) := T3.out.trans t4 (by simp)
            have S1 : Hid _ := SRow.keep R1.out t4 (by simp)
            have S2 : Hid _ := SRow.keep R2.out t4 (by simp)
            have S3 : Hid _ := SRow.keep R3.out t4 (by simp)
            have Q1 : Hid _ := r1
            have Q2 : Hid _ := r2
            have Q3 : Hid _ := r3
            clear r1 r2 r3 r4 t4 T3 R1 R2 R3
            (try rw [l1])
            (try rw [l2])
            clear l1 l2
            generalize am1.length = na1 at *
            generalize am2.length = na2 at *
            have hza : OutB ((w4.alloc (.cells z0 41)).alloc (.cells z0 41)) w4.heap.size z0 := OutB.touch (⟨heap_alloc_new w4 _⟩ : OutB (w4.alloc (.cells z0 41)) w4.heap.size z0) ((Touch.refl _ []).alloc _) (by simp)
            have hzb : OutB ((w4.alloc (.cells z0 41)).alloc (.cells z0 41)) (w4.heap.size + 1) z0 := ⟨by
              have := heap_alloc_new (w4.alloc (.cells z0 41)) (.cells z0 41)
              rw [World.size_alloc] at this; exact this⟩
            have HTHa : Hid _ := out_there hza
            have HMID : Hid (∀ W3, W3 = ((w4.alloc (.cells z0 41)).alloc (.cells z0 41)).setCells w4.heap.size 0 (outA kd D (.slice s1 D.st.length sc1) (.slice o1 D.out.length oc1) (.slice ha1 12 hc1) (.slice aa1 na1 ac1) er).toList → W3.there (w4.heap.size + 1) 0 11 ∧ ∀ W4, W4 = W3.setCells (w4.heap.size + 1) 0 (outA kd D (.slice s2 D.st.length sc2) (.slice o2 D.out.length oc2) (.slice ha2 12 hc2) (.slice aa2 na2 ac2) er).toList → OutB W4 w4.heap.size (outA kd D (.slice s1 D.st.length sc1) (.slice o1 D.out.length oc1) (.slice ha1 12 hc1) (.slice aa1 na1 ac1) er) ∧ OutB W4 (w4.heap.size + 1) (outA kd D (.slice s2 D.st.length sc2) (.slice o2 D.out.length oc2) (.slice ha2 12 hc2) (.slice aa2 na2 ac2) er) ∧ Touch w4 W4 []) := fun W3 hW3 => by
              obtain ⟨g1, g2⟩ := out_sets hza kd D (.slice s1 D.st.length sc1) (.slice o1 D.out.length oc1) (.slice ha1 12 hc1) (.slice aa1 na1 ac1) er W3 hW3
              have hb3 := hzb.touch g2 (by simp)
              refine ⟨out_there hb3, fun W4 hW4 => ?_⟩
              obtain ⟨k1, k2⟩ := out_sets hb3 kd D (.slice s2 D.st.length sc2) (.slice o2 D.out.length oc2) (.slice ha2 12 hc2) (.slice aa2 na2 ac2) er W4 hW4
              exact ⟨g1.touch k2 (by simp), k1, ((((Touch.refl w4 []).alloc _).alloc _).trans g2 (fun z hz => .inr (by simp at hz; omega))).trans k2 (fun z hz => .inr (by simp at hz; omega))⟩
            clear hza hzb
            go_wp2_with (first
              | (refine wpList_store_mid rfl 41 _ _ rfl w4.heap.size 0 (outA kd D (.slice s1 D.st.length sc1) (.slice o1 D.out.length oc1) (.slice ha1 12 hc1) (.slice aa1 na1 ac1) er) rfl rfl HTHa.out Try.size_out (out_one _ _ _ _ _ _ _ _ _ _ _ _ _ _ _) ?_; refine wpList_nameS fun W3 hW3 => ?_; obtain ⟨e1, e2⟩ := HMID.out W3 hW3; have HTHb : Hid _ := e1; have HM2 : Hid _ := e2; clear hW3 HMID HTHa e1 e2)
              | (refine wpList_store_mid rfl 41 _ _ rfl (w4.heap.size + 1) 0 (outA kd D (.slice s2 D.st.length sc2) (.slice o2 D.out.length oc2) (.slice ha2 12 hc2) (.slice aa2 na2 ac2) er) rfl rfl HTHb.out Try.size_out (out_one _ _ _ _ _ _ _ _ _ _ _ _ _ _ _) ?_; refine wpList_nameS fun W4 hW4 => ?_; have H4 : Hid _ := HM2.out W4 hW4; have a8 := H4.out.1.cell 8; have b8 := H4.out.2.1.cell 8; simp only [outA, List.getElem?_toArray, List.getElem?_cons_zero, List.getElem?_cons_succ] at a8 b8; clear hW4 HM2 HTHb))
            obtain ⟨w5, hw5⟩ : ∃ w5, w5 = W4 := ⟨_, rfl⟩
            rw [← hw5] at H4
            have HW5 : Hid (OutB w5 w4.heap.size (outA kd D (.slice s1 D.st.length sc1) (.slice o1 D.out.length oc1) (.slice ha1 12 hc1) (.slice aa1 na1 ac1) er) ∧ OutB w5 (w4.heap.size + 1) (outA kd D (.slice s2 D.st.length sc2) (.slice o2 D.out.length oc2) (.slice ha2 12 hc2) (.slice aa2 na2 ac2) er) ∧ Touch w4 w5 []) := H4.out
            have HRX : Hid (∀ W, Touch w5 W [] → ∀ t, t < 12 → ∃ ga pa gb pb gx px gy py, sa = some ⟨ga, pa, none⟩ ∧ sb = some ⟨gb, pb, none⟩ ∧ ha1 = some ⟨gx, px, none⟩ ∧ ha2 = some ⟨gy, py, none⟩ ∧ W.cell? ⟨ga, pa + t, none⟩ = some (.int .u64 (A.getD t 0)) ∧ W.cell? ⟨gb, pb + t, none⟩ = some (.int .u64 (B.getD t 0)) ∧ W.cell? ⟨gx, px + t, none⟩ = some (.int .u64 (H1.getD t 0)) ∧ W.cell? ⟨gy, py + t, none⟩ = some (.int .u64 (H2.getD t 0)) ∧ W.cell? ⟨nb, t, none⟩ = some (.bool (T t)) ∧ W.cell? ⟨w4.heap.size, 8, none⟩ = some (.slice ha1 12 hc1) ∧ W.cell? ⟨w4.heap.size + 1, 8, none⟩ = some (.slice ha2 12 hc2)) := fun W tW t ht => by
              obtain ⟨v1, v2, v3, v4⟩ := HL12.out
              have tt : Touch w4 W [] := HW5.out.2.2.trans tW (by simp)
              have tr : Touch wr W [] := T4.out.trans tt (by simp)
              obtain ⟨ga, pa, e1, _, c1⟩ := vrow_one (SRow.keep HAA.out tr (by simp)) t (by omega)
              obtain ⟨gb, pb, e2, _, c2⟩ := vrow_one (SRow.keep HBV.out tr (by simp)) t (by omega)
              obtain ⟨gx, px, e3, _, c3⟩ := vrow_one (SRow.keep S3.out tt (by simp)) t (by omega)
              obtain ⟨gy, py, e4, _, c4⟩ := vrow_one (SRow.keep Q3.out tt (by simp)) t (by omega)
              have hn := nam_cell ((tr.block nb (lt_of_heap HBB.out) (by simp)).trans HBB.out) t ht
              exact ⟨ga, pa, gb, pb, gx, px, gy, py, e1, e2, e3, e4, c1, c2, c3, c4, hn.1, (HW5.out.1.touch tW (by simp)).cell 8, (HW5.out.2.1.touch tW (by simp)).cell 8⟩
            rw [← hw5] at a8 b8 ⊢
            clear hw5 H4 a8 b8 k12
            go_loopw [19] (fun i wr3 => ∃ (t : Nat), i = .int .i64 t ∧ t ≤ 12 ∧ Touch w5 wr3 []) (fun i _ => 12 - (intOf i).toNat)
            case atStart => exact ⟨0, rfl, by omega, Touch.refl _ _⟩
            case round =>
              obtain ⟨t, rfl, ht, htt⟩ := hrel
              by_cases hlt3 : t < 12
              · have hlt3' : (t : Int) < 12 := by omega
                obtain ⟨ga, pa, gb, pb, gx, px, gy, py, rfl, rfl, rfl, rfl, c1, c2, c3, c4, c5, c6, c7⟩ := HRX.out _ htt t hlt3
                obtain ⟨z1, z2⟩ := HU.out t hlt3
                have HT5 : Hid _ := htt
                cases hT : T t with
                | true =>
                  rw [hT] at c5
                  rw [z1 hT] at c3
                  generalize A.getD t 0 = xa at *
                  generalize B.getD t 0 = xb at *
                  generalize H2.getD t 0 = xh at *
                  clear z1 z2 hT htt
                  go_wp2_with fail
                  go_quiet (fail)
                  go_wp2
                  go_roundw
                  case rel => exact ⟨t + 1, by go_num, by omega, HT5.out.drewN _⟩
                  case measure => simp [intOf]; omega
                | false =>
                  rw [hT] at c5
                  obtain ⟨y1, y2⟩ := z2 hT
                  rw [y1] at c3
                  rw [y2] at c4
                  generalize A.getD t 0 = xa at *
                  generalize B.getD t 0 = xb at *
                  clear z1 z2 hT htt y1 y2
                  go_wp2_with fail
                  go_quiet (fail)
                  go_wp2
                  go_roundw
                  case rel => exact ⟨t + 1, by go_num, by omega, HT5.out.drewN _⟩
                  case measure => simp [intOf]; omega
              · obtain rfl : t = 12 := by omega
                have k12 : ¬ ((12 : Nat) : Int) < 12 := by decide
                have HT5 : Hid _ := htt
                clear htt hlt3
                go_wp2_with fail
                refine (splive_any _).mono ?_
                rintro e w6 ⟨rfl, t6⟩
                have t56 : Touch w5 w6 [] := HT5.out.trans t6 (by simp)
                have t46 : Touch w4 w6 [] := HW5.out.2.2.trans t56 (by simp)
                have oa := HW5.out.1.touch t56 (by simp)
                have ob := HW5.out.2.1.touch t56 (by simp)
                have SSM := HidC.mk (spsames_any D s1 o1 s2 o2 sc1 oc1 sc2 oc2 HSO.out.1 HSO.out.2 w6 (SRow.keep S1.out t46 (by simp)) (SRow.keep S2.out t46 (by simp)) (SRow.keep Q1.out t46 (by simp)) (SRow.keep Q2.out t46 (by simp)))
                have T6 : Hid (Touch w1 w6 []) := (HTT.out.trans T4.out (by simp)).trans t46 (by simp)
                have a0 := oa.cell 0
                have a1 := oa.cell 1
                have a2 := oa.cell 2
                have a3 := oa.cell 3
                have a4 := oa.cell 4
                have a5 := oa.cell 5
                have a6 := oa.cell 6
                have a7 := oa.cell 7
                have a10 := oa.cell 10
                have b0 := ob.cell 0
                have b1 := ob.cell 1
                have b2 := ob.cell 2
                have b3 := ob.cell 3
                have b4 := ob.cell 4
                have b5 := ob.cell 5
                have b6 := ob.cell 6
                have b7 := ob.cell 7
                have b10 := ob.cell 10
                simp only [outA, List.getElem?_toArray, List.getElem?_cons_zero, List.getElem?_cons_succ] at a0 a1 a2 a3 a4 a5 a6 a7 a10 b0 b1 b2 b3 b4 b5 b6 b7 b10
                clear oa ob t56 t46 t6 HT5 HW5 HRX
                go_wp2_with fail
                refine SSM.out.mono ?_
                rintro e w7 ⟨rfl, t7⟩
                have T7 : Hid _ := T6.out.trans t7 (by simp)
                clear SSM t7 T6 a0 a1 a2 a3 a4 a5 a6 a7 a10 b0 b1 b2 b3 b4 b5 b6 b7 b10
                go_wp2
                go_ret
                exact ⟨rfl, T7.out⟩
          · have h0' : (ce == 0) = false := by simpa using hce
            have h0'' : (ce != 0) = true := by simp [bne, h0']
            clear hce HVA HVB HDD HBB HRW
            go_wp2_with fail
            refine CK.out.mono ?_
            rintro e w2 ⟨rfl, t2⟩
            clear CK
            have T2 : Hid _ := HTT.out.trans t2 (by simp)
            clear t2 HTT
            go_wp2_with fail
            refine (splive_any _).mono ?_
            rintro e w5 ⟨rfl, t5⟩
            have T5 : Hid _ := T2.out.trans t5 (by simp)
            clear t5 T2
            go_wp2
            go_ret
            exact ⟨rfl, T5.out⟩

end Go.Proofs.Ytlndbligbpfdpaa
/-
  SpecHangs' ARGUMENTS.
-/
namespace Go.Proofs.Ytlndbligbpfdpaa
set_option linter.unusedVariables false
set_option linter.unusedSimpArgs false
set_option maxRecDepth 100000
open Go.ChangeShapes Go.WideShapes Go.ChangeAt Go.RowKit Go.Joins Go.Deep

theorem spechangs_open {W : World} {ap : Option Addr} {cp : Nat} {l : List InsD} (hl : InsRow W (.slice ap l.length cp) l) (hlw : ∀ i ∈ l, i.Wf) (hn : l.length ≤ cp ∧ cp ≤ maxLen) {ah : Option Addr} {ch : Nat} {h : List Int} (hh : VRow W (.slice ah h.length ch) h) (hhw : ∀ x ∈ h, Wf64 x) {bh : Option Addr} {dh : Nat} {o : List Int} (ho : VRow W (.slice bh o.length dh) o) (how : ∀ x ∈ o, Wf64 x) :
    Calls Try.prog 5 #[.slice ap l.length cp, .slice ah h.length ch, .slice bh o.length dh] W fun e w' => e = .returned (.bool true) ∧ Touch W w' [] :=
  spechangs_any hl hlw ⟨hn.1, by have := hn.2; unfold maxLen at this; omega⟩ hh hhw ho how

end Go.Proofs.Ytlndbligbpfdpaa

/-
  live OF PACKAGE rowlocklaw11, WALKED.
-/
import Derived.Test.YtinhdpiecifmhaaNrNew
namespace Go.Proofs.Ytinhdpiecifmhaa.Nr
set_option linter.unusedVariables false
set_option linter.unusedSimpArgs false
open Go.RowKit Go.Maps

def L1 : Eng := (beginE (newEng firstL) 1).2
def L2 : Eng := (askE L1 1 ⟨1, 1, 0⟩).2
def L3 : Eng := (stepE L2 1).2
def L4 : Eng := (stepE L3 1).2
def L5 : Eng := (askE L4 1 ⟨6, 0, 0⟩).2
def L6 : Eng := (stepE L5 1).2
theorem l1_ans : (beginE (newEng firstL) 1).1 = (0, 0) := rfl
theorem l2_ans : (askE L1 1 ⟨1, 1, 0⟩).1 = 0 := rfl
theorem l4_ans : (stepE L3 1).1 = ⟨true, 4607182418800017408, false, 0, false, 0, 0⟩ := rfl
theorem l5_ans : (askE L4 1 ⟨6, 0, 0⟩).1 = 0 := rfl
theorem l6_ans : (stepE L5 1).1 = ⟨true, 0, false, 0, true, 0, 0⟩ := rfl
theorem l6_ev : L6.ev.length = 4 := rfl
theorem w1_ok : EWf 2 L1 := begin_keep newEng_wf (by decide) 1
theorem w2_ok : EWf 4 L2 := ask_keep w1_ok (by decide) 1 ⟨1, 1, 0⟩ (by decide) (by decide) ⟨by decide, by decide⟩
theorem w3_ok : EWf 6 L3 := step_keep w2_ok (by decide) 1
theorem w4_ok : EWf 8 L4 := step_keep w3_ok (by decide) 1
theorem w5_ok : EWf 10 L5 := ask_keep w4_ok (by decide) 1 ⟨6, 0, 0⟩ (by decide) (by decide) ⟨by decide, by decide⟩
theorem w6_ok : EWf 12 L6 := step_keep w5_ok (by decide) 1

/-- A law's own engine: all of it is new, and blocks R are none of its own. -/
structure Ow (w W : World) (eb : Nat) (E : Eng) (R : List (Nat × Obj)) : Prop where
  ex : ∃ X, X.e = eb ∧ EObj W X E ∧ Touch w W [] ∧ (∀ y, X.Has y → w.heap.size ≤ y) ∧ ∀ p ∈ R, W.heap[p.1]? = some p.2 ∧ ¬ X.Has p.1

theorem Ow.next {w W W' : World} {X X' : ELoc} {E' : Eng} {R : List (Nat × Obj)} (t : Touch w W []) (f : ∀ y, X.Has y → w.heap.size ≤ y) (hR : ∀ p ∈ R, W.heap[p.1]? = some p.2 ∧ ¬ X.Has p.1) (h' : EObj W' X' E') (n : Next W X W' X') : Ow w W' X.e E' R :=
  ⟨⟨X', n.e, h', n.touch t f, fun y hy => by rcases n.has y hy with q | q; exact f y q; exact Nat.le_trans t.size q,
    fun p hp => by
      have hl := lt_of_heap (hR p hp).1
      refine ⟨(n.block p.1 hl (hR p hp).2).trans (hR p hp).1, fun hx => ?_⟩
      rcases n.has _ hx with q | q
      · exact (hR p hp).2 q
      · omega⟩⟩

/-- Something new beside it. -/
theorem Ow.more {w W W' : World} {eb : Nat} {E : Eng} {R : List (Nat × Obj)} (h : Ow w W eb E R) (t : Touch W W' []) {b : Nat} {o : Obj} (hb : W.heap.size ≤ b) (ho : W'.heap[b]? = some o) : Ow w W' eb E ((b, o) :: R) := by
  obtain ⟨X, he, hE, t0, f, hR⟩ := h.ex
  refine ⟨⟨X, he, hE.fresh t, t0.trans t (by simp), f, fun p hp => ?_⟩⟩
  rcases List.mem_cons.1 hp with rfl | hp
  · exact ⟨ho, fun ⟨c, hx⟩ => by have := hE.lt c _ hx; simp only at this; omega⟩
  · exact ⟨(t.block p.1 (lt_of_heap (hR p hp).1) (by simp)).trans (hR p hp).1, (hR p hp).2⟩
theorem Ow.fresh {w W W' : World} {eb : Nat} {E : Eng} {R : List (Nat × Obj)} (h : Ow w W eb E R) (t : Touch W W' []) : Ow w W' eb E R := by
  obtain ⟨X, he, hE, t0, f, hR⟩ := h.ex
  exact ⟨⟨X, he, hE.fresh t, t0.trans t (by simp), f, fun p hp => ⟨(t.block p.1 (lt_of_heap (hR p hp).1) (by simp)).trans (hR p hp).1, (hR p hp).2⟩⟩⟩
theorem Ow.touch {w W : World} {eb : Nat} {E : Eng} {R : List (Nat × Obj)} (h : Ow w W eb E R) : Touch w W [] := by obtain ⟨X, _, _, t, _⟩ := h.ex; exact t
theorem Ow.kept {w W : World} {eb : Nat} {E : Eng} {R : List (Nat × Obj)} (h : Ow w W eb E R) {b : Nat} {o : Obj} (hp : (b, o) ∈ R) : W.heap[b]? = some o := by obtain ⟨X, _, _, _, _, hR⟩ := h.ex; exact (hR _ hp).1

theorem ow_new {w W : World} {B : Nat} {v : Value} {l : List Int} {R : List (Nat × Obj)} (t : Touch w W []) (hr : W.ownsRow B 26 1 v l.length (l.map (Value.int .u64))) (h1 : 1 ≤ l.length) (h12 : l.length ≤ 12) (hR : ∀ x ∈ l, rightB x = true) (hK : ∀ p ∈ R, W.heap[p.1]? = some p.2) :
    Calls Try.prog 4 #[v] W fun x w' => ∃ eb, x = .returned (ptr eb) ∧ Ow w w' eb (newEng l) R ∧ Touch W w' [] := by
  refine (new_ok hr h1 h12 hR).mono ?_
  rintro x w' ⟨X, rfl, h, t', f⟩
  exact ⟨X.e, rfl, ⟨⟨X, rfl, h, t.trans t' (by simp), fun y hy => Nat.le_trans t.size (f y hy), fun p hp => ⟨(t'.block p.1 (lt_of_heap (hK p hp)) (by simp)).trans (hK p hp), fun hx => by have := f _ hx; have := lt_of_heap (hK p hp); omega⟩⟩⟩, t'⟩
theorem ow_begin {w W : World} {eb N : Nat} {E E' : Eng} {R : List (Nat × Obj)} (h : Ow w W eb E R) (hE : EWf N E) (th : Int) {r : Int × Int} (hr : (beginE E th).1 = r) (he : (beginE E th).2 = E') :
    Calls Try.prog 8 #[ptr eb, .int .i64 th] W fun x w' => x = .returned (.tuple #[.int .i64 r.1, .int .i64 r.2]) ∧ Ow w w' eb E' R := by
  subst hr he
  obtain ⟨X, rfl, ho, t, f, hR⟩ := h.ex
  refine (begin_any X E th W ho hE).mono ?_
  rintro x w' ⟨X', rfl, h', n⟩
  exact ⟨rfl, Ow.next t f hR h' n⟩
theorem ow_ask {w W : World} {eb N : Nat} {E E' : Eng} {R : List (Nat × Obj)} (h : Ow w W eb E R) (hE : EWf N E) (th : Int) (a : AskD) {r : Int} (hr : (askE E th a).1 = r) (he : (askE E th a).2 = E') :
    Calls Try.prog 10 #[ptr eb, .int .i64 th, a.val] W fun x w' => x = .returned (.int .i64 r) ∧ Ow w w' eb E' R := by
  subst hr he
  obtain ⟨X, rfl, ho, t, f, hR⟩ := h.ex
  refine (ask_any X E th a W ho hE).mono ?_
  rintro x w' ⟨X', rfl, h', n⟩
  exact ⟨rfl, Ow.next t f hR h' n⟩
theorem ow_step {w W : World} {eb N : Nat} {E E' : Eng} {R : List (Nat × Obj)} (h : Ow w W eb E R) (hE : EWf N E) (th : Int) {r : RpD} (hr : (stepE E th).1 = r) (he : (stepE E th).2 = E') :
    Calls Try.prog 6 #[ptr eb, .int .i64 th] W fun x w' => x = .returned r.val' ∧ Ow w w' eb E' R := by
  subst hr he
  obtain ⟨X, rfl, ho, t, f, hR⟩ := h.ex
  refine (step_any X E th W ho hE).mono ?_
  rintro x w' ⟨X', rfl, h', n⟩
  exact ⟨rfl, Ow.next t f hR h' n⟩
end Go.Proofs.Ytinhdpiecifmhaa.Nr

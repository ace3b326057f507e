/-
  TopAdded: THE ENGINE AND TWO ARRAYS BESIDE IT.
-/
import Derived.Test.YtinhdpiecifmhaaNrAddPl
import Derived.Test.YtinhdpiecifmhaaNrAsked
import Derived.Test.YtinhdpiecifmhaaAllA
namespace Go.Proofs.Ytinhdpiecifmhaa.Nr
set_option linter.unusedVariables false
set_option linter.unusedSimpArgs false
open Go.RowKit Go.Maps

abbrev PRow := SRow 1 (fun x : Int => [Value.int .u8 x])
theorem PRow.one {w : World} {ao : Option Addr} {cap : Nat} {l : List Int} (h : PRow w (.slice ao l.length cap) l) (k : Nat) (hk : k < l.length) :
    ∃ g off, ao = some ⟨g, off, none⟩ ∧ g < w.heap.size ∧ w.cell? ⟨g, off + k, none⟩ = some (.int .u8 l[k]) := by
  obtain ⟨g, off, e, hlt, hc⟩ := h.at k hk
  exact ⟨g, off, e, hlt, by simpa using hc 0 (by omega)⟩

abbrev atC (f : Nat → Nat) : Obj := .cells #[.int .i64 (f 0), .int .i64 (f 1), .int .i64 (f 2)] 28 (0, 0)
abbrev gotC (f : Nat → Int) : Obj := .cells #[.int .u64 (f 0), .int .u64 (f 1), .int .u64 (f 2)] 29 (0, 0)
theorem atC_cell {w : World} {a : Nat} {f : Nat → Nat} (h : w.heap[a]? = some (atC f)) (t : Nat) (ht : t < 3) : w.cell? ⟨a, t, none⟩ = some (.int .i64 (f t)) ∧ w.frozen? ⟨a, t, none⟩ = false := by
  match t, ht with
  | 0, _ => exact ⟨by simp [World.cell?, h], by simp [World.frozen?, h]⟩
  | 1, _ => exact ⟨by simp [World.cell?, h], by simp [World.frozen?, h]⟩
  | 2, _ => exact ⟨by simp [World.cell?, h], by simp [World.frozen?, h]⟩
theorem gotC_cell {w : World} {a : Nat} {f : Nat → Int} (h : w.heap[a]? = some (gotC f)) (t : Nat) (ht : t < 3) : w.cell? ⟨a, t, none⟩ = some (.int .u64 (f t)) ∧ w.frozen? ⟨a, t, none⟩ = false := by
  match t, ht with
  | 0, _ => exact ⟨by simp [World.cell?, h], by simp [World.frozen?, h]⟩
  | 1, _ => exact ⟨by simp [World.cell?, h], by simp [World.frozen?, h]⟩
  | 2, _ => exact ⟨by simp [World.cell?, h], by simp [World.frozen?, h]⟩
theorem atC_set {w : World} {a : Nat} {f : Nat → Nat} (h : w.heap[a]? = some (atC f)) (t : Nat) (ht : t < 3) (x : Nat) : (w.setCell ⟨a, t, none⟩ (.int .i64 x)).heap[a]? = some (atC (upd f t x)) := by
  rw [set_cell h]
  match t, ht with
  | 0, _ => rfl
  | 1, _ => rfl
  | 2, _ => rfl
theorem gotC_set {w : World} {a : Nat} {f : Nat → Int} (h : w.heap[a]? = some (gotC f)) (t : Nat) (ht : t < 3) (x : Int) : (w.setCell ⟨a, t, none⟩ (.int .u64 x)).heap[a]? = some (gotC (upd f t x)) := by
  rw [set_cell h]
  match t, ht with
  | 0, _ => rfl
  | 1, _ => rfl
  | 2, _ => rfl

theorem ow_set1 {w W W' : World} {eb : Nat} {E : Eng} {a b : Nat} {o o' p : Obj} (h : Ow w W eb E [(a, o), (b, p)]) (t : Touch W W' [a]) (ho : W'.heap[a]? = some o') (ha : w.heap.size ≤ a) (hab : b ≠ a) : Ow w W' eb E [(a, o'), (b, p)] := by
  obtain ⟨X, he, hE, t0, f, hR⟩ := h.ex
  obtain ⟨_, hn⟩ := hR (a, o) (by simp)
  obtain ⟨hb, hnb⟩ := hR (b, p) (by simp)
  refine ⟨⟨X, he, hE.keep t (fun c x hx hs => hn ⟨c, by simp at hs; subst hs; exact hx⟩), t0.trans t (by intro x hx; simp at hx; omega), f, fun q hq => ?_⟩⟩
  rcases List.mem_cons.1 hq with rfl | hq
  · exact ⟨ho, hn⟩
  · rw [List.mem_singleton] at hq
    subst hq
    exact ⟨(t.block b (lt_of_heap hb) (by simpa using hab)).trans hb, hnb⟩
theorem ow_set2 {w W W' : World} {eb : Nat} {E : Eng} {a b : Nat} {o p p' : Obj} (h : Ow w W eb E [(a, o), (b, p)]) (t : Touch W W' [b]) (ho : W'.heap[b]? = some p') (ha : w.heap.size ≤ b) (hab : b ≠ a) : Ow w W' eb E [(a, o), (b, p')] := by
  obtain ⟨X, he, hE, t0, f, hR⟩ := h.ex
  obtain ⟨hb, hnb⟩ := hR (a, o) (by simp)
  obtain ⟨_, hn⟩ := hR (b, p) (by simp)
  refine ⟨⟨X, he, hE.keep t (fun c x hx hs => hn ⟨c, by simp at hs; subst hs; exact hx⟩), t0.trans t (by intro x hx; simp at hx; omega), f, fun q hq => ?_⟩⟩
  rcases List.mem_cons.1 hq with rfl | hq
  · exact ⟨(t.block a (lt_of_heap hb) (by simpa using Ne.symm hab)).trans hb, hnb⟩
  · rw [List.mem_singleton] at hq
    subst hq
    exact ⟨ho, hn⟩

theorem ow_asked {w W : World} {eb : Nat} {E : Eng} {R : List (Nat × Obj)} (h : Ow w W eb E R) (k : Nat) (hk : k < 4) {r : AskD × Bool} (hr : askdE E k = r) :
    Calls Try.prog 5 #[ptr eb, .int .i64 k] W fun x w' => x = .returned (.tuple #[r.1.val, .bool r.2]) ∧ Ow w w' eb E R := by
  subst hr
  have h0 := h
  obtain ⟨X, rfl, ho, t, f, hR⟩ := h.ex
  exact (asked_any ho k hk).mono fun x w' ⟨e, t⟩ => ⟨e, h0.fresh t⟩
theorem ow_att {w W : World} {eb : Nat} {E : Eng} {R : List (Nat × Obj)} (h : Ow w W eb E R) (th : Int) {r : Int × Bool} (hr : attE E th = r) :
    Calls Try.prog 7 #[ptr eb, .int .i64 th] W fun x w' => x = .returned (.tuple #[.int .i64 r.1, .bool r.2]) ∧ W = w' := by
  subst hr
  obtain ⟨X, rfl, ho, t, f, hR⟩ := h.ex
  exact attempt_any ho th
theorem ow_clk {w W : World} {eb : Nat} {E : Eng} {R : List (Nat × Obj)} (h : Ow w W eb E R) {c : Int} (hc : E.lk.c = c) :
    Calls Try.prog 13 #[ptr eb] W fun x w' => x = .returned (.int .u64 c) ∧ W = w' := by
  subst hc
  obtain ⟨X, rfl, ho, t, f, hR⟩ := h.ex
  exact clock_any ho
theorem ow_hp {w W : World} {eb N : Nat} {E : Eng} {R : List (Nat × Obj)} (h : Ow w W eb E R) (hE : EWf N E) {x y : Int} (hh : E.hp = [x, y]) :
    Calls Try.prog 12 #[ptr eb] W fun e w' => ∃ g cap, e = .returned (.slice (some ⟨g, 0, none⟩) 2 cap) ∧ g < w'.heap.size ∧ w'.cell? ⟨g, 0, none⟩ = some (.int .u64 x) ∧ w'.cell? ⟨g, 1, none⟩ = some (.int .u64 y) ∧ Ow w w' eb E R := by
  have h0 := h
  obtain ⟨X, rfl, ho, t, f, hR⟩ := h.ex
  refine (heap_any ho hE).mono ?_
  rintro e w' ⟨v, rfl, o, t'⟩
  rw [hh] at o
  rcases o.2 with ⟨_, e⟩ | ⟨g, cap, cur, rfl, hB, hg, h1, h2, h3, h4⟩
  · simp at e
  · have c0 : cur[0]? = some (.int .u64 x) := by
      have e : (cur.toList.take (2 * 1))[0]? = ([x, y].map (Value.int .u64))[0]? := by rw [← h4]; rfl
      rw [List.getElem?_take_of_lt (by omega)] at e
      simpa using e
    have c1 : cur[1]? = some (.int .u64 y) := by
      have e : (cur.toList.take (2 * 1))[1]? = ([x, y].map (Value.int .u64))[1]? := by rw [← h4]; rfl
      rw [List.getElem?_take_of_lt (by omega)] at e
      simpa using e
    exact ⟨g, cap, rfl, lt_of_heap hg, by simp [World.cell?, hg, c0], by simp [World.cell?, hg, c1], h0.fresh t'⟩

theorem inv_new : Inv (newEng [0, nanI]) (fun _ => 0) (fun _ => 0) 0 := by
  refine ⟨⟨0, rfl, fun _ => by decide +kernel⟩, by decide, by decide, fun _ _ => rfl, fun _ _ _ _ h => by simp [newEng] at h, fun _ _ h => by simp [newEng] at h, fun _ _ h => by simp [newEng] at h⟩
theorem wf_new : EWf 0 (newEng [0, nanI]) := ⟨by decide, by decide, by decide, by intro v hv; simp only [newEng, List.mem_cons, List.not_mem_nil, or_false] at hv; rcases hv with rfl | rfl <;> exact ⟨by decide, by decide⟩, by simp [newEng], by simp [newEng], by simp [newEng], by simp [newEng], fun k A h => by simp [newEng] at h⟩
theorem new_right : ∀ x ∈ [0, nanI], rightB x = true := by decide

theorem ow_swap {w W : World} {eb : Nat} {E : Eng} {p q : Nat × Obj} (h : Ow w W eb E [p, q]) : Ow w W eb E [q, p] := by
  obtain ⟨X, he, hE, t0, f, hR⟩ := h.ex
  exact ⟨⟨X, he, hE, t0, f, fun r hr => hR r (by simp only [List.mem_cons, List.not_mem_nil, or_false] at hr ⊢; exact hr.symm)⟩⟩

/-- What stands at a round's head. -/
structure RI (w wr : World) (eb ab gb m : Nat) (E : Eng) (at' : Nat → Nat) (got : Nat → Int) (done : Nat) : Prop where
  o : Ow w wr eb E [(ab, atC at'), (gb, gotC got)]
  i : Inv E at' got done
  e : EWf m E
theorem RI.mk' {w wr : World} {eb ab gb m : Nat} {E : Eng} {at' : Nat → Nat} {got : Nat → Int} {done : Nat} (o : Ow w wr eb E [(ab, atC at'), (gb, gotC got)]) (i : Inv E at' got done) (e : EWf m E) : RI w wr eb ab gb m E at' got done := ⟨o, i, e⟩
theorem nextA_k (n : Nat) (g : Int) : 0 ≤ (nextA n g).k ∧ (nextA n g).k ≤ 255 := by
  unfold nextA
  split
  · exact ⟨by decide, by decide⟩
  · split
    · exact ⟨by simp, by simp⟩
    · exact ⟨by decide, by decide⟩
theorem nextA_t (n : Nat) (g : Int) : -9223372036854775808 ≤ (nextA n g).t ∧ (nextA n g).t ≤ 9223372036854775807 := by
  unfold nextA
  split
  · exact ⟨by decide, by decide⟩
  · split
    · exact ⟨by simp, by simp⟩
    · exact ⟨by decide, by decide⟩
theorem Inv.next_wf {E : Eng} {at' : Nat → Nat} {got : Nat → Int} {done : Nat} (H : Inv E at' got done) (k : Nat) (A : Att) (hA : E.th k = some A) (h0 : A.ask.k = 0) (hb : E.lk.c ≤ 302) : Wf64 (nextA (at' k) (got k)).v := by
  have hAP := H.ap k A hA
  generalize hs : pgS E A.num = s at hAP
  generalize ha1 : at' k = n at hAP ⊢
  refine hAP (fun n => Wf64 (nextA n (got k)).v) ?_ ?_ ?_ ?_ ?_ ?_ ?_ ?_ ?_ ?_ ?_ ?_ ?_ ?_ ?_ ?_ ?_
  · intro b ha hL hF
    exact (⟨by decide, by decide⟩ : Wf64 0)
  · intro b ha _ _ _
    simp [ha] at h0
  · intro b ha _ _ _ _
    simp [ha] at h0
  · intro b ha _ _ _ _
    simp [ha] at h0
  · intro b ha _ _ _ _ _ _
    simp [ha] at h0
  · intro b ha _ _ _ _ _
    simp [ha] at h0
  · intro b ha hr hF
    show Wf64 (addI (got k))
    rw [hr.g, addI_VI b.n (by have := b.le; omega) b.e]
    exact VI_wf (by have := b.n; omega) (by have := b.le; omega)
  · intro b ha _ _
    simp [ha] at h0
  · intro b ha hr hF
    exact (⟨by decide, by decide⟩ : Wf64 0)
  · intro b ha _ _ _
    simp [ha] at h0
  · intro b ha _ _ _
    simp [ha] at h0
  · intro b ha _ _ _ _ _ _
    simp [ha] at h0
  · intro b ha _ _ _ _ _ _
    simp [ha] at h0
  · intro b ha _ _ _ _
    simp [ha] at h0
  · intro b ha _ _ _ _ _ _
    simp [ha] at h0
  · intro b ha _ _ _ _ _ _ _
    simp [ha] at h0
  · intro b ha _ _ _ _ _ _
    simp [ha] at h0

end Go.Proofs.Ytinhdpiecifmhaa.Nr

/-
  package history: StateOf, Writes BY THEIR CONTRACTS.
-/
import Derived.Test.YtmiaibpdeofokaaDoorHistStates
namespace Go.Proofs.YtmiaibpdeofokaaDoor
set_option linter.unusedVariables false
set_option linter.unusedSimpArgs false
open Go.RowKit Go.Maps
attribute [local go_sem] Oper.semAt_some

set_option maxRecDepth 100000 in
theorem stateOf_any {w : World} {ao : Option Addr} {cap : Nat} {l : List EvD} (hr : EvRow w (.slice ao l.length cap) l) (hl : l.length ≤ 1000) (hwf : ∀ e ∈ l, e.Wf) (a : Int) (ha : W64 a) :
    Calls Tryd.prog 13 #[.slice ao l.length cap, .int .i64 a] w fun x w' => x = .returned (.int .u8 (stateS l a)) ∧ Touch w w' [] := by
  have hs := states_any hr hl hwf
  clear hr hl hwf
  generalize l.length = N at *
  go_enter Tryd.func13, Tryd.ntmps13
  go_wp2_with fail
  refine hs.mono ?_
  rintro x w1 ⟨mb, n, G, rfl, _, hG, hy, t1⟩
  have hlk := hG.look Tryd.underlying55 (Tryd.zeroValue34 _) ha
  rw [hy a] at hlk
  clear hs hG hy
  go_wp2
  go_ret
  exact ⟨rfl, t1⟩

/-- A log behind events. -/
def noteAll (Fs : List Fr) (l : List EvD) : List Fr := l.foldl (fun Fs e => (noteS Fs e).2) Fs
theorem noteAll_snoc {Fs : List Fr} {l : List EvD} {k : Nat} (hk : k < l.length) : noteAll Fs (l.take (k + 1)) = (noteS (noteAll Fs (l.take k)) l[k]).2 := by
  unfold noteAll
  rw [List.take_succ_eq_append_getElem hk, List.foldl_append]
  rfl

/-- A row of events of its own, read. -/
theorem ev_form {w : World} {B : Nat} {v : Value} {l : List EvD} (h : evOwn w B v l) : ∃ ao cap, v = .slice ao l.length cap ∧ ∀ k (hk : k < l.length), ∃ g, ao = some ⟨g, 0, none⟩ ∧ B ≤ g ∧ g < w.heap.size ∧ w.cell? ⟨g, k * 4, none⟩ = some (.int .u8 l[k].k) ∧ w.cell? ⟨g, k * 4 + 1, none⟩ = some (.int .i64 l[k].a) ∧ w.cell? ⟨g, k * 4 + 2, none⟩ = some (.int .i64 l[k].t) ∧ w.cell? ⟨g, k * 4 + 3, none⟩ = some (.int .u64 l[k].v) := by
  have hfl : ∀ (l : List EvD) (k : Nat) (hk : k < l.length) (j : Nat), j < 4 → (l.flatMap EvD.cells)[k * 4 + j]? = (EvD.cells l[k])[j]? := by
    intro l
    induction l with
    | nil => intro k hk; simp at hk
    | cons e l ih =>
      intro k hk j hj
      rw [List.flatMap_cons]
      cases k with
      | zero => rw [List.getElem?_append_left (by simp [EvD.cells]; omega)]; simp
      | succ k =>
        rw [List.getElem?_append_right (by simp [EvD.cells]; omega)]
        have := ih k (by simpa using hk) j hj
        rw [show (k + 1) * 4 + j - (EvD.cells e).length = k * 4 + j by simp [EvD.cells]; omega, this]
        simp
  rcases h.2 with ⟨e, h0⟩ | ⟨g, cap, cur, e, hb, hg, _⟩
  · exact ⟨none, 0, by rw [e, h0], fun k hk => by omega⟩
  · subst e
    refine ⟨_, _, rfl, fun k hk => ⟨g, rfl, hb, lt_of_heap hg, ?_⟩⟩
    have hc : ∀ j, j < 4 → ∀ u, (EvD.cells l[k])[j]? = some u → w.cell? ⟨g, k * 4 + j, none⟩ = some u := fun j hj u hu => by
      have := h.cells (g := g) rfl (k * 4 + j) u (by rw [hfl l k hk j hj]; exact hu)
      rw [Addr.add_lit] at this
      simpa using this
    exact ⟨by simpa using hc 0 (by omega) _ rfl, hc 1 (by omega) _ rfl, hc 2 (by omega) _ rfl, hc 3 (by omega) _ rfl⟩

theorem cutS_wf {l : List EvD} (h : ∀ e ∈ l, e.Wf) (a : Int) : ∀ e ∈ cutS a l, e.Wf := fun e he => h e (List.mem_filter.1 he).1

end Go.Proofs.YtmiaibpdeofokaaDoor

/-
  package history: readings, Reads, Own BY THEIR CONTRACTS.
-/
import Derived.Test.YtmiaibpdeofokaaDoorAllB
import Derived.Test.YtmiaibpdeofokaaDoorRangeGen2
namespace Go.Proofs.YtmiaibpdeofokaaDoor
set_option linter.unusedVariables false
set_option linter.unusedSimpArgs false
open Go.RowKit Go.Maps Go.Shelf
attribute [local go_sem] Oper.semAt_some

set_option maxRecDepth 100000 in
theorem new_at (w : World) : Calls Tryd.prog 43 #[] w fun e w' => ∃ ch, e = .returned (ptr (w.heap.size + 2)) ∧ PLog w.heap.size w' (w.heap.size + 2) ch [f0] ∧ Touch w w' [] := by
  have hmm := @run_makeMap Tryd.prog
  go_enter Tryd.func43, Tryd.ntmps43
  go_wp2
  go_ret
  have hm : FrAt (((w.alloc (.map #[] 0)).alloc (.cells #[.map (some w.heap.size), .pointer none] 110)).alloc (.cells #[ptr (w.heap.size + 1)] 112)) w.heap.size f0 :=
    FrAt.mk' (n := 0) (((World.ownsMap_made w _ _ _).alloc _).alloc _) FrOk.f0
  have hn := heap_alloc_new (w.alloc (.map #[] 0)) (.cells #[.map (some w.heap.size), .pointer none] 110)
  have hb := heap_alloc_new ((w.alloc (.map #[] 0)).alloc (.cells #[.map (some w.heap.size), .pointer none] 110)) (.cells #[ptr (w.heap.size + 1)] 112)
  rw [World.size_alloc] at hn
  rw [World.size_alloc, World.size_alloc] at hb
  refine ⟨[(w.heap.size + 1, w.heap.size)], by simp, ⟨by omega, by simp, hb, ?_, rfl, ?_, by simp, by simp, by simp, by simp⟩, (((Touch.refl w []).alloc _).alloc _).alloc _⟩
  · intro k hk
    obtain rfl : k = 0 := by simpa using hk
    exact (heap_alloc_old _ _ (lt_of_heap hn)).trans hn
  · intro k hk hk'
    obtain rfl : k = 0 := by simpa using hk
    exact hm

/-- A log's blocks are none of another type's. -/
theorem PLog.untyped {B : Nat} {w : World} {b : Nat} {ch : List (Nat × Nat)} {Fs : List Fr} (h : PLog B w b ch Fs) {T : TypeId} (h1 : T ≠ 112) (h2 : T ≠ 110) :
    ∀ x ∈ pfoot b ch, ∀ (cs : Array Value) (fr : Nat × Nat), w.heap[x]? ≠ some (Obj.cells cs T fr) := by
  intro x hx cs fr e
  simp only [pfoot, List.mem_cons, List.mem_append, List.mem_map] at hx
  rcases hx with rfl | ⟨p, hp, rfl⟩ | ⟨p, hp, rfl⟩
  · rw [h.st] at e; cases e; exact h1 rfl
  · obtain ⟨i, hi, rfl⟩ := List.getElem_of_mem hp
    have := h.nodes i hi
    rw [this] at e
    simp only [nodeC, Option.some.injEq, Obj.cells.injEq] at e
    exact h2 e.2.1.symm
  · obtain ⟨i, hi, rfl⟩ := List.getElem_of_mem hp
    obtain ⟨es, c, hm⟩ := (h.fr i hi (by rw [← h.len]; exact hi)).isMap
    rw [hm] at e
    cases e

theorem evOwn.keepE {W W' : World} {B : Nat} {v : Value} {l : List EvD} (h : evOwn W B v l) (k : KeepsE 43 W W') : evOwn W' B v l := by
  refine ⟨h.1, ?_⟩
  rcases h.2 with hn | ⟨g, cap, cur, e, hb, hg, r⟩
  · exact .inl hn
  · exact .inr ⟨g, cap, cur, e, hb, k g cur _ hg, r⟩

/-- The log of what goes through an attempt's events. -/
def LogAt (S0 : Nat) (c : List EvD) (k : Nat) (W : World) : Prop := k = 0 ∨ ∃ ch, PLog (S0 + 2) W (S0 + 4) ch (noteAll [f0] (c.take (k - 1)))

/-! ### Reads -/
def readsS (c : List EvD) : Nat → List (Int × Int)
  | 0 => []
  | m + 1 => match c[m]? with
    | some e => if e.k = 2 ∧ getF (noteAll [f0] (c.take m)) e.t = none then readsS c m ++ [(e.t, e.v)] else readsS c m
    | none => readsS c m
theorem readsS_le (c : List EvD) : ∀ m, (readsS c m).length ≤ m
  | 0 => by simp [readsS]
  | m + 1 => by
    have ih := readsS_le c m
    unfold readsS
    split
    · split
      · simp; exact ih
      · omega
    · omega
theorem readsS_step {c : List EvD} {m : Nat} (hm : m < c.length) : readsS c (m + 1) = if c[m].k = 2 ∧ getF (noteAll [f0] (c.take m)) c[m].t = none then readsS c m ++ [(c[m].t, c[m].v)] else readsS c m := by
  conv => lhs; unfold readsS
  rw [List.getElem?_eq_getElem hm]

theorem LogAt.touch {S0 k : Nat} {c : List EvD} {W W' : World} {S : List Nat} (h : LogAt S0 c k W) (t : Touch W W' S) (hS : ∀ x ∈ S, x < S0 + 2 ∨ W.heap.size ≤ x ∨ ∃ cs ty fr, W.heap[x]? = some (Obj.cells cs ty fr) ∧ ty ≠ 112 ∧ ty ≠ 110) : LogAt S0 c k W' := by
  rcases h with h | ⟨ch, hp⟩
  · exact .inl h
  · refine .inr ⟨ch, hp.keep t (fun x hx hs => ?_)⟩
    have h1 := hp.foot_lt x hx
    rcases hS x hs with h2 | h2 | ⟨cs, ty, fr, e, n1, n2⟩
    · omega
    · omega
    · exact hp.untyped n1 n2 x hx cs fr e

theorem noteAll_read {c : List EvD} {m : Nat} (hm : m < c.length) (h : c[m].k = 2) : noteAll [f0] (c.take (m + 1)) = noteAll [f0] (c.take m) := by
  rw [noteAll_snoc hm]
  unfold noteS
  rw [if_neg (by omega), if_neg (by omega), if_neg (by omega), if_neg (by omega)]
theorem LogAt.read {S0 m : Nat} {c : List EvD} {W : World} (h : LogAt S0 c (m + 1) W) (hm : m < c.length) (hk : c[m].k = 2) : LogAt S0 c (m + 1 + 1) W := by
  rcases h with h | ⟨ch, hp⟩
  · omega
  · refine .inr ⟨ch, ?_⟩
    show PLog _ _ _ _ (noteAll [f0] (c.take (m + 1)))
    rw [noteAll_read hm hk]
    exact hp

end Go.Proofs.YtmiaibpdeofokaaDoor

/-
  package norec: THE LEDGER's pages: began, enter, snapshotOf, renew, decide, giveUp, why BY THEIR CONTRACTS.
-/
import Derived.Test.YtinhdpiecifmhaaNrLedger
namespace Go.Proofs.Ytinhdpiecifmhaa.Nr
set_option linter.unusedVariables false
set_option linter.unusedSimpArgs false
open Go.RowKit Go.Maps

/-- One cell of a row of one's own. -/
theorem row_cellset {w : World} {B g cap n size : Nat} {e : TypeId} {xs : List Value} (h : w.ownsRow B e size (.slice (some ⟨g, 0, none⟩) n cap) n xs) (i : Nat) (hi : i < xs.length) (u : Value) :
    (w.setCell ⟨g, i, none⟩ u).ownsRow B e size (.slice (some ⟨g, 0, none⟩) n cap) n (xs.set i u) := by
  refine ⟨by rw [List.length_set]; exact h.1, .inr ?_⟩
  rcases h.2 with ⟨e, _⟩ | ⟨g', cap', cur, e, hB, hg, h1, h2, h3, h4⟩
  · simp at e
  · simp only [Value.slice.injEq, Option.some.injEq, Addr.mk.injEq] at e
    obtain ⟨⟨rfl, _⟩, _, rfl⟩ := e
    refine ⟨g, cap, cur.setIfInBounds i u, rfl, hB, heap_setCell_same _ _ _ _ _ _ hg, h1, h2, by simp [h3], ?_⟩
    rw [← h4]
    simp [List.take_set]

theorem row_at {w : World} {B g cap n size : Nat} {e : TypeId} {xs : List Value} (h : w.ownsRow B e size (.slice (some ⟨g, 0, none⟩) n cap) n xs) (i : Nat) (hi : i < xs.length) : w.cell? ⟨g, i, none⟩ = some xs[i] ∧ w.frozen? ⟨g, i, none⟩ = false := by
  have hc := h.cells (g := g) rfl
  rcases h.2 with ⟨e, _⟩ | ⟨g', cap', cur, e, hB, hg, h1, h2, h3, h4⟩
  · simp at e
  · simp only [Value.slice.injEq, Option.some.injEq, Addr.mk.injEq] at e
    obtain ⟨⟨rfl, _⟩, _, rfl⟩ := e
    have hlen := h.1
    refine ⟨?_, by simp [World.frozen?, hg]⟩
    have hi' : i < (cur.toList.take (n * size)).length := by rw [h4]; exact hi
    have e1 : (cur.toList.take (n * size))[i]? = some xs[i] := by rw [h4]; exact List.getElem?_eq_getElem hi
    have e2 : cur[i]? = some xs[i] := by
      rw [List.getElem?_take] at e1
      split at e1
      · simpa using e1
      · cases e1
    simp only [World.cell?, hg]
    simpa using e2

theorem row_some {w : World} {B n size : Nat} {e : TypeId} {v : Value} {xs : List Value} (h : w.ownsRow B e size v n xs) (hn : 0 < n) : ∃ g cap, v = .slice (some ⟨g, 0, none⟩) n cap := by
  rcases h.2 with ⟨_, e⟩ | ⟨g, cap, cur, rfl, _⟩
  · omega
  · exact ⟨g, cap, rfl⟩

/-- append in a plain region, by what it is known to come to. -/
theorem wpList_append_run {P : Program} {w : World} {ops : Array Oper} {rest : List Oper} {o : Oper} {a : Act} {Q : Exit → Act → World → Prop} (hgd : o.guard = none) (s x : Operand) (t ty : TypeId)
    (ho : o.op = .call { callee := .builtin .append, args := #[s, x], argTypes := #[t, t] }) (hty : o.type = ty) (v1 v2 v3 : Value) (w3 : World) (hs : a.eval s = v1) (hx : a.eval x = v2)
    (hr : (Builtin.append_ #[t, t] ty #[v1, v2]).run P w = .ok v3 w3) (h : wpList P ops Q rest (a.put o.dst v3) w3) : wpList P ops Q (o :: rest) a w :=
  wpList_plain hgd fun _ hK => by
    subst hty
    unfold Oper.wp execOp
    simp only [ho, resolve, invoke, builtin, Sem.run_bind, Sem.run_pure, Result.andThen_ok, List.map_toArray, List.map_cons, List.map_nil, hs, hx, hr]
    exact hK _ _ h

theorem began_any (X : ELoc) (E : Eng) (w : World) (h : EObj w X E) : Calls Try.prog 19 #[ptr X.e] w fun x w' => x = .returned (.int .i64 E.pg.length) ∧ w = w' := by
  obtain ⟨_, c1, _, _, _⟩ := h.cells
  obtain ⟨al, cl, hv⟩ := own_slice h.pg
  rw [hv] at c1
  clear h hv
  go_enter Try.func19, Try.ntmps19
  go_wp2
  go_ret
  exact ⟨rfl, rfl⟩

theorem pgflat_len (l : List PgD) : (l.flatMap PgD.cells).length = l.length * 3 := by
  induction l with
  | nil => rfl
  | cons x l ih => simp [List.flatMap_cons, PgD.cells, ih]; omega
theorem pgflat_at (l : List PgD) : ∀ (k : Nat) (hk : k < l.length) (j : Nat), j < 3 → (l.flatMap PgD.cells)[k * 3 + j]? = (PgD.cells l[k])[j]? := by
  induction l with
  | nil => intro k hk; simp at hk
  | cons x l ih =>
    intro k hk j hj
    cases k with
    | zero => simp only [Nat.zero_mul, Nat.zero_add, List.flatMap_cons, List.getElem_cons_zero]; rw [List.getElem?_append_left (by simp [PgD.cells]; omega)]
    | succ k =>
      rw [List.flatMap_cons, List.getElem?_append_right (by simp [PgD.cells]; omega)]
      have : (k + 1) * 3 + j - (PgD.cells x).length = k * 3 + j := by simp [PgD.cells]; omega
      rw [this]
      simpa using ih k (by simpa using hk) j hj
theorem pgflat_set (l : List PgD) : ∀ (k : Nat) (hk : k < l.length) (j : Nat) (hj : j < 3) (u : Value) (p : PgD), PgD.cells p = (PgD.cells l[k]).set j u → (l.flatMap PgD.cells).set (k * 3 + j) u = (l.set k p).flatMap PgD.cells := by
  induction l with
  | nil => intro k hk; simp at hk
  | cons x l ih =>
    intro k hk j hj u p hp
    cases k with
    | zero =>
      simp only [List.getElem_cons_zero] at hp
      simp only [Nat.zero_mul, Nat.zero_add, List.flatMap_cons, List.set_cons_zero]
      rw [List.set_append_left _ _ (by simp [PgD.cells]; omega), hp]
    | succ k =>
      simp only [List.getElem_cons_succ] at hp
      simp only [List.flatMap_cons, List.set_cons_succ]
      rw [List.set_append_right _ _ (by simp [PgD.cells]; omega)]
      have : (k + 1) * 3 + j - (PgD.cells x).length = k * 3 + j := by simp [PgD.cells]; omega
      rw [this, ih k (by simpa using hk) j hj u p hp]

/-- One page is another one: the world behind the store. -/
theorem EObj.setPage {w : World} {X : ELoc} {E : Eng} (h : EObj w X E) {g cap : Nat} (hv : X.vp = .slice (some ⟨g, 0, none⟩) E.pg.length cap) (k : Nat) (hk : k < E.pg.length) (j : Nat) (hj : j < 3) (u : Value) (p : PgD) (hp : PgD.cells p = (PgD.cells E.pg[k]).set j u) :
    EObj (w.setCell ⟨g, k * 3 + j, none⟩ u) X { E with pg := E.pg.set k p } ∧ Next w X (w.setCell ⟨g, k * 3 + j, none⟩ u) X := by
  have hg : g ∈ X.vp.ownBlock.toList := by rw [hv]; simp [Value.ownBlock]
  have hge : X.e ≠ g := fun e => h.ap 0 2 (by decide) X.e (by simp [ELoc.foot]) (by rw [e]; exact hg)
  have t : Touch w (w.setCell ⟨g, k * 3 + j, none⟩ u) (X.e :: X.vp.ownBlock.toList) := (Touch.refl w _).setCell (.inl (by simp only [List.mem_cons]; exact .inr hg)) u
  have hrow := h.pg
  rw [hv] at hrow
  have hr2 := row_cellset hrow (k * 3 + j) (by rw [pgflat_len]; omega) u
  rw [pgflat_set E.pg k hk j hj u p hp] at hr2
  have hst : (w.setCell ⟨g, k * 3 + j, none⟩ u).heap[X.e]? = some (.cells (ecells { X with vp := X.vp }) 63 (0, 0)) :=
    (Below.heap_setCell _ _ _ _ (by simpa using hge)).trans h.st
  exact h.setPg (v := X.vp) t hst (by rw [hv]; simpa [pgRow] using hr2) (.inl rfl)

theorem EObj.pageAt {w : World} {X : ELoc} {E : Eng} (h : EObj w X E) (k : Nat) (hk : k < E.pg.length) : ∃ g cap, X.vp = .slice (some ⟨g, 0, none⟩) E.pg.length cap ∧
    w.cell? ⟨g, k * 3, none⟩ = some (.int .u64 E.pg[k].s) ∧ w.cell? ⟨g, k * 3 + 1, none⟩ = some (.bool E.pg[k].wr) ∧ w.cell? ⟨g, k * 3 + 2, none⟩ = some (.int .u8 E.pg[k].why) ∧ ∀ j, j < 3 → w.frozen? ⟨g, k * 3 + j, none⟩ = false := by
  obtain ⟨g, cap, hv⟩ := row_some h.pg (by omega)
  have hrow := h.pg
  rw [hv] at hrow
  have key : ∀ j, j < 3 → w.cell? ⟨g, k * 3 + j, none⟩ = (PgD.cells E.pg[k])[j]? ∧ w.frozen? ⟨g, k * 3 + j, none⟩ = false := fun j hj => by
    have hl : k * 3 + j < (E.pg.flatMap PgD.cells).length := by rw [pgflat_len]; omega
    obtain ⟨a, b⟩ := row_at hrow (k * 3 + j) hl
    refine ⟨?_, b⟩
    rw [a, ← List.getElem?_eq_getElem hl]
    exact pgflat_at E.pg k hk j hj
  exact ⟨g, cap, hv, by simpa [PgD.cells] using (key 0 (by decide)).1, by simpa [PgD.cells] using (key 1 (by decide)).1, by simpa [PgD.cells] using (key 2 (by decide)).1, fun j hj => (key j hj).2⟩

/-- The snapshot. -/
theorem snapshotOf_any (X : ELoc) (E : Eng) (k : Nat) (hk : k < E.pg.length) (hb : E.pg.length ≤ 64) (w : World) (h : EObj w X E) : Calls Try.prog 72 #[ptr X.e, .int .i64 k] w fun x w' => x = .returned (.int .u64 E.pg[k].s) ∧ w = w' := by
  obtain ⟨_, c1, _, _, _⟩ := h.cells
  obtain ⟨g, cap, hv, p0, _, _, _⟩ := h.pageAt k hk
  rw [hv] at c1
  have hk0 : 0 ≤ (k : Int) := by omega
  have hk1 : (k : Int) < (E.pg.length : Int) := by omega
  generalize E.pg[k].s = s at *
  clear h hv
  go_enter Try.func72, Try.ntmps72
  go_wp2
  go_ret
  exact ⟨rfl, rfl⟩

end Go.Proofs.Ytinhdpiecifmhaa.Nr

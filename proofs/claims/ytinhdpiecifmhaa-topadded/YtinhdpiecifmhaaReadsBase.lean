/-
  package reads: WHAT A SET IS, and its small calls BY THEIR CONTRACTS.
-/
import Derived.Test.YtinhdpiecifmhaaReadsVal
import Derived.Test.YtinhdpiecifmhaaAllA
import Derived.Maps.OwnSet
import Derived.Maps.AppendAt
import Derived.Deep.AppendLies
import Derived.Deep.RegionLaw
namespace Go.Proofs.Ytinhdpiecifmhaa.Rd
set_option linter.unusedVariables false
set_option linter.unusedSimpArgs false
open Go.RowKit Go.Maps

/-- An entry. -/
structure EntD where
  tvar : Int
  val : Int
  ver : Int

abbrev EntD.v (e : EntD) : Value := .agg #[.int .i64 e.tvar, .int .u64 e.val, .int .u64 e.ver]
def EntD.cells (e : EntD) : List Value := [.int .i64 e.tvar, .int .u64 e.val, .int .u64 e.ver]
/-- Its numbers are of their kinds. -/
structure EntD.Wf (e : EntD) : Prop where
  t : -9223372036854775808 ≤ e.tvar ∧ e.tvar ≤ 9223372036854775807
  v : Wf64 e.val
  r : Wf64 e.ver

theorem wf_i64_mk {x : Int} (h : -9223372036854775808 ≤ x ∧ x ≤ 9223372036854775807) : (Lit.int .i64 x).wf = true := by
  simp [Lit.wf, IntKind.min, IntKind.max, IntKind.signed, IntKind.bits]; omega

/-- What may be noted: 0, 2 (range) or 3 (form). -/
def wrongE (e : EntD) : Int := if ¬ (0 ≤ e.tvar ∧ e.tvar < 12 ∧ e.ver ≤ 1099511627776) then 2 else if rightB e.val then 0 else 3

/-- One that may be noted. -/
structure EntD.Ok (e : EntD) : Prop where
  wf : e.Wf
  w : wrongE e = 0

theorem EntD.Ok.range {e : EntD} (h : e.Ok) : 0 ≤ e.tvar ∧ e.tvar < 12 := by
  have := h.w
  unfold wrongE at this
  split at this
  · simp at this
  · omega

/-- Is the variable there? -/
def hasT (L : List EntD) (t : Int) : Bool := L.any fun e => e.tvar == t
/-- The first one of a variable. -/
def getT (L : List EntD) (t : Int) : Option EntD := L.find? fun e => e.tvar == t

theorem hasT_eq (L : List EntD) (t : Int) : hasT L t = (getT L t).isSome := by
  unfold hasT getT
  induction L with
  | nil => rfl
  | cons a l ih => cases h : (a.tvar == t) <;> simp [List.find?, h, ih]

/-- Where each variable stands. -/
structure Idx (D : DataW Unit) (L : List EntD) : Prop where
  map : IsMap D
  has : ∀ t, Maps.has D (.int .i64 t) = hasT L t
  at' : ∀ i (h : i < L.length) z, D.atKey (.int .i64 L[i].tvar) z = .lit (.int .i64 i)

/-- What a set notes. -/
structure SetL (L : List EntD) : Prop where
  ok : ∀ e ∈ L, e.Ok
  nodup : (L.map EntD.tvar).Nodup
  len : L.length ≤ 8

theorem SetL.nil : SetL [] := ⟨by simp, by simp, by simp⟩

theorem Idx.nil : Idx (.map []) [] := ⟨isMap_empty, fun _ => rfl, fun i h => by simp at h⟩

theorem Idx.snoc {D : DataW Unit} {L : List EntD} (h : Idx D L) (e : EntD) (hn : hasT L e.tvar = false) : Idx (D.put (.int .i64 e.tvar) (.lit (.int .i64 L.length))) (L ++ [e]) := by
  have hne : ∀ t, t ≠ e.tvar → (Lit.int .i64 t) ≠ Lit.int .i64 e.tvar := fun t ht hh => ht (by injection hh)
  refine ⟨h.map.put _ _, fun t => ?_, fun i hi z => ?_⟩
  · by_cases ht : t = e.tvar
    · subst ht
      rw [has_put_same h.map (by trivial)]
      simp [hasT]
    · rw [has_put_other (hne t ht), h.has]
      simp only [hasT, List.any_append, List.any_cons, List.any_nil, Bool.or_false]
      rw [show (e.tvar == t) = false by simpa using fun hh : e.tvar = t => ht hh.symm, Bool.or_false]
  · simp only [List.length_append, List.length_cons, List.length_nil] at hi
    by_cases hl : i < L.length
    · rw [List.getElem_append_left hl]
      have hm : L[i].tvar ≠ e.tvar := fun hh => by
        have : hasT L e.tvar = true := by
          unfold hasT
          rw [List.any_eq_true]
          exact ⟨L[i], List.getElem_mem hl, by simp [hh]⟩
        rw [hn] at this; cases this
      rw [atKey_put_other (hne _ hm), h.at' i hl]
    · have : i = L.length := by omega
      subst this
      simp only [List.getElem_append_right (Nat.le_refl _), Nat.sub_self, List.getElem_cons_zero]
      rw [atKey_put_same h.map (by trivial)]

/-- A set of package reads. -/
structure RdSet (B : Nat) (w : World) (b m : Nat) (vl : Value) (L : List EntD) : Prop where
  hb : B ≤ b
  hm : B ≤ m
  st : w.heap[b]? = some (.cells #[vl, .map (some m)] 111 (0, 0))
  own : w.ownsRow B 142 3 vl L.length (L.flatMap EntD.cells)
  map : ∃ D, w.ownsMap Try.prog 3 (plainElem (H := Unit) Try.prog 3) m L.length D ∧ Idx D L
  sl : SetL L

def rdfoot (b m : Nat) (vl : Value) : List Nat := b :: m :: vl.ownBlock.toList

theorem RdSet.foot_lt {B : Nat} {w : World} {b m : Nat} {vl : Value} {L : List EntD} (h : RdSet B w b m vl L) : ∀ k ∈ rdfoot b m vl, B ≤ k ∧ k < w.heap.size := by
  intro k hk
  simp only [rdfoot, List.mem_cons, Option.mem_toList] at hk
  rcases hk with rfl | rfl | hk
  · exact ⟨h.hb, lt_of_heap h.st⟩
  · obtain ⟨D, hD, _⟩ := h.map; exact ⟨h.hm, hD.lt⟩
  · exact h.own.lt k hk

theorem ownsMap_touch {w w' : World} {S : List Nat} {m n : Nat} {D : DataW Unit} (h : w.ownsMap Try.prog 3 (plainElem (H := Unit) Try.prog 3) m n D) (t : Touch w w' S) (hS : m ∉ S) : w'.ownsMap Try.prog 3 (plainElem (H := Unit) Try.prog 3) m n D := by
  obtain ⟨es, clock, hb, rest⟩ := h
  exact ⟨es, clock, (t.block m (lt_of_heap hb) hS).trans hb, rest⟩

theorem RdSet.keep {B : Nat} {w w' : World} {b m : Nat} {vl : Value} {L : List EntD} {S : List Nat} (h : RdSet B w b m vl L) (t : Touch w w' S) (hS : ∀ k ∈ rdfoot b m vl, k ∉ S) : RdSet B w' b m vl L := by
  obtain ⟨D, hD, hI⟩ := h.map
  exact ⟨h.hb, h.hm, (t.block b (lt_of_heap h.st) (hS b (by simp [rdfoot]))).trans h.st, ownsRow_touch h.own t (fun k hk => hS k (by simp [rdfoot, hk])), ⟨D, ownsMap_touch hD t (hS m (by simp [rdfoot])), hI⟩, h.sl⟩

theorem RdSet.apart {B : Nat} {w : World} {b m : Nat} {vl : Value} {L : List EntD} (h : RdSet B w b m vl L) : b ≠ m ∧ vl.ownBlock ≠ some b ∧ vl.ownBlock ≠ some m := by
  obtain ⟨D, ⟨es, clock, hm, _⟩, _⟩ := h.map
  have hst := h.st
  refine ⟨fun e => ?_, fun e => ?_, fun e => ?_⟩
  · rw [e, hm] at hst; simp at hst
  · rcases h.own.2 with ⟨rfl, _⟩ | ⟨g, cap, cur, rfl, _, hg, _⟩
    · simp [Value.ownBlock] at e
    · simp [Value.ownBlock] at e; subst e; rw [hg] at hst; simp at hst
  · rcases h.own.2 with ⟨rfl, _⟩ | ⟨g, cap, cur, rfl, _, hg, _⟩
    · simp [Value.ownBlock] at e
    · simp [Value.ownBlock] at e; subst e; rw [hg] at hm; simp at hm

theorem law_int : Keyed Try.prog 3 := int_keyed Try.underlying3
theorem zero_int (w : World) : (zeroValue 3).run Try.prog w = .ok (.int .i64 0) w := by kernel_rfl

/-- A look into the map. -/
theorem RdSet.look {B : Nat} {w : World} {b m : Nat} {vl : Value} {L : List EntD} (h : RdSet B w b m vl L) (t : Int) (ht : -9223372036854775808 ≤ t ∧ t ≤ 9223372036854775807) :
    ∃ c : Int, (∀ W, Touch w W [] → (Instr.lookup 108 (.map (some m)) (.int .i64 t) true).run Try.prog W = .ok (.tuple #[.int .i64 c, .bool (hasT L t)]) W) ∧ (hasT L t = true → ∃ i, ∃ hi : i < L.length, c = (i : Nat) ∧ L[i].tvar = t) := by
  obtain ⟨D, hD, hI⟩ := h.map
  have hall : ∀ W, Touch w W [] → ∃ c : Int, (Instr.lookup 108 (.map (some m)) (.int .i64 t) true).run Try.prog W = .ok (.tuple #[.int .i64 c, .bool (hasT L t)]) W ∧ D.atKey (.int .i64 t) (.lit (.int .i64 0)) = .lit (.int .i64 c) := fun W tW => by
    obtain ⟨v, ps, hrun, hv⟩ := (ownsMap_touch hD tW (by simp)).look_ok law_int Try.underlying108 (zero_int W) (plainElem_int Try.underlying3 (by decide)) (keyOf_int_mk Try.underlying3 (wf_i64_mk ht))
    obtain ⟨c, rfl, hc, _⟩ := plainElem_int_inv Try.underlying3 hv
    rw [hI.has] at hrun
    exact ⟨c, hrun, congrArg Prod.fst hc⟩
  obtain ⟨c, _, hc⟩ := hall w (Touch.refl w [])
  refine ⟨c, fun W tW => ?_, fun hh => ?_⟩
  · obtain ⟨c', hr, hc'⟩ := hall W tW
    rw [hc] at hc'
    have : c = c' := by simpa using hc'
    rw [this]; exact hr
  · unfold hasT at hh
    rw [List.any_eq_true] at hh
    obtain ⟨e, he, hte⟩ := hh
    obtain ⟨i, hi, rfl⟩ := List.getElem_of_mem he
    have hte' : L[i].tvar = t := by simpa using hte
    refine ⟨i, hi, ?_, hte'⟩
    have := hI.at' i hi (.lit (.int .i64 0))
    rw [hte', hc] at this
    simpa using this

theorem getT_at {L : List EntD} (h : SetL L) {i : Nat} (hi : i < L.length) : getT L L[i].tvar = some L[i] := by
  unfold getT
  have hn := h.nodup
  clear h
  induction L generalizing i with
  | nil => simp at hi
  | cons a l ih =>
    cases i with
    | zero => simp [List.find?]
    | succ i =>
      simp only [List.map_cons, List.nodup_cons] at hn
      simp only [List.length_cons] at hi
      have hi' : i < l.length := by omega
      have hne : a.tvar ≠ l[i].tvar := fun e => hn.1 (by rw [e]; exact List.mem_map_of_mem (List.getElem_mem hi'))
      simp only [List.getElem_cons_succ, List.find?]
      rw [show (a.tvar == l[i].tvar) = false by simpa using hne]
      exact ih hi' hn.2

theorem RdSet.cells {B : Nat} {w : World} {b m : Nat} {vl : Value} {L : List EntD} (h : RdSet B w b m vl L) : w.cell? ⟨b, 0, none⟩ = some vl ∧ w.cell? ⟨b, 1, none⟩ = some (.map (some m)) ∧ w.frozen? ⟨b, 0, none⟩ = false ∧ w.frozen? ⟨b, 1, none⟩ = false := by
  simp [World.cell?, World.frozen?, h.st]

theorem flat_get (l : List EntD) (k : Nat) (hk : k < l.length) (j : Nat) (hj : j < 3) : (l.flatMap EntD.cells)[k * 3 + j]? = (l[k]).cells[j]? := by
  induction l generalizing k with
  | nil => simp at hk
  | cons a l ih =>
    rw [List.flatMap_cons]
    cases k with
    | zero =>
      rw [List.getElem?_append_left (by simp [EntD.cells]; omega)]
      simp
    | succ k =>
      rw [List.getElem?_append_right (by simp [EntD.cells]; omega)]
      simp only [List.length_cons] at hk
      have := ih k (by omega)
      simp only [List.getElem_cons_succ]
      rw [← this]
      congr 1
      simp [EntD.cells]
      omega

theorem ent_one {l : List EntD} : ∀ u ∈ l.flatMap EntD.cells, u.oneCell' = true := by
  intro u hu
  rw [List.mem_flatMap] at hu
  obtain ⟨e, _, he⟩ := hu
  simp only [EntD.cells, List.mem_cons, List.not_mem_nil, or_false] at he
  rcases he with rfl | rfl | rfl <;> rfl

theorem length_ent (l : List EntD) : (l.flatMap EntD.cells).length = l.length * 3 := by
  induction l with
  | nil => rfl
  | cons a l ih => rw [List.flatMap_cons, List.length_append, ih]; simp [EntD.cells]; omega

abbrev EntRow := SRow 3 EntD.cells

/-- What a row of the call's own holds can be read. -/
theorem EntRow.of_owns {w : World} {B : Nat} {v : Value} {l : List EntD} (h : w.ownsRow B 142 3 v l.length (l.flatMap EntD.cells)) : EntRow w v l := by
  rcases h.2 with ⟨rfl, h0⟩ | ⟨g, cap, cur, rfl, hB, hg, rest⟩
  · exact ⟨none, 0, by rw [h0], fun hn => absurd (List.eq_nil_of_length_eq_zero h0) hn⟩
  · refine ⟨some ⟨g, 0, none⟩, cap, rfl, fun _ => ⟨g, 0, rfl, lt_of_heap hg, fun k hk j hj => ?_⟩⟩
    have hl : j < (l[k]).cells.length := hj
    have hu : (l[k]).cells[j]? = some ((l[k]).cells[j]) := List.getElem?_eq_getElem hl
    have hc := h.cells (g := g) rfl (k * 3 + j) _ ((flat_get l k hk j hj).trans hu)
    rw [Addr.add_lit] at hc
    rw [hu]
    simpa using hc

theorem EntRow.three {w : World} {ao : Option Addr} {cap : Nat} {l : List EntD} (h : EntRow w (.slice ao l.length cap) l) (k : Nat) (hk : k < l.length) :
    ∃ g off, ao = some ⟨g, off, none⟩ ∧ g < w.heap.size ∧ w.cell? ⟨g, off + k * 3, none⟩ = some (.int .i64 l[k].tvar) ∧ w.cell? ⟨g, off + k * 3 + 1, none⟩ = some (.int .u64 l[k].val) ∧ w.cell? ⟨g, off + k * 3 + 2, none⟩ = some (.int .u64 l[k].ver) := by
  obtain ⟨g, off, e, hlt, hc⟩ := h.at k hk
  exact ⟨g, off, e, hlt, hc 0 (by omega), hc 1 (by omega), hc 2 (by omega)⟩

/-- append, by what it is known to come to. -/
theorem step_append_run {P : Program} {w : World} {ops : Array Oper} {o : Oper} {a : Act} {K : Act → World → Prop} {Q : Exit → Act → World → Prop} {E : Prop} (hgd : o.guard = none) (s x : Operand) (t ty : TypeId)
    (ho : o.op = .call { callee := .builtin .append, args := #[s, x], argTypes := #[t, t] }) (hty : o.type = ty) (v1 v2 v3 : Value) (w3 : World) (hs : a.eval s = v1) (hx : a.eval x = v2)
    (hr : (Builtin.append_ #[t, t] ty #[v1, v2]).run P w = .ok v3 w3) (h : K (a.put o.dst v3) w3) : if Region.wanted o (yielded ops a.tmps) = true then Oper.wp P o a w K Q else E := by
  have hw : Region.wanted o (yielded ops a.tmps) = true := by simp [Region.wanted, hgd]
  rw [if_pos hw]
  subst hty
  unfold Oper.wp execOp
  simp only [ho, resolve, invoke, builtin, Sem.run_bind, Sem.run_pure, Result.andThen_ok, List.map_toArray, List.map_cons, List.map_nil, hs, hx, hr]
  exact h

/-- All ways end alike: shown once. -/
theorem once {G Q : Prop} (pf : G) (body : G → Q) : Q := body pf

/-- One more is noted. -/
theorem RdSet.snoc {B : Nat} {W w2 w3 : World} {b m : Nat} {vl vl' : Value} {L : List EntD} {e : EntD} {D : DataW Unit} (h : RdSet B W b m vl L) (hI : Idx D L) (t2 : Touch W w2 [m])
    (hD2 : w2.ownsMap Try.prog 3 (plainElem (H := Unit) Try.prog 3) m (L.length + 1) (D.put (.int .i64 e.tvar) (.lit (.int .i64 L.length))))
    (t3 : Touch w2 w3 vl.ownBlock.toList) (hrow : w3.ownsRow B 142 3 vl' (L.length + 1) (L.flatMap EntD.cells ++ e.cells)) (hat : vl'.ownBlock = vl.ownBlock ∨ ∀ q, vl'.ownBlock = some q → W.heap.size ≤ q)
    (hok : e.Ok) (hn : hasT L e.tvar = false) (hl : L.length < 8) :
    RdSet B (w3.setCell ⟨b, 0, none⟩ vl') b m vl' (L ++ [e]) ∧ Touch W (w3.setCell ⟨b, 0, none⟩ vl') (rdfoot b m vl) ∧ ∀ q ∈ rdfoot b m vl', q ∈ rdfoot b m vl ∨ W.heap.size ≤ q := by
  obtain ⟨hbm, hvb, hvm⟩ := h.apart
  have hbl := lt_of_heap h.st
  have hbm' : m < W.heap.size := (h.foot_lt m (by simp [rdfoot])).2
  have hb2 : b ∉ vl.ownBlock.toList := by simpa using hvb
  have hm2 : m ∉ vl.ownBlock.toList := by simpa using hvm
  have hv'b : vl'.ownBlock ≠ some b := fun hh => by
    rcases hat with e1 | e1
    · exact hvb (e1 ▸ hh)
    · have := e1 _ hh; omega
  have t4 : Touch W (w3.setCell ⟨b, 0, none⟩ vl') (rdfoot b m vl) := ((t2.mono (R := rdfoot b m vl) (by simp [rdfoot])).trans t3 (by intro x hx; exact .inl (by simp only [rdfoot, List.mem_cons]; exact .inr (.inr hx)))).setCell (.inl (by simp [rdfoot])) _
  have tl : Touch w3 (w3.setCell ⟨b, 0, none⟩ vl') [b] := (Touch.refl w3 [b]).setCell (.inl (by simp)) _
  refine ⟨⟨h.hb, h.hm, ?_, ?_, ⟨_, ?_, hI.snoc e hn⟩, ⟨?_, ?_, ?_⟩⟩, t4, ?_⟩
  · have h1 := (t3.block b (Nat.lt_of_lt_of_le hbl t2.size) hb2).trans ((t2.block b hbl (by simpa using hbm)).trans h.st)
    rw [heap_setCell_same _ _ _ _ _ _ h1]; rfl
  · rw [List.length_append, List.flatMap_append]
    have := ownsRow_setCell_other hrow (a := ⟨b, 0, none⟩) hv'b vl'
    simpa using this
  · have h1 := ownsMap_touch (ownsMap_touch hD2 t3 hm2) tl (by simpa using Ne.symm hbm)
    simpa using h1
  · intro x hx
    simp only [List.mem_append, List.mem_cons, List.not_mem_nil, or_false] at hx
    rcases hx with hx | rfl
    · exact h.sl.ok x hx
    · exact hok
  · rw [List.map_append, List.nodup_append]
    refine ⟨h.sl.nodup, by simp, ?_⟩
    intro x hx y hy
    simp only [List.map_cons, List.map_nil, List.mem_cons, List.not_mem_nil, or_false] at hy
    subst hy
    rintro rfl
    rw [List.mem_map] at hx
    obtain ⟨z, hz, hzt⟩ := hx
    have : hasT L e.tvar = true := by
      unfold hasT
      rw [List.any_eq_true]
      exact ⟨z, hz, by simp [hzt]⟩
    rw [hn] at this; cases this
  · simp; omega
  · intro q hq
    simp only [rdfoot, List.mem_cons, Option.mem_toList] at hq ⊢
    rcases hq with rfl | rfl | hq
    · exact .inl (.inl rfl)
    · exact .inl (.inr (.inl rfl))
    · rcases hat with e1 | e1
      · exact .inl (.inr (.inr (e1 ▸ hq)))
      · exact .inr (e1 _ hq)

end Go.Proofs.Ytinhdpiecifmhaa.Rd

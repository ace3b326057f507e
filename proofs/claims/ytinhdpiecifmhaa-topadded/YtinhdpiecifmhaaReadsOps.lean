/-
  package reads' other calls BY THEIR CONTRACTS: Add, Get, Len, Newest.
-/
import Derived.Test.YtinhdpiecifmhaaReadsCalls
namespace Go.Proofs.Ytinhdpiecifmhaa.Rd
set_option linter.unusedVariables false
set_option linter.unusedSimpArgs false
open Go.RowKit Go.Maps

/-- What Add comes to. -/
def addE (L : List EntD) (e : EntD) : Int × List EntD :=
  if wrongE e ≠ 0 then (wrongE e, L) else if hasT L e.tvar = true then (0, L) else if 8 ≤ L.length then (4, L) else (0, L ++ [e])

/-- What Add leaves. -/
def AddPost (B : Nat) (w : World) (b m : Nat) (vl : Value) (r : Int × List EntD) (x : Ending) (w' : World) : Prop :=
  ∃ vl', x = .returned (.int .i64 r.1) ∧ RdSet B w' b m vl' r.2 ∧ Touch w w' (rdfoot b m vl) ∧ ∀ q ∈ rdfoot b m vl', q ∈ rdfoot b m vl ∨ w.heap.size ≤ q

theorem wrongE_in (e : EntD) : wrongE e = 0 ∨ wrongE e = 2 ∨ wrongE e = 3 := by
  unfold wrongE
  repeat' split
  all_goals simp

theorem RdSet.stays {B : Nat} {w w' : World} {b m : Nat} {vl : Value} {L : List EntD} (h : RdSet B w b m vl L) (t : Touch w w' []) (z : Int) : AddPost B w b m vl (z, L) (.returned (.int .i64 z)) w' :=
  ⟨vl, rfl, h.keep t (by simp), t.mono (by simp), fun q hq => .inl hq⟩

theorem AddPost.after {B : Nat} {w w1 w' : World} {b m : Nat} {vl : Value} {r : Int × List EntD} {x : Ending} (h : AddPost B w1 b m vl r x w') (t : Touch w w1 []) : AddPost B w b m vl r x w' := by
  obtain ⟨vl', e, hs, ht, hf⟩ := h
  exact ⟨vl', e, hs, (t.mono (by simp)).trans ht (fun x hx => .inl hx), fun q hq => (hf q hq).imp id (fun h => Nat.le_trans t.size h)⟩

theorem lack_one (L : List EntD) (e : EntD) : lackE L [e] = if hasT L e.tvar = true then [] else [e] := by
  unfold lackE
  cases h : hasT L e.tvar <;> simp [List.filter, h]

/-- join of one. -/
theorem join_one {B : Nat} {w : World} {b m : Nat} {vl : Value} {L : List EntD} (h : RdSet B w b m vl L) (hB : B ≤ w.heap.size) (e : EntD) (hok : e.Ok) (g : Nat)
    (hg : w.heap[g]? = some (.cells #[.int .i64 e.tvar, .int .u64 e.val, .int .u64 e.ver] 142 (0, 0))) :
    Calls Try.prog 86 #[.pointer (some ⟨b, 0, none⟩), .slice (some ⟨g, 0, none⟩) 1 1] w (AddPost B w b m vl (addE L e)) := by
  have hrow : EntRow w (.slice (some ⟨g, 0, none⟩) [e].length 1) [e] := by
    refine ⟨_, 1, rfl, fun _ => ⟨g, 0, rfl, lt_of_heap hg, fun k hk j hj => ?_⟩⟩
    have : k = 0 := by simpa using hk
    subst this
    simp only [World.cell?, hg, List.getElem_cons_zero, EntD.cells]
    have h3 : j = 0 ∨ j = 1 ∨ j = 2 := by omega
    rcases h3 with rfl | rfl | rfl <;> rfl
  have hJ : Joins L (lackE L [e]) := by
    rw [lack_one]
    cases hh : hasT L e.tvar
    · simp only [Bool.false_eq_true, if_false]
      refine ⟨by simpa using hok, ?_⟩
      rw [List.map_append, List.nodup_append]
      refine ⟨h.sl.nodup, by simp, ?_⟩
      intro x hx y hy
      simp only [List.map_cons, List.map_nil, List.mem_cons, List.not_mem_nil, or_false] at hy
      subst hy
      rintro rfl
      rw [List.mem_map] at hx
      obtain ⟨z, hz, hzt⟩ := hx
      have : hasT L e.tvar = true := by
        unfold hasT
        rw [List.any_eq_true]
        exact ⟨z, hz, by simp [hzt]⟩
      rw [hh] at this; cases this
    · simp only [if_true]
      exact ⟨by simp, by simpa using h.sl.nodup⟩
  refine (join_any h hB (some ⟨g, 0, none⟩) 1 [e] hrow (by simp) (by simpa using hok.wf) hJ).mono ?_
  intro x w' hp
  unfold JoinPost at hp
  rw [lack_one] at hp
  have h8 := h.sl.len
  unfold addE
  rw [if_neg (by simp [hok.w])]
  cases hh : hasT L e.tvar
  · simp only [hh, Bool.false_eq_true, if_false] at hp ⊢
    by_cases hl : 8 ≤ L.length
    · rw [if_pos (by simp; omega)] at hp
      rw [if_pos hl]
      obtain ⟨rfl, t⟩ := hp
      exact h.stays t 4
    · rw [if_neg (by simp; omega)] at hp
      rw [if_neg hl]
      obtain ⟨vl', rfl, hs, t, hf⟩ := hp
      exact ⟨vl', rfl, hs, t, hf⟩
  · simp only [hh, if_true] at hp ⊢
    rw [if_neg (by simp; omega)] at hp
    obtain ⟨vl', rfl, hs, t, hf⟩ := hp
    exact ⟨vl', rfl, by simpa using hs, t, hf⟩

set_option maxRecDepth 100000 in
theorem add_any {B : Nat} {w : World} {b m : Nat} {vl : Value} {L : List EntD} (h : RdSet B w b m vl L) (hB : B ≤ w.heap.size) (e : EntD) (hwf : e.Wf) :
    Calls Try.prog 74 #[.pointer (some ⟨b, 0, none⟩), e.v] w (AddPost B w b m vl (addE L e)) := by
  have hw := fun (W : World) => wrong_any e W
  by_cases h0 : wrongE e = 0
  · have hj := fun (W : World) (t : Touch w W []) (g : Nat) (hg) => join_one (h.keep t (by simp)) (Nat.le_trans hB t.size) e ⟨hwf, h0⟩ g hg
    rw [h0] at hw
    generalize addE L e = R at *
    obtain ⟨t, x, r⟩ := e
    clear h0 h
    go_enter Try.func74, Try.ntmps74
    go_wp2_with fail
    refine (hw _).mono ?_
    rintro e1 w1 ⟨rfl, t1⟩
    clear hw
    have e1 : w1.heap[w.heap.size]? = some (.cells #[.int .i64 t, .int .u64 x, .int .u64 r] 142 (0, 0)) := (t1.block _ (by simp) (by simp)).trans (heap_alloc_new w _)
    have T1 : Touch w w1 [] := ((Touch.refl w []).alloc _).trans t1 (by simp)
    have k0 : w1.cell? ⟨w.heap.size, 0, none⟩ = some (.int .i64 t) := by simp [World.cell?, e1]
    have k1 : w1.cell? ⟨w.heap.size, 1, none⟩ = some (.int .u64 x) := by simp [World.cell?, e1]
    have k2 : w1.cell? ⟨w.heap.size, 2, none⟩ = some (.int .u64 r) := by simp [World.cell?, e1]
    have T2 : Touch w (w1.alloc (.cells #[.int .i64 t, .int .u64 x, .int .u64 r] 142)) [] := T1.alloc _
    have hj2 := hj _ T2 w1.heap.size (heap_alloc_new w1 _)
    clear hj t1 e1 T1
    go_wp2_with fail
    refine hj2.mono ?_
    intro y w2 hp
    obtain ⟨vl', rfl, hs, ht, hf⟩ := hp
    clear hj2
    go_wp2
    go_ret
    exact AddPost.after ⟨vl', rfl, hs, ht, hf⟩ T2
  · have ha : addE L e = (wrongE e, L) := by unfold addE; rw [if_pos h0]
    rw [ha]
    have hne : (wrongE e == 0) = false := by simpa using h0
    generalize wrongE e = z at *
    obtain ⟨t, x, r⟩ := e
    have HS : Hid _ := h
    clear h ha
    go_enter Try.func74, Try.ntmps74
    go_wp2_with fail
    refine (hw _).mono ?_
    rintro e1 w1 ⟨rfl, t1⟩
    clear hw
    go_wp2
    go_ret
    exact HS.out.stays (((Touch.refl w []).alloc _).trans t1 (by simp)) z


theorem results_cell_tmp {fn : Func} {p q : Tmp} {ty : TypeId} (h : fn.results = #[.cell p ty, .tmp q]) (tmps : Array Value) (P : Program) (w : World) :
    (results fn tmps).run P w = ((asAddr (tmps.getD p undef)).run P w).andThen fun a w₁ => ((loadVar ty a).run P w₁).andThen fun v w₂ => .ok (.tuple #[v, tmps.getD q undef]) w₂ := by
  simp only [results, h]
  simp [Sem.run_bind, Result.andThen]

/-- An entry as a value; nothing: the zero one. -/
def entO (o : Option EntD) : Value := (o.getD ⟨0, 0, 0⟩).v

/-! ### Values of a heap -/
abbrev ValRow := SRow 1 (fun x : Int => [Value.int .u64 x])

theorem ValRow.one {w : World} {ao : Option Addr} {cap : Nat} {l : List Int} (h : ValRow w (.slice ao l.length cap) l) (k : Nat) (hk : k < l.length) :
    ∃ g off, ao = some ⟨g, off, none⟩ ∧ g < w.heap.size ∧ w.cell? ⟨g, off + k, none⟩ = some (.int .u64 l[k]) := by
  obtain ⟨g, off, e, hlt, hc⟩ := h.at k hk
  exact ⟨g, off, e, hlt, by simpa using hc 0 (by omega)⟩

/-- Are they the same value? -/
def sameV (a b : Int) : Bool := ((ofB a.toNat : Nat) : Int) == (ofB b.toNat : Nat)
/-- Has a heap it not, or not so? -/
def badE (heap : List Int) (e : EntD) : Bool := decide ((heap.length : Int) ≤ e.tvar) || !sameV (heap.getD e.tvar.toNat 0) e.val
/-- The first one. -/
def brokenE (heap : List Int) (L : List EntD) : Int × Bool := match L.find? (badE heap) with | some e => (e.tvar, true) | none => (0, false)

theorem brokenE_hit {heap : List Int} {L : List EntD} {k : Nat} (hk : k < L.length) (hno : ∀ e ∈ L.take k, badE heap e = false) (hb : badE heap L[k] = true) : brokenE heap L = (L[k].tvar, true) := by
  unfold brokenE
  have : L.find? (badE heap) = some L[k] := by
    conv => lhs; rw [show L = L.take k ++ (L[k] :: L.drop (k + 1)) by rw [← List.drop_eq_getElem_cons hk, List.take_append_drop]]
    rw [List.find?_append, List.find?_eq_none.2 (by intro e he; simp [hno e he])]
    simp [List.find?, hb]
  rw [this]
theorem brokenE_none {heap : List Int} {L : List EntD} (hno : ∀ e ∈ L, badE heap e = false) : brokenE heap L = (0, false) := by
  unfold brokenE
  rw [List.find?_eq_none.2 (by intro e he; simp [hno e he])]

/-- The highest version. -/
def newE (L : List EntD) : Int := L.foldl (fun n e => if n < e.ver then e.ver else n) 0
theorem newE_snoc {L : List EntD} {k : Nat} (hk : k < L.length) : newE (L.take (k + 1)) = if newE (L.take k) < L[k].ver then L[k].ver else newE (L.take k) := by
  unfold newE
  rw [List.take_succ_eq_append_getElem hk, List.foldl_append]
  rfl


end Go.Proofs.Ytinhdpiecifmhaa.Rd

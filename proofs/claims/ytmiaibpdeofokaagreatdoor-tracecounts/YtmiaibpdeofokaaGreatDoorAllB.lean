/-
  package writes: All BY ITS CONTRACT: the function that yields, collected; of a log, and of none.
-/
import Derived.Test.YtmiaibpdeofokaaGreatDoorAllA
import Derived.Deep.AppendLies
import Derived.Maps.AppendAt
import Derived.Laws.OwnMore
import Derived.Deep.MidRow
import Derived.Deep.RegionLaw
namespace Go.Proofs.YtmiaibpdeofokaaGreatDoor
set_option linter.unusedVariables false
set_option linter.unusedSimpArgs false
open Go.RowKit Go.Maps Go.Shelf
attribute [local go_sem] Oper.semAt_some

/-- The variables below k that have a value, rising. -/
def allK (G : Int → Option Int) (k : Nat) : List (Int × Int) := (List.range k).filterMap fun (i : Nat) => (G i).map fun v => ((i : Int), v)
theorem allK_some {G : Int → Option Int} {k : Nat} {v : Int} (h : G k = some v) : allK G (k + 1) = allK G k ++ [((k : Int), v)] := by
  unfold allK
  rw [List.range_succ, List.filterMap_append]
  simp [h]
theorem allK_none {G : Int → Option Int} {k : Nat} (h : G k = none) : allK G (k + 1) = allK G k := by
  unfold allK
  rw [List.range_succ, List.filterMap_append]
  simp [h]
theorem allK_step (G : Int → Option Int) (k : Nat) : ∃ l, allK G (k + 1) = allK G k ++ l := by
  cases h : G k with
  | none => exact ⟨[], by rw [allK_none h]; simp⟩
  | some v => exact ⟨_, allK_some h⟩
theorem allK_prefix (G : Int → Option Int) (k : Nat) : ∀ n, ∃ l, allK G (k + n) = allK G k ++ l
  | 0 => ⟨[], by simp⟩
  | n + 1 => by
    obtain ⟨l, hl⟩ := allK_prefix G k n
    obtain ⟨l', hl'⟩ := allK_step G (k + n)
    exact ⟨l ++ l', by rw [← Nat.add_assoc, hl', hl, List.append_assoc]⟩
theorem allK_at {G : Int → Option Int} {k : Nat} {v : Int} (h : G k = some v) (hk : k < 12) : (allK G k).length < (allK G 12).length ∧ (allK G 12).getD (allK G k).length (0, 0) = ((k : Int), v) := by
  obtain ⟨l, hl⟩ := allK_prefix G (k + 1) (12 - (k + 1))
  rw [show k + 1 + (12 - (k + 1)) = 12 by omega, allK_some h, List.append_assoc] at hl
  rw [hl]
  simp [List.getD_eq_getElem?_getD]
theorem allK_le (G : Int → Option Int) (k : Nat) : (allK G k).length ≤ k := by
  induction k with
  | zero => simp [allK]
  | succ k ih =>
    cases h : G k with
    | none => rw [allK_none h]; omega
    | some v => rw [allK_some h]; simp; omega

abbrev pairV (p : Int × Int) : Value := .agg #[.int .i64 p.1, .int .u64 p.2]
def pairC (p : Int × Int) : List Value := [.int .i64 p.1, .int .u64 p.2]
abbrev pairAt (G : Int → Option Int) (j : Nat) : Value := pairV ((allK G 12).getD j (0, 0))

theorem ownsRow_other {W W' : World} {B : Nat} {e : TypeId} {n sz : Nat} {v : Value} {xs : List Value} {l : Nat} {o : Obj} (h : W.ownsRow B e sz v n xs) (t : Touch W W' [l]) (hl : W.heap[l]? = some o) (ho : o.isCells = false) : W'.ownsRow B e sz v n xs := by
  refine ownsRow_touch h t (fun k hk hs => ?_)
  simp at hs
  subst hs
  rcases h.2 with ⟨rfl, _⟩ | ⟨g, cap, cur, rfl, _, hg, _⟩
  · simp [Value.ownBlock] at hk
  · obtain rfl : g = k := by simpa [Value.ownBlock] using hk
    rw [hg] at hl
    cases hl
    simp [Obj.isCells] at ho

end Go.Proofs.YtmiaibpdeofokaaGreatDoor
/-
  append OF A WHOLE SLICE TO A ROW OF THE CALL's OWN. No walk.
-/
namespace Go.Proofs.YtmiaibpdeofokaaGreatDoor
set_option linter.unusedVariables false
set_option linter.unusedSimpArgs false
open Go.RowKit

/-- append OF A WHOLE SLICE (nil or not) TO A ROW OF THE CALL's OWN THAT IS NOT nil: the value written out, and where it lies. -/
theorem run_append_src {P : Program} (w : World) (t ty e : TypeId) (base : Nat) (i : TypeInfo) (z : Value) (size bytes : Nat) (ht : P.underlying t = some (.slice e)) (hi : P.info? e = some i) (hz : i.zero = some z)
    (hsize : i.size = size) (hby : i.bytes = bytes) (hzs : z.cells.size = size) (hsz : 0 < size)
    (g0 n c0 : Nat) (xs : List Value) (hown : w.ownsRow base e size (.slice (some ⟨g0, 0, none⟩) n c0) n xs)
    (v2 : Value) (base2 m : Nat) (news : List Value) (hsrc : w.ownsRow base2 e size v2 m news) (h1 : ∀ u ∈ news, u.oneCell' = true)
    (h63 : n + m ≤ maxLen) (hbytes : (n + m) * bytes ≤ 140737488355328) (hbase : base ≤ w.heap.size) :
    ∃ g cap w', (Builtin.append_ #[t, t] ty #[.slice (some ⟨g0, 0, none⟩) n c0, v2]).run P w = .ok (.slice (some ⟨g, 0, none⟩) (n + m) cap) w' ∧
      w'.ownsRow base e size (.slice (some ⟨g, 0, none⟩) (n + m) cap) (n + m) (xs ++ news) ∧ w.grownBy w' (some g0) ∧ (g = g0 ∨ g = w.heap.size) ∧ g < w'.heap.size := by
  rcases hsrc.2 with ⟨rfl, h0⟩ | ⟨g2, cap2, cur2, rfl, _⟩
  · subst h0
    have hx : news = [] := List.eq_nil_of_length_eq_zero (by simpa using hsrc.1)
    subst hx
    have hrun := run_append_owned_none (P := P) (w := w) base t ty e i size ht hi _ n xs hown
    refine ⟨g0, c0, w, hrun, by simpa using hown, ⟨rfl, rfl, rfl, Nat.le_refl _, fun _ _ _ => rfl⟩, .inl rfl, ?_⟩
    exact (hown.lt g0 rfl).2
  · obtain ⟨v', w', hr, h2, h3, h4, h5⟩ := run_append_own_at (P := P) w base t ty e i z size bytes ht hi hz hsize hby hzs hsz _ n xs hown ⟨g2, 0, none⟩ m cap2 news hsrc.1 (hsrc.cells (g := g2) rfl) h1 h63 hbytes hbase
    have hne : v' ≠ .slice none 0 0 := fun e => by have := h4.1 e; simp at this
    rcases h2.2 with ⟨e, _⟩ | ⟨g, cap, cur, rfl, _, hg, _⟩
    · exact absurd e hne
    · refine ⟨g, cap, w', hr, h2, h3, ?_, lt_of_heap hg⟩
      rcases h5 with h5 | h5
      · left; simpa [Value.ownBlock] using h5
      · right; simpa [Value.ownBlock] using h5

theorem wp_append_src {P : Program} {w : World} {o : Oper} {a : Act} {K : Act → World → Prop} {Q : Exit → Act → World → Prop} (s x : Operand) (t : TypeId)
    (ho : o.op = .call { callee := .builtin .append, args := #[s, x], argTypes := #[t, t] })
    (base : Nat) (e : TypeId) (i : TypeInfo) (z : Value) (size bytes : Nat) (ht : P.underlying t = some (.slice e)) (hi : P.info? e = some i) (hz : i.zero = some z)
    (hsize : i.size = size) (hby : i.bytes = bytes) (hzs : z.cells.size = size) (hsz : 0 < size)
    (g0 n c0 : Nat) (xs : List Value) (hs : a.eval s = .slice (some ⟨g0, 0, none⟩) n c0) (hown : w.ownsRow base e size (.slice (some ⟨g0, 0, none⟩) n c0) n xs)
    (v2 : Value) (base2 m : Nat) (news : List Value) (hx : a.eval x = v2) (hsrc : w.ownsRow base2 e size v2 m news) (h1 : ∀ u ∈ news, u.oneCell' = true)
    (h63 : n + m ≤ maxLen) (hbytes : (n + m) * bytes ≤ 140737488355328) (hbase : base ≤ w.heap.size)
    (h : ∀ g cap w', w'.ownsRow base e size (.slice (some ⟨g, 0, none⟩) (n + m) cap) (n + m) (xs ++ news) → w.grownBy w' (some g0) → (g = g0 ∨ g = w.heap.size) → g < w'.heap.size → K (a.put o.dst (.slice (some ⟨g, 0, none⟩) (n + m) cap)) w') : o.wp P a w K Q := by
  obtain ⟨g, cap, w', hr, h2, h3, h4, h5⟩ := run_append_src (P := P) w t o.type e base i z size bytes ht hi hz hsize hby hzs hsz g0 n c0 xs hown v2 base2 m news hsrc h1 h63 hbytes hbase
  unfold Oper.wp execOp
  simp only [ho, resolve, invoke, builtin, Sem.run_bind, Sem.run_pure, Result.andThen_ok, List.map_toArray, List.map_cons, List.map_nil, hs, hx, hr]
  exact h g cap w' h2 h3 h4 h5

theorem wpList_append_src {P : Program} {w : World} {ops : Array Oper} {rest : List Oper} {o : Oper} {a : Act} {Q : Exit → Act → World → Prop} (hgd : o.guard = none) (s x : Operand) (t : TypeId)
    (ho : o.op = .call { callee := .builtin .append, args := #[s, x], argTypes := #[t, t] })
    (base : Nat) (e : TypeId) (i : TypeInfo) (z : Value) (size bytes : Nat) (ht : P.underlying t = some (.slice e)) (hi : P.info? e = some i) (hz : i.zero = some z)
    (hsize : i.size = size) (hby : i.bytes = bytes) (hzs : z.cells.size = size) (hsz : 0 < size)
    (g0 n c0 : Nat) (xs : List Value) (hs : a.eval s = .slice (some ⟨g0, 0, none⟩) n c0) (hown : w.ownsRow base e size (.slice (some ⟨g0, 0, none⟩) n c0) n xs)
    (v2 : Value) (base2 m : Nat) (news : List Value) (hx : a.eval x = v2) (hsrc : w.ownsRow base2 e size v2 m news) (h1 : ∀ u ∈ news, u.oneCell' = true)
    (h63 : n + m ≤ maxLen) (hbytes : (n + m) * bytes ≤ 140737488355328) (hbase : base ≤ w.heap.size)
    (h : ∀ g cap w', w'.ownsRow base e size (.slice (some ⟨g, 0, none⟩) (n + m) cap) (n + m) (xs ++ news) → w.grownBy w' (some g0) → (g = g0 ∨ g = w.heap.size) → g < w'.heap.size → wpList P ops Q rest (a.put o.dst (.slice (some ⟨g, 0, none⟩) (n + m) cap)) w') : wpList P ops Q (o :: rest) a w :=
  wpList_plain hgd fun _ hK => wp_append_src s x t ho base e i z size bytes ht hi hz hsize hby hzs hsz g0 n c0 xs hs hown v2 base2 m news hx hsrc h1 h63 hbytes hbase fun g cap w' h2 h3 h4 h5 => hK _ _ (h g cap w' h2 h3 h4 h5)

theorem step_append_src {P : Program} {w : World} {ops : Array Oper} {o : Oper} {a : Act} {K : Act → World → Prop} {Q : Exit → Act → World → Prop} {E : Prop} (hgd : o.guard = none) (s x : Operand) (t : TypeId)
    (ho : o.op = .call { callee := .builtin .append, args := #[s, x], argTypes := #[t, t] })
    (base : Nat) (e : TypeId) (i : TypeInfo) (z : Value) (size bytes : Nat) (ht : P.underlying t = some (.slice e)) (hi : P.info? e = some i) (hz : i.zero = some z)
    (hsize : i.size = size) (hby : i.bytes = bytes) (hzs : z.cells.size = size) (hsz : 0 < size)
    (g0 n c0 : Nat) (xs : List Value) (hs : a.eval s = .slice (some ⟨g0, 0, none⟩) n c0) (hown : w.ownsRow base e size (.slice (some ⟨g0, 0, none⟩) n c0) n xs)
    (v2 : Value) (base2 m : Nat) (news : List Value) (hx : a.eval x = v2) (hsrc : w.ownsRow base2 e size v2 m news) (h1 : ∀ u ∈ news, u.oneCell' = true)
    (h63 : n + m ≤ maxLen) (hbytes : (n + m) * bytes ≤ 140737488355328) (hbase : base ≤ w.heap.size)
    (h : ∀ g cap w', w'.ownsRow base e size (.slice (some ⟨g, 0, none⟩) (n + m) cap) (n + m) (xs ++ news) → w.grownBy w' (some g0) → (g = g0 ∨ g = w.heap.size) → g < w'.heap.size → K (a.put o.dst (.slice (some ⟨g, 0, none⟩) (n + m) cap)) w') :
    if Region.wanted o (yielded ops a.tmps) = true then Oper.wp P o a w K Q else E := by
  have hw : Region.wanted o (yielded ops a.tmps) = true := by simp [Region.wanted, hgd]
  rw [if_pos hw]
  exact wp_append_src s x t ho base e i z size bytes ht hi hz hsize hby hzs hsz g0 n c0 xs hs hown v2 base2 m news hx hsrc h1 h63 hbytes hbase h

theorem empty_row (w : World) (E size : Nat) : (w.alloc (.cells #[] E)).ownsRow w.heap.size E size (.slice (some ⟨w.heap.size, 0, none⟩) 0 0) 0 [] := World.ownsRow_made w #[] 0 (Nat.le_refl _) (by decide) (by simp)

end Go.Proofs.YtmiaibpdeofokaaGreatDoor
/-
  package history: Cut, Before, Attempts, StateOf, Writes BY THEIR CONTRACTS.
-/
namespace Go.Proofs.YtmiaibpdeofokaaGreatDoor
set_option linter.unusedVariables false
set_option linter.unusedSimpArgs false
open Go.RowKit Go.Maps
attribute [local go_sem] Oper.semAt_some

/-! ### Plain data -/
def cutS (a : Int) (l : List EvD) : List EvD := l.filter fun e => decide (e.a = a)
def befS (a b : Int) : Bool → List EvD → Bool
  | _, [] => false
  | en, e :: l => if e.k = 1 ∧ e.a = b then en else befS a b (en || (decide (e.a = a) && (decide (e.k = 8) || decide (e.k = 9)))) l
theorem cutS_snoc {a : Int} {l : List EvD} {k : Nat} (hk : k < l.length) : cutS a (l.take (k + 1)) = if l[k].a = a then cutS a (l.take k) ++ [l[k]] else cutS a (l.take k) := by
  unfold cutS
  rw [List.take_succ_eq_append_getElem hk, List.filter_append]
  by_cases h : l[k].a = a
  · simp [h]
  · simp [h]
theorem cutS_le (a : Int) (l : List EvD) : (cutS a l).length ≤ l.length := List.length_filter_le _ _
theorem take_le' {α : Type} (l : List α) (k : Nat) : (l.take k).length ≤ k := by simp; omega

theorem Tryz.info_ev : (Tryz.prog.info? 50).map (fun i => (i.zero, i.size, i.bytes)) = some (some (.agg #[.int .u8 0, .int .i64 0, .int .i64 0, .int .u64 0]), 4, 32) := by kernel_rfl
theorem Tryz.info_int : (Tryz.prog.info? 3).map (fun i => (i.zero, i.size, i.bytes)) = some (some (.int .i64 0), 1, 8) := by kernel_rfl

/-- A row of events of one's own. -/
abbrev evOwn (w : World) (B : Nat) (v : Value) (l : List EvD) : Prop := w.ownsRow B 50 4 v l.length (l.flatMap EvD.cells)

end Go.Proofs.YtmiaibpdeofokaaGreatDoor
/-
  package history: Attempts, StateOf BY THEIR CONTRACTS.
-/
namespace Go.Proofs.YtmiaibpdeofokaaGreatDoor
set_option linter.unusedVariables false
set_option linter.unusedSimpArgs false
open Go.RowKit Go.Maps
attribute [local go_sem] Oper.semAt_some

/-! ### Plain data -/
def attStep (acc : List Int) (e : EvD) : List Int := if e.k = 1 ∧ ¬ e.a ∈ acc then acc ++ [e.a] else acc
def attS (l : List EvD) : List Int := l.foldl attStep []
theorem attS_snoc {l : List EvD} {k : Nat} (hk : k < l.length) : attS (l.take (k + 1)) = attStep (attS (l.take k)) l[k] := by
  unfold attS
  rw [List.take_succ_eq_append_getElem hk, List.foldl_append]
  rfl
theorem att_le (l : List EvD) : ∀ acc : List Int, (l.foldl attStep acc).length ≤ acc.length + l.length := by
  induction l with
  | nil => intro acc; simp
  | cons e l ih =>
    intro acc
    rw [List.foldl_cons]
    have h1 := ih (attStep acc e)
    have h2 : (attStep acc e).length ≤ acc.length + 1 := by unfold attStep; split <;> simp
    simp only [List.length_cons]
    omega
theorem attS_le (l : List EvD) : (attS l).length ≤ l.length := by have := att_le l []; simpa [attS] using this
theorem att_wf (l : List EvD) (h : ∀ e ∈ l, e.Wf) : ∀ acc : List Int, (∀ a ∈ acc, W64 a) → ∀ a ∈ l.foldl attStep acc, W64 a := by
  induction l with
  | nil => intro acc ha; exact ha
  | cons e l ih =>
    intro acc ha
    rw [List.foldl_cons]
    refine ih (fun e' he' => h e' (List.mem_cons_of_mem _ he')) _ ?_
    intro a hm
    unfold attStep at hm
    split at hm
    · rw [List.mem_append] at hm
      rcases hm with hm | hm
      · exact ha a hm
      · simp at hm; rw [hm]; exact (h e (by simp)).a
    · exact ha a hm
theorem attS_wf {l : List EvD} (h : ∀ e ∈ l, e.Wf) : ∀ a ∈ attS l, W64 a := att_wf l h [] (by simp)
def setF (acc : List Int) : Int → Option Value := fun x => if x ∈ acc then some (.agg #[]) else none
theorem setF_snoc (acc : List Int) (a : Int) : updF (setF acc) a (.agg #[]) = setF (acc ++ [a]) := by
  funext x
  unfold updF setF
  by_cases h : x = a
  · simp [h]
  · simp [h]
theorem MapF.mono {w : World} {b n m : Nat} {F : Int → Option Value} (h : MapF w b n F) (hn : n ≤ m) : MapF w b m F := by
  obtain ⟨D, hD, r⟩ := h; exact ⟨D, hD.mono hn, r⟩
abbrev intOwn (w : World) (B : Nat) (v : Value) (l : List Int) : Prop := w.ownsRow B 3 1 v l.length (l.map (Value.int .i64))

set_option maxRecDepth 100000 in
set_option maxHeartbeats 2000000 in
theorem attempts_any {w : World} {ao : Option Addr} {cap : Nat} {l : List EvD} (hr : EvRow w (.slice ao l.length cap) l) (hl : l.length ≤ 1000) (hwf : ∀ e ∈ l, e.Wf) :
    Calls Tryz.prog 40 #[.slice ao l.length cap] w fun x w' => ∃ v, x = .returned v ∧ intOwn w' w.heap.size v (attS l) ∧ Touch w w' [] := by
  have hmm := @run_makeMap Tryz.prog
  obtain ⟨N, hN⟩ : ∃ N, N = l.length := ⟨_, rfl⟩
  have HN : Hid (N = l.length) := hN
  have HR : Hid (EvRow w (.slice ao l.length cap) l) := hr
  have HW : Hid _ := hwf
  obtain ⟨i0, hi, hz0, hz1, hz2⟩ := info_parts Tryz.info_int
  rw [← hN] at hl ⊢
  have HM0 : Hid (MapF (w.alloc (.map #[] 0)) w.heap.size 0 (fun _ => none)) := MapF.made w
  have HT0 : Hid (Touch w (w.alloc (.map #[] 0)) []) := (Touch.refl w []).alloc _
  clear hN hr hwf
  go_enter Tryz.func40, Tryz.ntmps40
  go_wp2_with fail
  go_loopw [3, 12] (fun v i wr => ∃ k : Nat, i = .int .i64 k ∧ k ≤ N ∧ intOwn wr w.heap.size v (attS (l.take k)) ∧ MapF wr w.heap.size k (setF (attS (l.take k))) ∧ Touch w wr []) (fun _ i _ => N - (intOf i).toNat)
  case atStart => exact ⟨0, rfl, Nat.zero_le _, World.ownsRow_nil _ _ _ _, HM0.out, HT0.out⟩
  case round =>
    obtain ⟨k, rfl, hk, hrow, hmp, hT⟩ := hrel
    have HT : Hid _ := hT
    have hts := hT.size
    by_cases hlt : k < N
    ·
      have h1 : (k : Int) < N := by omega
      have h0 : (0 : Int) ≤ k := by omega
      have hkl : k < l.length := by rw [← HN.out]; exact hlt
      obtain ⟨g, off, rfl, hg, m0, m1, m2, m3⟩ := HR.out.one k hkl
      have d0 := (hT.cell (p := ⟨g, off + k * 4, none⟩) hg (by simp)).trans m0
      have d1 := (hT.cell (p := ⟨g, off + k * 4 + 1, none⟩) hg (by simp)).trans m1
      have d2 := (hT.cell (p := ⟨g, off + k * 4 + 2, none⟩) hg (by simp)).trans m2
      have d3 := (hT.cell (p := ⟨g, off + k * 4 + 3, none⟩) hg (by simp)).trans m3
      have hwe := HW.out _ (List.getElem_mem hkl)
      have hsn := attS_snoc hkl
      have hle := Nat.le_trans (attS_le (l.take k)) (take_le' l k)
      obtain ⟨e, he⟩ : ∃ e, e = l[k] := ⟨_, rfl⟩
      rw [← he] at d0 d1 d2 d3 hwe hsn
      have T1 : Touch wr (wr.alloc e.obj) [] := (Touch.refl wr []).alloc _
      have hlk := (hmp.touch T1 (by simp)).lookOk Tryz.underlying104 (z := .agg #[]) (by kernel_rfl) hwe.a
      have HSN : Hid _ := hsn
      have HT1 : Hid _ := T1
      have HMP : Hid (MapF wr w.heap.size k (setF (attS (l.take k)))) := hmp
      clear m0 m1 m2 m3 he hT hsn hmp T1
      generalize hacc : attS (l.take k) = acc at *
      clear hacc
      by_cases hin : e.a ∈ acc
      · have e1 : setF acc e.a = some (.agg #[]) := by simp [setF, hin]
        rw [e1] at hlk
        have HR2 : Hid (intOwn ((wr.alloc e.obj).alloc (.cells #[] 105)) w.heap.size u3 (attS (l.take (k + 1)))) := by
          rw [HSN.out, attStep, if_neg (fun h => h.2 hin)]; exact (hrow.alloc _).alloc _
        have HM2 : Hid (MapF ((wr.alloc e.obj).alloc (.cells #[] 105)) w.heap.size (k + 1) (setF (attS (l.take (k + 1))))) := by
          rw [HSN.out, attStep, if_neg (fun h => h.2 hin)]
          exact (HMP.out.touch ((HT1.out).alloc _) (by simp)).mono (Nat.le_succ _)
        clear hin e1
        simp only [Option.getD_some, Option.isSome_some] at hlk
        have HT2 : Hid (Touch w ((wr.alloc e.obj).alloc (.cells #[] 105)) []) := (HT.out.trans HT1.out (by simp)).alloc _
        go_wp2
        go_roundw
        case rel => exact ⟨k + 1, by go_num, by omega, HR2.out, HM2.out, HT2.out⟩
        case measure => simp [intOf]; omega
      · have e1 : setF acc e.a = none := by simp [setF, hin]
        rw [e1] at hlk
        simp only [Option.getD_none, Option.isSome_none] at hlk
        by_cases hk1 : e.k = 1
        · have p1 : (e.k == 1) = true := by simpa using hk1
          have hT2 : Touch wr ((wr.alloc e.obj).alloc (.cells #[] 105)) [] := HT1.out.alloc _
          obtain ⟨w2, hst, hm2, hg2⟩ := (HMP.out.touch hT2 (by simp)).store Tryz.underlying104 (by unfold maxLen; omega) hwe.a (.agg #[])
          rw [setF_snoc] at hm2
          have hrow2 : w2.ownsRow w.heap.size 3 1 u3 acc.length (acc.map (Value.int .i64)) := by
            refine ownsRow_touch ((hrow.alloc _).alloc _) ((Touch.refl _ [w.heap.size]).grown hg2 (by intro q hq; cases hq; exact .inl (by simp))) (fun q hq hs => ?_)
            simp at hs
            subst hs
            rcases hrow.2 with ⟨e2, _⟩ | ⟨g', cap', cur, e2, hbg, hgo, _⟩
            · rw [e2] at hq; simp [Value.ownBlock] at hq
            · rw [e2] at hq
              simp [Value.ownBlock] at hq
              subst hq
              obtain ⟨es, c, he⟩ := HMP.out.isMapObj
              rw [hgo] at he
              cases he
          have t02 : Touch w w2 [] := (HT.out.trans hT2 (by simp)).grown hg2 (by intro q hq; cases hq; exact .inr (Nat.le_refl _))
          have HM2 : Hid (MapF w2 w.heap.size (k + 1) (setF (acc ++ [e.a]))) := hm2
          have hml := HMP.out.lt
          have hc2 : w2.cell? ⟨wr.heap.size, 1, none⟩ = some (.int .i64 e.a) := by
            have tg : Touch ((wr.alloc e.obj).alloc (.cells #[] 105)) w2 [w.heap.size] := (Touch.refl _ _).grown hg2 (by intro q hq; cases hq; exact .inl (by simp))
            have hb := (tg.block wr.heap.size (by simp; omega) (by simp; omega)).trans ((heap_alloc_old _ _ (by simp)).trans (heap_alloc_new wr e.obj))
            simp [World.cell?, hb, EvD.obj]
          have HT02 : Hid _ := t02
          have hs2 := t02.size
          have hnew : ∀ j u, [Value.int .i64 e.a][j]? = some u → (w2.alloc (.cells #[.int .i64 e.a] 3)).cell? (Addr.add ⟨w2.heap.size, 0, none⟩ j) = some u := World.news_of_block (cs := #[.int .i64 e.a]) (t := 3) (fr := (0, 0)) (heap_alloc_new w2 _)
          have HA : Hid (attS (l.take (k + 1)) = acc ++ [e.a]) := by show _ = _; rw [HSN.out, attStep, if_pos ⟨hk1, hin⟩]
          clear hm2 hg2 t02 hT2 hk1 e1 hin
          go_wp2_with (at_builtin; refine wpList_append_own _ rfl _ _ 76 rfl w.heap.size 3 i0 _ 1 8 Tryz.underlying76 hi hz0 hz1 hz2 rfl (by decide) _ _ _ rfl (hrow2.alloc _) ⟨w2.heap.size, 0, none⟩ 1 1 [.int .i64 e.a] rfl rfl hnew (by simp [Value.oneCell']) (by unfold maxLen; omega) (by omega) (by simp; omega) ?_)
          intro v' w3 hown' hgrow _
          have hbl : ∀ q, u3.ownBlock = some q → w.heap.size < q := by
            intro q hq
            rcases hrow2.2 with ⟨e, _⟩ | ⟨g, cap, cur, e, hbg, hgo, _⟩
            · rw [e] at hq; simp [Value.ownBlock] at hq
            · rw [e] at hq
              simp [Value.ownBlock] at hq
              subst hq
              rcases Nat.lt_or_ge w.heap.size g with h | h
              · exact h
              · obtain rfl : g = w.heap.size := by omega
                obtain ⟨es, c, he⟩ := HM2.out.isMapObj
                rw [hgo] at he
                cases he
          have t3 : Hid (Touch w w3 []) := (HT02.out.alloc _).grown hgrow (fun q hq => .inr (Nat.le_of_lt (hbl q hq)))
          have HM3 : Hid (MapF w3 w.heap.size (k + 1) (setF (acc ++ [e.a]))) := by
            refine HM2.out.touch (((Touch.refl w2 u3.ownBlock.toList).alloc _).grown hgrow (fun q hq => .inl (by simp [hq]))) (fun hs => ?_)
            have := hbl w.heap.size (by simpa using hs)
            omega
          have HR3 : Hid (intOwn w3 w.heap.size v' (attS (l.take (k + 1)))) := by
            show w3.ownsRow _ _ _ _ _ _
            rw [HA.out, List.length_append, List.map_append]
            simpa using hown'
          clear hown' hgrow hrow2 hnew hbl d0 d1 d2 d3
          go_wp2
          go_roundw
          case rel => exact ⟨k + 1, by go_num, by omega, HR3.out, by rw [HA.out]; exact HM3.out, t3.out⟩
          case measure => simp [intOf]; omega
        · have p1 : (e.k == 1) = false := by simpa using hk1
          have HR2 : Hid (intOwn ((wr.alloc e.obj).alloc (.cells #[] 105)) w.heap.size u3 (attS (l.take (k + 1)))) := by
            rw [HSN.out, attStep, if_neg (fun h => hk1 h.1)]; exact (hrow.alloc _).alloc _
          have HM2 : Hid (MapF ((wr.alloc e.obj).alloc (.cells #[] 105)) w.heap.size (k + 1) (setF (attS (l.take (k + 1))))) := by
            rw [HSN.out, attStep, if_neg (fun h => hk1 h.1)]
            exact (HMP.out.touch ((HT1.out).alloc _) (by simp)).mono (Nat.le_succ _)
          have HT2 : Hid (Touch w ((wr.alloc e.obj).alloc (.cells #[] 105)) []) := (HT.out.trans HT1.out (by simp)).alloc _
          clear hin e1 hk1
          go_wp2
          go_roundw
          case rel => exact ⟨k + 1, by go_num, by omega, HR2.out, HM2.out, HT2.out⟩
          case measure => simp [intOf]; omega
    · obtain rfl : k = N := by omega
      have hall : l.take k = l := by rw [HN.out, List.take_length]
      rw [hall] at hrow
      have HR2 : Hid (intOwn wr w.heap.size u3 (attS l)) := hrow
      clear hrow hT hall hmp
      go_wp2
      go_ret
      exact ⟨_, rfl, HR2.out, HT.out⟩

/-- A row of numbers that can be read. -/
theorem int_form {w : World} {B : Nat} {v : Value} {l : List Int} (h : intOwn w B v l) : ∃ ao cap, v = .slice ao l.length cap ∧ ∀ k (hk : k < l.length), ∃ g, ao = some ⟨g, 0, none⟩ ∧ g < w.heap.size ∧ w.cell? ⟨g, k, none⟩ = some (.int .i64 l[k]) := by
  rcases h.2 with ⟨e, h0⟩ | ⟨g, cap, cur, e, hb, hg, _⟩
  · exact ⟨none, 0, by rw [e, h0], fun k hk => by omega⟩
  · refine ⟨_, _, e, fun k hk => ⟨g, rfl, lt_of_heap hg, ?_⟩⟩
    subst e
    have := h.cells (g := g) rfl k (.int .i64 l[k]) (by simp [hk])
    rw [Addr.add_lit] at this
    simpa using this

/-! ### How far each is -/
def toldStep (x s : Int) (e : EvD) : Int := if e.a = x then reachS e.k s else s
def toldS (l : List EvD) (x : Int) : Int := l.foldl (toldStep x) 0
def stateS (l : List EvD) (x : Int) : Int := if x ∈ attS l then max (toldS l x) 1 else 0
theorem toldS_snoc {l : List EvD} {k : Nat} (hk : k < l.length) (x : Int) : toldS (l.take (k + 1)) x = toldStep x (toldS (l.take k) x) l[k] := by
  unfold toldS
  rw [List.take_succ_eq_append_getElem hk, List.foldl_append]
  rfl
theorem toldS_range (l : List EvD) (x : Int) : ∀ s : Int, 0 ≤ s ∧ s ≤ 4 → 0 ≤ l.foldl (toldStep x) s ∧ l.foldl (toldStep x) s ≤ 4 := by
  induction l with
  | nil => intro s h; exact h
  | cons e l ih =>
    intro s h
    rw [List.foldl_cons]
    refine ih _ ?_
    unfold toldStep reachS
    repeat' split
    all_goals omega

set_option maxRecDepth 100000 in
set_option maxHeartbeats 2000000 in
theorem states_any {w : World} {ao : Option Addr} {cap : Nat} {l : List EvD} (hr : EvRow w (.slice ao l.length cap) l) (hl : l.length ≤ 1000) (hwf : ∀ e ∈ l, e.Wf) :
    Calls Tryz.prog 63 #[.slice ao l.length cap] w fun x w' => ∃ mb n G, x = .returned (.map (some mb)) ∧ w.heap.size ≤ mb ∧ MapF w' mb n G ∧ (∀ y, (G y).getD (.int .u8 0) = .int .u8 (stateS l y)) ∧ Touch w w' [] := by
  have hmm := @run_makeMap Tryz.prog
  obtain ⟨N, hN⟩ : ∃ N, N = l.length := ⟨_, rfl⟩
  have HN : Hid (N = l.length) := hN
  have HR : Hid (EvRow w (.slice ao l.length cap) l) := hr
  have HW : Hid _ := hwf
  have HATT : Hid (∀ W, Touch w W [] → Calls Tryz.prog 40 #[.slice ao l.length cap] W fun x w' => ∃ v, x = .returned v ∧ intOwn w' W.heap.size v (attS l) ∧ Touch W w' []) := fun W t => attempts_any (SRow.keep hr t (by simp)) hl hwf
  rw [← hN] at hl HATT ⊢
  have HAW : Hid (∀ a ∈ attS l, W64 a) := attS_wf hwf
  have HM0 : Hid (MapF (w.alloc (.map #[] 0)) w.heap.size 0 (fun _ => none)) := MapF.made w
  have HT0 : Hid (Touch w (w.alloc (.map #[] 0)) []) := (Touch.refl w []).alloc _
  clear hN hr hwf
  go_enter Tryz.func63, Tryz.ntmps63
  go_wp2_with fail
  go_loopw [12] (fun i wr => ∃ k : Nat, i = .int .i64 k ∧ k ≤ N ∧ ∃ F, MapF wr w.heap.size k F ∧ (∀ y, (F y).getD (.int .u8 0) = .int .u8 (toldS (l.take k) y)) ∧ Touch w wr []) (fun i _ => N - (intOf i).toNat)
  case atStart => exact ⟨0, rfl, Nat.zero_le _, _, HM0.out, fun y => rfl, HT0.out⟩
  case round =>
    obtain ⟨k, rfl, hk, F, hmp, hF, hT⟩ := hrel
    have HT : Hid _ := hT
    have hts := hT.size
    by_cases hlt : k < N
    ·
      have h1 : (k : Int) < N := by omega
      have h0 : (0 : Int) ≤ k := by omega
      have hkl : k < l.length := by rw [← HN.out]; exact hlt
      obtain ⟨g, off, rfl, hg, m0, m1, m2, m3⟩ := HR.out.one k hkl
      have d0 := (hT.cell (p := ⟨g, off + k * 4, none⟩) hg (by simp)).trans m0
      have d1 := (hT.cell (p := ⟨g, off + k * 4 + 1, none⟩) hg (by simp)).trans m1
      have d2 := (hT.cell (p := ⟨g, off + k * 4 + 2, none⟩) hg (by simp)).trans m2
      have d3 := (hT.cell (p := ⟨g, off + k * 4 + 3, none⟩) hg (by simp)).trans m3
      have hwe := HW.out _ (List.getElem_mem hkl)
      have hsn := toldS_snoc hkl
      obtain ⟨e, he⟩ : ∃ e, e = l[k] := ⟨_, rfl⟩
      rw [← he] at d0 d1 d2 d3 hwe
      simp only [← he] at hsn
      have HT1 : Hid (Touch wr (wr.alloc e.obj) []) := (Touch.refl wr []).alloc _
      have HUP : Hid (∀ y, ((updF F e.a (.int .u8 (reachS e.k (toldS (l.take k) e.a)))) y).getD (.int .u8 0) = .int .u8 (toldS (l.take (k + 1)) y)) := fun y => by
        rw [hsn y]
        unfold toldStep
        by_cases hy : y = e.a
        · subst hy; rw [updF_same, if_pos rfl]; rfl
        · rw [updF_other F _ hy, if_neg (fun h => hy h.symm)]; exact hF y
      have HMP : Hid (MapF wr w.heap.size k F) := hmp
      have HFF : Hid _ := hF
      clear m0 m1 m2 m3 he hT hsn hmp hF
      · 
        go_wp2_with fail
        clear d0 d1 d2 d3
        have hE0 : (wr.alloc e.obj).heap[wr.heap.size]? = some e.obj := heap_alloc_new wr _
        have hkp : ∀ w' R, Touch (wr.alloc e.obj) w' R → wr.heap.size ∉ R → (w'.cell? ⟨wr.heap.size, 0, none⟩ = some (.int .u8 e.k) ∧ w'.cell? ⟨wr.heap.size, 1, none⟩ = some (.int .i64 e.a) ∧ w'.cell? ⟨wr.heap.size, 2, none⟩ = some (.int .i64 e.t) ∧ w'.cell? ⟨wr.heap.size, 3, none⟩ = some (.int .u64 e.v)) := fun w' R T hS => by
          have hb := (T.block _ (lt_of_heap hE0) hS).trans hE0
          simp [World.cell?, hb, EvD.obj]
        have hm0 : MapF (wr.alloc e.obj).drew w.heap.size k F := HMP.out.touch (HT1.out.drew) (by simp)
        have hlk := hm0.look Tryz.underlying107 (Tryz.zeroValue80 _) hwe.a
        rw [HFF.out e.a] at hlk
        have hre := reached_any e (toldS (l.take k) e.a) (wr.alloc e.obj).drew
        have HM0' : Hid (MapF (wr.alloc e.obj).drew w.heap.size k F) := hm0
        have hml := HMP.out.lt
        generalize toldS (l.take k) e.a = s0 at *
        clear hm0
        refine wp_region_held_drew (S := fun w' => w'.cell? ⟨wr.heap.size, 0, none⟩ = some (.int .u8 e.k) ∧ w'.cell? ⟨wr.heap.size, 1, none⟩ = some (.int .i64 e.a) ∧ w'.cell? ⟨wr.heap.size, 2, none⟩ = some (.int .i64 e.t) ∧ w'.cell? ⟨wr.heap.size, 3, none⟩ = some (.int .u64 e.v)) (by kernel_rfl) (hkp _ [] (Touch.refl _ _).drew (by simp)) (fun hHeld => ?_)
        refine wpAnyH_take (i := 0) (v := (.map (some w.heap.size))) rfl (by kernel_rfl) (by kernel_rfl) (by kernel_rfl) (fun _ _ _ h => h) (Or.inl ⟨by rfl, ?_⟩) hHeld ?_
        · intro w' hSw
          try simp only [Act.put, List.getElem_toArray, List.getElem_cons_succ, List.getElem_cons_zero, List.setIfInBounds_toArray, List.set_cons_zero, List.set_cons_succ]
          (obtain ⟨q0, q1, q2, q3⟩ := hSw; go_simp)
        try simp only [Act.put, List.getElem_toArray, List.getElem_cons_succ, List.getElem_cons_zero, List.setIfInBounds_toArray, List.set_cons_zero, List.set_cons_succ]
        refine wpAnyH_take (i := 1) (v := (.pointer (some ⟨wr.heap.size, 1, none⟩))) rfl (by kernel_rfl) (by kernel_rfl) (by kernel_rfl) (fun _ _ _ h => h) (Or.inl ⟨by rfl, ?_⟩) hHeld ?_
        · intro w' hSw
          try simp only [Act.put, List.getElem_toArray, List.getElem_cons_succ, List.getElem_cons_zero, List.setIfInBounds_toArray, List.set_cons_zero, List.set_cons_succ]
          (obtain ⟨q0, q1, q2, q3⟩ := hSw; go_simp)
        try simp only [Act.put, List.getElem_toArray, List.getElem_cons_succ, List.getElem_cons_zero, List.setIfInBounds_toArray, List.set_cons_zero, List.set_cons_succ]
        refine wpAnyH_take (i := 2) (v := (.int .i64 e.a)) rfl (by kernel_rfl) (by kernel_rfl) (by kernel_rfl) (fun _ _ _ h => h) (Or.inl ⟨by rfl, ?_⟩) hHeld ?_
        · intro w' hSw
          try simp only [Act.put, List.getElem_toArray, List.getElem_cons_succ, List.getElem_cons_zero, List.setIfInBounds_toArray, List.set_cons_zero, List.set_cons_succ]
          (obtain ⟨q0, q1, q2, q3⟩ := hSw; go_simp)
        try simp only [Act.put, List.getElem_toArray, List.getElem_cons_succ, List.getElem_cons_zero, List.setIfInBounds_toArray, List.set_cons_zero, List.set_cons_succ]
        refine wpAnyH_take (i := 3) (v := e.val) rfl (by kernel_rfl) (by kernel_rfl) (by kernel_rfl) (fun _ _ _ h => h) (Or.inl ⟨by rfl, ?_⟩) hHeld ?_
        · intro w' hSw
          try simp only [Act.put, List.getElem_toArray, List.getElem_cons_succ, List.getElem_cons_zero, List.setIfInBounds_toArray, List.set_cons_zero, List.set_cons_succ]
          (obtain ⟨q0, q1, q2, q3⟩ := hSw; go_simp)
        try simp only [Act.put, List.getElem_toArray, List.getElem_cons_succ, List.getElem_cons_zero, List.setIfInBounds_toArray, List.set_cons_zero, List.set_cons_succ]
        refine wpAnyH_take (i := 4) (v := (.map (some w.heap.size))) rfl (by kernel_rfl) (by kernel_rfl) (by kernel_rfl) (fun _ _ _ h => h) (Or.inl ⟨by rfl, ?_⟩) hHeld ?_
        · intro w' hSw
          try simp only [Act.put, List.getElem_toArray, List.getElem_cons_succ, List.getElem_cons_zero, List.setIfInBounds_toArray, List.set_cons_zero, List.set_cons_succ]
          (obtain ⟨q0, q1, q2, q3⟩ := hSw; go_simp)
        try simp only [Act.put, List.getElem_toArray, List.getElem_cons_succ, List.getElem_cons_zero, List.setIfInBounds_toArray, List.set_cons_zero, List.set_cons_succ]
        refine wpAnyH_take (i := 5) (v := (.pointer (some ⟨wr.heap.size, 1, none⟩))) rfl (by kernel_rfl) (by kernel_rfl) (by kernel_rfl) (fun _ _ _ h => h) (Or.inl ⟨by rfl, ?_⟩) hHeld ?_
        · intro w' hSw
          try simp only [Act.put, List.getElem_toArray, List.getElem_cons_succ, List.getElem_cons_zero, List.setIfInBounds_toArray, List.set_cons_zero, List.set_cons_succ]
          (obtain ⟨q0, q1, q2, q3⟩ := hSw; go_simp)
        try simp only [Act.put, List.getElem_toArray, List.getElem_cons_succ, List.getElem_cons_zero, List.setIfInBounds_toArray, List.set_cons_zero, List.set_cons_succ]
        refine wpAnyH_take (i := 6) (v := (.int .i64 e.a)) rfl (by kernel_rfl) (by kernel_rfl) (by kernel_rfl) (fun _ _ _ h => h) (Or.inl ⟨by rfl, ?_⟩) hHeld ?_
        · intro w' hSw
          try simp only [Act.put, List.getElem_toArray, List.getElem_cons_succ, List.getElem_cons_zero, List.setIfInBounds_toArray, List.set_cons_zero, List.set_cons_succ]
          (obtain ⟨q0, q1, q2, q3⟩ := hSw; go_simp)
        try simp only [Act.put, List.getElem_toArray, List.getElem_cons_succ, List.getElem_cons_zero, List.setIfInBounds_toArray, List.set_cons_zero, List.set_cons_succ]
        clear hHeld
        refine wpAnyH_ready (rs := [7]) (by kernel_rfl) (by simp) (AllReadyH.cons rfl (fun K hK => ?_) AllReadyH.nil)
        rw [if_pos (by rfl)]
        go_simp
        refine hK.out _ _ (hkp _ [] (Touch.refl _ _).drew (by simp)) (fun hHeld => ?_)
        clear hK
        try simp only [Act.put, List.getElem_toArray, List.getElem_cons_succ, List.getElem_cons_zero, List.setIfInBounds_toArray, List.set_cons_zero, List.set_cons_succ]
        clear hHeld
        refine wpAnyH_ready (rs := [8]) (by kernel_rfl) (by simp) (AllReadyH.cons rfl (fun K hK => ?_) AllReadyH.nil)
        rw [if_pos (by rfl)]
        go_simp
        refine hre.mono ?_
        rintro x w3 ⟨rfl, t3⟩
        have t3' : Touch (wr.alloc e.obj) w3 [] := (Touch.refl _ _).drew.trans t3 (by simp)
        go_simp
        refine hK.out _ _ (hkp _ [] t3' (by simp)) (fun hHeld => ?_)
        clear hK
        try simp only [Act.put, List.getElem_toArray, List.getElem_cons_succ, List.getElem_cons_zero, List.setIfInBounds_toArray, List.set_cons_zero, List.set_cons_succ]
        obtain ⟨w4, hst4, hm4, hg4⟩ := (HM0'.out.touch t3 (by simp)).store Tryz.underlying107 (by unfold maxLen; omega) hwe.a (.int .u8 (reachS e.k s0))
        have t4 : Touch (wr.alloc e.obj) w4 [w.heap.size] := (t3'.mono (by simp)).grown hg4 (by intro k hk; cases hk; exact .inl (by simp))
        have HM4 : Hid (MapF w4 w.heap.size (k + 1) (updF F e.a (.int .u8 (reachS e.k s0)))) := hm4
        have HT4 : Hid (Touch w w4 []) := (HT.out.trans HT1.out (by simp)).trans t4 (fun x hx => by simp at hx; exact .inr (by omega))
        clear hm4 hg4 hre hlk
        clear hHeld
        refine wpAnyH_ready (rs := [9]) (by kernel_rfl) (by simp) (AllReadyH.cons rfl (fun K hK => ?_) AllReadyH.nil)
        rw [if_pos (by rfl)]
        go_simp
        refine hK.out _ _ (hkp _ _ t4 (by simp; omega)) (fun hHeld => ?_)
        clear hK
        try simp only [Act.put, List.getElem_toArray, List.getElem_cons_succ, List.getElem_cons_zero, List.setIfInBounds_toArray, List.set_cons_zero, List.set_cons_succ]
        clear hHeld
        refine wpAnyH_done (by kernel_rfl) ?_ _
        clear hst4 t3' t4 hkp
        go_wp2
        go_roundw
        case rel => exact ⟨k + 1, by go_num, by omega, _, HM4.out, HUP.out, HT4.out⟩
        case measure => simp [intOf]; omega
    · obtain rfl : k = N := by omega
      have hall : l.take k = l := by rw [HN.out, List.take_length]
      rw [hall] at hF
      have HMP : Hid (MapF wr w.heap.size k F) := hmp
      have HFF : Hid _ := hF
      clear hT hall hmp hF HM0
      have HT2 : Hid (Touch w (wr.alloc (.map #[] 0)) []) := HT.out.alloc _
      have hatt := HATT.out _ HT2.out
      clear HATT
      have hsz : w.heap.size < wr.heap.size := HMP.out.lt
      go_wp2_with fail
      refine hatt.mono ?_
      rintro x w2 ⟨v2, rfl, hrow2, t2⟩
      clear hatt
      obtain ⟨ao2, cap2, rfl, hcell⟩ := int_form hrow2
      have hMl := attS_le l
      obtain ⟨M, hM⟩ : ∃ M, M = (attS l).length := ⟨_, rfl⟩
      have HMM : Hid _ := hM
      rw [← hM] at hMl
      rw [← HN.out] at hMl
      have HC : Hid _ := hcell
      rw [← hM]
      have hm2 := (MapF.made wr).touch t2 (by simp)
      have HM20 : Hid (MapF w2 wr.heap.size 0 (fun _ => none)) := hm2
      have HT20 : Hid (Touch w w2 []) := HT2.out.trans t2 (by simp)
      have HMP2 : Hid (MapF w2 w.heap.size k F) := (HMP.out.touch ((Touch.refl wr []).alloc _) (by simp)).touch t2 (by simp)
      have hs2 := t2.size
      rw [World.size_alloc] at hs2
      have HB2 : Hid (∀ g, ao2 = some ⟨g, 0, none⟩ → wr.heap.size < g) := fun g hg => by
        have := (hrow2.lt g (by rw [hg]; rfl)).1
        simp at this; omega
      clear hM hcell hm2 t2 hrow2 HT2 HMP
      go_wp2_with fail
      generalize hmb : wr.heap.size = mb2 at *
      clear hmb
      go_loopw [30] (fun i wr => ∃ j : Nat, i = .int .i64 j ∧ j ≤ M ∧ ∃ G, MapF wr mb2 j G ∧ MapF wr w.heap.size k F ∧ (∀ y, (G y).getD (.int .u8 0) = .int .u8 (if y ∈ (attS l).take j then max (toldS l y) 1 else 0)) ∧ Touch w wr [] ∧ Touch w2 wr [mb2]) (fun i _ => M - (intOf i).toNat)
      case atStart => exact ⟨0, rfl, Nat.zero_le _, _, HM20.out, HMP2.out, fun y => by simp, HT20.out, Touch.refl _ _⟩
      case round =>
        obtain ⟨j, rfl, hj, G, hG, hFm, hGy, tx, tx2⟩ := hrel
        have TX : Hid _ := tx
        by_cases hjt : j < M
        · have h1 : (j : Int) < M := by omega
          have h0 : (0 : Int) ≤ j := by omega
          have hjl : j < (attS l).length := by rw [← HMM.out]; exact hjt
          obtain ⟨g, rfl, hg, hcg⟩ := HC.out j hjl
          have hgb := HB2.out g rfl
          have d0 := (tx2.cell (p := ⟨g, j, none⟩) hg (by simp; omega)).trans hcg
          have hsn : (attS l).take (j + 1) = (attS l).take j ++ [(attS l)[j]] := List.take_succ_eq_append_getElem hjl
          obtain ⟨a, ha⟩ : ∃ a, a = (attS l)[j] := ⟨_, rfl⟩
          rw [← ha] at d0 hsn
          have haw : W64 a := HAW.out a (by rw [ha]; exact List.getElem_mem _)
          have hlk := hFm.look Tryz.underlying107 (Tryz.zeroValue80 _) haw
          rw [HFF.out a] at hlk
          obtain ⟨w4, hst4, hm4, hg4⟩ := hG.store Tryz.underlying107 (by unfold maxLen; omega) haw (.int .u8 (max (toldS l a) 1))
          have hG4 : ∀ y, ((updF G a (.int .u8 (max (toldS l a) 1))) y).getD (.int .u8 0) = .int .u8 (if y ∈ (attS l).take (j + 1) then max (toldS l y) 1 else 0) := fun y => by
            rw [hsn]
            by_cases hy : y = a
            · subst hy; rw [updF_same, if_pos (by simp)]; rfl
            · rw [updF_other G _ hy, hGy y]
              simp [hy]
          have tg : Touch wr w4 [mb2] := (Touch.refl wr _).grown hg4 (by intro q hq; cases hq; exact .inl (by simp))
          have HM4 : Hid (MapF w4 mb2 (j + 1) (updF G a (.int .u8 (max (toldS l a) 1)))) := hm4
          have HF4 : Hid (MapF w4 w.heap.size k F) := hFm.touch tg (by simp; omega)
          have HG4 : Hid _ := hG4
          have HT4 : Hid (Touch w w4 []) := tx.trans tg (by intro x hx; simp at hx; exact .inr (by omega))
          have HT5 : Hid (Touch w2 w4 [mb2]) := tx2.trans tg (by intro x hx; exact .inl hx)
          obtain ⟨h0s, h4s⟩ := toldS_range l a 0 (by omega)
          have hmax : ∃ m, m = max (toldS l a) 1 := ⟨_, rfl⟩
          obtain ⟨m, hm⟩ := hmax
          rw [← hm] at hst4
          have hmx : (toldS l a < 1 ∧ m = 1) ∨ (¬ toldS l a < 1 ∧ m = toldS l a) := by omega
          change 0 ≤ toldS l a at h0s
          generalize toldS l a = s0 at *
          clear hm4 hg4 hG4 hG hFm hGy tx tx2 hcg hsn ha hm
          rcases hmx with ⟨hlt1, rfl⟩ | ⟨hlt1, rfl⟩
          all_goals
            go_wp2
            go_roundw
            case rel => exact ⟨j + 1, by go_num, by omega, _, HM4.out, HF4.out, HG4.out, HT4.out, HT5.out⟩
            case measure => simp [intOf]; omega
        · obtain rfl : j = M := by omega
          have hall : (attS l).take j = attS l := by rw [HMM.out, List.take_length]
          rw [hall] at hGy
          have HG4 : Hid (∀ y, (G y).getD (.int .u8 0) = .int .u8 (stateS l y)) := hGy
          have HM4 : Hid (MapF wr mb2 j G) := hG
          clear hG hFm hGy tx tx2 hall
          go_wp2
          go_ret
          exact ⟨mb2, j, G, rfl, by omega, HM4.out, HG4.out, TX.out⟩

end Go.Proofs.YtmiaibpdeofokaaGreatDoor
/-
  package history: StateOf, Writes BY THEIR CONTRACTS.
-/
namespace Go.Proofs.YtmiaibpdeofokaaGreatDoor
set_option linter.unusedVariables false
set_option linter.unusedSimpArgs false
open Go.RowKit Go.Maps
attribute [local go_sem] Oper.semAt_some

/-- A log behind events. -/
def noteAll (Fs : List Fr) (l : List EvD) : List Fr := l.foldl (fun Fs e => (noteS Fs e).2) Fs
theorem noteAll_snoc {Fs : List Fr} {l : List EvD} {k : Nat} (hk : k < l.length) : noteAll Fs (l.take (k + 1)) = (noteS (noteAll Fs (l.take k)) l[k]).2 := by
  unfold noteAll
  rw [List.take_succ_eq_append_getElem hk, List.foldl_append]
  rfl

/-- A row of events of its own, read. -/
theorem ev_form {w : World} {B : Nat} {v : Value} {l : List EvD} (h : evOwn w B v l) : ∃ ao cap, v = .slice ao l.length cap ∧ ∀ k (hk : k < l.length), ∃ g, ao = some ⟨g, 0, none⟩ ∧ B ≤ g ∧ g < w.heap.size ∧ w.cell? ⟨g, k * 4, none⟩ = some (.int .u8 l[k].k) ∧ w.cell? ⟨g, k * 4 + 1, none⟩ = some (.int .i64 l[k].a) ∧ w.cell? ⟨g, k * 4 + 2, none⟩ = some (.int .i64 l[k].t) ∧ w.cell? ⟨g, k * 4 + 3, none⟩ = some (.int .u64 l[k].v) := by
  have hfl : ∀ (l : List EvD) (k : Nat) (hk : k < l.length) (j : Nat), j < 4 → (l.flatMap EvD.cells)[k * 4 + j]? = (EvD.cells l[k])[j]? := by
    intro l
    induction l with
    | nil => intro k hk; simp at hk
    | cons e l ih =>
      intro k hk j hj
      rw [List.flatMap_cons]
      cases k with
      | zero => rw [List.getElem?_append_left (by simp [EvD.cells]; omega)]; simp
      | succ k =>
        rw [List.getElem?_append_right (by simp [EvD.cells]; omega)]
        have := ih k (by simpa using hk) j hj
        rw [show (k + 1) * 4 + j - (EvD.cells e).length = k * 4 + j by simp [EvD.cells]; omega, this]
        simp
  rcases h.2 with ⟨e, h0⟩ | ⟨g, cap, cur, e, hb, hg, _⟩
  · exact ⟨none, 0, by rw [e, h0], fun k hk => by omega⟩
  · subst e
    refine ⟨_, _, rfl, fun k hk => ⟨g, rfl, hb, lt_of_heap hg, ?_⟩⟩
    have hc : ∀ j, j < 4 → ∀ u, (EvD.cells l[k])[j]? = some u → w.cell? ⟨g, k * 4 + j, none⟩ = some u := fun j hj u hu => by
      have := h.cells (g := g) rfl (k * 4 + j) u (by rw [hfl l k hk j hj]; exact hu)
      rw [Addr.add_lit] at this
      simpa using this
    exact ⟨by simpa using hc 0 (by omega) _ rfl, hc 1 (by omega) _ rfl, hc 2 (by omega) _ rfl, hc 3 (by omega) _ rfl⟩

theorem cutS_wf {l : List EvD} (h : ∀ e ∈ l, e.Wf) (a : Int) : ∀ e ∈ cutS a l, e.Wf := fun e he => h e (List.mem_filter.1 he).1

end Go.Proofs.YtmiaibpdeofokaaGreatDoor
/-
  RIGHT EVENTS: what was before; Before is an order. No walk.
-/
namespace Go.Proofs.YtmiaibpdeofokaaGreatDoor
set_option linter.unusedVariables false
set_option linter.unusedSimpArgs false

abbrev M0 : CM := fun _ => none
/-- Right events, one behind the other. -/
theorem run_at {l : List EvD} {M : CM} (h : runC M0 l = some M) (i : Nat) (hi : i ≤ l.length) : ∃ Mi, runC M0 (l.take i) = some Mi := by
  have e : l = l.take i ++ l.drop i := (List.take_append_drop _ _).symm
  rw [e, runC_app] at h
  cases hq : runC M0 (l.take i) with
  | none => rw [hq] at h; cases h
  | some Mi => exact ⟨Mi, rfl⟩
theorem step_at {l : List EvD} {M : CM} (h : runC M0 l = some M) (i : Nat) (hi : i < l.length) : ∃ Mi Mj, runC M0 (l.take i) = some Mi ∧ runC M0 (l.take (i + 1)) = some Mj ∧ stepC Mi l[i] = some Mj := by
  obtain ⟨Mi, h1⟩ := run_at h i (by omega)
  obtain ⟨Mj, h2⟩ := run_at h (i + 1) (by omega)
  refine ⟨Mi, Mj, h1, h2, ?_⟩
  rw [← runC_snoc hi h1]
  exact h2

theorem step_parts {M M' : CM} {e : EvD} (h : stepC M e = some M') : ∃ st Fs, behindS (stC M e.a) (fsC M e.a) e = some (st, Fs) ∧ M' = updF M e.a (st, Fs) ∧ 1 ≤ st ∧ (0 ≤ e.a ∧ e.a < 64) := by
  unfold stepC at h
  split at h
  · rename_i ha
    cases hq : behindS (stC M e.a) (fsC M e.a) e with
    | none => rw [hq] at h; cases h
    | some r =>
      rw [hq] at h
      simp at h
      obtain ⟨st, Fs⟩ := r
      exact ⟨st, Fs, rfl, h.symm, behindS_pos hq, ha⟩
  · cases h
theorem stC_upd_same (M : CM) (a : Int) (r : Int × List Fr) : stC (updF M a r) a = r.1 := by unfold stC; rw [updF_same]; rfl
theorem fsC_upd_same (M : CM) (a : Int) (r : Int × List Fr) : fsC (updF M a r) a = r.2 := by unfold fsC; rw [updF_same]; rfl
theorem stC_upd_other (M : CM) {a b : Int} (r : Int × List Fr) (h : b ≠ a) : stC (updF M a r) b = stC M b := by unfold stC; rw [updF_other M r h]
theorem fsC_upd_other (M : CM) {a b : Int} (r : Int × List Fr) (h : b ≠ a) : fsC (updF M a r) b = fsC M b := by unfold fsC; rw [updF_other M r h]

/-- What can't come of one that has not begun; Began of one that has. -/
theorem behind_zero {Fs : List Fr} {e : EvD} {r : Int × List Fr} (h : behindS 0 Fs e = some r) : e.k = 1 := by
  unfold behindS at h
  split at h
  · cases h
  · split at h
    · assumption
    · exfalso
      split at h
      · rw [if_neg (by omega)] at h; cases h
      · split at h
        · rw [if_neg (by omega)] at h; cases h
        · split at h
          · rw [if_neg (by omega)] at h; cases h
          · split at h
            · rw [if_neg (by omega)] at h; cases h
            · cases h
theorem behind_began {st : Int} {Fs : List Fr} {e : EvD} {r : Int × List Fr} (h : behindS st Fs e = some r) (hk : e.k = 1) : st = 0 ∧ r = (1, [f0]) := by
  unfold behindS at h
  split at h
  · cases h
  · try rw [if_pos hk] at h
    split at h
    · simp at h; exact ⟨by assumption, h.symm⟩
    · cases h

/-- What is 0 has had no event; what is not has begun. -/
theorem zero_none {l : List EvD} : ∀ (n : Nat) {M : CM}, runC M0 (l.take n) = some M → n ≤ l.length → ∀ a, stC M a = 0 → ∀ j (hj : j < l.length), j < n → l[j].a ≠ a := by
  intro n
  induction n with
  | zero => intro M h hn a h0 j hj hjn; omega
  | succ n ih =>
    intro M h hn a h0 j hj hjn e
    obtain ⟨Mi, Mj, h1, h2, h3⟩ := step_at (l := l.take (n + 1)) h n (by simp; omega)
    have hl : (l.take (n + 1)).take n = l.take n := by rw [List.take_take]; congr 1; omega
    have hl2 : (l.take (n + 1)).take (n + 1) = l.take (n + 1) := by rw [List.take_take]; congr 1; omega
    rw [hl] at h1
    rw [hl2, h] at h2
    cases h2
    have he : (l.take (n + 1))[n]'(by simp; omega) = l[n] := by simp
    rw [he] at h3
    obtain ⟨st, Fs, hb, rfl, hpos, _⟩ := step_parts h3
    by_cases hjn' : j = n
    · subst hjn'
      rw [← e, stC_upd_same] at h0
      simp at h0
      omega
    · by_cases hna : l[n].a = a
      · rw [← hna, stC_upd_same] at h0; simp at h0; omega
      · rw [stC_upd_other _ _ (fun h => hna h.symm)] at h0
        exact ih h1 (by omega) a h0 j hj (by omega) e
theorem pos_began {l : List EvD} : ∀ (n : Nat) {M : CM}, runC M0 (l.take n) = some M → n ≤ l.length → ∀ a, stC M a ≠ 0 → ∃ j, ∃ hj : j < l.length, j < n ∧ l[j].k = 1 ∧ l[j].a = a := by
  intro n
  induction n with
  | zero => intro M h hn a h0; simp [runC] at h; rw [← h] at h0; exact absurd rfl h0
  | succ n ih =>
    intro M h hn a h0
    obtain ⟨Mi, Mj, h1, h2, h3⟩ := step_at (l := l.take (n + 1)) h n (by simp; omega)
    have hl : (l.take (n + 1)).take n = l.take n := by rw [List.take_take]; congr 1; omega
    have hl2 : (l.take (n + 1)).take (n + 1) = l.take (n + 1) := by rw [List.take_take]; congr 1; omega
    rw [hl] at h1
    rw [hl2, h] at h2
    cases h2
    have he : (l.take (n + 1))[n]'(by simp; omega) = l[n] := by simp
    rw [he] at h3
    obtain ⟨st, Fs, hb, rfl, hpos, _⟩ := step_parts h3
    by_cases hna : l[n].a = a
    · by_cases hz : stC Mi l[n].a = 0
      · rw [hz] at hb
        exact ⟨n, by omega, by omega, behind_zero hb, hna⟩
      · obtain ⟨j, hj, hjn, h4, h5⟩ := ih h1 (by omega) l[n].a hz
        exact ⟨j, hj, by omega, h4, h5.trans hna⟩
    · rw [stC_upd_other _ _ (fun h => hna h.symm)] at h0
      obtain ⟨j, hj, hjn, h4, h5⟩ := ih h1 (by omega) a h0
      exact ⟨j, hj, by omega, h4, h5⟩

/-- Began is an attempt's first event. -/
theorem began_first {l : List EvD} {M : CM} (h : runC M0 l = some M) {i : Nat} (hi : i < l.length) (hk : l[i].k = 1) : ∀ j (hj : j < l.length), j < i → l[j].a ≠ l[i].a := by
  obtain ⟨Mi, Mj, h1, h2, h3⟩ := step_at h i hi
  obtain ⟨st, Fs, hb, _, _, _⟩ := step_parts h3
  exact zero_none i h1 (by omega) _ (behind_began hb hk).1
/-- What is no Began has one ahead. -/
theorem began_ahead {l : List EvD} {M : CM} (h : runC M0 l = some M) {i : Nat} (hi : i < l.length) (hk : l[i].k ≠ 1) : ∃ j, ∃ hj : j < l.length, j < i ∧ l[j].k = 1 ∧ l[j].a = l[i].a := by
  obtain ⟨Mi, Mj, h1, h2, h3⟩ := step_at h i hi
  obtain ⟨st, Fs, hb, _, _, _⟩ := step_parts h3
  refine pos_began i h1 (by omega) _ (fun h0 => ?_)
  rw [h0] at hb
  exact hk (behind_zero hb)

/-- Before, by places. -/
theorem bef_iff (a b : Int) (l : List EvD) : ∀ en, befS a b en l = true ↔ ∃ i, ∃ hi : i < l.length, l[i].k = 1 ∧ l[i].a = b ∧ (∀ j (hj : j < l.length), j < i → ¬ (l[j].k = 1 ∧ l[j].a = b)) ∧ (en = true ∨ ∃ j, ∃ hj : j < l.length, j < i ∧ l[j].a = a ∧ (l[j].k = 8 ∨ l[j].k = 9)) := by
  induction l with
  | nil => intro en; simp [befS]
  | cons e l ih =>
    intro en
    unfold befS
    by_cases h : e.k = 1 ∧ e.a = b
    · rw [if_pos h]
      constructor
      · intro he; exact ⟨0, by simp, h.1, h.2, by intro j hj h0; omega, .inl he⟩
      · rintro ⟨i, hi, h1, h2, h3, h4⟩
        cases i with
        | zero =>
          rcases h4 with h4 | ⟨j, hj, hj0, _⟩
          · exact h4
          · omega
        | succ i => exact absurd h (h3 0 (by simp) (by omega))
    · rw [if_neg h, ih]
      constructor
      · rintro ⟨i, hi, h1, h2, h3, h4⟩
        refine ⟨i + 1, by simpa using hi, by simpa using h1, by simpa using h2, ?_, ?_⟩
        · intro j hj hji
          cases j with
          | zero => simpa using h
          | succ j => simpa using h3 j (by simpa using hj) (by omega)
        · rcases h4 with h4 | ⟨j, hj, hji, h5, h6⟩
          · simp at h4
            rcases h4 with h4 | ⟨h5, h6⟩
            · exact .inl h4
            · exact .inr ⟨0, by simp, by omega, by simpa using h5, by simpa using h6⟩
          · exact .inr ⟨j + 1, by simpa using hj, by omega, by simpa using h5, by simpa using h6⟩
      · rintro ⟨i, hi, h1, h2, h3, h4⟩
        cases i with
        | zero => exact absurd ⟨by simpa using h1, by simpa using h2⟩ h
        | succ i =>
          refine ⟨i, by simpa using hi, by simpa using h1, by simpa using h2, ?_, ?_⟩
          · intro j hj hji
            exact h3 (j + 1) (by simpa using hj) (by omega)
          · rcases h4 with h4 | ⟨j, hj, hji, h5, h6⟩
            · exact .inl (by simp [h4])
            · cases j with
              | zero =>
                left
                simp at h5 h6
                simp [h5, h6]
              | succ j => exact .inr ⟨j, by simpa using hj, by omega, by simpa using h5, by simpa using h6⟩

theorem bef_self {l : List EvD} {M : CM} (h : runC M0 l = some M) (a : Int) : befS a a false l = false := by
  rw [Bool.eq_false_iff]
  intro hb
  obtain ⟨i, hi, h1, h2, h3, h4⟩ := (bef_iff a a l false).1 hb
  rcases h4 with h4 | ⟨j, hj, hji, h5, h6⟩
  · cases h4
  · exact began_first h hi h1 j hj hji (h5.trans h2.symm)
/-- What had ended had begun ahead. -/
theorem end_began {l : List EvD} {M : CM} (h : runC M0 l = some M) {a : Int} {j : Nat} (hj : j < l.length) (ha : l[j].a = a) (hk : l[j].k = 8 ∨ l[j].k = 9) {i : Nat} (hi : i < l.length) (h1 : l[i].k = 1) (h2 : l[i].a = a) : i < j := by
  obtain ⟨i', hi', hlt, h3, h4⟩ := began_ahead h hj (by omega)
  rcases Nat.lt_trichotomy i i' with h5 | h5 | h5
  · exact absurd (h2.trans (ha.symm.trans h4.symm)) (began_first h hi' h3 i hi h5)
  · omega
  · exact absurd (h4.trans (ha.trans h2.symm)) (began_first h hi h1 i' hi' h5)
theorem bef_anti {l : List EvD} {M : CM} (h : runC M0 l = some M) {a b : Int} (hab : befS a b false l = true) : befS b a false l = false := by
  rw [Bool.eq_false_iff]
  intro hba
  obtain ⟨i, hi, h1, h2, h3, h4⟩ := (bef_iff a b l false).1 hab
  obtain ⟨i', hi', h1', h2', h3', h4'⟩ := (bef_iff b a l false).1 hba
  rcases h4 with h4 | ⟨j, hj, hji, h5, h6⟩
  · cases h4
  · rcases h4' with h4' | ⟨j', hj', hji', h5', h6'⟩
    · cases h4'
    · have q1 := end_began h hj h5 h6 hi' h1' h2'
      have q2 := end_began h hj' h5' h6' hi h1 h2
      omega
theorem bef_trans {l : List EvD} {M : CM} (h : runC M0 l = some M) {a b c : Int} (hab : befS a b false l = true) (hbc : befS b c false l = true) : befS a c false l = true := by
  obtain ⟨i, hi, h1, h2, h3, h4⟩ := (bef_iff a b l false).1 hab
  obtain ⟨i', hi', h1', h2', h3', h4'⟩ := (bef_iff b c l false).1 hbc
  rcases h4 with h4 | ⟨j, hj, hji, h5, h6⟩
  · cases h4
  · rcases h4' with h4' | ⟨j', hj', hji', h5', h6'⟩
    · cases h4'
    · have q := end_began h hj' h5' h6' hi h1 h2
      exact (bef_iff a c l false).2 ⟨i', hi', h1', h2', h3', .inr ⟨j, hj, by omega, h5, h6⟩⟩

end Go.Proofs.YtmiaibpdeofokaaGreatDoor
/-
  RIGHT EVENTS: how far each is, by the courses; what ended stays so; each is in one state. No walk.
-/
namespace Go.Proofs.YtmiaibpdeofokaaGreatDoor
set_option linter.unusedVariables false
set_option linter.unusedSimpArgs false

theorem attM (l : List EvD) : ∀ (acc : List Int) (a : Int), a ∈ l.foldl attStep acc ↔ a ∈ acc ∨ ∃ e ∈ l, e.k = 1 ∧ e.a = a := by
  induction l with
  | nil => intro acc a; simp
  | cons e l ih =>
    intro acc a
    rw [List.foldl_cons, ih]
    unfold attStep
    constructor
    · rintro (h | ⟨x, hx, h⟩)
      · split at h
        · rename_i hk
          rw [List.mem_append] at h
          rcases h with h | h
          · exact .inl h
          · simp at h; exact .inr ⟨e, by simp, hk.1, h.symm⟩
        · exact .inl h
      · exact .inr ⟨x, List.mem_cons_of_mem _ hx, h⟩
    · rintro (h | ⟨x, hx, h1, h2⟩)
      · left
        split
        · exact List.mem_append_left _ h
        · exact h
      · rcases List.mem_cons.1 hx with rfl | hx
        · left
          split
          · rw [h2]; simp
          · rename_i hk
            have : x.a ∈ acc := by
              by_cases hm : x.a ∈ acc
              · exact hm
              · exact absurd ⟨h1, hm⟩ hk
            rw [← h2]; exact this
        · exact .inr ⟨x, hx, h1, h2⟩
theorem attSm (l : List EvD) (a : Int) : a ∈ attS l ↔ ∃ e ∈ l, e.k = 1 ∧ e.a = a := by
  unfold attS
  rw [attM]
  simp

theorem told_none (l : List EvD) (x : Int) (h : ∀ e ∈ l, e.a ≠ x) : ∀ s, l.foldl (toldStep x) s = s := by
  induction l with
  | nil => intro s; rfl
  | cons e l ih =>
    intro s
    rw [List.foldl_cons, ih (fun e' he' => h e' (List.mem_cons_of_mem _ he'))]
    unfold toldStep
    rw [if_neg (h e (by simp))]

theorem state_snoc {l : List EvD} {k : Nat} (hk : k < l.length) (x : Int) : stateS (l.take (k + 1)) x = if x ∈ attS (l.take k) ∨ (l[k].k = 1 ∧ l[k].a = x) then max (toldStep x (toldS (l.take k) x) l[k]) 1 else 0 := by
  unfold stateS
  rw [toldS_snoc hk]
  have hm : (x ∈ attS (l.take (k + 1))) ↔ (x ∈ attS (l.take k) ∨ (l[k].k = 1 ∧ l[k].a = x)) := by
    rw [attSm, attSm, List.take_succ_eq_append_getElem hk]
    simp only [List.mem_append, List.mem_singleton]
    constructor
    · rintro ⟨e, he | rfl, h⟩
      · exact .inl ⟨e, he, h⟩
      · exact .inr h
    · rintro (⟨e, he, h⟩ | h)
      · exact ⟨e, .inl he, h⟩
      · exact ⟨_, .inr rfl, h⟩
  by_cases h : x ∈ attS (l.take k) ∨ (l[k].k = 1 ∧ l[k].a = x)
  · rw [if_pos h, if_pos (hm.2 h)]
  · rw [if_neg h, if_neg (fun q => h (hm.1 q))]

/-- What comes of one that has begun, by what kind. -/
theorem behind_ways {st : Int} {Fs : List Fr} {e : EvD} {st' : Int} {Fs' : List Fr} (h : behindS st Fs e = some (st', Fs')) :
    (e.k = 1 ∧ st = 0 ∧ st' = 1) ∨ (e.k ≠ 1 ∧ st ≠ 0 ∧ st ≠ 3 ∧ st ≠ 4 ∧ ((e.k = 7 ∧ st' = 2) ∨ (e.k = 8 ∧ st' = 3) ∨ (e.k = 9 ∧ st' = 4) ∨ (2 ≤ e.k ∧ e.k ≤ 6 ∧ st' = 1 ∧ st = 1))) := by
  unfold behindS at h
  split at h
  · cases h
  · split at h
    · rename_i hk
      split at h
      · simp at h; exact .inl ⟨hk, by assumption, h.1.symm⟩
      · cases h
    · rename_i hk1
      right
      split at h
      · rename_i hk
        split at h
        · rename_i hs
          simp at h
          exact ⟨hk1, by omega, by omega, by omega, .inr (.inr (.inr ⟨hk.1, hk.2, h.1.symm, hs.1⟩))⟩
        · cases h
      · split at h
        · rename_i hk
          split at h
          · rename_i hs
            simp at h
            exact ⟨hk1, by omega, by omega, by omega, .inl ⟨hk, h.1.symm⟩⟩
          · cases h
        · split at h
          · rename_i hk
            split at h
            · rename_i hs
              simp at h
              exact ⟨hk1, by omega, by omega, by omega, .inr (.inl ⟨hk, h.1.symm⟩)⟩
            · cases h
          · split at h
            · rename_i hk
              split at h
              · rename_i hs
                simp at h
                exact ⟨hk1, by omega, by omega, by omega, .inr (.inr (.inl ⟨hk, h.1.symm⟩))⟩
              · cases h
            · cases h

/-- How far each is, is what its course says. -/
theorem state_run {l : List EvD} : ∀ (n : Nat) {M : CM}, n ≤ l.length → runC M0 (l.take n) = some M → ∀ x, stC M x = stateS (l.take n) x := by
  intro n
  induction n with
  | zero => intro M hn h x; simp [runC] at h; rw [← h]; rfl
  | succ n ih =>
    intro M hn h x
    have hnl : n < l.length := by omega
    obtain ⟨Mi, Mj, h1, h2, h3⟩ := step_at (l := l.take (n + 1)) h n (by simp; omega)
    have hl : (l.take (n + 1)).take n = l.take n := by rw [List.take_take]; congr 1; omega
    have hl2 : (l.take (n + 1)).take (n + 1) = l.take (n + 1) := by rw [List.take_take]; congr 1; omega
    rw [hl] at h1
    rw [hl2, h] at h2
    cases h2
    have he : (l.take (n + 1))[n]'(by simp; omega) = l[n] := by simp
    rw [he] at h3
    obtain ⟨st, Fs, hb, rfl, hpos, _⟩ := step_parts h3
    have ih' := ih (by omega) h1
    rw [state_snoc hnl]
    by_cases hx : l[n].a = x
    · subst hx
      rw [stC_upd_same]
      rw [ih'] at hb
      have hst : stateS (l.take n) l[n].a = if l[n].a ∈ attS (l.take n) then max (toldS (l.take n) l[n].a) 1 else 0 := rfl
      rcases behind_ways hb with ⟨hk, hz, rfl⟩ | ⟨hk, hz, h3', h4', hw⟩
      · rw [if_pos (.inr ⟨hk, rfl⟩)]
        have hz2 : stC Mi l[n].a = 0 := by rw [ih']; exact hz
        have hn0 := zero_none n h1 (by omega) _ hz2
        have ht : toldS (l.take n) l[n].a = 0 := told_none _ _ (fun e he => by
          obtain ⟨j, hj, rfl⟩ := List.getElem_of_mem he
          simp only [List.getElem_take]
          simp at hj
          exact hn0 j (by omega) (by omega)) 0
        rw [ht]
        unfold toldStep reachS
        rw [if_pos rfl, if_neg (by omega), if_neg (by omega), if_neg (by omega)]
        rfl
      · have hmem : l[n].a ∈ attS (l.take n) := by
          by_cases hm : l[n].a ∈ attS (l.take n)
          · exact hm
          · rw [hst, if_neg hm] at hz; exact absurd rfl hz
        rw [if_pos (.inl hmem)]
        rw [hst, if_pos hmem] at hw
        unfold toldStep reachS
        rw [if_pos rfl]
        rcases hw with ⟨hk7, rfl⟩ | ⟨hk8, rfl⟩ | ⟨hk9, rfl⟩ | ⟨ha, hb', rfl, hone⟩
        · rw [if_pos hk7]; rfl
        · rw [if_neg (by omega), if_pos hk8]; rfl
        · rw [if_neg (by omega), if_neg (by omega), if_pos hk9]; rfl
        · rw [if_neg (by omega), if_neg (by omega), if_neg (by omega)]; exact hone.symm
    · rw [stC_upd_other _ _ (fun h => hx h.symm), ih']
      unfold stateS toldStep
      rw [if_neg hx]
      by_cases hm : x ∈ attS (l.take n)
      · rw [if_pos hm, if_pos (.inl hm)]
      · rw [if_neg hm, if_neg (by rintro (h | h); exact hm h; exact hx h.2)]

/-- What ended stays so. -/
theorem end_stays (x : Int) (l : List EvD) : ∀ M N, runC M l = some N → (stC M x = 3 ∨ stC M x = 4) → stC N x = stC M x := by
  induction l with
  | nil => intro M N h _; simp [runC] at h; rw [h]
  | cons e l ih =>
    intro M N h hs
    simp only [runC] at h
    cases hq : stepC M e with
    | none => rw [hq] at h; cases h
    | some M1 =>
      rw [hq] at h
      simp only [Option.bind_some] at h
      obtain ⟨st, Fs, hb, rfl, hp, _⟩ := step_parts hq
      by_cases hx : e.a = x
      · subst hx
        rcases behind_ways hb with ⟨_, hz, _⟩ | ⟨_, _, h3, h4, _⟩
        · omega
        · rcases hs with hs | hs
          · exact absurd hs h3
          · exact absurd hs h4
      · have e1 : stC (updF M e.a (st, Fs)) x = stC M x := stC_upd_other _ _ (fun h => hx h.symm)
        rw [← e1]
        exact ih _ _ h (by rw [e1]; exact hs)
theorem state_stays {l : List EvD} {M : CM} (h : runC M0 l = some M) {k : Nat} (hk : k ≤ l.length) {x : Int} (hs : stateS (l.take k) x = 3 ∨ stateS (l.take k) x = 4) : stateS l x = stateS (l.take k) x := by
  obtain ⟨Mk, hMk⟩ := run_at h k hk
  have e1 := state_run k hk hMk x
  have e2 := state_run l.length (Nat.le_refl _) (by rw [List.take_length]; exact h) x
  rw [List.take_length] at e2
  have hrest : runC Mk (l.drop k) = some M := by
    have hh := h
    rw [← List.take_append_drop k l, runC_app, hMk] at hh
    exact hh
  have e3 := end_stays x (l.drop k) Mk M hrest (by rw [e1]; exact hs)
  rw [← e2, e3, e1]

/-- Each is in one of four states. -/
theorem state_range (l : List EvD) {x : Int} (hx : x ∈ attS l) : 1 ≤ stateS l x ∧ stateS l x ≤ 4 := by
  unfold stateS
  rw [if_pos hx]
  have := toldS_range l x 0 (by omega)
  change 0 ≤ toldS l x ∧ toldS l x ≤ 4 at this
  omega
theorem four_count (g : Int → Int) (xs : List Int) (h : ∀ x ∈ xs, 1 ≤ g x ∧ g x ≤ 4) :
    (xs.filter fun x => !(g x != 1)).length + (xs.filter fun x => !(g x != 2)).length + (xs.filter fun x => !(g x != 3)).length + (xs.filter fun x => !(g x != 4)).length = xs.length := by
  induction xs with
  | nil => rfl
  | cons x xs ih =>
    have ih' := ih (fun y hy => h y (List.mem_cons_of_mem _ hy))
    have hx := h x (by simp)
    have hw : g x = 1 ∨ g x = 2 ∨ g x = 3 ∨ g x = 4 := by omega
    rcases hw with e | e | e | e
    all_goals
      simp only [List.filter_cons, e]
      simp
      try simp at ih'
      omega

end Go.Proofs.YtmiaibpdeofokaaGreatDoor
/-
  THE DOCUMENT's package rowlockref08: seen, StateOf, Before, Cut, Same, Attempts, In BY THEIR CONTRACTS.
-/
namespace Go.Proofs.YtmiaibpdeofokaaGreatDoor
set_option linter.unusedVariables false
set_option linter.unusedSimpArgs false
open Go.RowKit Go.Maps Go.Shelf
attribute [local go_sem] Oper.semAt_some

def seenS (l : List EvD) (n : Nat) (a k : Int) : Bool := (l.take n).any fun e => e.a == a && e.k == k
theorem seenS_snoc {l : List EvD} {n : Nat} (hn : n < l.length) (a k : Int) : seenS l (n + 1) a k = (seenS l n a k || (l[n].a == a && l[n].k == k)) := by
  unfold seenS
  rw [List.take_succ_eq_append_getElem hn, List.any_append]
  simp
theorem seenS_mono {l : List EvD} {n m : Nat} (h : n ≤ m) {a k : Int} (hs : seenS l n a k = true) : seenS l m a k = true := by
  unfold seenS at hs ⊢
  rw [List.any_eq_true] at hs ⊢
  obtain ⟨e, he, h1⟩ := hs
  exact ⟨e, List.mem_of_mem_take (i := n) (by rw [List.take_take, Nat.min_eq_left h]; exact he), h1⟩

set_option maxRecDepth 100000 in
set_option maxHeartbeats 2000000 in
theorem seen_any {w : World} {ao : Option Addr} {cap : Nat} {l : List EvD} (hr : EvRow w (.slice ao l.length cap) l) (hl : l.length ≤ 1000) (n : Nat) (hn : n ≤ l.length) (a k : Int) :
    Calls Tryz.prog 62 #[.slice ao l.length cap, .int .i64 n, .int .i64 a, .int .u8 k] w fun x w' => x = .returned (.bool (seenS l n a k)) ∧ w = w' := by
  obtain ⟨N, hN⟩ : ∃ N, N = l.length := ⟨_, rfl⟩
  have HN : Hid (N = l.length) := hN
  have HR : Hid (EvRow w (.slice ao l.length cap) l) := hr
  rw [← hN] at hl hn ⊢
  clear hN hr
  obtain ⟨res, hres⟩ : ∃ r, r = seenS l n a k := ⟨_, rfl⟩
  rw [← hres]
  have HRES : Hid _ := hres
  clear hres
  go_enter Tryz.func62, Tryz.ntmps62
  go_wp2_with fail
  go_loopw [9] (fun i wr => ∃ j : Nat, i = .int .i64 j ∧ j ≤ n ∧ seenS l j a k = false ∧ wr = w) (fun i _ => n - (intOf i).toNat)
  case atStart => exact ⟨0, rfl, Nat.zero_le _, rfl, rfl⟩
  case round =>
    obtain ⟨j, rfl, hj, hno, rfl⟩ := hrel
    by_cases hlt : j < n
    · have h1 : (j : Int) < n := by omega
      have h1' : (j : Int) < N := by omega
      have h0 : (0 : Int) ≤ j := by omega
      have hjl : j < l.length := by rw [← HN.out]; omega
      obtain ⟨g, off, rfl, hg, m0, m1, m2, m3⟩ := HR.out.one j hjl
      have hsn := seenS_snoc hjl a k
      rw [hno, Bool.false_or] at hsn
      have hmo := fun h => seenS_mono (l := l) (n := j + 1) (m := n) (by omega) (a := a) (k := k) h
      rw [hsn] at hmo
      obtain ⟨e, he⟩ : ∃ e, e = l[j] := ⟨_, rfl⟩
      rw [← he] at m0 m1 m2 m3 hsn hmo
      have HSN : Hid _ := hsn
      have HMO : Hid _ := hmo
      clear he hsn hmo hno
      cases p1 : (e.a == a) with
      | false =>
        have HF : Hid (seenS l (j + 1) a k = false) := by show _ = _; rw [HSN.out, p1]; rfl
        clear HMO HSN
        go_wp2
        go_roundw
        case rel => exact ⟨j + 1, by go_num, by omega, HF.out, by simp⟩
        case measure => simp [intOf]; omega
      | true =>
        cases p2 : (e.k == k) with
        | false =>
          have HF : Hid (seenS l (j + 1) a k = false) := by show _ = _; rw [HSN.out, p1, p2]; rfl
          clear HMO HSN
          go_wp2
          go_roundw
          case rel => exact ⟨j + 1, by go_num, by omega, HF.out, by simp⟩
          case measure => simp [intOf]; omega
        | true =>
          have HT : Hid (res = true) := by show _ = _; rw [HRES.out]; exact HMO.out (by rw [p1, p2]; rfl)
          clear HMO HSN HRES
          go_wp2
          go_ret
          exact ⟨by rw [HT.out]; rfl, rfl⟩
    · obtain rfl : j = n := by omega
      have HF : Hid (res = false) := by show _ = _; rw [HRES.out]; exact hno
      clear HRES hno
      go_wp2
      go_ret
      exact ⟨by rw [HF.out]; rfl, rfl⟩

/-! ### StateOf -/
theorem told_two (l : List EvD) (x : Int) : ∀ s0 s1 : Int, (s0 = 0 ∧ s1 = 1) ∨ (s0 = s1 ∧ 2 ≤ s0) → (l.foldl (toldStep x) s0 = 0 ∧ l.foldl (toldStep x) s1 = 1) ∨ (l.foldl (toldStep x) s0 = l.foldl (toldStep x) s1 ∧ 2 ≤ l.foldl (toldStep x) s0) := by
  induction l with
  | nil => intro s0 s1 h; exact h
  | cons e l ih =>
    intro s0 s1 h
    rw [List.foldl_cons, List.foldl_cons]
    refine ih _ _ ?_
    unfold toldStep reachS
    by_cases he : e.a = x
    · simp only [if_pos he]
      repeat' split
      all_goals first | (right; exact ⟨rfl, by omega⟩) | exact h
    · simp only [if_neg he]; exact h
theorem told_one (l : List EvD) (x : Int) : l.foldl (toldStep x) 1 = max (toldS l x) 1 := by
  have h := told_two l x 0 1 (.inl ⟨rfl, rfl⟩)
  unfold toldS
  omega
theorem seen_att (l : List EvD) (n : Nat) (x : Int) : seenS l n x 1 = true ↔ x ∈ attS (l.take n) := by
  unfold seenS
  rw [attSm, List.any_eq_true]
  constructor
  · rintro ⟨e, he, h⟩; simp at h; exact ⟨e, he, h.2, h.1⟩
  · rintro ⟨e, he, h1, h2⟩; exact ⟨e, he, by simp [h1, h2]⟩

set_option maxRecDepth 100000 in
set_option maxHeartbeats 2000000 in
theorem rstateOf_any {w : World} {ao : Option Addr} {cap : Nat} {l : List EvD} (hr : EvRow w (.slice ao l.length cap) l) (hl : l.length ≤ 1000) (a : Int) :
    Calls Tryz.prog 66 #[.slice ao l.length cap, .int .i64 a] w fun x w' => x = .returned (.int .u8 (stateS l a)) ∧ w = w' := by
  have hse := seen_any hr hl l.length (Nat.le_refl _) a 1
  have hsa := seen_att l l.length a
  rw [List.take_length] at hsa
  obtain ⟨N, hN⟩ : ∃ N, N = l.length := ⟨_, rfl⟩
  have HN : Hid (N = l.length) := hN
  have HR : Hid (EvRow w (.slice ao l.length cap) l) := hr
  rw [← hN] at hl hse hsa ⊢
  clear hN hr
  cases hq : seenS l N a 1 with
  | false =>
    rw [hq] at hse hsa
    have hst : stateS l a = 0 := by unfold stateS; rw [if_neg (fun h => by have := hsa.2 h; cases this)]
    rw [hst]
    clear hsa hq hst
    go_enter Tryz.func66, Tryz.ntmps66
    go_wp2_with fail
    refine hse.mono ?_
    rintro e w1 ⟨rfl, rfl⟩
    clear hse
    go_wp2
    go_ret
    exact ⟨rfl, rfl⟩
  | true =>
    rw [hq] at hse hsa
    have hst : stateS l a = l.foldl (toldStep a) 1 := by unfold stateS; rw [if_pos (hsa.1 rfl), told_one]
    obtain ⟨res, hres⟩ : ∃ r, r = stateS l a := ⟨_, rfl⟩
    rw [← hres]
    have HRES : Hid (res = l.foldl (toldStep a) 1) := by show _ = _; rw [hres, hst]
    clear hsa hq hst hres
    go_enter Tryz.func66, Tryz.ntmps66
    go_wp2_with fail
    refine hse.mono ?_
    rintro e w1 ⟨rfl, rfl⟩
    clear hse
    go_wp2_with fail
    go_loopw [5, 6] (fun s i wr => ∃ (j : Nat) (s0 : Int), s = .int .u8 s0 ∧ i = .int .i64 j ∧ j ≤ N ∧ res = (l.drop j).foldl (toldStep a) s0 ∧ wr = w) (fun _ i _ => N - (intOf i).toNat)
    case atStart => exact ⟨0, 1, rfl, rfl, Nat.zero_le _, HRES.out, rfl⟩
    case round =>
      obtain ⟨j, s0, rfl, rfl, hj, hrs, rfl⟩ := hrel
      clear HRES
      by_cases hlt : j < N
      · have h1 : (j : Int) < N := by omega
        have h0 : (0 : Int) ≤ j := by omega
        have hjl : j < l.length := by rw [← HN.out]; exact hlt
        obtain ⟨g, off, rfl, hg, m0, m1, m2, m3⟩ := HR.out.one j hjl
        rw [List.drop_eq_getElem_cons hjl, List.foldl_cons] at hrs
        obtain ⟨e, he⟩ : ∃ e, e = l[j] := ⟨_, rfl⟩
        rw [← he] at m0 m1 m2 m3 hrs
        clear he
        cases p1 : (e.a == a) with
        | false =>
          have ha : ¬ e.a = a := by simpa using p1
          rw [toldStep, if_neg ha] at hrs
          have HF : Hid _ := hrs
          clear hrs ha
          go_wp2
          go_roundw
          case rel => exact ⟨j + 1, s0, rfl, by go_num, by omega, HF.out, by simp⟩
          case measure => simp [intOf]; omega
        | true =>
          have ha : e.a = a := by simpa using p1
          rw [toldStep, if_pos ha, reachS] at hrs
          clear ha
          by_cases h7 : e.k = 7
          · rw [if_pos h7] at hrs
            have p7 : (e.k == 7) = true := by simpa using h7
            have HF : Hid _ := hrs
            clear hrs h7
            go_wp2
            go_roundw
            case rel => exact ⟨j + 1, 2, rfl, by go_num, by omega, HF.out, by simp⟩
            case measure => simp [intOf]; omega
          · rw [if_neg h7] at hrs
            have p7 : (e.k == 7) = false := by simpa using h7
            by_cases h8 : e.k = 8
            · rw [if_pos h8] at hrs
              have p8 : (e.k == 8) = true := by simpa using h8
              have HF : Hid _ := hrs
              clear hrs h7 h8
              go_wp2
              go_roundw
              case rel => exact ⟨j + 1, 3, rfl, by go_num, by omega, HF.out, by simp⟩
              case measure => simp [intOf]; omega
            · rw [if_neg h8] at hrs
              have p8 : (e.k == 8) = false := by simpa using h8
              by_cases h9 : e.k = 9
              · rw [if_pos h9] at hrs
                have p9 : (e.k == 9) = true := by simpa using h9
                have HF : Hid _ := hrs
                clear hrs h7 h8 h9
                go_wp2
                go_roundw
                case rel => exact ⟨j + 1, 4, rfl, by go_num, by omega, HF.out, by simp⟩
                case measure => simp [intOf]; omega
              · rw [if_neg h9] at hrs
                have p9 : (e.k == 9) = false := by simpa using h9
                have HF : Hid _ := hrs
                clear hrs h7 h8 h9
                go_wp2
                go_roundw
                case rel => exact ⟨j + 1, s0, rfl, by go_num, by omega, HF.out, by simp⟩
                case measure => simp [intOf]; omega
      · obtain rfl : j = N := by omega
        rw [HN.out, List.drop_length] at hrs
        have HF : Hid _ := hrs
        clear hrs
        go_wp2
        go_ret
        exact ⟨by rw [HF.out]; rfl, rfl⟩

/-! ### Before, Cut, Same -/
def endS (l : List EvD) (n : Nat) (a : Int) : Bool := seenS l n a 8 || seenS l n a 9
theorem endS_snoc {l : List EvD} {n : Nat} (hn : n < l.length) (a : Int) : endS l (n + 1) a = (endS l n a || (decide (l[n].a = a) && (decide (l[n].k = 8) || decide (l[n].k = 9)))) := by
  unfold endS
  rw [seenS_snoc hn, seenS_snoc hn]
  simp only [beq_eq_decide]
  cases seenS l n a 8 <;> cases seenS l n a 9 <;> cases decide (l[n].a = a) <;> cases decide (l[n].k = 8) <;> cases decide (l[n].k = 9) <;> rfl

set_option maxRecDepth 100000 in
set_option maxHeartbeats 2000000 in
theorem rbefore_any {w : World} {ao : Option Addr} {cap : Nat} {l : List EvD} (hr : EvRow w (.slice ao l.length cap) l) (hl : l.length ≤ 1000) (a b : Int) :
    Calls Tryz.prog 38 #[.slice ao l.length cap, .int .i64 a, .int .i64 b] w fun x w' => x = .returned (.bool (befS a b false l)) ∧ w = w' := by
  have hse := fun n (hn : n ≤ l.length) k => seen_any hr hl n hn a k
  obtain ⟨N, hN⟩ : ∃ N, N = l.length := ⟨_, rfl⟩
  have HN : Hid (N = l.length) := hN
  have HR : Hid (EvRow w (.slice ao l.length cap) l) := hr
  rw [← hN] at hl hse ⊢
  have HSE : Hid _ := hse
  clear hN hr hse
  obtain ⟨res, hres⟩ : ∃ r, r = befS a b false l := ⟨_, rfl⟩
  rw [← hres]
  have HRES : Hid _ := hres
  clear hres
  go_enter Tryz.func38, Tryz.ntmps38
  go_wp2_with fail
  go_loopw [7] (fun i wr => ∃ j : Nat, i = .int .i64 j ∧ j ≤ N ∧ res = befS a b (endS l j a) (l.drop j) ∧ wr = w) (fun i _ => N - (intOf i).toNat)
  case atStart => exact ⟨0, rfl, Nat.zero_le _, HRES.out, rfl⟩
  case round =>
    obtain ⟨j, rfl, hj, hbf, rfl⟩ := hrel
    clear HRES
    by_cases hlt : j < N
    · have h1 : (j : Int) < N := by omega
      have h0 : (0 : Int) ≤ j := by omega
      have hjl : j < l.length := by rw [← HN.out]; exact hlt
      obtain ⟨g, off, rfl, hg, m0, m1, m2, m3⟩ := HR.out.one j hjl
      rw [List.drop_eq_getElem_cons hjl, befS, ← endS_snoc hjl] at hbf
      have s8 := HSE.out j (by omega) 8
      have s9 := HSE.out j (by omega) 9
      obtain ⟨e, he⟩ : ∃ e, e = l[j] := ⟨_, rfl⟩
      rw [← he] at m0 m1 m2 m3 hbf
      clear he
      by_cases hkb : e.k = 1 ∧ e.a = b
      · rw [if_pos hkb] at hbf
        have p1 : (e.k == 1) = true := by simpa using hkb.1
        have p2 : (e.a == b) = true := by simpa using hkb.2
        unfold endS at hbf
        have HB : Hid _ := hbf
        clear hkb hbf
        cases q8 : seenS l j a 8 with
        | true =>
          rw [q8] at s8
          have HB2 : Hid (res = true) := by show _ = _; rw [HB.out, q8]; rfl
          clear q8 s9 HB
          go_wp2_with fail
          refine s8.mono ?_
          rintro x w1 ⟨rfl, rfl⟩
          clear s8
          go_wp2
          go_ret
          exact ⟨by rw [HB2.out]; rfl, rfl⟩
        | false =>
          rw [q8] at s8
          have HB2 : Hid (res = seenS l j a 9) := by show _ = _; rw [HB.out, q8]; rfl
          clear q8 HB
          generalize seenS l j a 9 = q9 at *
          go_wp2_with fail
          refine s8.mono ?_
          rintro x w1 ⟨rfl, rfl⟩
          clear s8
          go_wp2_with fail
          refine s9.mono ?_
          rintro x w1 ⟨rfl, rfl⟩
          clear s9
          go_wp2
          go_ret
          exact ⟨by rw [HB2.out]; simp, rfl⟩
      · rw [if_neg hkb] at hbf
        have HB : Hid _ := hbf
        clear hbf s8 s9
        cases p1 : (e.k == 1) with
        | true =>
          have p2 : (e.a == b) = false := by simp; exact fun h => hkb ⟨by simpa using p1, h⟩
          clear hkb
          go_wp2
          go_roundw
          case rel => exact ⟨j + 1, by go_num, by omega, HB.out, by simp⟩
          case measure => simp [intOf]; omega
        | false =>
          clear hkb
          go_wp2
          go_roundw
          case rel => exact ⟨j + 1, by go_num, by omega, HB.out, by simp⟩
          case measure => simp [intOf]; omega
    · obtain rfl : j = N := by omega
      rw [HN.out, List.drop_length] at hbf
      have HB : Hid _ := hbf
      clear hbf
      go_wp2
      go_ret
      exact ⟨by rw [HB.out]; rfl, rfl⟩

set_option maxRecDepth 100000 in
set_option maxHeartbeats 2000000 in
theorem sameEv (va vb : Value) (L : List EvD) (w : World) (hn : L.length ≤ 1000) (ha : EvRow w va L) (hb : EvRow w vb L) :
    Calls Tryz.prog 12 #[va, vb] w fun e w' => e = .returned (.bool true) ∧ Touch w w' [] := by
  have ra := ha
  have rb := hb
  obtain ⟨ao, ca, rfl, _⟩ := ha
  obtain ⟨bo, cb, rfl, _⟩ := hb
  obtain ⟨n, hlen⟩ : ∃ n, n = L.length := ⟨_, rfl⟩
  have HL : Hid (n = L.length) := hlen
  have RA : Hid (EvRow w (.slice ao L.length ca) L) := ra
  have RB : Hid (EvRow w (.slice bo L.length cb) L) := rb
  rw [← hlen] at hn ⊢
  clear hlen ra rb
  go_enter Tryz.func12, Tryz.ntmps12
  go_wp2_with fail
  go_loopw [5] (fun i wr => ∃ k : Nat, i = .int .i64 k ∧ k ≤ n ∧ Touch w wr []) (fun i _ => n - (intOf i).toNat)
  case atStart => exact ⟨0, rfl, Nat.zero_le _, Touch.refl _ _⟩
  case round =>
    obtain ⟨k, rfl, hk, t⟩ := hrel
    by_cases hlt : k < n
    · have h1 : (k : Int) < n := by omega
      have hkl : k < L.length := by rw [← HL.out]; exact hlt
      obtain ⟨ga, oa, rfl, hga, a0, a1, a2, a3⟩ := RA.out.one k hkl
      obtain ⟨gb, ob, rfl, hgb, b0, b1, b2, b3⟩ := RB.out.one k hkl
      obtain ⟨e, he⟩ : ∃ e, e = L[k] := ⟨_, rfl⟩
      rw [← he] at a0 a1 a2 a3 b0 b1 b2 b3
      obtain ⟨z0, z1, z2, z3⟩ := e
      simp only at a0 a1 a2 a3 b0 b1 b2 b3
      have x0 := (t.cell (p := ⟨ga, oa + k * 4, none⟩) hga (by simp)).trans a0
      have x1 := (t.cell (p := ⟨ga, oa + k * 4 + 1, none⟩) hga (by simp)).trans a1
      have x2 := (t.cell (p := ⟨ga, oa + k * 4 + 2, none⟩) hga (by simp)).trans a2
      have x3 := (t.cell (p := ⟨ga, oa + k * 4 + 3, none⟩) hga (by simp)).trans a3
      have y0 := (t.cell (p := ⟨gb, ob + k * 4, none⟩) hgb (by simp)).trans b0
      have y1 := (t.cell (p := ⟨gb, ob + k * 4 + 1, none⟩) hgb (by simp)).trans b1
      have y2 := (t.cell (p := ⟨gb, ob + k * 4 + 2, none⟩) hgb (by simp)).trans b2
      have y3 := (t.cell (p := ⟨gb, ob + k * 4 + 3, none⟩) hgb (by simp)).trans b3
      clear he a0 a1 a2 a3 b0 b1 b2 b3
      go_wp2_with fail
      go_quiet (fail)
      go_wp2
      go_roundw
      case rel => exact ⟨k + 1, by go_num, by omega, t.drewN _⟩
      case measure => simp [intOf]; omega
    · go_wp2
      go_ret
      exact ⟨rfl, t⟩
end Go.Proofs.YtmiaibpdeofokaaGreatDoor
/-
  THE DOCUMENT's 'fits', as plain data: it holds of an event just where the courses go on. No walk.
-/
namespace Go.Proofs.YtmiaibpdeofokaaGreatDoor
set_option linter.unusedVariables false
set_option linter.unusedSimpArgs false

theorem behind_forms {st : Int} {Fs : List Fr} {e : EvD} {st' : Int} {Fs' : List Fr} (h : behindS st Fs e = some (st', Fs')) :
    (e.k = 1 ∧ st = 0 ∧ st' = 1 ∧ Fs' = [f0]) ∨ (2 ≤ e.k ∧ e.k ≤ 6 ∧ st = 1 ∧ st' = 1 ∧ Fs' = (noteS Fs e).2) ∨ (e.k = 7 ∧ st = 1 ∧ st' = 2 ∧ Fs' = Fs) ∨ (e.k = 8 ∧ st = 2 ∧ st' = 3 ∧ Fs' = Fs) ∨ (e.k = 9 ∧ (st = 1 ∨ st = 2) ∧ st' = 4 ∧ Fs' = Fs) := by
  unfold behindS at h
  split at h
  · cases h
  · split at h
    · rename_i hk
      split at h
      · simp at h; exact .inl ⟨hk, by assumption, h.1.symm, h.2.symm⟩
      · cases h
    · right
      split at h
      · rename_i hk
        split at h
        · rename_i hs
          simp at h
          exact .inl ⟨hk.1, hk.2, hs.1, h.1.symm, h.2.symm⟩
        · cases h
      · right
        split at h
        · rename_i hk
          split at h
          · rename_i hs
            simp at h
            exact .inl ⟨hk, hs.1, h.1.symm, h.2.symm⟩
          · cases h
        · right
          split at h
          · rename_i hk
            split at h
            · rename_i hs
              simp at h
              exact .inl ⟨hk, hs, h.1.symm, h.2.symm⟩
            · cases h
          · right
            split at h
            · rename_i hk
              split at h
              · rename_i hs
                simp at h
                exact ⟨hk, hs, h.1.symm, h.2.symm⟩
              · cases h
            · cases h

theorem noteS_other (Fs : List Fr) (e : EvD) (h : ¬ (3 ≤ e.k ∧ e.k ≤ 6)) : noteS Fs e = (0, Fs) := by
  unfold noteS
  rw [if_neg (by omega), if_neg (by omega), if_neg (by omega), if_neg (by omega)]
theorem noteAll_app (Fs : List Fr) (c : List EvD) (e : EvD) : noteAll Fs (c ++ [e]) = (noteS (noteAll Fs c) e).2 := by
  unfold noteAll
  rw [List.foldl_append]
  rfl
theorem note_cut {a : Int} {l : List EvD} {k : Nat} (hk : k < l.length) : noteAll [f0] (cutS a (l.take (k + 1))) = if l[k].a = a then (noteS (noteAll [f0] (cutS a (l.take k))) l[k]).2 else noteAll [f0] (cutS a (l.take k)) := by
  rw [cutS_snoc hk]
  split
  · rw [noteAll_app]
  · rfl
theorem noteS_ne {Fs : List Fr} (h : Fs ≠ []) (e : EvD) : (noteS Fs e).2 ≠ [] := by
  cases Fs with
  | nil => exact absurd rfl h
  | cons f r =>
    unfold noteS
    split
    · rw [putS]
      repeat' split
      all_goals simp
    · split
      · unfold pushS
        split <;> simp
      · split
        · unfold dropS
          split
          · simp
          · simp
        · split
          · unfold mergeS
            split
            · simp
            · simp
          · simp
theorem noteAll_ne (c : List EvD) : ∀ Fs : List Fr, Fs ≠ [] → noteAll Fs c ≠ [] := by
  induction c with
  | nil => intro Fs h; exact h
  | cons e c ih => intro Fs h; exact ih _ (noteS_ne h e)

/-- What the courses are behind right events. -/
structure RunI (l : List EvD) (n : Nat) (M : CM) (a : Int) : Prop where
  began : seenS l n a 1 = decide (stC M a ≠ 0)
  ended : (seenS l n a 8 || seenS l n a 9) = decide (stC M a = 3 ∨ stC M a = 4)
  one : stC M a = 1 → seenS l n a 7 = false
  two : stC M a = 2 → seenS l n a 7 = true
  zero : stC M a = 0 → (∀ k, seenS l n a k = false) ∧ cutS a (l.take n) = []
  fs : stC M a ≠ 0 → fsC M a = noteAll [f0] (cutS a (l.take n))
  rng : 0 ≤ stC M a ∧ stC M a ≤ 4

theorem run_inv {l : List EvD} : ∀ (n : Nat) {M : CM}, n ≤ l.length → runC M0 (l.take n) = some M → ∀ a, RunI l n M a := by
  intro n
  induction n with
  | zero =>
    intro M hn h a
    simp [runC] at h
    subst h
    refine ⟨rfl, rfl, fun _ => rfl, fun h => absurd h (by simp [stC]), fun _ => ⟨fun k => rfl, rfl⟩, fun h => absurd rfl h, by simp [stC]⟩
  | succ n ih =>
    intro M hn h a
    have hnl : n < l.length := by omega
    obtain ⟨Mi, Mj, h1, h2, h3⟩ := step_at (l := l.take (n + 1)) h n (by simp; omega)
    have hl : (l.take (n + 1)).take n = l.take n := by rw [List.take_take]; congr 1; omega
    have hl2 : (l.take (n + 1)).take (n + 1) = l.take (n + 1) := by rw [List.take_take]; congr 1; omega
    rw [hl] at h1
    rw [hl2, h] at h2
    cases h2
    have he : (l.take (n + 1))[n]'(by simp; omega) = l[n] := by simp
    rw [he] at h3
    obtain ⟨st, Fs, hb, rfl, hpos, _⟩ := step_parts h3
    have I := ih (by omega) h1 a
    have hsn := fun k => seenS_snoc hnl a k
    have hct := cutS_snoc (a := a) hnl
    have hnt := note_cut (a := a) hnl
    by_cases hx : l[n].a = a
    · rw [hx] at hb hsn
      simp only [beq_self_eq_true, Bool.true_and] at hsn
      rw [if_pos hx] at hct hnt
      have e1 : stC (updF Mi l[n].a (st, Fs)) a = st := by rw [hx]; exact stC_upd_same _ _ _
      have e2 : fsC (updF Mi l[n].a (st, Fs)) a = Fs := by rw [hx]; exact fsC_upd_same _ _ _
      obtain ⟨i1, i2, i3, i4, i5, i6, i7⟩ := I
      have hfs : Fs = noteAll [f0] (cutS a (l.take (n + 1))) := by
        rcases behind_forms hb with ⟨k1, s0, s1, rfl⟩ | ⟨k1, k2, s0, s1, rfl⟩ | ⟨k1, s0, s1, rfl⟩ | ⟨k1, s0, s1, rfl⟩ | ⟨k1, s0, s1, rfl⟩
        · rw [hnt, (i5 s0).2, noteS_other _ _ (by omega)]; rfl
        · rw [hnt, ← i6 (by omega)]
        · rw [hnt, ← i6 (by omega), noteS_other _ _ (by omega)]
        · rw [hnt, ← i6 (by omega), noteS_other _ _ (by omega)]
        · rw [hnt, ← i6 (by omega), noteS_other _ _ (by omega)]
      refine ⟨?_, ?_, ?_, ?_, ?_, ?_, ?_⟩
      all_goals rw [e1]
      · rw [hsn, i1]
        rcases behind_forms hb with ⟨k1, s0, rfl, _⟩ | ⟨k1, k2, s0, rfl, _⟩ | ⟨k1, s0, rfl, _⟩ | ⟨k1, s0, rfl, _⟩ | ⟨k1, s0, rfl, _⟩
        · rw [k1]; simp
        · rw [s0]; simp
        · rw [s0]; simp
        · rw [s0]; simp
        · rcases s0 with s0 | s0 <;> rw [s0] <;> simp
      · rw [hsn, hsn]
        have e : ∀ p q r s : Bool, ((p || q) || (r || s)) = ((p || r) || (q || s)) := by decide
        rw [e, i2]
        rcases behind_forms hb with ⟨k1, s0, rfl, _⟩ | ⟨k1, k2, s0, rfl, _⟩ | ⟨k1, s0, rfl, _⟩ | ⟨k1, s0, rfl, _⟩ | ⟨k1, s0, rfl, _⟩
        · rw [k1, s0]; simp
        · have p8 : (l[n].k == 8) = false := by simp; omega
          have p9 : (l[n].k == 9) = false := by simp; omega
          rw [s0, p8, p9]; simp
        · rw [k1, s0]; simp
        · rw [k1, s0]; simp
        · rcases s0 with s0 | s0 <;> rw [k1, s0] <;> simp
      · intro hs
        rw [hsn]
        rcases behind_forms hb with ⟨k1, s0, rfl, _⟩ | ⟨k1, k2, s0, rfl, _⟩ | ⟨k1, s0, rfl, _⟩ | ⟨k1, s0, rfl, _⟩ | ⟨k1, s0, rfl, _⟩
        · rw [k1, (i5 s0).1]; rfl
        · have p7 : (l[n].k == 7) = false := by simp; omega
          rw [i3 s0, p7]; rfl
        · omega
        · omega
        · omega
      · intro hs
        rw [hsn]
        rcases behind_forms hb with ⟨k1, s0, rfl, _⟩ | ⟨k1, k2, s0, rfl, _⟩ | ⟨k1, s0, rfl, _⟩ | ⟨k1, s0, rfl, _⟩ | ⟨k1, s0, rfl, _⟩
        · omega
        · omega
        · rw [k1]; simp
        · omega
        · omega
      · intro hs; omega
      · intro _; rw [e2]; exact hfs
      · rcases behind_forms hb with ⟨k1, s0, rfl, _⟩ | ⟨k1, k2, s0, rfl, _⟩ | ⟨k1, s0, rfl, _⟩ | ⟨k1, s0, rfl, _⟩ | ⟨k1, s0, rfl, _⟩ <;> omega
    · have e1 : stC (updF Mi l[n].a (st, Fs)) a = stC Mi a := stC_upd_other _ _ (fun h => hx h.symm)
      have e2 : fsC (updF Mi l[n].a (st, Fs)) a = fsC Mi a := fsC_upd_other _ _ (fun h => hx h.symm)
      have p : (l[n].a == a) = false := by simpa using hx
      simp only [p, Bool.false_and, Bool.or_false] at hsn
      rw [if_neg hx] at hct
      obtain ⟨i1, i2, i3, i4, i5, i6, i7⟩ := I
      refine ⟨?_, ?_, ?_, ?_, ?_, ?_, ?_⟩
      all_goals rw [e1]
      · rw [hsn]; exact i1
      · rw [hsn, hsn]; exact i2
      · rw [hsn]; exact i3
      · rw [hsn]; exact i4
      · intro hs; exact ⟨fun k => by rw [hsn]; exact (i5 hs).1 k, by rw [hct]; exact (i5 hs).2⟩
      · rw [e2, hct]; exact i6
      · exact i7

def bareS (e : EvD) : Bool := decide (e.t = 0) && decide (e.v = 0)
/-- What 'fits' answers. -/
def fitQ (e : EvD) (b t en : Bool) (Fs : List Fr) : Bool :=
  if 0 ≤ e.a ∧ e.a < 64 then
    if e.k = 1 then bareS e && !b
    else if b = false ∨ en = true then false
    else if e.k = 8 then bareS e && t
    else if e.k = 9 then bareS e
    else if e.k = 2 then !t && (decide (0 ≤ e.t) && decide (e.t < 12) && rightB e.v)
    else if e.k = 3 then !t && decide ((noteS Fs e).1 = 0)
    else if e.k = 4 ∨ e.k = 5 ∨ e.k = 6 then !t && bareS e && decide ((noteS Fs e).1 = 0)
    else if e.k = 7 then !t && bareS e && decide (Fs.length - 1 = 0)
    else false
  else false

theorem named_bare {e : EvD} (h2 : e.k ≠ 2) (h3 : e.k ≠ 3) : namedS e = bareS e := by
  obtain ⟨k, a, t, v⟩ := e
  unfold namedS bareS
  simp only at h2 h3 ⊢
  rw [decide_eq_false h2, decide_eq_false h3]
  by_cases ht : t = 0
  · by_cases hv : v = 0
    · subst ht hv
      have hr0 : rightB 0 = true := by decide
      rw [hr0]
      simp
    · rw [decide_eq_false hv]; simp
  · rw [decide_eq_false ht]; simp
theorem put_named {Fs : List Fr} (h : Fs ≠ []) {t v : Int} (hp : (putS Fs t v).1 = 0) : (decide (0 ≤ t) && decide (t < 12) && rightB v) = true := by
  cases Fs with
  | nil => exact absurd rfl h
  | cons f r =>
    rw [putS] at hp
    split at hp
    · simp at hp
    · rename_i ht
      split at hp
      · simp at hp
      · rename_i hv
        have : 0 ≤ t ∧ t < 12 := Decidable.not_not.1 ht
        simp [this.1, this.2]
        simpa using hv

theorem fit_eq {st : Int} {Fs : List Fr} {e : EvD} {b t en : Bool} (ha : 0 ≤ e.a ∧ e.a < 64) (hst : 0 ≤ st ∧ st ≤ 4) (hb : b = decide (st ≠ 0)) (hen : en = decide (st = 3 ∨ st = 4)) (h1 : st = 1 → t = false) (h2 : st = 2 → t = true) (hF : st ≠ 0 → Fs ≠ []) :
    (behindS st Fs e).isSome = fitQ e b t en Fs := by
  unfold fitQ
  rw [if_pos ha]
  by_cases k1 : e.k = 1
  · rw [if_pos k1]
    unfold behindS
    rw [named_bare (by omega) (by omega), if_pos k1, hb]
    cases bareS e <;> by_cases h0 : st = 0 <;> simp [h0]
  · rw [if_neg k1]
    by_cases h0 : st = 0
    · have : (behindS st Fs e) = none := by
        cases hq : behindS st Fs e with
        | none => rfl
        | some r => rw [h0] at hq; exact absurd (behind_zero hq) k1
      rw [this, if_pos (.inl (by rw [hb, h0]; rfl))]; rfl
    · by_cases h34 : st = 3 ∨ st = 4
      · have : (behindS st Fs e) = none := by
          cases hq : behindS st Fs e with
          | none => rfl
          | some r =>
            obtain ⟨a', b'⟩ := r
            exfalso
            rcases behind_forms hq with ⟨_, s0, _⟩ | ⟨_, _, s0, _⟩ | ⟨_, s0, _⟩ | ⟨_, s0, _⟩ | ⟨_, s0, _⟩ <;> omega
        rw [this, if_pos (.inr (by rw [hen]; simpa using h34))]; rfl
      · rw [if_neg (by rw [hb, hen]; simp only [decide_eq_false_iff_not, decide_eq_true_eq]; rintro (h | h); exact h h0; exact h34 h)]
        have hst12 : st = 1 ∨ st = 2 := by omega
        have hF := hF h0
        have body : ∀ r : Bool, (namedS e = false → r = false) → (namedS e = true → (if e.k = 1 then (if st = 0 then some (1, [f0]) else none) else if 2 ≤ e.k ∧ e.k ≤ 6 then (if st = 1 ∧ (noteS Fs e).1 = 0 then some (1, (noteS Fs e).2) else none) else if e.k = 7 then (if st = 1 ∧ Fs.length - 1 = 0 then some (2, Fs) else none) else if e.k = 8 then (if st = 2 then some (3, Fs) else none) else if e.k = 9 then (if st = 1 ∨ st = 2 then some (4, Fs) else none) else none : Option (Int × List Fr)).isSome = r) → (behindS st Fs e).isSome = r := by
          intro r hf ht
          unfold behindS
          by_cases hN : namedS e = false
          · rw [if_pos hN, hf hN]; rfl
          · rw [if_neg hN]; exact ht (by simpa using hN)
        refine body _ ?_ ?_
        · intro hN
          by_cases k2 : e.k = 2
          · have hnm : namedS e = (decide (0 ≤ e.t) && decide (e.t < 12) && rightB e.v) := by unfold namedS; rw [k2]; simp
            rw [if_neg (show ¬ e.k = 8 by omega), if_neg (show ¬ e.k = 9 by omega), if_pos k2, ← hnm, hN, Bool.and_false]
          · by_cases k3 : e.k = 3
            · have hnm : namedS e = (decide (0 ≤ e.t) && decide (e.t < 12) && rightB e.v) := by unfold namedS; rw [k3]; simp
              have hpn : (noteS Fs e).1 = 0 → (decide (0 ≤ e.t) && decide (e.t < 12) && rightB e.v) = true := by
                unfold noteS
                rw [if_pos k3]
                exact put_named hF
              rw [if_neg (show ¬ e.k = 8 by omega), if_neg (show ¬ e.k = 9 by omega), if_neg k2, if_pos k3]
              have hz : ¬ (noteS Fs e).1 = 0 := fun hz => by have := hpn hz; rw [← hnm, hN] at this; cases this
              rw [decide_eq_false hz, Bool.and_false]
            · have hnb := named_bare k2 k3
              rw [hN] at hnb
              rw [← hnb]
              simp [k2, k3]
        · intro hN
          rw [if_neg k1]
          by_cases k2 : e.k = 2
          · have hnm : namedS e = (decide (0 ≤ e.t) && decide (e.t < 12) && rightB e.v) := by unfold namedS; rw [k2]; simp
            rw [if_pos (show 2 ≤ e.k ∧ e.k ≤ 6 by omega), if_neg (show ¬ e.k = 8 by omega), if_neg (show ¬ e.k = 9 by omega), if_pos k2, ← hnm, hN, noteS_other _ _ (by omega)]
            rcases hst12 with s | s
            · rw [h1 s, s]; simp
            · rw [h2 s, s]; simp
          · by_cases k3 : e.k = 3
            · rw [if_pos (show 2 ≤ e.k ∧ e.k ≤ 6 by omega), if_neg (show ¬ e.k = 8 by omega), if_neg (show ¬ e.k = 9 by omega), if_neg k2, if_pos k3]
              rcases hst12 with s | s
              · rw [h1 s, s]
                by_cases hz : (noteS Fs e).1 = 0 <;> simp [hz]
              · rw [h2 s, s]; simp
            · have hnb := named_bare k2 k3
              rw [hN] at hnb
              rw [← hnb]
              by_cases k456 : e.k = 4 ∨ e.k = 5 ∨ e.k = 6
              · rw [if_pos (show 2 ≤ e.k ∧ e.k ≤ 6 by omega), if_neg (show ¬ e.k = 8 by omega), if_neg (show ¬ e.k = 9 by omega), if_neg k2, if_neg k3, if_pos k456]
                rcases hst12 with s | s
                · rw [h1 s, s]
                  by_cases hz : (noteS Fs e).1 = 0 <;> simp [hz]
                · rw [h2 s, s]; simp
              · rw [if_neg (show ¬ (2 ≤ e.k ∧ e.k ≤ 6) by omega)]
                by_cases k7 : e.k = 7
                · rw [if_pos k7, if_neg (show ¬ e.k = 8 by omega), if_neg (show ¬ e.k = 9 by omega), if_neg k2, if_neg k3, if_neg k456, if_pos k7]
                  rcases hst12 with s | s
                  · rw [h1 s, s]
                    by_cases hz : Fs.length - 1 = 0 <;> simp [hz]
                  · rw [h2 s, s]; simp
                · rw [if_neg k7]
                  by_cases k8 : e.k = 8
                  · rw [if_pos k8, if_pos k8]
                    rcases hst12 with s | s
                    · rw [h1 s, s]; simp
                    · rw [h2 s, s]; simp
                  · rw [if_neg k8]
                    by_cases k9 : e.k = 9
                    · rw [if_pos k9, if_neg k8, if_pos k9]
                      rcases hst12 with s | s <;> rw [s] <;> simp
                    · simp [k9, k8, k2, k3, k456, k7]

def fitsS (l : List EvD) (i : Nat) (e : EvD) : Bool := fitQ e (seenS l i e.a 1) (seenS l i e.a 7) (seenS l i e.a 8 || seenS l i e.a 9) (noteAll [f0] (cutS e.a (l.take i)))

/-- An event fits just where the courses go on. -/
theorem fits_step {l : List EvD} {i : Nat} (hi : i < l.length) {M : CM} (h : runC M0 (l.take i) = some M) (e : EvD) : (stepC M e).isSome = fitsS l i e := by
  have I := run_inv i (by omega) h e.a
  unfold stepC
  by_cases ha : 0 ≤ e.a ∧ e.a < 64
  · rw [if_pos ha, Option.isSome_map]
    have hne : noteAll [f0] (cutS e.a (l.take i)) ≠ [] := noteAll_ne _ _ (by simp)
    by_cases h0 : stC M e.a = 0
    · unfold fitsS
      rw [fit_eq (b := seenS l i e.a 1) (t := seenS l i e.a 7) (en := (seenS l i e.a 8 || seenS l i e.a 9)) ha I.rng I.began I.ended I.one I.two (fun h => absurd h0 h)]
      unfold fitQ
      have hbf : seenS l i e.a 1 = false := (I.zero h0).1 1
      rw [if_pos ha, if_pos ha]
      by_cases k1 : e.k = 1
      · rw [if_pos k1, if_pos k1]
      · rw [if_neg k1, if_neg k1, if_pos (.inl hbf), if_pos (.inl hbf)]
    · rw [← I.fs h0] at hne
      unfold fitsS
      rw [← I.fs h0]
      exact fit_eq ha I.rng I.began I.ended I.one I.two (fun _ => hne)
  · rw [if_neg ha]
    unfold fitsS fitQ
    rw [if_neg ha]
    rfl

end Go.Proofs.YtmiaibpdeofokaaGreatDoor
/-
  THE DOCUMENT's LOG (package rowlockref07): frames, the first one first. What it is; New, Depth, Len, Get BY THEIR CONTRACTS.
-/
namespace Go.Proofs.YtmiaibpdeofokaaGreatDoor
set_option linter.unusedVariables false
set_option linter.unusedSimpArgs false
open Go.RowKit Go.Maps Go.Shelf

/-- A frame's cells. -/
def frC (f : Fr) : List Value := f.map (fun o => Value.bool o.isSome) ++ f.map (fun o => Value.int .u64 (o.getD 0))
theorem frC_len {f : Fr} (h : FrOk f) : (frC f).length = 24 := by simp [frC, h.len]

structure RLog (B : Nat) (w : World) (b : Nat) (vl : Value) (Rs : List Fr) : Prop where
  hb : B ≤ b
  st : w.heap[b]? = some (.cells #[vl] 160 (0, 0))
  own : w.ownsRow B 191 24 vl Rs.length (Rs.flatMap frC)
  ok : ∀ f ∈ Rs, FrOk f
  pos : 0 < Rs.length
  le : Rs.length ≤ 5
def rfoot (b : Nat) (vl : Value) : List Nat := b :: vl.ownBlock.toList

theorem frF_len {Rs : List Fr} (h : ∀ f ∈ Rs, FrOk f) : (Rs.flatMap frC).length = Rs.length * 24 := by
  induction Rs with
  | nil => rfl
  | cons a l ih =>
    rw [List.flatMap_cons, List.length_append, frC_len (h a (by simp)), ih (fun f hf => h f (List.mem_cons_of_mem _ hf))]
    simp; omega

theorem frF_get {Rs : List Fr} (h : ∀ f ∈ Rs, FrOk f) (k : Nat) (hk : k < Rs.length) (j : Nat) (hj : j < 24) : (Rs.flatMap frC)[k * 24 + j]? = (frC Rs[k])[j]? := by
  induction Rs generalizing k with
  | nil => simp at hk
  | cons a l ih =>
    rw [List.flatMap_cons]
    have ha := frC_len (h a (by simp))
    cases k with
    | zero => rw [List.getElem?_append_left (by rw [ha]; omega)]; simp
    | succ k =>
      rw [List.getElem?_append_right (by rw [ha]; omega)]
      simp only [List.length_cons] at hk
      have := ih (fun f hf => h f (List.mem_cons_of_mem _ hf)) k (by omega)
      simp only [List.getElem_cons_succ]
      rw [← this, ha]
      congr 1
      omega

theorem frC_has {f : Fr} (h : FrOk f) (t : Nat) (ht : t < 12) : (frC f)[t]? = some (.bool (fget f t).isSome) := by
  have h12 := h.len
  unfold frC fget
  rw [List.getElem?_append_left (by simp; omega), List.getElem?_map, if_pos (by omega), List.getD_eq_getElem?_getD, Int.toNat_natCast, List.getElem?_eq_getElem (by omega)]
  rfl
theorem frC_val {f : Fr} (h : FrOk f) (t : Nat) (ht : t < 12) : (frC f)[12 + t]? = some (.int .u64 ((fget f t).getD 0)) := by
  have h12 := h.len
  unfold frC fget
  rw [List.getElem?_append_right (by simp; omega), List.getElem?_map, if_pos (by omega), List.getD_eq_getElem?_getD, Int.toNat_natCast]
  simp only [List.length_map, h12]
  rw [show 12 + t - 12 = t by omega, List.getElem?_eq_getElem (by omega)]
  rfl

/-- Where the frames lie. -/
theorem RLog.row {B : Nat} {w : World} {b : Nat} {vl : Value} {Rs : List Fr} (h : RLog B w b vl Rs) : ∃ g cap, vl = .slice (some ⟨g, 0, none⟩) Rs.length cap ∧ g < w.heap.size ∧
    ∀ k (hk : k < Rs.length) t, t < 12 → w.cell? ⟨g, k * 24 + t, none⟩ = some (.bool (fget Rs[k] t).isSome) ∧ w.cell? ⟨g, k * 24 + 12 + t, none⟩ = some (.int .u64 ((fget Rs[k] t).getD 0)) := by
  have hp := h.pos
  rcases h.own.2 with ⟨_, h0⟩ | ⟨g, cap, cur, rfl, hB, hg, rest⟩
  · omega
  · refine ⟨g, cap, rfl, lt_of_heap hg, fun k hk t ht => ⟨?_, ?_⟩⟩
    · have hc := h.own.cells (g := g) rfl (k * 24 + t) _ ((frF_get h.ok k hk t (by omega)).trans (frC_has (h.ok _ (List.getElem_mem hk)) t ht))
      rw [Addr.add_lit] at hc
      simpa using hc
    · have hc := h.own.cells (g := g) rfl (k * 24 + (12 + t)) _ ((frF_get h.ok k hk (12 + t) (by omega)).trans (frC_val (h.ok _ (List.getElem_mem hk)) t ht))
      rw [Addr.add_lit] at hc
      simpa [Nat.add_assoc] using hc

theorem RLog.keep {B : Nat} {w w' : World} {b : Nat} {vl : Value} {Rs : List Fr} {S : List Nat} (h : RLog B w b vl Rs) (t : Touch w w' S) (hS : ∀ x ∈ rfoot b vl, x ∉ S) : RLog B w' b vl Rs :=
  { h with
    st := (t.block _ (lt_of_heap h.st) (hS _ (by simp [rfoot]))).trans h.st
    own := ownsRow_touch h.own t (fun k hk => hS k (by simp [rfoot, hk])) }
theorem RLog.touch {B : Nat} {w w' : World} {b : Nat} {vl : Value} {Rs : List Fr} (h : RLog B w b vl Rs) (t : Touch w w' []) : RLog B w' b vl Rs := h.keep t (by simp)
theorem RLog.cell {B : Nat} {w : World} {b : Nat} {vl : Value} {Rs : List Fr} (h : RLog B w b vl Rs) : w.cell? ⟨b, 0, none⟩ = some vl ∧ w.frozen? ⟨b, 0, none⟩ = false := by simp [World.cell?, World.frozen?, h.st]
theorem RLog.foot_lt {B : Nat} {w : World} {b : Nat} {vl : Value} {Rs : List Fr} (h : RLog B w b vl Rs) : ∀ x ∈ rfoot b vl, B ≤ x ∧ x < w.heap.size := by
  intro x hx
  simp only [rfoot, List.mem_cons, Option.mem_toList] at hx
  rcases hx with rfl | hx
  · exact ⟨h.hb, lt_of_heap h.st⟩
  · rcases h.own.2 with ⟨rfl, _⟩ | ⟨g, cap, cur, rfl, hB, hg, rest⟩
    · simp [Value.ownBlock] at hx
    · obtain rfl : g = x := by simpa [Value.ownBlock] using hx
      exact ⟨hB, lt_of_heap hg⟩

set_option maxRecDepth 100000 in
theorem rnew_any (w : World) : Calls Tryz.prog 106 #[] w fun e w' => ∃ b vl, e = .returned (ptr b) ∧ RLog w.heap.size w' b vl [f0] ∧ Touch w w' [] := by
  go_enter Tryz.func106, Tryz.ntmps106
  go_wp2
  go_ret
  obtain ⟨cs, hcs⟩ : ∃ cs : Array Value, cs = #[.bool false, .bool false, .bool false, .bool false, .bool false, .bool false, .bool false, .bool false, .bool false, .bool false, .bool false, .bool false, .int .u64 0, .int .u64 0, .int .u64 0, .int .u64 0, .int .u64 0, .int .u64 0, .int .u64 0, .int .u64 0, .int .u64 0, .int .u64 0, .int .u64 0, .int .u64 0] := ⟨_, rfl⟩
  rw [← hcs]
  have hl : cs.toList = frC f0 := by rw [hcs]; rfl
  have hz : cs.size = 24 := by rw [hcs]; rfl
  have hg := heap_alloc_new w (.cells cs 191)
  have hb := heap_alloc_new (w.alloc (.cells cs 191)) (.cells #[.slice (some ⟨w.heap.size, 0, none⟩) 1 1] 160)
  rw [World.size_alloc] at hb
  refine ⟨w.heap.size + 1, .slice (some ⟨w.heap.size, 0, none⟩) 1 1, by simp, ⟨by omega, hb, ⟨by rw [frF_len (by simp [FrOk.f0])], .inr ⟨w.heap.size, 1, cs, rfl, Nat.le_refl _, (heap_alloc_old _ _ (lt_of_heap hg)).trans hg, Nat.le_refl _, by unfold maxLen; omega, by rw [hz], ?_⟩⟩, by simp [FrOk.f0], by simp, by simp⟩, ((Touch.refl w []).alloc _).alloc _⟩
  rw [hl]
  rfl

set_option maxRecDepth 100000 in
theorem rdepth_any {B : Nat} {w : World} {b : Nat} {vl : Value} {Rs : List Fr} (h : RLog B w b vl Rs) : Calls Tryz.prog 80 #[ptr b] w fun e w' => e = .returned (.int .i64 ((Rs.length : Int) - 1)) ∧ w = w' := by
  obtain ⟨g, cap, rfl, _, hrow⟩ := h.row
  obtain ⟨c0, _⟩ := h.cell
  have h5 := h.le
  have hp := h.pos
  clear h hrow
  generalize Rs.length = N at *
  go_enter Tryz.func80, Tryz.ntmps80
  go_wp2
  go_ret
  exact ⟨by go_num, rfl⟩

/-- How many of the first t variables a frame has. -/
def cntK (f : Fr) (t : Nat) : Nat := fcnt (f.take t)
theorem cntK_succ {f : Fr} (h : FrOk f) {t : Nat} (ht : t < 12) : cntK f (t + 1) = cntK f t + if (fget f t).isSome then 1 else 0 := by
  have hl : t < f.length := by rw [h.len]; exact ht
  have e : fget f t = f[t] := by
    unfold fget
    rw [if_pos (by omega), List.getD_eq_getElem?_getD, Int.toNat_natCast, List.getElem?_eq_getElem hl]
    rfl
  rw [e]
  unfold cntK fcnt
  rw [List.take_succ_eq_append_getElem hl, List.filter_append, List.length_append]
  cases hq : f[t] <;> simp [List.filter]
theorem cntK_all {f : Fr} (h : FrOk f) : cntK f 12 = fcnt f := by
  unfold cntK
  rw [List.take_of_length_le (by rw [h.len]; exact Nat.le_refl _)]
theorem cntK_le (f : Fr) (t : Nat) : cntK f t ≤ t := by
  unfold cntK fcnt
  exact Nat.le_trans (List.length_filter_le _ _) (by simp; omega)
theorem lenF_le' {Rs : List Fr} (h : ∀ f ∈ Rs, FrOk f) (k : Nat) (hk : k ≤ 5) : lenF (Rs.take k) ≤ 60 := by
  have : ∀ l : List Fr, (∀ f ∈ l, FrOk f) → lenF l ≤ 12 * l.length := by
    intro l
    induction l with
    | nil => intro _; simp [lenF]
    | cons a l ih =>
      intro hh
      have h1 := ih (fun f hf => hh f (List.mem_cons_of_mem _ hf))
      have h2 := fcnt_le (hh a (by simp))
      simp only [lenF, List.map_cons, List.sum_cons, List.length_cons] at h1 ⊢
      omega
  have h2 := this (Rs.take k) (fun f hf => h f (List.mem_of_mem_take hf))
  have h3 : (Rs.take k).length ≤ 5 := by rw [List.length_take]; omega
  omega

set_option maxRecDepth 100000 in
set_option maxHeartbeats 1000000 in
theorem rlen_any {B : Nat} {w : World} {b : Nat} {vl : Value} {Rs : List Fr} (h : RLog B w b vl Rs) : Calls Tryz.prog 137 #[ptr b] w fun e w' => e = .returned (.int .i64 (lenF Rs : Nat)) ∧ Touch w w' [] := by
  obtain ⟨g, cap, rfl, hg, hrow⟩ := h.row
  obtain ⟨c0, _⟩ := h.cell
  have h5 := h.le
  obtain ⟨N, hN⟩ : ∃ N, N = Rs.length := ⟨_, rfl⟩
  have HN : Hid (N = Rs.length) := hN
  have HR : Hid _ := hrow
  have HOK : Hid _ := h.ok
  rw [← hN] at c0 h5
  clear h hrow hN
  go_enter Tryz.func137, Tryz.ntmps137
  go_wp2_with fail
  go_loopw [3, 4] (fun n i wr => ∃ k : Nat, i = .int .i64 k ∧ k ≤ N ∧ n = .int .i64 (lenF (Rs.take k) : Nat) ∧ Touch w wr []) (fun _ i _ => N - (intOf i).toNat)
  case atStart => exact ⟨0, rfl, Nat.zero_le _, rfl, Touch.refl _ _⟩
  case round =>
    obtain ⟨k, rfl, hk, rfl, hT⟩ := hrel
    have HT : Hid _ := hT
    have d0 := (hT.cell (p := ⟨b, 0, none⟩) (World.block_lt_of_cell? w _ c0) (by simp)).trans c0
    clear hT
    by_cases hlt : k < N
    · have hlt' : (k : Int) < N := by omega
      have hkl : k < Rs.length := by rw [← HN.out]; exact hlt
      have hok := HOK.out _ (List.getElem_mem hkl)
      have hsn := lenF_snoc hkl
      have h60 := lenF_le' HOK.out (k + 1) (by omega)
      have hca := cntK_all hok
      obtain ⟨f, hf⟩ : ∃ f, f = Rs[k] := ⟨_, rfl⟩
      have hcell : ∀ t, t < 12 → wr.cell? ⟨g, k * 24 + t, none⟩ = some (.bool (fget f t).isSome) := fun t ht => by
        rw [hf]; exact (HT.out.cell (p := ⟨g, k * 24 + t, none⟩) hg (by simp)).trans (HR.out k hkl t ht).1
      rw [← hf] at hok hsn hca
      have HC : Hid _ := hcell
      have HSN : Hid _ := hsn
      clear hcell hf
      generalize lenF (Rs.take k) = n0 at *
      rw [HSN.out] at h60
      go_wp2_with fail
      go_loopw [3, 5] (fun n t wx => ∃ j : Nat, t = .int .i64 j ∧ j ≤ 12 ∧ n = .int .i64 ((n0 + cntK f j : Nat) : Int) ∧ wx = wr) (fun _ t _ => 12 - (intOf t).toNat)
      case atStart => exact ⟨0, rfl, by omega, by simp [cntK, fcnt], rfl⟩
      case round =>
        obtain ⟨j, rfl, hj, rfl, rfl⟩ := hrel
        by_cases hjt : j < 12
        · have hjt' : (j : Int) < 12 := by omega
          have hcs := cntK_succ hok hjt
          have hcl := cntK_le f j
          have m0 := HC.out j hjt
          cases hq : (fget f j).isSome
          all_goals
            rw [hq] at hcs m0
            simp only [Bool.false_eq_true, if_false, if_true] at hcs
            go_wp2
            go_roundw
            case rel => exact ⟨j + 1, by go_num, by omega, by rw [hcs]; go_num, by first | rfl | trivial⟩
            case measure => simp [intOf]; omega
        · obtain rfl : j = 12 := by omega
          rw [hca]
          go_wp2
          exact ⟨⟨k + 1, by go_num, by omega, by rw [HSN.out], HT.out⟩, by simp [intOf]; omega⟩
    · obtain rfl : k = N := by omega
      have he : Rs.take k = Rs := List.take_of_length_le (by rw [← HN.out]; exact Nat.le_refl _)
      rw [he]
      clear he
      go_wp2
      go_ret
      exact ⟨rfl, HT.out⟩

/-- The last one that has it. -/
theorem getF_rev_hit {Rs : List Fr} {t v : Int} {k : Nat} (hk : k < Rs.length) (hno : ∀ f ∈ Rs.drop (k + 1), fget f t = none) (hv : fget Rs[k] t = some v) : getF Rs.reverse t = some v := by
  unfold getF
  have e : Rs = Rs.take k ++ (Rs[k] :: Rs.drop (k + 1)) := by rw [← List.drop_eq_getElem_cons hk, List.take_append_drop]
  have e2 : Rs.reverse = (Rs.drop (k + 1)).reverse ++ (Rs[k] :: (Rs.take k).reverse) := by
    conv => lhs; rw [e]
    simp
  rw [e2, List.findSome?_append, List.findSome?_eq_none_iff.2 (by intro f hf; exact hno f (by simpa using hf)), List.findSome?_cons, hv]
  rfl
theorem getF_rev_none {Rs : List Fr} {t : Int} (hno : ∀ f ∈ Rs, fget f t = none) : getF Rs.reverse t = none := List.findSome?_eq_none_iff.2 (by intro f hf; exact hno f (by simpa using hf))


end Go.Proofs.YtmiaibpdeofokaaGreatDoor
/-
  THE DOCUMENT's LOG: set BY ITS CONTRACT: one frame is another one.
-/
namespace Go.Proofs.YtmiaibpdeofokaaGreatDoor
set_option linter.unusedVariables false
set_option linter.unusedSimpArgs false
open Go.RowKit Go.Maps Go.Shelf

theorem Tryz.info_frame : (Tryz.prog.info? 191).map (fun i => (i.zero, i.size, i.bytes)) = some (some (.agg (frC f0).toArray), 24, 112) := by kernel_rfl

theorem setCells_shape (g : Nat) (e : TypeId) : ∀ (vs : List Value) (o : Nat) (w : World) (cur : Array Value), w.heap[g]? = some (.cells cur e (0, 0)) → ∃ cur', (w.setCells g o vs).heap[g]? = some (.cells cur' e (0, 0)) ∧ cur'.size = cur.size
  | [], o, w, cur, h => ⟨cur, h, rfl⟩
  | v :: r, o, w, cur, h => by
    rw [World.setCells]
    have h1 : ∃ c1, (w.setCell ⟨g, o, none⟩ v).heap[g]? = some (.cells c1 e (0, 0)) ∧ c1.size = cur.size := ⟨_, heap_setCell_same _ _ _ _ _ _ h, by simp⟩
    obtain ⟨c1, h1, hs⟩ := h1
    obtain ⟨c2, h2, hs2⟩ := setCells_shape g e r (o + 1) _ c1 h1
    exact ⟨c2, h2, hs2.trans hs⟩

theorem setCells_touch (g : Nat) : ∀ (vs : List Value) (o : Nat) (w : World), Touch w (w.setCells g o vs) [g]
  | [], o, w => Touch.refl _ _
  | v :: r, o, w => by
    rw [World.setCells]
    exact ((Touch.refl w [g]).setCell (.inl (by simp)) v).trans (setCells_touch g r (o + 1) _) (by simp)

theorem frC_one (f : Fr) : ∀ u ∈ frC f, u.oneCell' = true := by
  intro u hu
  simp only [frC, List.mem_append, List.mem_map] at hu
  rcases hu with ⟨o, _, rfl⟩ | ⟨o, _, rfl⟩ <;> rfl
theorem frF_one {Rs : List Fr} : ∀ u ∈ Rs.flatMap frC, u.oneCell' = true := by
  intro u hu
  rw [List.mem_flatMap] at hu
  obtain ⟨f, _, hf⟩ := hu
  exact frC_one f u hf

/-- One frame of a row is another one. -/
theorem row_set {w : World} {B g cap : Nat} {Rs : List Fr} (h : w.ownsRow B 191 24 (.slice (some ⟨g, 0, none⟩) Rs.length cap) Rs.length (Rs.flatMap frC)) (hok : ∀ f ∈ Rs, FrOk f) {i : Nat} (hi : i < Rs.length) {f : Fr} (hf : FrOk f) :
    (w.setCells g (i * 24) (frC f)).ownsRow B 191 24 (.slice (some ⟨g, 0, none⟩) Rs.length cap) Rs.length ((Rs.set i f).flatMap frC) := by
  have hok' : ∀ x ∈ Rs.set i f, FrOk x := fun x hx => by
    rcases List.mem_or_eq_of_mem_set hx with h1 | h1
    · exact hok x h1
    · rw [h1]; exact hf
  refine ⟨by rw [frF_len hok', List.length_set], .inr ?_⟩
  have hcells := h.cells (g := g) rfl
  rcases h.2 with ⟨e, _⟩ | ⟨g', cap', cur, e, hB, hg, h1, h2, h3, h4⟩
  · simp at e
  · simp only [Value.slice.injEq, Option.some.injEq, Addr.mk.injEq] at e
    obtain ⟨⟨rfl, _⟩, _, rfl⟩ := e
    obtain ⟨cur', hg', hs'⟩ := setCells_shape g 191 (frC f) (i * 24) w cur hg
    refine ⟨g, cap, cur', rfl, hB, hg', h1, h2, by rw [hs', h3], ?_⟩
    have hfl := frC_len hf
    have hth : ∀ j, j < (frC f).length → (w.cell? ⟨g, i * 24 + j, none⟩).isSome = true := fun j hj => by
      have : i * 24 + j < cur.size := by rw [h3]; have := Nat.mul_le_mul_right 24 (Nat.le_trans hi h1); omega
      simp [World.cell?, hg, this]
    apply List.ext_getElem?
    intro j
    by_cases hj : j < Rs.length * 24
    · rw [List.getElem?_take, if_pos hj]
      obtain ⟨k, r, hr, rfl⟩ : ∃ k r, r < 24 ∧ j = k * 24 + r := ⟨j / 24, j % 24, Nat.mod_lt _ (by omega), by omega⟩
      have hk : k < Rs.length := by omega
      rw [frF_get hok' k (by rw [List.length_set]; exact hk) r hr]
      have ec : cur'.toList[k * 24 + r]? = (w.setCells g (i * 24) (frC f)).cell? ⟨g, k * 24 + r, none⟩ := by
        simp [World.cell?, hg']
      rw [ec, List.getElem_set]
      by_cases hki : i = k
      · subst hki
        rw [if_pos rfl, World.cell?_setCells_in g (frC f) (i * 24) w hth r (by rw [hfl]; exact hr), List.getElem?_eq_getElem (by rw [hfl]; exact hr)]
      · rw [if_neg hki, World.cell?_setCells_out g (frC f) (i * 24) w ⟨g, k * 24 + r, none⟩ (fun _ _ => by
          rw [hfl]
          simp only
          omega)]
        have hl : r < (frC Rs[k]).length := by rw [frC_len (hok _ (List.getElem_mem hk))]; exact hr
        have hx := hcells (k * 24 + r) _ ((frF_get hok k hk r hr).trans (List.getElem?_eq_getElem hl))
        rw [Addr.add_lit] at hx
        simp only [Nat.zero_add] at hx
        rw [hx, List.getElem?_eq_getElem hl]
    · rw [List.getElem?_eq_none (by rw [List.length_take]; omega), List.getElem?_eq_none (by rw [frF_len hok', List.length_set]; omega)]

theorem ownsRow_base {w : World} {B B' : Nat} {e : TypeId} {size : Nat} {v : Value} {n : Nat} {xs : List Value} (h : w.ownsRow B e size v n xs) (hB : B' ≤ B) : w.ownsRow B' e size v n xs := by
  refine ⟨h.1, ?_⟩
  rcases h.2 with h0 | ⟨g, cap, cur, e, hg, rest⟩
  · exact .inl h0
  · exact .inr ⟨g, cap, cur, e, Nat.le_trans hB hg, rest⟩

/-- A load of many cells, as an operation's run. -/
theorem exec_load_mid {P : Program} {o : Oper} {a : Act} (w : World) (ty : TypeId) (x : Operand) (ho : o.op = .load ty x) (b off : Nat) (hx : a.eval x = .pointer (some ⟨b, off, none⟩)) (cs : List Value) (d : TypeDesc) (hc : w.rangeAt b off cs)
    (hu : P.underlying ty = some d) (hd : d.isRow = true) (hi : (P.info? ty).map (·.size) = some cs.length) : (execOp a.eval o).run P w = .ok (.value (.agg cs.toArray)) w := by
  unfold execOp
  simp only [ho, hx, Instr.loadAt, Instr.sureAddr, Sem.run_bind, Sem.run_pure, Result.andThen_ok, run_loadVar_mid w b off ty cs d hc hu hd hi]

/-- A block that is written whole. -/
theorem setCells_whole {w : World} {g : Nat} {e : TypeId} {cur : Array Value} (h : w.heap[g]? = some (.cells cur e (0, 0))) {A : List Value} (hs : cur.size = A.length) : (w.setCells g 0 A).heap[g]? = some (.cells A.toArray e (0, 0)) := by
  obtain ⟨cur', h', hs'⟩ := setCells_shape g e A 0 w cur h
  rw [h']
  congr 2
  apply Array.ext_getElem?
  intro j
  by_cases hj : j < A.length
  · have h1 := World.cell?_setCells_in g A 0 w (fun i hi => by simp [World.cell?, h]; omega) j hj
    simp only [World.cell?, h', Nat.zero_add] at h1
    simp at h1
    rw [h1]
    simp [hj]
  · rw [Array.getElem?_eq_none (by omega), Array.getElem?_eq_none (by simp; omega)]

theorem there_new (w : World) (cs : Array Value) (t : TypeId) (n : Nat) (hn : n = cs.size) : (w.alloc (.cells cs t)).there w.heap.size 0 n := fun j hj => by
  have h := heap_alloc_new w (.cells cs t)
  subst hn
  generalize w.alloc (.cells cs t) = W at h
  generalize w.heap.size = k at h
  simp [World.cell?, World.frozen?, h, hj]
theorem there_new_drew (w : World) (cs : Array Value) (t : TypeId) (n : Nat) (hn : n = cs.size) : (w.drew.alloc (.cells cs t)).there w.heap.size 0 n := there_new w.drew cs t n hn
theorem there_drew_new (w : World) (cs : Array Value) (t : TypeId) (n : Nat) (hn : n = cs.size) : ((w.alloc (.cells cs t)).drew).there w.heap.size 0 n := there_new w cs t n hn
theorem rangeAt_touch {w w' : World} {g o : Nat} {cs : List Value} (h : w.rangeAt g o cs) (t : Touch w w' []) : w'.rangeAt g o cs := fun j v hv => by
  have := h j v hv
  exact (t.cell (p := ⟨g, o + j, none⟩) (World.block_lt_of_cell? w _ this) (by simp)).trans this

theorem rangeAt_keep {w w' : World} {g o : Nat} {cs : List Value} {S : List Nat} (h : w.rangeAt g o cs) (t : Touch w w' S) (hS : g ∉ S) : w'.rangeAt g o cs := fun j v hv => by
  have := h j v hv
  exact (t.cell (p := ⟨g, o + j, none⟩) (World.block_lt_of_cell? w _ this) hS).trans this
theorem rev_set (f x : Fr) (r : List Fr) : (f :: r).reverse.set r.length x = (x :: r).reverse := by
  rw [List.reverse_cons, List.reverse_cons, List.set_append_right _ _ (by simp)]
  simp

/-- The world behind a region, under a name. -/
theorem then_name {K : Act → World → Prop} {Q : Exit → Act → World → Prop} {a : Act} {W : World} (R : World → Prop) (h : R W) (k : ∀ W, R W → Exit.then K Q .normal a W) : Exit.then K Q .normal a W := k W h

/-- What a deed on the document's log leaves. -/
def RPost (B : Nat) (w : World) (b : Nat) (vl : Value) (res : Int × List Fr) (e : Ending) (w' : World) : Prop :=
  ∃ vl', e = .returned (.int .i64 res.1) ∧ RLog B w' b vl' res.2.reverse ∧ Touch w w' (rfoot b vl) ∧ ∀ x ∈ rfoot b vl', x ∈ rfoot b vl ∨ w.heap.size ≤ x

set_option maxRecDepth 100000 in
set_option maxHeartbeats 1000000 in
theorem rset_any {B : Nat} {w : World} {b : Nat} {vl : Value} {Rs : List Fr} (h : RLog B w b vl Rs) {i : Nat} (hi : i < Rs.length) {f : Fr} (hf : FrOk f) :
    Calls Tryz.prog 138 #[ptr b, .int .i64 i, .agg (frC f).toArray] w fun e w' => ∃ vl', e = .returned (.tuple #[]) ∧ RLog B w' b vl' (Rs.set i f) ∧ Touch w w' (rfoot b vl) ∧ ∀ x ∈ rfoot b vl', x ∈ rfoot b vl ∨ w.heap.size ≤ x := by
  obtain ⟨g, cap, rfl, hg, hrow⟩ := h.row
  obtain ⟨i0, hi0, hz0, hz1, hz2⟩ := info_parts Tryz.info_frame
  obtain ⟨c0, fz⟩ := h.cell
  have HS : Hid _ := h
  clear h hrow
  go_enter Tryz.func138, Tryz.ntmps138
  have h5 := HS.out.le
  have hpos := HS.out.pos
  obtain ⟨A, hA⟩ : ∃ A : Array Value, A = (frC f).toArray := ⟨_, rfl⟩
  rw [← hA]
  have T2 : Touch w ((w.alloc (.cells A 191)).alloc (.cells #[] 191)) [] := ((Touch.refl w []).alloc _).alloc _
  have c0' := (HS.out.touch T2).cell.1
  have hsrc := (HS.out.touch T2).own
  have hzs : (Value.agg (frC f0).toArray).cells.size = 24 := by decide
  have hem := empty_row (w.alloc (.cells A 191)) 191 24
  rw [World.size_alloc] at hem
  obtain ⟨N, hN⟩ : ∃ N, N = Rs.length := ⟨_, rfl⟩
  have HN : Hid (N = Rs.length) := hN
  rw [← hN] at c0 c0' hsrc hi h5 hpos
  have HT2 : Hid _ := T2
  have HA : Hid _ := hA
  clear T2 hN hA
  go_wp2_with (at_builtin; refine wpList_append_src rfl _ _ 158 rfl (w.heap.size + 1) 191 i0 _ 24 112 Tryz.underlying158 hi0 hz0 hz1 hz2 hzs (by decide) (w.heap.size + 1) 0 0 [] rfl hem _ B N (Rs.flatMap frC) rfl hsrc frF_one (by unfold maxLen; omega) (by omega) (by simp) ?_)
  intro g' cap' w3 hown3 hgrow hat hlt
  have hsz3 := hgrow.size
  simp only [World.size_alloc] at hsz3 hat
  have hA3 : w3.heap[w.heap.size]? = some (.cells A 191 (0, 0)) := by
    have h0 : ((w.alloc (.cells A 191)).alloc (.cells #[] 191)).heap[w.heap.size]? = some (.cells A 191 (0, 0)) := (heap_alloc_old _ _ (by simp)).trans (heap_alloc_new w _)
    exact (hgrow.block w.heap.size (by simp <;> omega) (by simp <;> omega)).trans h0
  have hAz : A.size = 24 := by rw [HA.out]; simp [frC_len hf]
  have hA1 : A.all (·.oneCell') = true := by rw [HA.out]; exact all_oneCell_toArray (frC_one f)
  have hinf : (Tryz.prog.info? 191).map (·.size) = some 24 := by rw [hi0]; simp [hz1]
  have hrg : w3.rangeAt w.heap.size 0 A.toList := fun j v hv => by simp [World.cell?, hA3]; simpa using hv
  have hinf2 : (Tryz.prog.info? 191).map (·.size) = some A.toList.length := by rw [hinf]; simp [hAz]
  have hinf3 : (Tryz.prog.info? 191).map (·.size) = some A.size := by rw [hinf, hAz]
  try simp only [List.nil_append, Nat.zero_add] at hown3
  have hth : w3.there g' (i * 24) A.size := fun j hj => by
    rcases hown3.2 with ⟨e, _⟩ | ⟨g2, cap2, cur, e, hB, hg2, h1, h2, h3, h4⟩
    · simp at e
    · simp only [Value.slice.injEq, Option.some.injEq, Addr.mk.injEq] at e
      obtain ⟨⟨rfl, _⟩, _, rfl⟩ := e
      have : i * 24 + j < cur.size := by rw [h3]; have := Nat.mul_le_mul_right 24 (Nat.le_trans hi h1); omega
      simp [World.cell?, World.frozen?, hg2, this]
  have HR : Hid _ := hown3
  have HG : Hid _ := hgrow
  have t3 : Touch w w3 [] := HT2.out.grown hgrow (fun k hk => .inr (by cases hk; omega))
  have b3 := (HS.out.touch t3).st
  have hbl : b < w.heap.size := lt_of_heap HS.out.st
  have tc := setCells_touch g' A.toList (i * 24) w3
  have hb' : b ∉ [g'] := by simp; omega
  have b4 := (tc.block _ (lt_of_heap b3) hb').trans b3
  have c4 : (w3.setCells g' (i * 24) A.toList).cell? ⟨b, 0, none⟩ = some (.slice (some ⟨g, 0, none⟩) Rs.length cap) := by simp [World.cell?, b4]
  have f4 : (w3.setCells g' (i * 24) A.toList).frozen? ⟨b, 0, none⟩ = false := by simp [World.frozen?, b4]
  have hiN : (i : Int) < N := by omega
  have HT3 : Hid _ := t3
  have HTC : Hid _ := tc
  have HB4 : Hid _ := b4
  clear hown3 hgrow hsrc hem c0' c0 hA3 hinf hi0 hz0 hz1 hz2 t3 b3 tc b4 hzs
  go_wp2_with (first | (refine wpList_load_mid rfl 191 _ rfl w.heap.size 0 rfl A.toList _ hrg Tryz.underlying191 rfl hinf2 ?_) | (refine wpList_store_mid rfl 191 _ _ rfl g' (i * 24) A rfl rfl hth hinf3 hA1 ?_) | go_in)
  go_end0
  have hAf : A.toList = frC f := by rw [HA.out]
  have hrow := HR.out
  have tc := HTC.out
  have b4 := HB4.out
  rw [hAf] at tc b4 ⊢
  rw [HN.out] at hrow hi ⊢
  have hr2 := row_set hrow HS.out.ok hi hf
  have t5 : Touch (w3.setCells g' (i * 24) (frC f)) ((w3.setCells g' (i * 24) (frC f)).setCell ⟨b, 0, none⟩ (.slice (some ⟨g', 0, none⟩) Rs.length cap')) [b] := (Touch.refl _ _).setCell (.inl (by simp)) _
  have hBw : B ≤ w.heap.size := Nat.le_trans HS.out.hb (Nat.le_of_lt hbl)
  refine ⟨.slice (some ⟨g', 0, none⟩) Rs.length cap', rfl, ⟨HS.out.hb, ?_, ?_, ?_, by rw [List.length_set]; exact HS.out.pos, by rw [List.length_set]; exact HS.out.le⟩, ?_, ?_⟩
  · rw [heap_setCell_same _ _ _ _ _ _ b4]; rfl
  · rw [List.length_set]
    exact ownsRow_base (ownsRow_touch hr2 t5 (by intro k hk; simp [Value.ownBlock] at hk; simp; omega)) (by omega)
  · intro x hx
    rcases List.mem_or_eq_of_mem_set hx with h1 | h1
    · exact HS.out.ok x h1
    · rw [h1]; exact hf
  · exact ((HT3.out.trans tc (by intro x hx; simp at hx; exact .inr (by omega))).mono (by simp)).trans t5 (by simp [rfoot])
  · intro x hx
    simp only [rfoot, Value.ownBlock, List.mem_cons, Option.mem_toList, Option.some.injEq] at hx ⊢
    rcases hx with hx | hx
    · exact .inl (.inl hx)
    · exact .inr (by omega)

end Go.Proofs.YtmiaibpdeofokaaGreatDoor
/-
  THE DOCUMENT's LOG: Put, Push, Drop, Merge BY THEIR CONTRACTS.
-/
namespace Go.Proofs.YtmiaibpdeofokaaGreatDoor
set_option linter.unusedVariables false
set_option linter.unusedSimpArgs false
open Go.RowKit Go.Maps Go.Shelf

theorem RLog.stays {B : Nat} {w w' : World} {b : Nat} {vl : Value} {Fs : List Fr} (h : RLog B w b vl Fs.reverse) (t : Touch w w' []) (z : Int) : RPost B w b vl (z, Fs) (.returned (.int .i64 z)) w' :=
  ⟨vl, rfl, h.touch t, t.mono (by simp), fun x hx => .inl hx⟩

theorem lenF_rev (Fs : List Fr) : lenF Fs.reverse = lenF Fs := by
  unfold lenF
  rw [List.map_reverse, List.sum_reverse]

theorem frC_put {f : Fr} (h : FrOk f) (t : Nat) (ht : t < 12) (v : Int) : frC (fput f t v) = ((frC f).set t (.bool true)).set (12 + t) (.int .u64 v) := by
  have hl := h.len
  unfold frC fput
  rw [List.map_set, List.map_set, List.set_append_left _ _ (by simp; omega), List.set_append_right _ _ (by simp; omega)]
  simp [hl]

/-- Where the last frame lies. -/
theorem RLog.last {B : Nat} {w : World} {b : Nat} {vl : Value} {Rs : List Fr} (h : RLog B w b vl Rs) (k : Nat) (hk : k < Rs.length) : ∃ g cap, vl = .slice (some ⟨g, 0, none⟩) Rs.length cap ∧ w.rangeAt g (k * 24) (frC Rs[k]) := by
  obtain ⟨g, cap, rfl, _, _⟩ := h.row
  refine ⟨g, cap, rfl, fun j v hv => ?_⟩
  have hj : j < 24 := by have := (List.getElem?_eq_some_iff.1 hv).1; rw [frC_len (h.ok _ (List.getElem_mem hk))] at this; exact this
  have hc := h.own.cells (g := g) rfl (k * 24 + j) _ ((frF_get h.ok k hk j hj).trans hv)
  rw [Addr.add_lit] at hc
  simpa using hc

theorem twelve {f : Fr} (h : f.length = 12) : ∃ o0 o1 o2 o3 o4 o5 o6 o7 o8 o9 o10 o11, f = [o0, o1, o2, o3, o4, o5, o6, o7, o8, o9, o10, o11] := by
  match f, h with
  | [o0, o1, o2, o3, o4, o5, o6, o7, o8, o9, o10, o11], _ => exact ⟨_, _, _, _, _, _, _, _, _, _, _, _, rfl⟩

set_option maxRecDepth 100000 in
set_option maxHeartbeats 1000000 in
theorem rput_any {B : Nat} {w : World} {b : Nat} {vl : Value} {Fs : List Fr} (h : RLog B w b vl Fs.reverse) (t v : Int) (hv : Wf64 v) : Calls Tryz.prog 107 #[ptr b, .int .i64 t, .int .u64 v] w (RPost B w b vl (putS Fs t v)) := by
  cases Fs with
  | nil => exact absurd h.pos (by simp)
  | cons f r =>
  have hr := fun W => rright_any v hv W
  generalize hres : putS (f :: r) t v = res
  unfold putS at hres
  dsimp only at hres
  by_cases h0 : 0 ≤ t ∧ t < 12
  · rw [if_neg (fun hh => hh h0)] at hres
    obtain ⟨t, rfl⟩ := Int.eq_ofNat_of_zero_le h0.1
    have ht : t < 12 := by omega
    have h1 : (t : Int) < 12 := by omega
    clear h0
    cases hrv : rightB v
    · rw [hrv, if_pos rfl] at hres
      subst hres
      rw [hrv] at hr
      have HS : Hid _ := h
      clear h
      go_enter Tryz.func107, Tryz.ntmps107
      go_wp2_with fail
      refine (hr _).mono ?_
      rintro e w1 ⟨rfl, rfl⟩
      clear hr
      go_wp2
      go_ret
      exact HS.out.stays (Touch.refl _ _) 3
    · rw [hrv, if_neg (by simp)] at hres
      rw [hrv] at hr
      have hlen : (f :: r).reverse.length = r.length + 1 := by simp
      obtain ⟨g, cap, hvl, hrg⟩ := h.last r.length (by simp)
      have hlast : (f :: r).reverse[r.length]'(by simp) = f := by simp
      rw [hlast] at hrg
      obtain ⟨c0, _⟩ := h.cell
      rw [hvl, hlen] at c0
      have h5 := h.le
      rw [hlen] at h5
      obtain ⟨M, hM⟩ : ∃ M, M = r.length := ⟨_, rfl⟩
      rw [← hM] at c0 h5 hrg
      have HM : Hid _ := hM
      have hok : FrOk f := h.ok f (by simp)
      have hinf : (Tryz.prog.info? 191).map (·.size) = some (frC f).length := by rw [frC_len hok]; kernel_rfl
      obtain ⟨A, hA⟩ : ∃ A, A = frC f := ⟨_, rfl⟩
      rw [← hA] at hrg hinf
      have HA : Hid _ := hA
      have HS : Hid _ := h
      have HRES : Hid _ := hres
      have hwr : IntKind.i64.wrap (M : Int) = M := by rw [IntKind.wrap_i64] <;> omega
      have hMi : (M : Int) < (M : Int) + 1 := by omega
      have hkeep : ∀ w', Touch w w' [] → (w'.cell? ⟨b, 0, none⟩ = some (.slice (some ⟨g, 0, none⟩) (M + 1) cap) ∧ w'.rangeAt g (M * 24) A) := fun w' t => ⟨(t.cell (p := ⟨b, 0, none⟩) (World.block_lt_of_cell? w _ c0) (by simp)).trans c0, rangeAt_touch hrg t⟩
      have hAl : A.length = 24 := by rw [hA]; exact frC_len hok
      have hA1 : A.toArray.all (·.oneCell') = true := by rw [hA]; exact all_oneCell_toArray (frC_one f)
      have hinf' : (Tryz.prog.info? 191).map (·.size) = some A.toArray.size := by rw [hinf]; simp
      clear h hlast hlen hM hvl hres hA
      go_enter Tryz.func107, Tryz.ntmps107
      go_wp2_with fail
      refine (hr _).mono ?_
      rintro e w1 ⟨rfl, rfl⟩
      clear hr
      go_wp2_with fail
      refine wp_region_held_drew (S := fun w' => w'.cell? ⟨b, 0, none⟩ = some (.slice (some ⟨g, 0, none⟩) (M + 1) cap) ∧ w'.rangeAt g (M * 24) A) (by kernel_rfl) ⟨by simpa using c0, fun j v hv => by simpa using hrg j v hv⟩ (fun hHeld => ?_)
      refine wpAnyH_take (i := 0) (v := ptr b) rfl (by kernel_rfl) (by kernel_rfl) (by kernel_rfl) (fun _ _ _ h => h) (Or.inl ⟨by rfl, ?_⟩) hHeld ?_
      · intro w' hSw
        try simp only [Act.put, List.getElem_toArray, List.getElem_cons_succ, List.getElem_cons_zero, List.setIfInBounds_toArray, List.set_cons_zero, List.set_cons_succ]
        (obtain ⟨hc, hr⟩ := hSw; go_simp)
      try simp only [Act.put, List.getElem_toArray, List.getElem_cons_succ, List.getElem_cons_zero, List.setIfInBounds_toArray, List.set_cons_zero, List.set_cons_succ]
      refine wpAnyH_take (i := 1) (v := ptr b) rfl (by kernel_rfl) (by kernel_rfl) (by kernel_rfl) (fun _ _ _ h => h) (Or.inl ⟨by rfl, ?_⟩) hHeld ?_
      · intro w' hSw
        try simp only [Act.put, List.getElem_toArray, List.getElem_cons_succ, List.getElem_cons_zero, List.setIfInBounds_toArray, List.set_cons_zero, List.set_cons_succ]
        (obtain ⟨hc, hr⟩ := hSw; go_simp)
      try simp only [Act.put, List.getElem_toArray, List.getElem_cons_succ, List.getElem_cons_zero, List.setIfInBounds_toArray, List.set_cons_zero, List.set_cons_succ]
      refine wpAnyH_take (i := 2) (v := (.pointer (some ⟨b, 0, none⟩))) rfl (by kernel_rfl) (by kernel_rfl) (by kernel_rfl) (fun _ _ _ h => h) (Or.inl ⟨by rfl, ?_⟩) hHeld ?_
      · intro w' hSw
        try simp only [Act.put, List.getElem_toArray, List.getElem_cons_succ, List.getElem_cons_zero, List.setIfInBounds_toArray, List.set_cons_zero, List.set_cons_succ]
        (obtain ⟨hc, hr⟩ := hSw; go_simp)
      try simp only [Act.put, List.getElem_toArray, List.getElem_cons_succ, List.getElem_cons_zero, List.setIfInBounds_toArray, List.set_cons_zero, List.set_cons_succ]
      refine wpAnyH_take (i := 3) (v := (.slice (some ⟨g, 0, none⟩) (M + 1) cap)) rfl (by kernel_rfl) (by kernel_rfl) (by kernel_rfl) (fun _ _ _ h => h) (Or.inl ⟨by rfl, ?_⟩) hHeld ?_
      · intro w' hSw
        try simp only [Act.put, List.getElem_toArray, List.getElem_cons_succ, List.getElem_cons_zero, List.setIfInBounds_toArray, List.set_cons_zero, List.set_cons_succ]
        (obtain ⟨hc, hr⟩ := hSw; go_simp)
      try simp only [Act.put, List.getElem_toArray, List.getElem_cons_succ, List.getElem_cons_zero, List.setIfInBounds_toArray, List.set_cons_zero, List.set_cons_succ]
      refine wpAnyH_take (i := 4) (v := ptr b) rfl (by kernel_rfl) (by kernel_rfl) (by kernel_rfl) (fun _ _ _ h => h) (Or.inl ⟨by rfl, ?_⟩) hHeld ?_
      · intro w' hSw
        try simp only [Act.put, List.getElem_toArray, List.getElem_cons_succ, List.getElem_cons_zero, List.setIfInBounds_toArray, List.set_cons_zero, List.set_cons_succ]
        (obtain ⟨hc, hr⟩ := hSw; go_simp)
      try simp only [Act.put, List.getElem_toArray, List.getElem_cons_succ, List.getElem_cons_zero, List.setIfInBounds_toArray, List.set_cons_zero, List.set_cons_succ]
      refine wpAnyH_take (i := 5) (v := ptr b) rfl (by kernel_rfl) (by kernel_rfl) (by kernel_rfl) (fun _ _ _ h => h) (Or.inl ⟨by rfl, ?_⟩) hHeld ?_
      · intro w' hSw
        try simp only [Act.put, List.getElem_toArray, List.getElem_cons_succ, List.getElem_cons_zero, List.setIfInBounds_toArray, List.set_cons_zero, List.set_cons_succ]
        (obtain ⟨hc, hr⟩ := hSw; go_simp)
      try simp only [Act.put, List.getElem_toArray, List.getElem_cons_succ, List.getElem_cons_zero, List.setIfInBounds_toArray, List.set_cons_zero, List.set_cons_succ]
      refine wpAnyH_take (i := 6) (v := (.pointer (some ⟨b, 0, none⟩))) rfl (by kernel_rfl) (by kernel_rfl) (by kernel_rfl) (fun _ _ _ h => h) (Or.inl ⟨by rfl, ?_⟩) hHeld ?_
      · intro w' hSw
        try simp only [Act.put, List.getElem_toArray, List.getElem_cons_succ, List.getElem_cons_zero, List.setIfInBounds_toArray, List.set_cons_zero, List.set_cons_succ]
        (obtain ⟨hc, hr⟩ := hSw; go_simp)
      try simp only [Act.put, List.getElem_toArray, List.getElem_cons_succ, List.getElem_cons_zero, List.setIfInBounds_toArray, List.set_cons_zero, List.set_cons_succ]
      refine wpAnyH_take (i := 7) (v := (.slice (some ⟨g, 0, none⟩) (M + 1) cap)) rfl (by kernel_rfl) (by kernel_rfl) (by kernel_rfl) (fun _ _ _ h => h) (Or.inl ⟨by rfl, ?_⟩) hHeld ?_
      · intro w' hSw
        try simp only [Act.put, List.getElem_toArray, List.getElem_cons_succ, List.getElem_cons_zero, List.setIfInBounds_toArray, List.set_cons_zero, List.set_cons_succ]
        (obtain ⟨hc, hr⟩ := hSw; go_simp)
      try simp only [Act.put, List.getElem_toArray, List.getElem_cons_succ, List.getElem_cons_zero, List.setIfInBounds_toArray, List.set_cons_zero, List.set_cons_succ]
      refine wpAnyH_take (i := 8) (v := (.int .i64 ((M + 1 : Nat) : Int))) rfl (by kernel_rfl) (by kernel_rfl) (by kernel_rfl) (fun _ _ _ h => h) (Or.inl ⟨by rfl, ?_⟩) hHeld ?_
      · intro w' hSw
        try simp only [Act.put, List.getElem_toArray, List.getElem_cons_succ, List.getElem_cons_zero, List.setIfInBounds_toArray, List.set_cons_zero, List.set_cons_succ]
        (obtain ⟨hc, hr⟩ := hSw; go_simp)
      try simp only [Act.put, List.getElem_toArray, List.getElem_cons_succ, List.getElem_cons_zero, List.setIfInBounds_toArray, List.set_cons_zero, List.set_cons_succ]
      refine wpAnyH_take (i := 9) (v := (.int .i64 (M : Int))) rfl (by kernel_rfl) (by kernel_rfl) (by kernel_rfl) (fun _ _ _ h => h) (Or.inl ⟨by rfl, ?_⟩) hHeld ?_
      · intro w' hSw
        try simp only [Act.put, List.getElem_toArray, List.getElem_cons_succ, List.getElem_cons_zero, List.setIfInBounds_toArray, List.set_cons_zero, List.set_cons_succ]
        (obtain ⟨hc, hr⟩ := hSw; go_simp)
      try simp only [Act.put, List.getElem_toArray, List.getElem_cons_succ, List.getElem_cons_zero, List.setIfInBounds_toArray, List.set_cons_zero, List.set_cons_succ]
      refine wpAnyH_take (i := 10) (v := (.pointer (some ⟨g, M * 24, none⟩))) rfl (by kernel_rfl) (by kernel_rfl) (by kernel_rfl) (fun _ _ _ h => h) (Or.inl ⟨by rfl, ?_⟩) hHeld ?_
      · intro w' hSw
        try simp only [Act.put, List.getElem_toArray, List.getElem_cons_succ, List.getElem_cons_zero, List.setIfInBounds_toArray, List.set_cons_zero, List.set_cons_succ]
        (obtain ⟨hc, hr⟩ := hSw; go_simp)
      try simp only [Act.put, List.getElem_toArray, List.getElem_cons_succ, List.getElem_cons_zero, List.setIfInBounds_toArray, List.set_cons_zero, List.set_cons_succ]
      refine wpAnyH_take (i := 11) (v := (.agg A.toArray)) rfl (by kernel_rfl) (by kernel_rfl) (by kernel_rfl) (fun _ _ _ h => h) (Or.inl ⟨by rfl, ?_⟩) hHeld ?_
      · intro w' hSw
        try simp only [Act.put, List.getElem_toArray, List.getElem_cons_succ, List.getElem_cons_zero, List.setIfInBounds_toArray, List.set_cons_zero, List.set_cons_succ]
        exact exec_load_mid w' 191 (.tmp 32) rfl g (M * 24) rfl A _ hSw.2 Tryz.underlying191 rfl hinf
      try simp only [Act.put, List.getElem_toArray, List.getElem_cons_succ, List.getElem_cons_zero, List.setIfInBounds_toArray, List.set_cons_zero, List.set_cons_succ]
      clear hHeld
      refine wpAnyH_ready (rs := [12]) (by kernel_rfl) (by simp) (AllReadyH.cons rfl (fun K hK => ?_) AllReadyH.nil)
      rw [if_pos (by rfl)]
      go_simp
      refine hK.out _ _ (hkeep _ (by first | exact (Touch.refl w []).drew.alloc _ | exact ((Touch.refl w []).alloc _).drew)) (fun hHeld => ?_)
      clear hK
      try simp only [Act.put, List.getElem_toArray, List.getElem_cons_succ, List.getElem_cons_zero, List.setIfInBounds_toArray, List.set_cons_zero, List.set_cons_succ]
      clear hHeld
      refine wpAnyH_ready (rs := [13]) (by kernel_rfl) (by simp) (AllReadyH.cons rfl (fun K hK => ?_) AllReadyH.nil)
      rw [if_pos (by rfl)]
      refine wp_store_mid 191 _ _ rfl w.heap.size 0 A.toArray rfl rfl (by first | exact there_drew_new w _ _ _ (by simp [hAl]) | exact there_new_drew w _ _ _ (by simp [hAl])) hinf' hA1 ?_
      try simp only [Act.put, List.getElem_toArray, List.getElem_cons_succ, List.getElem_cons_zero, List.setIfInBounds_toArray, List.set_cons_zero, List.set_cons_succ]
      refine hK.out _ _ (hkeep _ (by first | exact (((Touch.refl w []).alloc _).drew).trans (setCells_touch _ _ _ _) (by simp) | exact (((Touch.refl w []).drew).alloc _).trans (setCells_touch _ _ _ _) (by simp))) (fun hHeld => ?_)
      clear hK
      try simp only [Act.put, List.getElem_toArray, List.getElem_cons_succ, List.getElem_cons_zero, List.setIfInBounds_toArray, List.set_cons_zero, List.set_cons_succ]
      clear hHeld
      refine wpAnyH_done (by kernel_rfl) ?_ _
      refine then_name (fun W => Touch w W [] ∧ W.heap[w.heap.size]? = some (.cells A.toArray 191 (0, 0))) ⟨?_, ?_⟩ (fun W1 hW1 => ?_)
      · first | exact (((Touch.refl w []).alloc _).drew).trans (setCells_touch _ _ _ _) (by simp) | exact (((Touch.refl w []).drew).alloc _).trans (setCells_touch _ _ _ _) (by simp)
      · refine setCells_whole (w := World.drew _) (heap_alloc_new w _) ?_
        rw [hAl]; rfl
      obtain ⟨T1, B1⟩ := hW1
      have hln := rlen_any (HS.out.touch T1)
      rw [lenF_rev] at hln
      have hl1 := HS.out.touch T1
      have m0 : W1.cell? ⟨w.heap.size, t, none⟩ = some (.bool (fget f t).isSome) := by
        have := frC_has hok t ht
        rw [← HA.out] at this
        simp [World.cell?, B1, this]
      have HT1 : Hid _ := T1
      have HB1 : Hid _ := B1
      have HL1 : Hid _ := hl1
      have hti : (t : Int) < 12 := h1
      clear T1 B1 hl1 hkeep hrg c0 hinf
      cases hq : (fget f (t : Int)).isSome
      · rw [hq] at m0
        by_cases h16 : 16 ≤ lenF (f :: r)
        · have hres := HRES.out
          rw [if_pos ⟨hq, h16⟩] at hres
          subst hres
          have h16' : (16 : Int) ≤ (lenF (f :: r) : Nat) := by omega
          go_wp2_with fail
          refine hln.mono ?_
          rintro e w2 ⟨rfl, t2⟩
          clear hln
          go_wp2
          go_ret
          exact HS.out.stays (HT1.out.trans t2 (by simp)) 4
        · have hres := HRES.out
          rw [if_neg (fun hh => h16 hh.2)] at hres
          subst hres
          have h16' : ¬ (16 : Int) ≤ (lenF (f :: r) : Nat) := by omega
          go_wp2_with fail
          refine hln.mono ?_
          rintro e w2 ⟨rfl, t2⟩
          clear hln m0
          have t12 : Touch w w2 [] := HT1.out.trans t2 (by simp)
          have B2 := (t2.block _ (lt_of_heap HB1.out) (by simp)).trans HB1.out
          obtain ⟨T, hT⟩ : ∃ T, T = A.toArray := ⟨_, rfl⟩
          rw [← hT] at B2
          have hTz : T.size = 24 := by rw [hT]; simpa using hAl
          have ht1 : t < T.size := by omega
          have ht2 : 12 + t < (T.setIfInBounds t (.bool true)).size := by rw [Array.size_setIfInBounds]; omega
          obtain ⟨y1, m1⟩ : ∃ y, w2.cell? ⟨w.heap.size, t, none⟩ = some y := ⟨_, by simp only [World.cell?, B2]; exact Array.getElem?_eq_getElem ht1⟩
          have f1 : w2.frozen? ⟨w.heap.size, t, none⟩ = false := by simp [World.frozen?, B2]
          have B3 := heap_setCell_same w2 w.heap.size t T 191 (.bool true) B2
          obtain ⟨y2, m2⟩ : ∃ y, (w2.setCell ⟨w.heap.size, t, none⟩ (.bool true)).cell? ⟨w.heap.size, 12 + t, none⟩ = some y := ⟨_, by simp only [World.cell?, B3]; exact Array.getElem?_eq_getElem ht2⟩
          have f2 : (w2.setCell ⟨w.heap.size, t, none⟩ (.bool true)).frozen? ⟨w.heap.size, 12 + t, none⟩ = false := by simp [World.frozen?, B3]
          have B4 := heap_setCell_same (w2.setCell ⟨w.heap.size, t, none⟩ (.bool true)) w.heap.size (12 + t) _ 191 (.int .u64 v) B3
          have hTf : (T.setIfInBounds t (.bool true)).setIfInBounds (12 + t) (.int .u64 v) = (frC (fput f t v)).toArray := by rw [frC_put hok t ht v, hT, HA.out]; simp
          rw [hTf] at B4
          have tS : Touch w ((w2.setCell ⟨w.heap.size, t, none⟩ (.bool true)).setCell ⟨w.heap.size, 12 + t, none⟩ (.int .u64 v)) [] := (t12.setCell (.inr (Nat.le_refl _)) _).setCell (.inr (Nat.le_refl _)) _
          have HB4 : Hid _ := B4
          have HTS : Hid _ := tS
          clear B2 B3 B4 tS hTf hTz hT t12 t2 ht1 ht2
          go_wp2_with fail
          refine wp_name fun W5 hW5 => ?_
          have hB5 := HB4.out
          have hT5 := HTS.out
          rw [← hW5] at hB5 hT5
          obtain ⟨A2, hA2⟩ : ∃ A2, A2 = frC (fput f t v) := ⟨_, rfl⟩
          rw [← hA2] at hB5
          have hr5 : W5.rangeAt w.heap.size 0 A2 := fun j u hu => by simp only [World.cell?, hB5, Nat.zero_add]; simpa using hu
          have hl5 := HS.out.touch hT5
          have hok2 := hok.put (t := t) hv
          have hinf2 : (Tryz.prog.info? 191).map (·.size) = some A2.length := by rw [hA2, frC_len hok2]; kernel_rfl
          obtain ⟨g5, cap5, hv5, _⟩ := hl5.last r.length (by simp)
          obtain ⟨c5, _⟩ := hl5.cell
          rw [hv5, List.length_reverse, List.length_cons, ← HM.out] at c5
          have hset := fun W (tW : Touch W5 W []) => rset_any (hl5.touch tW) (i := r.length) (by simp) hok2
          rw [← hA2, ← HM.out] at hset
          have hnb : w.heap.size ∉ rfoot b vl := fun hh => by have := (HS.out.foot_lt _ hh).2; omega
          have HA2 : Hid _ := hA2
          have HT5 : Hid _ := hT5
          clear hW5 hB5 hl5 hv5 hA2 hT5 m1 f1 m2 f2
          refine wp_region_held_drew (S := fun w' => w'.rangeAt w.heap.size 0 A2) (by kernel_rfl) (fun j u hu => by simpa using hr5 j u hu) (fun hHeld => ?_)
          refine wpAnyH_take (i := 0) (v := ptr b) rfl (by kernel_rfl) (by kernel_rfl) (by kernel_rfl) (fun _ _ _ h => h) (Or.inl ⟨by rfl, ?_⟩) hHeld ?_
          · intro w' hSw
            try simp only [Act.put, List.getElem_toArray, List.getElem_cons_succ, List.getElem_cons_zero, List.setIfInBounds_toArray, List.set_cons_zero, List.set_cons_succ]
            go_simp
          try simp only [Act.put, List.getElem_toArray, List.getElem_cons_succ, List.getElem_cons_zero, List.setIfInBounds_toArray, List.set_cons_zero, List.set_cons_succ]
          refine wpAnyH_take (i := 1) (v := ptr b) rfl (by kernel_rfl) (by kernel_rfl) (by kernel_rfl) (fun _ _ _ h => h) (Or.inl ⟨by rfl, ?_⟩) hHeld ?_
          · intro w' hSw
            try simp only [Act.put, List.getElem_toArray, List.getElem_cons_succ, List.getElem_cons_zero, List.setIfInBounds_toArray, List.set_cons_zero, List.set_cons_succ]
            go_simp
          try simp only [Act.put, List.getElem_toArray, List.getElem_cons_succ, List.getElem_cons_zero, List.setIfInBounds_toArray, List.set_cons_zero, List.set_cons_succ]
          refine wpAnyH_take (i := 2) (v := ptr b) rfl (by kernel_rfl) (by kernel_rfl) (by kernel_rfl) (fun _ _ _ h => h) (Or.inl ⟨by rfl, ?_⟩) hHeld ?_
          · intro w' hSw
            try simp only [Act.put, List.getElem_toArray, List.getElem_cons_succ, List.getElem_cons_zero, List.setIfInBounds_toArray, List.set_cons_zero, List.set_cons_succ]
            go_simp
          try simp only [Act.put, List.getElem_toArray, List.getElem_cons_succ, List.getElem_cons_zero, List.setIfInBounds_toArray, List.set_cons_zero, List.set_cons_succ]
          refine wpAnyH_take (i := 3) (v := (.pointer (some ⟨b, 0, none⟩))) rfl (by kernel_rfl) (by kernel_rfl) (by kernel_rfl) (fun _ _ _ h => h) (Or.inl ⟨by rfl, ?_⟩) hHeld ?_
          · intro w' hSw
            try simp only [Act.put, List.getElem_toArray, List.getElem_cons_succ, List.getElem_cons_zero, List.setIfInBounds_toArray, List.set_cons_zero, List.set_cons_succ]
            go_simp
          try simp only [Act.put, List.getElem_toArray, List.getElem_cons_succ, List.getElem_cons_zero, List.setIfInBounds_toArray, List.set_cons_zero, List.set_cons_succ]
          refine wpAnyH_take (i := 7) (v := (.agg A2.toArray)) rfl (by kernel_rfl) (by kernel_rfl) (by kernel_rfl) (fun _ _ _ h => h) (Or.inl ⟨by rfl, ?_⟩) hHeld ?_
          · intro w' hSw
            try simp only [Act.put, List.getElem_toArray, List.getElem_cons_succ, List.getElem_cons_zero, List.setIfInBounds_toArray, List.set_cons_zero, List.set_cons_succ]
            exact exec_load_mid w' 191 (.tmp 7) rfl w.heap.size 0 rfl A2 _ hSw Tryz.underlying191 rfl hinf2
          try simp only [Act.put, List.getElem_toArray, List.getElem_cons_succ, List.getElem_cons_zero, List.setIfInBounds_toArray, List.set_cons_zero, List.set_cons_succ]
          clear hHeld
          refine wpAnyH_ready (rs := [4]) (by kernel_rfl) (by simp) (AllReadyH.cons rfl (fun K hK => ?_) AllReadyH.nil)
          rw [if_pos (by rfl)]
          go_simp
          refine hK.out _ _ (fun j u hu => by simpa using hr5 j u hu) (fun hHeld => ?_)
          clear hK
          try simp only [Act.put, List.getElem_toArray, List.getElem_cons_succ, List.getElem_cons_zero, List.setIfInBounds_toArray, List.set_cons_zero, List.set_cons_succ]
          refine wpAnyH_take (i := 5) (v := (.int .i64 ((M + 1 : Nat) : Int))) rfl (by kernel_rfl) (by kernel_rfl) (by kernel_rfl) (fun _ _ _ h => h) (Or.inl ⟨by rfl, ?_⟩) hHeld ?_
          · intro w' hSw
            try simp only [Act.put, List.getElem_toArray, List.getElem_cons_succ, List.getElem_cons_zero, List.setIfInBounds_toArray, List.set_cons_zero, List.set_cons_succ]
            go_simp
          try simp only [Act.put, List.getElem_toArray, List.getElem_cons_succ, List.getElem_cons_zero, List.setIfInBounds_toArray, List.set_cons_zero, List.set_cons_succ]
          refine wpAnyH_take (i := 6) (v := (.int .i64 (M : Int))) rfl (by kernel_rfl) (by kernel_rfl) (by kernel_rfl) (fun _ _ _ h => h) (Or.inl ⟨by rfl, ?_⟩) hHeld ?_
          · intro w' hSw
            try simp only [Act.put, List.getElem_toArray, List.getElem_cons_succ, List.getElem_cons_zero, List.setIfInBounds_toArray, List.set_cons_zero, List.set_cons_succ]
            go_simp
          try simp only [Act.put, List.getElem_toArray, List.getElem_cons_succ, List.getElem_cons_zero, List.setIfInBounds_toArray, List.set_cons_zero, List.set_cons_succ]
          clear hHeld
          refine wpAnyH_ready (rs := [8]) (by kernel_rfl) (by simp) (AllReadyH.cons rfl (fun K hK => ?_) AllReadyH.nil)
          rw [if_pos (by rfl)]
          go_simp
          refine (hset _ (Touch.refl _ _).drew).mono ?_
          rintro e w6 ⟨vl6, rfl, h6, t6d, x6⟩
          have t6 : Touch W5 w6 (rfoot b vl) := ((Touch.refl W5 (rfoot b vl)).drew).trans t6d (fun x hx => .inl hx)
          clear t6d
          go_simp
          refine hK.out _ _ (rangeAt_keep hr5 t6 hnb) (fun hHeld => ?_)
          clear hK
          try simp only [Act.put, List.getElem_toArray, List.getElem_cons_succ, List.getElem_cons_zero, List.setIfInBounds_toArray, List.set_cons_zero, List.set_cons_succ]
          clear hHeld
          refine wpAnyH_done (by kernel_rfl) ?_ _
          rw [HM.out, rev_set] at h6
          have H6 : Hid _ := h6
          have H6T : Hid _ := t6
          clear h6 t6 hset
          go_wp2
          go_ret
          exact ⟨vl6, rfl, H6.out, (HT5.out.mono (by simp)).trans H6T.out (fun x hx => .inl hx), fun x hx => (x6 x hx).imp id (fun h => Nat.le_trans HT5.out.size h)⟩
      · rw [hq] at m0
        have hres := HRES.out
        rw [if_neg (fun hh => by rw [hq] at hh; cases hh.1)] at hres
        subst hres
        clear hln
        have t12 : Touch w W1 [] := HT1.out
        have B2 := HB1.out
        obtain ⟨T, hT⟩ : ∃ T, T = A.toArray := ⟨_, rfl⟩
        rw [← hT] at B2
        have hTz : T.size = 24 := by rw [hT]; simpa using hAl
        have ht1 : t < T.size := by omega
        have ht2 : 12 + t < (T.setIfInBounds t (.bool true)).size := by rw [Array.size_setIfInBounds]; omega
        have m1 := m0
        clear m0
        have f1 : W1.frozen? ⟨w.heap.size, t, none⟩ = false := by simp [World.frozen?, B2]
        have B3 := heap_setCell_same W1 w.heap.size t T 191 (.bool true) B2
        obtain ⟨y2, m2⟩ : ∃ y, (W1.setCell ⟨w.heap.size, t, none⟩ (.bool true)).cell? ⟨w.heap.size, 12 + t, none⟩ = some y := ⟨_, by simp only [World.cell?, B3]; exact Array.getElem?_eq_getElem ht2⟩
        have f2 : (W1.setCell ⟨w.heap.size, t, none⟩ (.bool true)).frozen? ⟨w.heap.size, 12 + t, none⟩ = false := by simp [World.frozen?, B3]
        have B4 := heap_setCell_same (W1.setCell ⟨w.heap.size, t, none⟩ (.bool true)) w.heap.size (12 + t) _ 191 (.int .u64 v) B3
        have hTf : (T.setIfInBounds t (.bool true)).setIfInBounds (12 + t) (.int .u64 v) = (frC (fput f t v)).toArray := by rw [frC_put hok t ht v, hT, HA.out]; simp
        rw [hTf] at B4
        have tS : Touch w ((W1.setCell ⟨w.heap.size, t, none⟩ (.bool true)).setCell ⟨w.heap.size, 12 + t, none⟩ (.int .u64 v)) [] := (t12.setCell (.inr (Nat.le_refl _)) _).setCell (.inr (Nat.le_refl _)) _
        have HB4 : Hid _ := B4
        have HTS : Hid _ := tS
        clear B2 B3 B4 tS hTf hTz hT t12 ht1 ht2
        go_wp2_with fail
        refine wp_name fun W5 hW5 => ?_
        have hB5 := HB4.out
        have hT5 := HTS.out
        rw [← hW5] at hB5 hT5
        obtain ⟨A2, hA2⟩ : ∃ A2, A2 = frC (fput f t v) := ⟨_, rfl⟩
        rw [← hA2] at hB5
        have hr5 : W5.rangeAt w.heap.size 0 A2 := fun j u hu => by simp only [World.cell?, hB5, Nat.zero_add]; simpa using hu
        have hl5 := HS.out.touch hT5
        have hok2 := hok.put (t := t) hv
        have hinf2 : (Tryz.prog.info? 191).map (·.size) = some A2.length := by rw [hA2, frC_len hok2]; kernel_rfl
        obtain ⟨g5, cap5, hv5, _⟩ := hl5.last r.length (by simp)
        obtain ⟨c5, _⟩ := hl5.cell
        rw [hv5, List.length_reverse, List.length_cons, ← HM.out] at c5
        have hset := fun W (tW : Touch W5 W []) => rset_any (hl5.touch tW) (i := r.length) (by simp) hok2
        rw [← hA2, ← HM.out] at hset
        have hnb : w.heap.size ∉ rfoot b vl := fun hh => by have := (HS.out.foot_lt _ hh).2; omega
        have HA2 : Hid _ := hA2
        have HT5 : Hid _ := hT5
        clear hW5 hB5 hl5 hv5 hA2 hT5 m1 f1 m2 f2
        refine wp_region_held_drew (S := fun w' => w'.rangeAt w.heap.size 0 A2) (by kernel_rfl) (fun j u hu => by simpa using hr5 j u hu) (fun hHeld => ?_)
        refine wpAnyH_take (i := 0) (v := ptr b) rfl (by kernel_rfl) (by kernel_rfl) (by kernel_rfl) (fun _ _ _ h => h) (Or.inl ⟨by rfl, ?_⟩) hHeld ?_
        · intro w' hSw
          try simp only [Act.put, List.getElem_toArray, List.getElem_cons_succ, List.getElem_cons_zero, List.setIfInBounds_toArray, List.set_cons_zero, List.set_cons_succ]
          go_simp
        try simp only [Act.put, List.getElem_toArray, List.getElem_cons_succ, List.getElem_cons_zero, List.setIfInBounds_toArray, List.set_cons_zero, List.set_cons_succ]
        refine wpAnyH_take (i := 1) (v := ptr b) rfl (by kernel_rfl) (by kernel_rfl) (by kernel_rfl) (fun _ _ _ h => h) (Or.inl ⟨by rfl, ?_⟩) hHeld ?_
        · intro w' hSw
          try simp only [Act.put, List.getElem_toArray, List.getElem_cons_succ, List.getElem_cons_zero, List.setIfInBounds_toArray, List.set_cons_zero, List.set_cons_succ]
          go_simp
        try simp only [Act.put, List.getElem_toArray, List.getElem_cons_succ, List.getElem_cons_zero, List.setIfInBounds_toArray, List.set_cons_zero, List.set_cons_succ]
        refine wpAnyH_take (i := 2) (v := ptr b) rfl (by kernel_rfl) (by kernel_rfl) (by kernel_rfl) (fun _ _ _ h => h) (Or.inl ⟨by rfl, ?_⟩) hHeld ?_
        · intro w' hSw
          try simp only [Act.put, List.getElem_toArray, List.getElem_cons_succ, List.getElem_cons_zero, List.setIfInBounds_toArray, List.set_cons_zero, List.set_cons_succ]
          go_simp
        try simp only [Act.put, List.getElem_toArray, List.getElem_cons_succ, List.getElem_cons_zero, List.setIfInBounds_toArray, List.set_cons_zero, List.set_cons_succ]
        refine wpAnyH_take (i := 3) (v := (.pointer (some ⟨b, 0, none⟩))) rfl (by kernel_rfl) (by kernel_rfl) (by kernel_rfl) (fun _ _ _ h => h) (Or.inl ⟨by rfl, ?_⟩) hHeld ?_
        · intro w' hSw
          try simp only [Act.put, List.getElem_toArray, List.getElem_cons_succ, List.getElem_cons_zero, List.setIfInBounds_toArray, List.set_cons_zero, List.set_cons_succ]
          go_simp
        try simp only [Act.put, List.getElem_toArray, List.getElem_cons_succ, List.getElem_cons_zero, List.setIfInBounds_toArray, List.set_cons_zero, List.set_cons_succ]
        refine wpAnyH_take (i := 7) (v := (.agg A2.toArray)) rfl (by kernel_rfl) (by kernel_rfl) (by kernel_rfl) (fun _ _ _ h => h) (Or.inl ⟨by rfl, ?_⟩) hHeld ?_
        · intro w' hSw
          try simp only [Act.put, List.getElem_toArray, List.getElem_cons_succ, List.getElem_cons_zero, List.setIfInBounds_toArray, List.set_cons_zero, List.set_cons_succ]
          exact exec_load_mid w' 191 (.tmp 7) rfl w.heap.size 0 rfl A2 _ hSw Tryz.underlying191 rfl hinf2
        try simp only [Act.put, List.getElem_toArray, List.getElem_cons_succ, List.getElem_cons_zero, List.setIfInBounds_toArray, List.set_cons_zero, List.set_cons_succ]
        clear hHeld
        refine wpAnyH_ready (rs := [4]) (by kernel_rfl) (by simp) (AllReadyH.cons rfl (fun K hK => ?_) AllReadyH.nil)
        rw [if_pos (by rfl)]
        go_simp
        refine hK.out _ _ (fun j u hu => by simpa using hr5 j u hu) (fun hHeld => ?_)
        clear hK
        try simp only [Act.put, List.getElem_toArray, List.getElem_cons_succ, List.getElem_cons_zero, List.setIfInBounds_toArray, List.set_cons_zero, List.set_cons_succ]
        refine wpAnyH_take (i := 5) (v := (.int .i64 ((M + 1 : Nat) : Int))) rfl (by kernel_rfl) (by kernel_rfl) (by kernel_rfl) (fun _ _ _ h => h) (Or.inl ⟨by rfl, ?_⟩) hHeld ?_
        · intro w' hSw
          try simp only [Act.put, List.getElem_toArray, List.getElem_cons_succ, List.getElem_cons_zero, List.setIfInBounds_toArray, List.set_cons_zero, List.set_cons_succ]
          go_simp
        try simp only [Act.put, List.getElem_toArray, List.getElem_cons_succ, List.getElem_cons_zero, List.setIfInBounds_toArray, List.set_cons_zero, List.set_cons_succ]
        refine wpAnyH_take (i := 6) (v := (.int .i64 (M : Int))) rfl (by kernel_rfl) (by kernel_rfl) (by kernel_rfl) (fun _ _ _ h => h) (Or.inl ⟨by rfl, ?_⟩) hHeld ?_
        · intro w' hSw
          try simp only [Act.put, List.getElem_toArray, List.getElem_cons_succ, List.getElem_cons_zero, List.setIfInBounds_toArray, List.set_cons_zero, List.set_cons_succ]
          go_simp
        try simp only [Act.put, List.getElem_toArray, List.getElem_cons_succ, List.getElem_cons_zero, List.setIfInBounds_toArray, List.set_cons_zero, List.set_cons_succ]
        clear hHeld
        refine wpAnyH_ready (rs := [8]) (by kernel_rfl) (by simp) (AllReadyH.cons rfl (fun K hK => ?_) AllReadyH.nil)
        rw [if_pos (by rfl)]
        go_simp
        refine (hset _ (Touch.refl _ _).drew).mono ?_
        rintro e w6 ⟨vl6, rfl, h6, t6d, x6⟩
        have t6 : Touch W5 w6 (rfoot b vl) := ((Touch.refl W5 (rfoot b vl)).drew).trans t6d (fun x hx => .inl hx)
        clear t6d
        go_simp
        refine hK.out _ _ (rangeAt_keep hr5 t6 hnb) (fun hHeld => ?_)
        clear hK
        try simp only [Act.put, List.getElem_toArray, List.getElem_cons_succ, List.getElem_cons_zero, List.setIfInBounds_toArray, List.set_cons_zero, List.set_cons_succ]
        clear hHeld
        refine wpAnyH_done (by kernel_rfl) ?_ _
        rw [HM.out, rev_set] at h6
        have H6 : Hid _ := h6
        have H6T : Hid _ := t6
        clear h6 t6 hset
        go_wp2
        go_ret
        exact ⟨vl6, rfl, H6.out, (HT5.out.mono (by simp)).trans H6T.out (fun x hx => .inl hx), fun x hx => (x6 x hx).imp id (fun h => Nat.le_trans HT5.out.size h)⟩
  · rw [if_pos h0] at hres
    subst hres
    have HS : Hid _ := h
    clear h
    by_cases h1 : 0 ≤ t
    · have h2 : ¬ t < 12 := fun hh => h0 ⟨h1, hh⟩
      clear h0
      go_enter Tryz.func107, Tryz.ntmps107
      go_wp2
      go_ret
      exact HS.out.stays (Touch.refl _ _) 2
    · clear h0
      go_enter Tryz.func107, Tryz.ntmps107
      go_wp2
      go_ret
      exact HS.out.stays (Touch.refl _ _) 2

end Go.Proofs.YtmiaibpdeofokaaGreatDoor

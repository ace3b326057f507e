/-
  THE DOCUMENT's LOG: set BY ITS CONTRACT: one frame is another one.
-/
import Derived.Test.YtmiaibpdeofokaaDoorWritesRef
import Derived.Test.YtmiaibpdeofokaaDoorAppendSrc
import Derived.Deep.MidRow
namespace Go.Proofs.YtmiaibpdeofokaaDoor
set_option linter.unusedVariables false
set_option linter.unusedSimpArgs false
open Go.RowKit Go.Maps Go.Shelf

theorem Tryd.info_frame : (Tryd.prog.info? 138).map (fun i => (i.zero, i.size, i.bytes)) = some (some (.agg (frC f0).toArray), 24, 112) := by kernel_rfl

theorem setCells_shape (g : Nat) (e : TypeId) : ∀ (vs : List Value) (o : Nat) (w : World) (cur : Array Value), w.heap[g]? = some (.cells cur e (0, 0)) → ∃ cur', (w.setCells g o vs).heap[g]? = some (.cells cur' e (0, 0)) ∧ cur'.size = cur.size
  | [], o, w, cur, h => ⟨cur, h, rfl⟩
  | v :: r, o, w, cur, h => by
    rw [World.setCells]
    have h1 : ∃ c1, (w.setCell ⟨g, o, none⟩ v).heap[g]? = some (.cells c1 e (0, 0)) ∧ c1.size = cur.size := ⟨_, heap_setCell_same _ _ _ _ _ _ h, by simp⟩
    obtain ⟨c1, h1, hs⟩ := h1
    obtain ⟨c2, h2, hs2⟩ := setCells_shape g e r (o + 1) _ c1 h1
    exact ⟨c2, h2, hs2.trans hs⟩

theorem setCells_touch (g : Nat) : ∀ (vs : List Value) (o : Nat) (w : World), Touch w (w.setCells g o vs) [g]
  | [], o, w => Touch.refl _ _
  | v :: r, o, w => by
    rw [World.setCells]
    exact ((Touch.refl w [g]).setCell (.inl (by simp)) v).trans (setCells_touch g r (o + 1) _) (by simp)

theorem frC_one (f : Fr) : ∀ u ∈ frC f, u.oneCell' = true := by
  intro u hu
  simp only [frC, List.mem_append, List.mem_map] at hu
  rcases hu with ⟨o, _, rfl⟩ | ⟨o, _, rfl⟩ <;> rfl
theorem frF_one {Rs : List Fr} : ∀ u ∈ Rs.flatMap frC, u.oneCell' = true := by
  intro u hu
  rw [List.mem_flatMap] at hu
  obtain ⟨f, _, hf⟩ := hu
  exact frC_one f u hf

/-- One frame of a row is another one. -/
theorem row_set {w : World} {B g cap : Nat} {Rs : List Fr} (h : w.ownsRow B 138 24 (.slice (some ⟨g, 0, none⟩) Rs.length cap) Rs.length (Rs.flatMap frC)) (hok : ∀ f ∈ Rs, FrOk f) {i : Nat} (hi : i < Rs.length) {f : Fr} (hf : FrOk f) :
    (w.setCells g (i * 24) (frC f)).ownsRow B 138 24 (.slice (some ⟨g, 0, none⟩) Rs.length cap) Rs.length ((Rs.set i f).flatMap frC) := by
  have hok' : ∀ x ∈ Rs.set i f, FrOk x := fun x hx => by
    rcases List.mem_or_eq_of_mem_set hx with h1 | h1
    · exact hok x h1
    · rw [h1]; exact hf
  refine ⟨by rw [frF_len hok', List.length_set], .inr ?_⟩
  have hcells := h.cells (g := g) rfl
  rcases h.2 with ⟨e, _⟩ | ⟨g', cap', cur, e, hB, hg, h1, h2, h3, h4⟩
  · simp at e
  · simp only [Value.slice.injEq, Option.some.injEq, Addr.mk.injEq] at e
    obtain ⟨⟨rfl, _⟩, _, rfl⟩ := e
    obtain ⟨cur', hg', hs'⟩ := setCells_shape g 138 (frC f) (i * 24) w cur hg
    refine ⟨g, cap, cur', rfl, hB, hg', h1, h2, by rw [hs', h3], ?_⟩
    have hfl := frC_len hf
    have hth : ∀ j, j < (frC f).length → (w.cell? ⟨g, i * 24 + j, none⟩).isSome = true := fun j hj => by
      have : i * 24 + j < cur.size := by rw [h3]; have := Nat.mul_le_mul_right 24 (Nat.le_trans hi h1); omega
      simp [World.cell?, hg, this]
    apply List.ext_getElem?
    intro j
    by_cases hj : j < Rs.length * 24
    · rw [List.getElem?_take, if_pos hj]
      obtain ⟨k, r, hr, rfl⟩ : ∃ k r, r < 24 ∧ j = k * 24 + r := ⟨j / 24, j % 24, Nat.mod_lt _ (by omega), by omega⟩
      have hk : k < Rs.length := by omega
      rw [frF_get hok' k (by rw [List.length_set]; exact hk) r hr]
      have ec : cur'.toList[k * 24 + r]? = (w.setCells g (i * 24) (frC f)).cell? ⟨g, k * 24 + r, none⟩ := by
        simp [World.cell?, hg']
      rw [ec, List.getElem_set]
      by_cases hki : i = k
      · subst hki
        rw [if_pos rfl, World.cell?_setCells_in g (frC f) (i * 24) w hth r (by rw [hfl]; exact hr), List.getElem?_eq_getElem (by rw [hfl]; exact hr)]
      · rw [if_neg hki, World.cell?_setCells_out g (frC f) (i * 24) w ⟨g, k * 24 + r, none⟩ (fun _ _ => by
          rw [hfl]
          simp only
          omega)]
        have hl : r < (frC Rs[k]).length := by rw [frC_len (hok _ (List.getElem_mem hk))]; exact hr
        have hx := hcells (k * 24 + r) _ ((frF_get hok k hk r hr).trans (List.getElem?_eq_getElem hl))
        rw [Addr.add_lit] at hx
        simp only [Nat.zero_add] at hx
        rw [hx, List.getElem?_eq_getElem hl]
    · rw [List.getElem?_eq_none (by rw [List.length_take]; omega), List.getElem?_eq_none (by rw [frF_len hok', List.length_set]; omega)]

theorem ownsRow_base {w : World} {B B' : Nat} {e : TypeId} {size : Nat} {v : Value} {n : Nat} {xs : List Value} (h : w.ownsRow B e size v n xs) (hB : B' ≤ B) : w.ownsRow B' e size v n xs := by
  refine ⟨h.1, ?_⟩
  rcases h.2 with h0 | ⟨g, cap, cur, e, hg, rest⟩
  · exact .inl h0
  · exact .inr ⟨g, cap, cur, e, Nat.le_trans hB hg, rest⟩

/-- A load of many cells, as an operation's run. -/
theorem exec_load_mid {P : Program} {o : Oper} {a : Act} (w : World) (ty : TypeId) (x : Operand) (ho : o.op = .load ty x) (b off : Nat) (hx : a.eval x = .pointer (some ⟨b, off, none⟩)) (cs : List Value) (d : TypeDesc) (hc : w.rangeAt b off cs)
    (hu : P.underlying ty = some d) (hd : d.isRow = true) (hi : (P.info? ty).map (·.size) = some cs.length) : (execOp a.eval o).run P w = .ok (.value (.agg cs.toArray)) w := by
  unfold execOp
  simp only [ho, hx, Instr.loadAt, Instr.sureAddr, Sem.run_bind, Sem.run_pure, Result.andThen_ok, run_loadVar_mid w b off ty cs d hc hu hd hi]

/-- A block that is written whole. -/
theorem setCells_whole {w : World} {g : Nat} {e : TypeId} {cur : Array Value} (h : w.heap[g]? = some (.cells cur e (0, 0))) {A : List Value} (hs : cur.size = A.length) : (w.setCells g 0 A).heap[g]? = some (.cells A.toArray e (0, 0)) := by
  obtain ⟨cur', h', hs'⟩ := setCells_shape g e A 0 w cur h
  rw [h']
  congr 2
  apply Array.ext_getElem?
  intro j
  by_cases hj : j < A.length
  · have h1 := World.cell?_setCells_in g A 0 w (fun i hi => by simp [World.cell?, h]; omega) j hj
    simp only [World.cell?, h', Nat.zero_add] at h1
    simp at h1
    rw [h1]
    simp [hj]
  · rw [Array.getElem?_eq_none (by omega), Array.getElem?_eq_none (by simp; omega)]

theorem there_new (w : World) (cs : Array Value) (t : TypeId) (n : Nat) (hn : n = cs.size) : (w.alloc (.cells cs t)).there w.heap.size 0 n := fun j hj => by
  have h := heap_alloc_new w (.cells cs t)
  subst hn
  generalize w.alloc (.cells cs t) = W at h
  generalize w.heap.size = k at h
  simp [World.cell?, World.frozen?, h, hj]
theorem there_new_drew (w : World) (cs : Array Value) (t : TypeId) (n : Nat) (hn : n = cs.size) : (w.drew.alloc (.cells cs t)).there w.heap.size 0 n := there_new w.drew cs t n hn
theorem there_drew_new (w : World) (cs : Array Value) (t : TypeId) (n : Nat) (hn : n = cs.size) : ((w.alloc (.cells cs t)).drew).there w.heap.size 0 n := there_new w cs t n hn
theorem rangeAt_touch {w w' : World} {g o : Nat} {cs : List Value} (h : w.rangeAt g o cs) (t : Touch w w' []) : w'.rangeAt g o cs := fun j v hv => by
  have := h j v hv
  exact (t.cell (p := ⟨g, o + j, none⟩) (World.block_lt_of_cell? w _ this) (by simp)).trans this

theorem rangeAt_keep {w w' : World} {g o : Nat} {cs : List Value} {S : List Nat} (h : w.rangeAt g o cs) (t : Touch w w' S) (hS : g ∉ S) : w'.rangeAt g o cs := fun j v hv => by
  have := h j v hv
  exact (t.cell (p := ⟨g, o + j, none⟩) (World.block_lt_of_cell? w _ this) hS).trans this
theorem rev_set (f x : Fr) (r : List Fr) : (f :: r).reverse.set r.length x = (x :: r).reverse := by
  rw [List.reverse_cons, List.reverse_cons, List.set_append_right _ _ (by simp)]
  simp

/-- The world behind a region, under a name. -/
theorem then_name {K : Act → World → Prop} {Q : Exit → Act → World → Prop} {a : Act} {W : World} (R : World → Prop) (h : R W) (k : ∀ W, R W → Exit.then K Q .normal a W) : Exit.then K Q .normal a W := k W h

/-- What a deed on the document's log leaves. -/
def RPost (B : Nat) (w : World) (b : Nat) (vl : Value) (res : Int × List Fr) (e : Ending) (w' : World) : Prop :=
  ∃ vl', e = .returned (.int .i64 res.1) ∧ RLog B w' b vl' res.2.reverse ∧ Touch w w' (rfoot b vl) ∧ ∀ x ∈ rfoot b vl', x ∈ rfoot b vl ∨ w.heap.size ≤ x

set_option maxRecDepth 100000 in
set_option maxHeartbeats 1000000 in
theorem rset_any {B : Nat} {w : World} {b : Nat} {vl : Value} {Rs : List Fr} (h : RLog B w b vl Rs) {i : Nat} (hi : i < Rs.length) {f : Fr} (hf : FrOk f) :
    Calls Tryd.prog 78 #[ptr b, .int .i64 i, .agg (frC f).toArray] w fun e w' => ∃ vl', e = .returned (.tuple #[]) ∧ RLog B w' b vl' (Rs.set i f) ∧ Touch w w' (rfoot b vl) ∧ ∀ x ∈ rfoot b vl', x ∈ rfoot b vl ∨ w.heap.size ≤ x := by
  obtain ⟨g, cap, rfl, hg, hrow⟩ := h.row
  obtain ⟨i0, hi0, hz0, hz1, hz2⟩ := info_parts Tryd.info_frame
  obtain ⟨c0, fz⟩ := h.cell
  have HS : Hid _ := h
  clear h hrow
  go_enter Tryd.func78, Tryd.ntmps78
  have h5 := HS.out.le
  have hpos := HS.out.pos
  obtain ⟨A, hA⟩ : ∃ A : Array Value, A = (frC f).toArray := ⟨_, rfl⟩
  rw [← hA]
  have T2 : Touch w ((w.alloc (.cells A 138)).alloc (.cells #[] 138)) [] := ((Touch.refl w []).alloc _).alloc _
  have c0' := (HS.out.touch T2).cell.1
  have hsrc := (HS.out.touch T2).own
  have hzs : (Value.agg (frC f0).toArray).cells.size = 24 := by decide
  have hem := empty_row (w.alloc (.cells A 138)) 138 24
  rw [World.size_alloc] at hem
  obtain ⟨N, hN⟩ : ∃ N, N = Rs.length := ⟨_, rfl⟩
  have HN : Hid (N = Rs.length) := hN
  rw [← hN] at c0 c0' hsrc hi h5 hpos
  have HT2 : Hid _ := T2
  have HA : Hid _ := hA
  clear T2 hN hA
  go_wp2_with (at_builtin; refine wpList_append_src rfl _ _ 122 rfl (w.heap.size + 1) 138 i0 _ 24 112 Tryd.underlying122 hi0 hz0 hz1 hz2 hzs (by decide) (w.heap.size + 1) 0 0 [] rfl hem _ B N (Rs.flatMap frC) rfl hsrc frF_one (by unfold maxLen; omega) (by omega) (by simp) ?_)
  intro g' cap' w3 hown3 hgrow hat hlt
  have hsz3 := hgrow.size
  simp only [World.size_alloc] at hsz3 hat
  have hA3 : w3.heap[w.heap.size]? = some (.cells A 138 (0, 0)) := by
    have h0 : ((w.alloc (.cells A 138)).alloc (.cells #[] 138)).heap[w.heap.size]? = some (.cells A 138 (0, 0)) := (heap_alloc_old _ _ (by simp)).trans (heap_alloc_new w _)
    exact (hgrow.block w.heap.size (by simp <;> omega) (by simp <;> omega)).trans h0
  have hAz : A.size = 24 := by rw [HA.out]; simp [frC_len hf]
  have hA1 : A.all (·.oneCell') = true := by rw [HA.out]; exact all_oneCell_toArray (frC_one f)
  have hinf : (Tryd.prog.info? 138).map (·.size) = some 24 := by rw [hi0]; simp [hz1]
  have hrg : w3.rangeAt w.heap.size 0 A.toList := fun j v hv => by simp [World.cell?, hA3]; simpa using hv
  have hinf2 : (Tryd.prog.info? 138).map (·.size) = some A.toList.length := by rw [hinf]; simp [hAz]
  have hinf3 : (Tryd.prog.info? 138).map (·.size) = some A.size := by rw [hinf, hAz]
  try simp only [List.nil_append, Nat.zero_add] at hown3
  have hth : w3.there g' (i * 24) A.size := fun j hj => by
    rcases hown3.2 with ⟨e, _⟩ | ⟨g2, cap2, cur, e, hB, hg2, h1, h2, h3, h4⟩
    · simp at e
    · simp only [Value.slice.injEq, Option.some.injEq, Addr.mk.injEq] at e
      obtain ⟨⟨rfl, _⟩, _, rfl⟩ := e
      have : i * 24 + j < cur.size := by rw [h3]; have := Nat.mul_le_mul_right 24 (Nat.le_trans hi h1); omega
      simp [World.cell?, World.frozen?, hg2, this]
  have HR : Hid _ := hown3
  have HG : Hid _ := hgrow
  have t3 : Touch w w3 [] := HT2.out.grown hgrow (fun k hk => .inr (by cases hk; omega))
  have b3 := (HS.out.touch t3).st
  have hbl : b < w.heap.size := lt_of_heap HS.out.st
  have tc := setCells_touch g' A.toList (i * 24) w3
  have hb' : b ∉ [g'] := by simp; omega
  have b4 := (tc.block _ (lt_of_heap b3) hb').trans b3
  have c4 : (w3.setCells g' (i * 24) A.toList).cell? ⟨b, 0, none⟩ = some (.slice (some ⟨g, 0, none⟩) Rs.length cap) := by simp [World.cell?, b4]
  have f4 : (w3.setCells g' (i * 24) A.toList).frozen? ⟨b, 0, none⟩ = false := by simp [World.frozen?, b4]
  have hiN : (i : Int) < N := by omega
  have HT3 : Hid _ := t3
  have HTC : Hid _ := tc
  have HB4 : Hid _ := b4
  clear hown3 hgrow hsrc hem c0' c0 hA3 hinf hi0 hz0 hz1 hz2 t3 b3 tc b4 hzs
  go_wp2_with (first | (refine wpList_load_mid rfl 138 _ rfl w.heap.size 0 rfl A.toList _ hrg Tryd.underlying138 rfl hinf2 ?_) | (refine wpList_store_mid rfl 138 _ _ rfl g' (i * 24) A rfl rfl hth hinf3 hA1 ?_) | go_in)
  go_end0
  have hAf : A.toList = frC f := by rw [HA.out]
  have hrow := HR.out
  have tc := HTC.out
  have b4 := HB4.out
  rw [hAf] at tc b4 ⊢
  rw [HN.out] at hrow hi ⊢
  have hr2 := row_set hrow HS.out.ok hi hf
  have t5 : Touch (w3.setCells g' (i * 24) (frC f)) ((w3.setCells g' (i * 24) (frC f)).setCell ⟨b, 0, none⟩ (.slice (some ⟨g', 0, none⟩) Rs.length cap')) [b] := (Touch.refl _ _).setCell (.inl (by simp)) _
  have hBw : B ≤ w.heap.size := Nat.le_trans HS.out.hb (Nat.le_of_lt hbl)
  refine ⟨.slice (some ⟨g', 0, none⟩) Rs.length cap', rfl, ⟨HS.out.hb, ?_, ?_, ?_, by rw [List.length_set]; exact HS.out.pos, by rw [List.length_set]; exact HS.out.le⟩, ?_, ?_⟩
  · rw [heap_setCell_same _ _ _ _ _ _ b4]; rfl
  · rw [List.length_set]
    exact ownsRow_base (ownsRow_touch hr2 t5 (by intro k hk; simp [Value.ownBlock] at hk; simp; omega)) (by omega)
  · intro x hx
    rcases List.mem_or_eq_of_mem_set hx with h1 | h1
    · exact HS.out.ok x h1
    · rw [h1]; exact hf
  · exact ((HT3.out.trans tc (by intro x hx; simp at hx; exact .inr (by omega))).mono (by simp)).trans t5 (by simp [rfoot])
  · intro x hx
    simp only [rfoot, Value.ownBlock, List.mem_cons, Option.mem_toList, Option.some.injEq] at hx ⊢
    rcases hx with hx | hx
    · exact .inl (.inl hx)
    · exact .inr (by omega)

end Go.Proofs.YtmiaibpdeofokaaDoor

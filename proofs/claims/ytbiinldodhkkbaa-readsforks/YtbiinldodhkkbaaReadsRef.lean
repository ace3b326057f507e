/-
  The document's set, BY ITS CONTRACTS.
-/
import Derived.Test.YtbiinldodhkkbaaReadsOps
import Derived.Test.YtbiinldodhkkbaaAppendSrc
namespace Go.Proofs.Ytbiinldodhkkbaa
set_option linter.unusedVariables false
set_option linter.unusedSimpArgs false
open Go.RowKit Go.Maps

/-- The document's set. -/
structure RfSet (B : Nat) (w : World) (b : Nat) (vl : Value) (L : List EntD) : Prop where
  hb : B ≤ b
  st : w.heap[b]? = some (.cells #[vl] 59 (0, 0))
  own : w.ownsRow B 41 3 vl L.length (L.flatMap EntD.cells)
  sl : SetL L

def rffoot (b : Nat) (vl : Value) : List Nat := b :: vl.ownBlock.toList

theorem RfSet.foot_lt {B : Nat} {w : World} {b : Nat} {vl : Value} {L : List EntD} (h : RfSet B w b vl L) : ∀ k ∈ rffoot b vl, B ≤ k ∧ k < w.heap.size := by
  intro k hk
  simp only [rffoot, List.mem_cons, Option.mem_toList] at hk
  rcases hk with rfl | hk
  · exact ⟨h.hb, lt_of_heap h.st⟩
  · exact h.own.lt k hk
theorem RfSet.keep {B : Nat} {w w' : World} {b : Nat} {vl : Value} {L : List EntD} {S : List Nat} (h : RfSet B w b vl L) (t : Touch w w' S) (hS : ∀ k ∈ rffoot b vl, k ∉ S) : RfSet B w' b vl L :=
  ⟨h.hb, (t.block b (lt_of_heap h.st) (hS b (by simp [rffoot]))).trans h.st, ownsRow_touch h.own t (fun k hk => hS k (by simp [rffoot, hk])), h.sl⟩
theorem RfSet.cells {B : Nat} {w : World} {b : Nat} {vl : Value} {L : List EntD} (h : RfSet B w b vl L) : w.cell? ⟨b, 0, none⟩ = some vl ∧ w.frozen? ⟨b, 0, none⟩ = false := by
  simp [World.cell?, World.frozen?, h.st]

theorem rfnew_any (w : World) : Calls Try.prog 26 #[] w fun x w' => ∃ b, x = .returned (.pointer (some ⟨b, 0, none⟩)) ∧ RfSet w.heap.size w' b (.slice none 0 0) [] ∧ Touch w w' [] := by
  go_enter Try.func26, Try.ntmps26
  go_wp2
  go_ret
  exact ⟨w.heap.size, by simp, ⟨Nat.le_refl _, heap_alloc_new w _, World.ownsRow_nil _ _ _ _, SetL.nil⟩, (Touch.refl w []).alloc _⟩

theorem getT_hit {L : List EntD} {k : Nat} (hk : k < L.length) {t : Int} (hno : hasT (L.take k) t = false) (he : L[k].tvar = t) : getT L t = some L[k] ∧ hasT L t = true := by
  have h1 : getT L t = some L[k] := by
    unfold getT
    conv => lhs; rw [show L = L.take k ++ (L[k] :: L.drop (k + 1)) by rw [← List.drop_eq_getElem_cons hk, List.take_append_drop]]
    rw [List.find?_append, List.find?_eq_none.2 (by
      intro e hm hb
      unfold hasT at hno
      rw [List.any_eq_false] at hno
      exact hno e hm hb)]
    simp [List.find?, he]
  exact ⟨h1, by rw [hasT_eq, h1]; rfl⟩
theorem hasT_snoc {L : List EntD} {k : Nat} (hk : k < L.length) {t : Int} (hno : hasT (L.take k) t = false) (he : ¬ L[k].tvar = t) : hasT (L.take (k + 1)) t = false := by
  unfold hasT at hno ⊢
  rw [List.take_succ_eq_append_getElem hk, List.any_append, hno]
  simp [he]
theorem getT_none {L : List EntD} {t : Int} (h : hasT L t = false) : getT L t = none := by
  have h1 := hasT_eq L t
  rw [h] at h1
  cases hq : getT L t with
  | none => rfl
  | some z => rw [hq] at h1; simp at h1

theorem set_three {w : World} {b : Nat} {v0 v1 v2 u0 u1 u2 : Value} {T : TypeId} (h : w.heap[b]? = some (.cells #[v0, v1, v2] T (0, 0))) :
    (((w.setCell ⟨b, 0, none⟩ u0).setCell ⟨b, 1, none⟩ u1).setCell ⟨b, 2, none⟩ u2).heap[b]? = some (.cells #[u0, u1, u2] T (0, 0)) := by
  simp [World.setCell, Array.getElem?_modify, h]
theorem touch_three {a w : World} {S : List Nat} (h : Touch a w S) {b : Nat} (hb : b ∈ S ∨ a.heap.size ≤ b) (u0 u1 u2 : Value) : Touch a (((w.setCell ⟨b, 0, none⟩ u0).setCell ⟨b, 1, none⟩ u1).setCell ⟨b, 2, none⟩ u2) S :=
  ((h.setCell (p := ⟨b, 0, none⟩) hb _).setCell (p := ⟨b, 1, none⟩) hb _).setCell (p := ⟨b, 2, none⟩) hb _

set_option maxRecDepth 100000 in
set_option maxHeartbeats 1000000 in
theorem rget_any {B : Nat} {w : World} {b : Nat} {vl : Value} {L : List EntD} (h : RfSet B w b vl L) (t : Int) :
    Calls Try.prog 27 #[.pointer (some ⟨b, 0, none⟩), .int .i64 t] w fun x w' => x = .returned (.tuple #[entO (getT L t), .bool (hasT L t)]) ∧ Touch w w' [] := by
  obtain ⟨al, cl, rfl⟩ := RdSet.owns_form h.own
  obtain ⟨N, hN⟩ : ∃ N, N = L.length := ⟨_, rfl⟩
  have HN : Hid (N = L.length) := hN
  have HS : Hid _ := h
  have h8 := h.sl.len
  rw [← hN] at h8
  clear h hN
  go_enter Try.func27, Try.ntmps27
  go_wp2_with fail
  go_loopw [6] (fun i wr => ∃ k : Nat, i = .int .i64 k ∧ k ≤ N ∧ hasT (L.take k) t = false ∧ Touch w wr [] ∧ wr.heap[w.heap.size]? = some (.cells #[.int .i64 0, .int .u64 0, .int .u64 0] 41 (0, 0))) (fun i _ => N - (intOf i).toNat)
  case atStart => exact ⟨0, rfl, Nat.zero_le _, rfl, (Touch.refl _ _).alloc _, heap_alloc_new w _⟩
  case round =>
    obtain ⟨k, rfl, hk, hno, hT, hz⟩ := hrel
    have HNO : Hid _ := hno
    have HT : Hid _ := hT
    have HZ : Hid _ := hz
    have z0 : wr.cell? ⟨w.heap.size, 0, none⟩ = some (.int .i64 0) := by simp [World.cell?, hz]
    have z1 : wr.cell? ⟨w.heap.size, 1, none⟩ = some (.int .u64 0) := by simp [World.cell?, hz]
    have z2 : wr.cell? ⟨w.heap.size, 2, none⟩ = some (.int .u64 0) := by simp [World.cell?, hz]
    have y0 : wr.frozen? ⟨w.heap.size, 0, none⟩ = false := by simp [World.frozen?, hz]
    have y1 : wr.frozen? ⟨w.heap.size, 1, none⟩ = false := by simp [World.frozen?, hz]
    have y2 : wr.frozen? ⟨w.heap.size, 2, none⟩ = false := by simp [World.frozen?, hz]
    have hS := HS.out.keep hT (by simp)
    obtain ⟨c0, f0⟩ := hS.cells
    have hrow := EntRow.of_owns hS.own
    rw [← HN.out] at c0
    clear hno hT hS hz
    by_cases hlt : k < N
    · have hlt' : (k : Int) < N := by omega
      have hkl : k < L.length := by rw [← HN.out]; exact hlt
      obtain ⟨g, off, rfl, hg, m0, m1, m2⟩ := EntRow.three hrow k hkl
      have hhit := fun he => getT_hit hkl HNO.out (t := t) he
      have hsn := fun he => hasT_snoc hkl HNO.out (t := t) he
      obtain ⟨e, he⟩ : ∃ e, e = L[k] := ⟨_, rfl⟩
      rw [← he] at m0 m1 m2 hhit hsn
      obtain ⟨t', x', r'⟩ := e
      simp only at m0 m1 m2 hhit hsn
      have HHI : Hid _ := hhit
      have HSN : Hid _ := hsn
      clear hrow hhit hsn he
      by_cases hq : t' = t
      · subst hq
        have HB : Hid _ := HHI.out rfl
        go_wp2
        have h3 := set_three (u0 := .int .i64 t') (u1 := .int .u64 x') (u2 := .int .u64 r') HZ.out
        have t3 := touch_three HT.out (b := w.heap.size) (.inr (Nat.le_refl _)) (.int .i64 t') (.int .u64 x') (.int .u64 r')
        generalize ((wr.setCell ⟨w.heap.size, 0, none⟩ (.int .i64 t')).setCell ⟨w.heap.size, 1, none⟩ (.int .u64 x')).setCell ⟨w.heap.size, 2, none⟩ (.int .u64 r') = V at *
        have k0 : V.cell? ⟨w.heap.size, 0, none⟩ = some (.int .i64 t') := by simp [World.cell?, h3]
        have k1 : V.cell? ⟨w.heap.size, 1, none⟩ = some (.int .u64 x') := by simp [World.cell?, h3]
        have k2 : V.cell? ⟨w.heap.size, 2, none⟩ = some (.int .u64 r') := by simp [World.cell?, h3]
        refine bodyPost_ret (v := .tuple #[entO (some ⟨t', x', r'⟩), .bool true]) ?_ rfl ⟨by rw [HB.out.1, HB.out.2], t3⟩
        rw [results_cell_tmp rfl]
        go_simp
        rfl
      · have hq' : (t' == t) = false := by simpa using hq
        have HB : Hid _ := HSN.out hq
        clear hq
        go_wp2
        go_roundw
        case rel => exact ⟨k + 1, by go_num, by omega, HB.out, HT.out, HZ.out⟩
        case measure => simp [intOf]; omega
    · obtain rfl : k = N := by omega
      have he : L.take k = L := List.take_of_length_le (by rw [← HN.out]; exact Nat.le_refl _)
      have hno := HNO.out
      rw [he] at hno
      have hgn := getT_none hno
      have HB : Hid _ := And.intro hgn hno
      clear hno he hrow hgn
      go_wp2
      have h3 := set_three (u0 := .int .i64 0) (u1 := .int .u64 0) (u2 := .int .u64 0) HZ.out
      have t3 := touch_three HT.out (b := w.heap.size) (.inr (Nat.le_refl _)) (.int .i64 0) (.int .u64 0) (.int .u64 0)
      generalize ((wr.setCell ⟨w.heap.size, 0, none⟩ (.int .i64 0)).setCell ⟨w.heap.size, 1, none⟩ (.int .u64 0)).setCell ⟨w.heap.size, 2, none⟩ (.int .u64 0) = V at *
      have k0 : V.cell? ⟨w.heap.size, 0, none⟩ = some (.int .i64 0) := by simp [World.cell?, h3]
      have k1 : V.cell? ⟨w.heap.size, 1, none⟩ = some (.int .u64 0) := by simp [World.cell?, h3]
      have k2 : V.cell? ⟨w.heap.size, 2, none⟩ = some (.int .u64 0) := by simp [World.cell?, h3]
      refine bodyPost_ret (v := .tuple #[entO none, .bool false]) ?_ rfl ⟨by rw [HB.out.1, HB.out.2], t3⟩
      rw [results_cell_tmp rfl]
      go_simp
      rfl

/-- What the document's Add leaves. -/
def RAddPost (B : Nat) (w : World) (b : Nat) (vl : Value) (r : Int × List EntD) (x : Ending) (w' : World) : Prop :=
  ∃ vl', x = .returned (.int .i64 r.1) ∧ RfSet B w' b vl' r.2 ∧ Touch w w' [b] ∧ ∀ q ∈ rffoot b vl', q ∈ rffoot b vl ∨ w.heap.size ≤ q

theorem RfSet.stays {B : Nat} {w w' : World} {b : Nat} {vl : Value} {L : List EntD} (h : RfSet B w b vl L) (t : Touch w w' []) (z : Int) : RAddPost B w b vl (z, L) (.returned (.int .i64 z)) w' :=
  ⟨vl, rfl, h.keep t (by simp), t.mono (by simp), fun q hq => .inl hq⟩

theorem cells_three {w : World} {b : Nat} {x0 x1 x2 : Value} {t : TypeId} (h : w.heap[b]? = some (.cells #[x0, x1, x2] t (0, 0))) : w.cell? ⟨b, 0, none⟩ = some x0 ∧ w.cell? ⟨b, 1, none⟩ = some x1 ∧ w.cell? ⟨b, 2, none⟩ = some x2 := by
  simp [World.cell?, h]
theorem cell_alloc {w : World} {b i : Nat} {v : Value} (h : w.cell? ⟨b, i, none⟩ = some v) (o : Obj) : (w.alloc o).cell? ⟨b, i, none⟩ = some v :=
  (World.cell?_alloc_past _ _ _ (World.block_lt_of_cell? w _ h)).trans h
theorem heap_two (w : World) (o1 o2 : Obj) : ((w.alloc o1).alloc o2).heap[w.heap.size]? = some o1 ∧ ((w.alloc o1).alloc o2).heap[w.heap.size + 1]? = some o2 := by
  refine ⟨?_, ?_⟩
  · have h := Below.heap_alloc (w.alloc o1) o2 w.heap.size (by simp)
    rw [h]; exact heap_alloc_new w o1
  · have h := heap_alloc_new (w.alloc o1) o2
    simpa using h

/-- The document's set with one more. -/
theorem RfSet.snoc {B : Nat} {W w4 : World} {b g2 cap2 : Nat} {al : Option Addr} {cl : Nat} {L : List EntD} {e : EntD} (h : RfSet B W b (.slice al L.length cl) L) (tF : Touch W w4 []) (hg2 : W.heap.size ≤ g2)
    (hrow : w4.ownsRow B 41 3 (.slice (some ⟨g2, 0, none⟩) (L.length + 1) cap2) (L.length + 1) (L.flatMap EntD.cells ++ e.cells)) (hok : e.Ok) (hn : hasT L e.tvar = false) (hl : L.length < 8) :
    RfSet B (w4.setCell ⟨b, 0, none⟩ (.slice (some ⟨g2, 0, none⟩) (L.length + 1) cap2)) b (.slice (some ⟨g2, 0, none⟩) (L.length + 1) cap2) (L ++ [e]) := by
  have hbl := lt_of_heap h.st
  have hJ : Joins L [e] := by
    refine ⟨by simpa using hok, ?_⟩
    rw [List.map_append, List.nodup_append]
    refine ⟨h.sl.nodup, by simp, ?_⟩
    intro x hx y hy
    simp only [List.map_cons, List.map_nil, List.mem_cons, List.not_mem_nil, or_false] at hy
    subst hy
    rintro rfl
    rw [List.mem_map] at hx
    obtain ⟨z, hz, hzt⟩ := hx
    have : hasT L e.tvar = true := by
      unfold hasT
      rw [List.any_eq_true]
      exact ⟨z, hz, by simp [hzt]⟩
    rw [hn] at this; cases this
  refine ⟨h.hb, ?_, ?_, ⟨?_, hJ.nodup, by simp; omega⟩⟩
  · rw [heap_setCell_same _ _ _ _ _ _ ((tF.block b hbl (by simp)).trans h.st)]; rfl
  · rw [List.length_append, List.flatMap_append]
    have := ownsRow_setCell_other hrow (a := ⟨b, 0, none⟩) (by simp [Value.ownBlock]; omega) (.slice (some ⟨g2, 0, none⟩) (L.length + 1) cap2)
    simpa using this
  · intro x hx
    simp only [List.mem_append, List.mem_cons, List.not_mem_nil, or_false] at hx
    rcases hx with hx | rfl
    · exact h.sl.ok x hx
    · exact hok

set_option maxRecDepth 100000 in
set_option maxHeartbeats 6400000 in
theorem radd_any {B : Nat} {w : World} {b : Nat} {vl : Value} {L : List EntD} (h : RfSet B w b vl L) (hB : B ≤ w.heap.size) (e : EntD) (hwf : e.Wf) :
    Calls Try.prog 16 #[.pointer (some ⟨b, 0, none⟩), e.v] w (RAddPost B w b vl (addE L e)) := by
  have hwv := hwf.v
  obtain ⟨al, cl, rfl⟩ := RdSet.owns_form h.own
  obtain ⟨t, x, r⟩ := e
  have hT1 : Touch w (w.alloc (.cells #[.int .i64 t, .int .u64 x, .int .u64 r] 41)) [] := (Touch.refl w []).alloc _
  have hr := fun W => rright_any x hwv W
  have HS : Hid _ := h
  have h8 := h.sl.len
  unfold addE wrongE
  simp only
  clear h
  by_cases h0 : 0 ≤ t
  · by_cases h1 : t < 12
    · by_cases h2 : r ≤ 1099511627776
      · have hin : 0 ≤ t ∧ t < 12 ∧ r ≤ 1099511627776 := ⟨h0, h1, h2⟩
        simp only [hin, not_true, if_false]
        cases hv : rightB x
        · rw [hv] at hr
          simp only [Bool.false_eq_true, if_false]
          rw [if_pos (by decide)]
          go_enter Try.func16, Try.ntmps16
          go_wp2_with fail
          refine (hr _).mono ?_
          rintro y w1 ⟨rfl, rfl⟩
          clear hr
          go_wp2
          go_ret
          exact HS.out.stays hT1 3
        · rw [hv] at hr
          simp only [if_true]
          rw [if_neg (by simp)]
          have hOk : EntD.Ok ⟨t, x, r⟩ := ⟨hwf, by unfold wrongE; simp only; rw [if_neg (by simp [h0, h1, h2]), hv]; rfl⟩
          have hS1 := HS.out.keep hT1 (by simp)
          have hgt := rget_any hS1 t
          have e1 := heap_alloc_new w (.cells #[.int .i64 t, .int .u64 x, .int .u64 r] 41 (0, 0))
          obtain ⟨W, hW⟩ : ∃ W, W = w.alloc (.cells #[.int .i64 t, .int .u64 x, .int .u64 r] 41) := ⟨_, rfl⟩
          rw [← hW] at hS1 hgt e1 hT1
          have k0 : W.cell? ⟨w.heap.size, 0, none⟩ = some (.int .i64 t) := by simp [World.cell?, e1]
          have hgl := lt_of_heap e1
          have HE : Hid _ := e1
          have HT1 : Hid _ := hT1
          have HS1 : Hid _ := hS1
          obtain ⟨N, hN⟩ : ∃ N, N = L.length := ⟨_, rfl⟩
          have HN : Hid (N = L.length) := hN
          have hbS := lt_of_heap hS1.st
          clear e1 hT1 hS1
          go_enter Try.func16, Try.ntmps16
          cases hh : hasT L t
          · simp only [Bool.false_eq_true, if_false]
            rw [hh, show entO (getT L t) = .agg #[.int .i64 0, .int .u64 0, .int .u64 0] by rw [getT_none hh]; rfl] at hgt
            by_cases hbig : 8 ≤ L.length
            · simp only [if_pos hbig]
              have hbig' : (8 : Int) ≤ N := by omega
              go_wp2_with fail
              rw [← hW]
              refine (hr _).mono ?_
              rintro y w1 ⟨rfl, rfl⟩
              clear hr hW
              go_wp2_with fail
              refine hgt.mono ?_
              rintro y w1 ⟨rfl, t1⟩
              clear hgt
              have t2 : Touch W (w1.alloc (.cells #[.int .i64 0, .int .u64 0, .int .u64 0] 41)) [] := t1.alloc _
              obtain ⟨c0, f0⟩ := (HS1.out.keep t2 (by simp)).cells
              rw [← hN] at c0
              clear hN k0
              go_wp2
              go_ret
              exact HS.out.stays (HT1.out.trans t2 (by simp)) 4
            · simp only [if_neg hbig]
              have hbig' : ¬ (8 : Int) ≤ N := by omega
              have hN8 : N < 8 := by omega
              go_wp2_with fail
              rw [← hW]
              refine (hr _).mono ?_
              rintro y w1 ⟨rfl, rfl⟩
              clear hr hW
              go_wp2_with fail
              refine hgt.mono ?_
              rintro y w1 ⟨rfl, t1⟩
              clear hgt
              have t2 : Touch W (w1.alloc (.cells #[.int .i64 0, .int .u64 0, .int .u64 0] 41)) [] := t1.alloc _
              obtain ⟨c0, f0⟩ := (HS1.out.keep t2 (by simp)).cells
              rw [← hN] at c0
              clear k0
              have HT2 : Hid _ := t2
              clear t2 t1
              go_wp2_with fail
              refine wp_name fun wc hwc => ?_
              have t2 : Touch W wc [] := by rw [hwc]; exact HT2.out
              clear hwc c0 f0 HT2
              have hS2 := HS1.out.keep t2 (by simp)
              obtain ⟨c0, f0⟩ := hS2.cells
              have e2 := (t2.block _ hgl (by simp)).trans HE.out
              have own := hS2.own
              rw [← hN] at c0 own
              have hDl := lt_of_heap e2
              have hbw := lt_of_heap hS2.st
              have hBw : B ≤ wc.heap.size := by have := t2.size; have := HT1.out.size; omega
              obtain ⟨j0, j1, j2⟩ := cells_three e2
              obtain ⟨i0, hi0, hz0, hz1, hz2⟩ := info_parts Try.info_ent
              have A1 : ∀ o, (wc.alloc o).cell? ⟨b, 0, none⟩ = some (.slice al N cl) := fun o => cell_alloc c0 o
              have A2 : ∀ o o', ((wc.alloc o).alloc o').cell? ⟨b, 0, none⟩ = some (.slice al N cl) := fun o o' => cell_alloc (cell_alloc c0 o) o'
              have E0 := fun o => cell_alloc j0 o
              have E1 := fun o => cell_alloc j1 o
              have E2 := fun o => cell_alloc j2 o
              have OE : ∀ (X : World) (c : Array Value), c.size = 0 → B ≤ X.heap.size → (X.alloc (.cells c 41)).ownsRow B 41 3 (.slice (some ⟨X.heap.size, 0, none⟩) 0 0) 0 [] := fun X c hc hX => World.ownsRow_made X c 0 hX (by decide) (by simpa using hc)
              have OE' : ∀ (o : Obj) (c : Array Value), c.size = 0 → ((wc.alloc o).alloc (.cells c 41)).ownsRow B 41 3 (.slice (some ⟨wc.heap.size + 1, 0, none⟩) 0 0) 0 [] := fun o c hc => by
                have := OE (wc.alloc o) c hc (by simp; omega)
                simpa using this
              have hl1 : 0 + N ≤ maxLen := by unfold maxLen; omega
              have hl2 : (0 + N) * 24 ≤ 140737488355328 := by omega
              have hl3 : N + 1 ≤ maxLen := by unfold maxLen; omega
              have hl4 : (N + 1) * 24 ≤ 140737488355328 := by omega
              have HS2 : Hid _ := hS2
              have HT2 : Hid _ := HT1.out.trans t2 (by simp)
              have hN' : Hid (N = L.length) := hN
              clear hN hS2 t2
              go_region_law (first | (refine step_append_src (by rfl) (.tmp 44) (.tmp 48) 22 (by rfl) B 41 i0 _ 3 24 Try.underlying22 hi0 hz0 hz1 hz2 rfl (by omega) (wc.heap.size) 0 0 [] (by rfl) (OE wc #[] rfl hBw).drew (.slice al N cl) B N (L.flatMap EntD.cells) (by rfl) (own.alloc _).drew ent_one hl1 hl2 (by simp; omega) ?_; intro g1 cap1 w3 hown1 hgrow1 hat1 hlt1; simp only [Nat.zero_add, List.nil_append] at hown1; have tw : Touch wc w3 [] := ((Touch.refl wc []).alloc _).drew.grown hgrow1 (fun q hq => .inr (by simp at hq; omega)); have hg1 : wc.heap.size ≤ g1 := hat1.elim (fun e => by omega) (fun e => by simp at e; omega); obtain ⟨q0, q1, q2⟩ := cells_three ((tw.block w.heap.size hDl (by simp)).trans e2)) | (refine step_append_src (by rfl) (.tmp 44) (.tmp 48) 22 (by rfl) B 41 i0 _ 3 24 Try.underlying22 hi0 hz0 hz1 hz2 rfl (by omega) (wc.heap.size) 0 0 [] (by rfl) ((OE wc #[] rfl hBw).alloc _).drew (.slice al N cl) B N (L.flatMap EntD.cells) (by rfl) ((own.alloc _).alloc _).drew ent_one hl1 hl2 (by simp; omega) ?_; intro g1 cap1 w3 hown1 hgrow1 hat1 hlt1; simp only [Nat.zero_add, List.nil_append] at hown1; have tw : Touch wc w3 [] := (((Touch.refl wc []).alloc _).alloc _).drew.grown hgrow1 (fun q hq => .inr (by simp at hq; omega)); have hg1 : wc.heap.size ≤ g1 := hat1.elim (fun e => by omega) (fun e => by simp at e; omega); obtain ⟨q0, q1, q2⟩ := cells_three ((tw.block w.heap.size hDl (by simp)).trans e2); have hE : w3.heap[wc.heap.size + 1]? = _ := (hgrow1.block (wc.heap.size + 1) (by simp) (by simp)).trans (heap_two wc _ _).2) | (refine step_append_src (by rfl) (.tmp 44) (.tmp 48) 22 (by rfl) B 41 i0 _ 3 24 Try.underlying22 hi0 hz0 hz1 hz2 rfl (by omega) (wc.heap.size + 1) 0 0 [] (by rfl) (OE' _ #[] rfl).drew (.slice al N cl) B N (L.flatMap EntD.cells) (by rfl) ((own.alloc _).alloc _).drew ent_one hl1 hl2 (by simp; omega) ?_; intro g1 cap1 w3 hown1 hgrow1 hat1 hlt1; simp only [Nat.zero_add, List.nil_append] at hown1; have tw : Touch wc w3 [] := (((Touch.refl wc []).alloc _).alloc _).drew.grown hgrow1 (fun q hq => .inr (by simp at hq; omega)); have hg1 : wc.heap.size ≤ g1 := hat1.elim (fun e => by omega) (fun e => by simp at e; omega); obtain ⟨q0, q1, q2⟩ := cells_three ((tw.block w.heap.size hDl (by simp)).trans e2); have hE : w3.heap[wc.heap.size]? = _ := (hgrow1.block wc.heap.size (by simp <;> omega) (by simp <;> omega)).trans (heap_two wc _ _).1) | (have hB1 : B ≤ (w3.alloc (.cells #[.int .i64 t, .int .u64 x, .int .u64 r] 41)).heap.size := (by have := tw.size; simp; omega); refine step_append_lies _ (by rfl) (.tmp 49) (.tmp 51) 22 (by rfl) B 41 i0 _ 3 24 Try.underlying22 hi0 hz0 hz1 hz2 rfl (by omega) (.slice (some ⟨g1, 0, none⟩) N cap1) N (L.flatMap EntD.cells) (by rfl) (hown1.alloc _) ⟨w3.heap.size, 0, none⟩ 1 1 [.int .i64 t, .int .u64 x, .int .u64 r] (by rfl) (by rfl) (World.news_of_block (cs := #[.int .i64 t, .int .u64 x, .int .u64 r]) (t := 41) (fr := (0, 0)) (heap_alloc_new w3 _)) (by simp [Value.oneCell']) (by omega) hl3 hl4 hB1 (w3.heap.size + 1) (by simp) ?_; intro g2 cap2 w4 hown2 hgrow2 hat2 hlt2; have tF : Touch wc w4 [] := (tw.alloc _).grown hgrow2 (fun q hq => .inr (by simp [Value.ownBlock] at hq; omega)); have hg2 : wc.heap.size ≤ g2 := hat2.elim (fun e => by simp [Value.ownBlock] at e; omega) (fun e => by have := tw.size; omega); have k1 : w4.cell? ⟨b, 0, none⟩ = some (.slice al N cl) := (tF.cell (p := ⟨b, 0, none⟩) hbw (by simp)).trans c0; have k2 : w4.frozen? ⟨b, 0, none⟩ = false := (tF.frozen (p := ⟨b, 0, none⟩) hbw (by simp)).trans f0) | (have hB1 : B ≤ w3.heap.size := Nat.le_trans hBw tw.size; refine step_append_lies _ (by rfl) (.tmp 49) (.tmp 51) 22 (by rfl) B 41 i0 _ 3 24 Try.underlying22 hi0 hz0 hz1 hz2 rfl (by omega) (.slice (some ⟨g1, 0, none⟩) N cap1) N (L.flatMap EntD.cells) (by rfl) hown1 ⟨wc.heap.size + 1, 0, none⟩ 1 1 [.int .i64 t, .int .u64 x, .int .u64 r] (by rfl) (by rfl) (World.news_of_block (cs := #[.int .i64 t, .int .u64 x, .int .u64 r]) (t := 41) (fr := (0, 0)) hE) (by simp [Value.oneCell']) (by omega) hl3 hl4 hB1 w3.heap.size rfl ?_; intro g2 cap2 w4 hown2 hgrow2 hat2 hlt2; have tF : Touch wc w4 [] := tw.grown hgrow2 (fun q hq => .inr (by simp [Value.ownBlock] at hq; omega)); have hg2 : wc.heap.size ≤ g2 := hat2.elim (fun e => by simp [Value.ownBlock] at e; omega) (fun e => by have := tw.size; omega); have k1 : w4.cell? ⟨b, 0, none⟩ = some (.slice al N cl) := (tF.cell (p := ⟨b, 0, none⟩) hbw (by simp)).trans c0; have k2 : w4.frozen? ⟨b, 0, none⟩ = false := (tF.frozen (p := ⟨b, 0, none⟩) hbw (by simp)).trans f0) | (have hB1 : B ≤ w3.heap.size := Nat.le_trans hBw tw.size; refine step_append_lies _ (by rfl) (.tmp 49) (.tmp 51) 22 (by rfl) B 41 i0 _ 3 24 Try.underlying22 hi0 hz0 hz1 hz2 rfl (by omega) (.slice (some ⟨g1, 0, none⟩) N cap1) N (L.flatMap EntD.cells) (by rfl) hown1 ⟨wc.heap.size, 0, none⟩ 1 1 [.int .i64 t, .int .u64 x, .int .u64 r] (by rfl) (by rfl) (World.news_of_block (cs := #[.int .i64 t, .int .u64 x, .int .u64 r]) (t := 41) (fr := (0, 0)) hE) (by simp [Value.oneCell']) (by omega) hl3 hl4 hB1 w3.heap.size rfl ?_; intro g2 cap2 w4 hown2 hgrow2 hat2 hlt2; have tF : Touch wc w4 [] := tw.grown hgrow2 (fun q hq => .inr (by simp [Value.ownBlock] at hq; omega)); have hg2 : wc.heap.size ≤ g2 := hat2.elim (fun e => by simp [Value.ownBlock] at e; omega) (fun e => by have := tw.size; omega); have k1 : w4.cell? ⟨b, 0, none⟩ = some (.slice al N cl) := (tF.cell (p := ⟨b, 0, none⟩) hbw (by simp)).trans c0; have k2 : w4.frozen? ⟨b, 0, none⟩ = false := (tF.frozen (p := ⟨b, 0, none⟩) hbw (by simp)).trans f0))
              all_goals
                clear A1 A2 E0 E1 E2 OE OE' k1 k2 hown1 hgrow1 hgrow2
                go_wp2
                go_ret
                rw [hN'.out] at hown2
                refine ⟨.slice (some ⟨g2, 0, none⟩) (L.length + 1) cap2, rfl, ?_, ?_, ?_⟩
                · have := HS2.out.snoc (e := ⟨t, x, r⟩) tF hg2 (by simpa [EntD.cells] using hown2) hOk hh (by omega)
                  simpa [hN'.out] using this
                · have := (((HT2.out.trans tF (by simp)).mono (R := [b]) (by simp)).setCell (p := ⟨b, 0, none⟩) (.inl (by simp)) (.slice (some ⟨g2, 0, none⟩) (L.length + 1) cap2))
                  simpa [hN'.out] using this
                · intro q hq
                  simp only [rffoot, Value.ownBlock, List.mem_cons, Option.mem_toList, Option.some.injEq] at hq
                  rcases hq with rfl | rfl
                  · exact .inl (by simp [rffoot])
                  · exact .inr (Nat.le_trans HT2.out.size hg2)
          · simp only [if_true]
            obtain ⟨z, hz⟩ : ∃ z, getT L t = some z := by
              have h1 := hasT_eq L t
              rw [hh] at h1
              cases hq : getT L t with
              | none => rw [hq] at h1; simp at h1
              | some z => exact ⟨z, rfl⟩
            rw [hh, show entO (getT L t) = .agg #[.int .i64 z.tvar, .int .u64 z.val, .int .u64 z.ver] by rw [hz]; rfl] at hgt
            clear hz
            go_wp2_with fail
            rw [← hW]
            refine (hr _).mono ?_
            rintro y w1 ⟨rfl, rfl⟩
            clear hr hW
            go_wp2_with fail
            refine hgt.mono ?_
            rintro y w1 ⟨rfl, t1⟩
            clear hgt
            go_wp2
            go_ret
            exact HS.out.stays ((HT1.out.trans t1 (by simp)).alloc _) 0
      · simp only [show ¬ (0 ≤ t ∧ t < 12 ∧ r ≤ 1099511627776) from fun h => h2 h.2.2, not_false_eq_true, if_true]
        rw [if_pos (by decide)]
        go_enter Try.func16, Try.ntmps16
        go_wp2
        go_ret
        exact HS.out.stays hT1 2
    · simp only [show ¬ (0 ≤ t ∧ t < 12 ∧ r ≤ 1099511627776) from fun h => h1 h.2.1, not_false_eq_true, if_true]
      rw [if_pos (by decide)]
      go_enter Try.func16, Try.ntmps16
      go_wp2
      go_ret
      exact HS.out.stays hT1 2
  · simp only [show ¬ (0 ≤ t ∧ t < 12 ∧ r ≤ 1099511627776) from fun h => h0 h.1, not_false_eq_true, if_true]
    rw [if_pos (by decide)]
    go_enter Try.func16, Try.ntmps16
    go_wp2
    go_ret
    exact HS.out.stays hT1 2

end Go.Proofs.Ytbiinldodhkkbaa

/-
  (*cells.Cells).Do BY ITS CONTRACT.
-/
import Derived.Test.YtdaahghlaingaacCellsWord
namespace Go.Proofs.Ytdaahghlaingaac
set_option linter.unusedVariables false
set_option linter.unusedSimpArgs false
open Go.RowKit

set_option maxRecDepth 100000 in
set_option maxHeartbeats 3200000 in
theorem do_ok {B b : Nat} {w : World} {vw vl : Value} {ws : List Int} {lg : List DoneD} (h : CObj 66 B w b vw vl ws lg) (hB : B ≤ w.heap.size) (o : OpD) (ho : o.Wf) (hn : ws.length ≤ 32) (hlg : lg.length ≤ 1000)
    (j : Nat) (hj : j < ws.length) (hoc : o.cell = j) (he : (outc o (ws.getD j 0)).2.2 = 0) :
    Calls Try.prog 11 #[.pointer (some ⟨b, 0, none⟩), o.val] w fun e w' => ∃ vw' vl',
      e = .returned (.tuple #[(⟨o, ws.getD j 0, (outc o (ws.getD j 0)).2.1⟩ : DoneD).val, .int .i64 0]) ∧
      CObj 66 B w' b vw' vl' (ws.set j (outc o (ws.getD j 0)).1) (lg ++ [⟨o, ws.getD j 0, (outc o (ws.getD j 0)).2.1⟩]) ∧ Touch w w' (foot b vw vl) ∧ ∀ k ∈ foot b vw' vl', k ∈ foot b vw vl ∨ w.heap.size ≤ k := by
  obtain ⟨g, cap, rfl, hcell, hfz, hBg, hgl, hcap, hcm, hgb⟩ := h.words
  obtain ⟨s0, s1, f0, f1⟩ := cells_two h.st
  have hbl := lt_of_heap h.st
  have hcj := hcell j hj
  have hfj := hfz j
  have hwd := h.wds.getD j
  obtain ⟨x, hx⟩ : ∃ x, x = ws.getD j 0 := ⟨_, rfl⟩
  rw [← hx] at he hcj hwd ⊢
  have houtc := fun w => outcome_any o ho x hwd.1 hwd.2 w
  obtain ⟨⟨r1, r2, r3⟩, hr⟩ : ∃ r, r = outc o x := ⟨_, rfl⟩
  rw [← hr] at he houtc ⊢
  simp only at he houtc ⊢
  subst he
  have hlen : ws.length = ws.length := rfl
  obtain ⟨n, hnn⟩ : ∃ n, n = ws.length := ⟨_, rfl⟩
  rw [← hnn] at hj s0 hn
  obtain ⟨k, c, a, bb⟩ := o
  simp only at hoc
  subst hoc
  simp only [OpD.val] at houtc ⊢
  have hj0 : ¬ (j : Int) < 0 := by omega
  have hj1 : (j : Int) < n := by omega
  have hj2 : (0 : Int) ≤ j := by omega
  clear hcell hfz hlen
  have HX : Hid (x = ws.getD j 0) := hx
  have HR : Hid ((r1, r2, (0 : Int)) = outc ⟨k, j, a, bb⟩ x) := hr
  have HN : Hid (n = ws.length) := hnn
  clear hx hr hnn
  go_enter Try.func11, Try.ntmps11
  go_wp2_with (first | (go_at_call 29; refine (houtc _).mono ?_; rintro e w' ⟨rfl, cs, rfl⟩) | (go_at_call 14; go_in))
  refine wp_name fun W hW => ?_
  have t1 : Touch w W [] := by rw [hW]; exact ((((Touch.refl _ _).alloc _).alloc _).alloc _).alloc _
  obtain ⟨Q, R, _, D, hsz⟩ := heap_four w (.cells #[.int .u8 k, .int .i64 j, .int .u64 a, .int .u64 bb] 33) (.cells #[.int .u8 0, .int .i64 0, .int .u64 0, .int .u64 0, .int .u64 0, .bool false] 35) (.cells cs 33)
    (.cells #[.int .u8 k, .int .i64 j, .int .u64 a, .int .u64 bb, .int .u64 x, .bool r2] 35)
  rw [← hW] at Q R D hsz
  have q1 : W.cell? ⟨w.heap.size, 1, none⟩ = some (.int .i64 j) := by simp [World.cell?, Q]
  have n1 : ¬ g = w.heap.size := by omega
  have n2 : ¬ w.heap.size = g := by omega
  have c0 := (t1.cell (p := ⟨b, 0, none⟩) hbl (by simp)).trans s0
  have cg := (t1.cell (p := ⟨g, j, none⟩) hgl (by simp)).trans hcj
  have fg := (t1.frozen (p := ⟨g, j, none⟩) hgl (by simp)).trans hfj
  have hWH : Hid (W = _) := hW
  clear hW
  go_region_held3 (fun w' => w'.cell? ⟨b, 0, none⟩ = some (.slice (some ⟨g, 0, none⟩) n cap) ∧ w'.cell? ⟨w.heap.size, 1, none⟩ = some (.int .i64 j)) (go_keep) (fail)
  go_wp2
  refine wp_name fun W2 hW2 => ?_
  have own1 := ownsRow_touch h.own t1 (by simp)
  have own2 : W2.ownsRow B 31 1 (.slice (some ⟨g, 0, none⟩) ws.length cap) ws.length ((ws.map (Value.int .u64)).set j (.int .u64 r1)) := by rw [hW2]; exact (own1.stored j _).1.drew
  have t2 : Touch W W2 [g] := by rw [hW2]; exact ((Touch.refl _ _).setCell (by simp) _).drew
  have t12 : Touch w W2 [g] := (t1.mono (by simp)).trans t2 (by simp)
  have hap := h.apart
  have log2 := ownsRow_touch h.log t12 (fun k hk => by have := hap.2 g rfl; rw [hk] at this; simpa using this)
  have st2 := (t12.block b hbl (by simpa using Ne.symm hgb)).trans h.st
  have D2 := (t2.block (w.heap.size + 3) (by omega) (by simp; omega)).trans D
  have R2 := (t2.block (w.heap.size + 1) (by omega) (by simp; omega)).trans R
  have hsz2 : W2.heap.size = w.heap.size + 4 := by rw [hW2]; simpa [World.setCell] using hsz
  clear hW2 q1 c0 cg fg Q R D own1 t2 t1 hWH n1 n2 hsz houtc s0 s1 f0 f1 hcj hfj
  obtain ⟨a0, a1, e0, e1⟩ := cells_two st2
  have d0 : W2.cell? ⟨w.heap.size + 1 + 1 + 1, 0, none⟩ = some (.int .u8 k) := by simp [World.cell?, D2]
  have d1 : W2.cell? ⟨w.heap.size + 1 + 1 + 1, 1, none⟩ = some (.int .i64 j) := by simp [World.cell?, D2]
  have d2 : W2.cell? ⟨w.heap.size + 1 + 1 + 1, 2, none⟩ = some (.int .u64 a) := by simp [World.cell?, D2]
  have d3 : W2.cell? ⟨w.heap.size + 1 + 1 + 1, 3, none⟩ = some (.int .u64 bb) := by simp [World.cell?, D2]
  have d4 : W2.cell? ⟨w.heap.size + 1 + 1 + 1, 4, none⟩ = some (.int .u64 x) := by simp [World.cell?, D2]
  have d5 : W2.cell? ⟨w.heap.size + 1 + 1 + 1, 5, none⟩ = some (.bool r2) := by simp [World.cell?, D2]
  obtain ⟨i0, hi0, hz0, hz1, hz2⟩ := info_parts Try.info_done
  have HS : Hid (W2.heap.size = w.heap.size + 4) := hsz2
  have hszg : w.heap.size + 4 ≤ W2.heap.size := by omega
  have hvb : vl.ownBlock ≠ some b := hap.1
  have hvD : vl.ownBlock ≠ some (w.heap.size + 1 + 1 + 1) := fun e => by have := (h.log.lt _ e).2; omega
  have fz1 : ∀ o, (W2.alloc o).frozen? ⟨b, 1, none⟩ = false := fun o => (World.frozen?_alloc_past _ _ _ (show b < W2.heap.size by omega)).trans e1
  clear hap hsz2
  have cz1 : ∀ o, (W2.alloc o).cell? ⟨b, 1, none⟩ = some vl := fun o => (World.cell?_alloc_past _ _ _ (show b < W2.heap.size by omega)).trans a1
  go_region_law ((refine step_append_lies _ (by rfl) _ _ _ (by rfl) B 35 i0 _ 6 48 Try.underlying45 hi0 hz0 hz1 hz2 rfl (by omega) vl lg.length (lg.flatMap DoneD.cells) (by rfl) ((log2.alloc _).drew) ⟨W2.heap.size, 0, none⟩ 1 1 [.int .u8 k, .int .i64 j, .int .u64 a, .int .u64 bb, .int .u64 x, .bool r2] (by rfl) (by rfl) (World.news_of_block (cs := #[.int .u8 k, .int .i64 j, .int .u64 a, .int .u64 bb, .int .u64 x, .bool r2]) (t := 35) (fr := (0, 0)) (heap_alloc_new W2 _)) (by simp [Value.oneCell']) (by omega) (by unfold maxLen; omega) (by omega) (by simp; omega) (W2.heap.size + 1) (by simp) ?_; intro gg cap' w1 hown1 hgrow hat hlt; have k1 : w1.cell? ⟨b, 1, none⟩ = some vl := (hgrow.cell_far _ (by simp; omega) (Ne.symm hvb)).trans (cz1 _); have k2 : w1.frozen? ⟨b, 1, none⟩ = false := (hgrow.frozen_far _ (by simp; omega) (Ne.symm hvb)).trans (fz1 _)))
  all_goals
    generalize hW3 : w1.setCell ⟨b, 1, none⟩ (.slice (some ⟨gg, 0, none⟩) (lg.length + 1) cap') = W3
    have hgs := hgrow.size
    simp only [World.size_drew, World.size_alloc] at hgs
    have hggb : gg ≠ b := by
      rcases hat with e | e
      · rintro rfl; exact hvb e
      · omega
    have t3 : Touch w w1 (foot b (.slice (some ⟨g, 0, none⟩) ws.length cap) vl) :=
      (((t12.mono (by simp [foot, Value.ownBlock])).alloc _).drew).grown hgrow (fun k hk => .inl (by simp [foot, hk]))
    have t4 : Touch w W3 (foot b (.slice (some ⟨g, 0, none⟩) ws.length cap) vl) := by rw [← hW3]; exact t3.setCell (.inl (by simp [foot])) _
    have t2w : Touch W2 w1 vl.ownBlock.toList := ((Touch.refl W2 _).alloc _).drew.grown hgrow (fun k hk => .inl (by simp [hk]))
    have t23 : Touch W2 W3 (b :: vl.ownBlock.toList) := by rw [← hW3]; exact (t2w.mono (by simp; intros; simp [*])).setCell (.inl (by simp)) _
    have D3 : W3.heap[w.heap.size + 1 + 1 + 1]? = some (.cells #[.int .u8 k, .int .i64 j, .int .u64 a, .int .u64 bb, .int .u64 x, .bool r2] 35 (0, 0)) := (t23.block _ (by omega) (by simp; exact ⟨by omega, hvD⟩)).trans D2
    have R3 := (t23.block _ (by omega) (by simp; exact ⟨by omega, fun e => by have := (h.log.lt _ e).2; omega⟩)).trans R2
    have st3 : W3.heap[b]? = some (.cells #[.slice (some ⟨g, 0, none⟩) ws.length cap, .slice (some ⟨gg, 0, none⟩) (lg.length + 1) cap'] 66 (0, 0)) := by
      rw [← hW3, heap_setCell_same _ _ _ _ _ _ ((t2w.block b (by omega) (by simpa using hvb)).trans st2)]; rfl
    have own3 := ownsRow_touch own2 t23 (fun k hk => by simp only [Value.ownBlock, Option.some.injEq] at hk; subst hk; simp; exact ⟨hgb, h.apart.2 _ rfl⟩)
    have log3 : W3.ownsRow B 35 6 (.slice (some ⟨gg, 0, none⟩) (lg.length + 1) cap') (lg.length + 1) (lg.flatMap DoneD.cells ++ [.int .u8 k, .int .i64 j, .int .u64 a, .int .u64 bb, .int .u64 x, .bool r2]) := by
      rw [← hW3]; exact ownsRow_setCell_other hown1 (by simpa [Value.ownBlock] using hggb) _
    have obj3 : CObj 66 B W3 b (.slice (some ⟨g, 0, none⟩) ws.length cap) (.slice (some ⟨gg, 0, none⟩) (lg.length + 1) cap') (ws.set j r1) (lg ++ [⟨⟨k, j, a, bb⟩, x, r2⟩]) := by
      refine ⟨h.hb, st3, ?_, ?_, by simpa using h.pos, h.wds.set _ ?_, h.tw, h.tl⟩
      · rw [List.length_set, List.map_set]; exact own3
      · simpa [DoneD.cells] using log3
      · have hr1 : r1 = (outc ⟨k, j, a, bb⟩ x).1 := by rw [← HR.out]
        rw [hr1]; exact outc_word ho hwd
    have ft := foot_grown (b := b) (n := lg.length + 1) (c := cap') (vw := .slice (some ⟨g, 0, none⟩) ws.length cap) (show vl.ownBlock = some gg ∨ w.heap.size ≤ gg from hat.imp id (by omega))
    obtain ⟨⟨d0, d1, d2, d3, d4, d5⟩, _⟩ := cells_done D3
    obtain ⟨⟨z0, z1, z2, z3, z4, z5⟩, y0, y1, y2, y3, y4, y5⟩ := cells_done R3
    have hgg : gg ≠ w.heap.size + 1 := by
      rcases hat with e | e
      · have := (h.log.lt _ e).2; omega
      · omega
    have OB : Hid _ := obj3
    have T4 : Hid _ := t4
    have FT : Hid _ := ft
    clear obj3 t4 ft log3 own3 st3 R3 D3 t23 t2w t3 hW3 hgrow hown1 hat hlt k1 k2 own2 log2 st2 D2 R2 a0 a1 e0 e1 cz1 fz1
    go_wp2
    have tz : ∀ v0 v1 v2 v3 v4 v5, Touch W3 ((((((W3.setCell ⟨w.heap.size + 1, 0, none⟩ v0).setCell ⟨w.heap.size + 1, 1, none⟩ v1).setCell ⟨w.heap.size + 1, 2, none⟩ v2).setCell ⟨w.heap.size + 1, 3, none⟩ v3).setCell ⟨w.heap.size + 1, 4, none⟩ v4).setCell ⟨w.heap.size + 1, 5, none⟩ v5) [w.heap.size + 1] :=
      fun v0 v1 v2 v3 v4 v5 => ((((((Touch.refl _ _).setCell (.inl (by simp)) _).setCell (.inl (by simp)) _).setCell (.inl (by simp)) _).setCell (.inl (by simp)) _).setCell (.inl (by simp)) _).setCell (.inl (by simp)) _
    refine bodyPost_ret (v := .tuple #[(⟨⟨k, j, a, bb⟩, x, r2⟩ : DoneD).val, .int .i64 0]) (by simp [results, Try.results11, go_sem, z0, z1, z2, z3, z4, z5]) rfl ⟨_, _, rfl, OB.out.keep (tz _ _ _ _ _ _) ?_, T4.out.trans (tz _ _ _ _ _ _) (by simp), FT.out⟩
    intro m hm e
    have e' : m = w.heap.size + 1 := by simpa using e
    rcases FT.out m hm with h' | h'
    · have := (h.foot_lt m h').2; omega
    · rw [mem_foot] at hm
      simp only [Value.ownBlock, Option.some.injEq] at hm
      subst e'
      rcases hm with h'' | h'' | h''
      · omega
      · omega
      · exact hgg h''

theorem do_nil (o : OpD) (w : World) :
    Calls Try.prog 11 #[.pointer none, o.val] w fun e w' => e = .returned (.tuple #[DoneD.zero.val, .int .i64 1]) ∧ Touch w w' [] := by
  simp only [OpD.val]
  go_enter Try.func11, Try.ntmps11
  go_wp2
  exact bodyPost_ret (v := .tuple #[DoneD.zero.val, .int .i64 1]) (by simp [results, Try.results11, go_sem, DoneD.zero]) rfl ⟨rfl, ((Touch.refl _ _).alloc _).alloc _⟩

theorem do_range (b n cap : Nat) (ao : Option Addr) (w : World) (hb : w.cell? ⟨b, 0, none⟩ = some (.slice ao n cap)) (hn : n ≤ maxLen) (o : OpD) (hi : o.cell < 0 ∨ (n : Int) ≤ o.cell) :
    Calls Try.prog 11 #[.pointer (some ⟨b, 0, none⟩), o.val] w fun e w' => e = .returned (.tuple #[DoneD.zero.val, .int .i64 2]) ∧ Touch w w' [] := by
  have hbl := World.block_lt_of_cell? w _ hb
  have hw := fun (o1 o2 : Obj) => word_out b n cap ao o.cell ((w.alloc o1).alloc o2) (((Touch.refl w []).alloc o1).alloc o2 |>.cell (p := ⟨b, 0, none⟩) hbl (by simp) |>.trans hb) hi hn
  obtain ⟨k, c, a, bb⟩ := o
  simp only [OpD.val] at *
  go_enter Try.func11, Try.ntmps11
  go_wp2_with (go_at_call 14; refine (hw _ _).mono ?_; rintro e w' ⟨rfl, rfl⟩)
  exact bodyPost_ret (v := .tuple #[DoneD.zero.val, .int .i64 2]) (by simp [results, Try.results11, go_sem, DoneD.zero]) rfl ⟨rfl, ((Touch.refl _ _).alloc _).alloc _⟩

theorem do_err (b g n cap j : Nat) (x : Int) (w : World) (hb : w.cell? ⟨b, 0, none⟩ = some (.slice (some ⟨g, 0, none⟩) n cap)) (hj : j < n) (hn : n ≤ maxLen) (hx : w.cell? ⟨g, j, none⟩ = some (.int .u64 x)) (hx0 : 0 ≤ x) (hx1 : x < 18446744073709551616)
    (o : OpD) (ho : o.Wf) (hoc : o.cell = j) (e : Int) (he : (outc o x).2.2 = e) (hne : e ≠ 0) :
    Calls Try.prog 11 #[.pointer (some ⟨b, 0, none⟩), o.val] w fun e' w' => e' = .returned (.tuple #[DoneD.zero.val, .int .i64 e]) ∧ Touch w w' [] := by
  have hbl := World.block_lt_of_cell? w _ hb
  have hgl := World.block_lt_of_cell? w _ hx
  have hw := fun (o1 o2 : Obj) => word_in b g n cap j x ((w.alloc o1).alloc o2) (((Touch.refl w []).alloc o1).alloc o2 |>.cell (p := ⟨b, 0, none⟩) hbl (by simp) |>.trans hb) hj hn (((Touch.refl w []).alloc o1).alloc o2 |>.cell (p := ⟨g, j, none⟩) hgl (by simp) |>.trans hx)
  have houtc := fun w => outcome_any o ho x hx0 hx1 w
  obtain ⟨⟨r1, r2, r3⟩, hr⟩ : ∃ r, r = outc o x := ⟨_, rfl⟩
  rw [← hr] at he houtc
  simp only at he houtc
  subst he
  have hne' : (r3 == 0) = false := by simpa using hne
  obtain ⟨k, c, a, bb⟩ := o
  simp only at hoc
  subst hoc
  clear hr
  simp only [OpD.val] at *
  go_enter Try.func11, Try.ntmps11
  go_wp2_with (first | (go_at_call 29; refine (houtc _).mono ?_; rintro e w' ⟨rfl, cs, rfl⟩) | (go_at_call 14; refine (hw _ _).mono ?_; rintro e w' ⟨rfl, rfl⟩))
  exact bodyPost_ret (v := .tuple #[DoneD.zero.val, .int .i64 r3]) (by simp [results, Try.results11, go_sem, DoneD.zero]) rfl ⟨rfl, (((Touch.refl _ _).alloc _).alloc _).alloc _⟩

/-- Do, whatever the op. -/
theorem do_any {B b : Nat} {w : World} {vw vl : Value} {ws : List Int} {lg : List DoneD} (h : CObj 66 B w b vw vl ws lg) (hB : B ≤ w.heap.size) (o : OpD) (ho : o.Wf) (hn : ws.length ≤ 32) (hlg : lg.length ≤ 1000) :
    Calls Try.prog 11 #[.pointer (some ⟨b, 0, none⟩), o.val] w fun e w' => ∃ vw' vl',
      e = .returned (.tuple #[(doStep ws lg o).1.val, .int .i64 (doStep ws lg o).2.1]) ∧
      CObj 66 B w' b vw' vl' (doStep ws lg o).2.2.1 (doStep ws lg o).2.2.2 ∧ Touch w w' (foot b vw vl) ∧ ∀ k ∈ foot b vw' vl', k ∈ foot b vw vl ∨ w.heap.size ≤ k := by
  obtain ⟨g, cap, hvw, hcell, hfz, hBg, hgl, hcap, hcm, hgb⟩ := h.words
  obtain ⟨s0, s1, f0, f1⟩ := cells_two h.st
  by_cases hi : 0 ≤ o.cell ∧ o.cell < ws.length
  · obtain ⟨j, hj⟩ : ∃ j : Nat, o.cell = j := ⟨o.cell.toNat, by omega⟩
    have hjl : j < ws.length := by omega
    have hjn : o.cell.toNat = j := by omega
    by_cases he : (outc o (ws.getD j 0)).2.2 = 0
    · have e : doStep ws lg o = (⟨o, ws.getD j 0, (outc o (ws.getD j 0)).2.1⟩, 0, ws.set j (outc o (ws.getD j 0)).1, lg ++ [⟨o, ws.getD j 0, (outc o (ws.getD j 0)).2.1⟩]) := by
        unfold doStep; rw [if_pos hi, hjn]; simp only [he, if_true]
      rw [e]
      exact do_ok h hB o ho hn hlg j hjl hj he
    · have e : doStep ws lg o = (DoneD.zero, (outc o (ws.getD j 0)).2.2, ws, lg) := by
        unfold doStep; rw [if_pos hi, hjn]; simp only [he, if_false]
      rw [e]
      have hw := h.wds.getD j
      refine (do_err b g ws.length cap j (ws.getD j 0) w (by rw [← hvw]; exact s0) hjl (by unfold maxLen; omega) (hcell j hjl) hw.1 hw.2 o ho hj _ rfl he).mono fun e' w' ⟨h1, h2⟩ => ?_
      exact ⟨vw, vl, h1, h.keep h2 (by simp), h2.mono (by simp), fun k hk => .inl hk⟩
  · have e : doStep ws lg o = (DoneD.zero, 2, ws, lg) := by unfold doStep; rw [if_neg hi]
    rw [e]
    refine (do_range b ws.length cap (some ⟨g, 0, none⟩) w (by rw [← hvw]; exact s0) (by unfold maxLen; omega) o (by omega)).mono fun e' w' ⟨h1, h2⟩ => ?_
    exact ⟨vw, vl, h1, h.keep h2 (by simp), h2.mono (by simp), fun k hk => .inl hk⟩

end Go.Proofs.Ytdaahghlaingaac

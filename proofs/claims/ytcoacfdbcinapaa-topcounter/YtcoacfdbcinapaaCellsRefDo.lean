/-
  (*rowlockref02.Cells).Do BY ITS CONTRACT: the same words as (*cells.Cells).Do's.
-/
import Derived.Test.YtcoacfdbcinapaaCellsPlain
import Derived.Deep.CutBlock
import Derived.Deep.DeepCutAuto
import Derived.Deep.RegionLaw
namespace Go.Proofs.Ytcoacfdbcinapaa
set_option linter.unusedVariables false
set_option linter.unusedSimpArgs false
open Go.RowKit

/-- Behind the switch: the word is stored, the answer is laid. -/
structure Mid (T B b g cap : Nat) (w : World) (vl : Value) (ws : List Int) (lg : List DoneD) (j : Nat) (k a bb x r1 : Int) (r2 : Bool) (W2 : World) : Prop where
  own : W2.ownsRow B 43 1 (.slice (some ⟨g, 0, none⟩) ws.length cap) ws.length ((ws.map (Value.int .u64)).set j (.int .u64 r1))
  log : W2.ownsRow B 51 6 vl lg.length (lg.flatMap DoneD.cells)
  st : W2.heap[b]? = some (.cells #[.slice (some ⟨g, 0, none⟩) ws.length cap, vl] T (0, 0))
  D : W2.heap[w.heap.size + 2]? = some (.cells #[.int .u8 k, .int .i64 j, .int .u64 a, .int .u64 bb, .int .u64 x, .bool r2] 51 (0, 0))
  R : W2.heap[w.heap.size + 1]? = some (.cells #[.int .u8 0, .int .i64 0, .int .u64 0, .int .u64 0, .int .u64 0, .bool false] 51 (0, 0))
  t : Touch w W2 [g]
  sz : W2.heap.size = w.heap.size + 3

/-- Behind the note: the object is as it shall be. -/
def Fin (T B b g cap : Nat) (w : World) (vl : Value) (ws : List Int) (lg : List DoneD) (j : Nat) (k a bb x r1 : Int) (r2 : Bool) (W3 : World) : Prop :=
  ∃ gg cap', CObj T B W3 b (.slice (some ⟨g, 0, none⟩) ws.length cap) (.slice (some ⟨gg, 0, none⟩) (lg.length + 1) cap') (ws.set j r1) (lg ++ [⟨⟨k, j, a, bb⟩, x, r2⟩]) ∧ w.heap.size + 3 ≤ gg ∧ Touch w W3 (foot b (.slice (some ⟨g, 0, none⟩) ws.length cap) vl) ∧
    W3.heap[w.heap.size + 1 + 1]? = some (.cells #[.int .u8 k, .int .i64 j, .int .u64 a, .int .u64 bb, .int .u64 x, .bool r2] 51 (0, 0)) ∧
    W3.heap[w.heap.size + 1]? = some (.cells #[.int .u8 0, .int .i64 0, .int .u64 0, .int .u64 0, .int .u64 0, .bool false] 51 (0, 0))

/-- From the note's world on. -/
theorem Mid.fin {T B b g cap : Nat} {w : World} {vl : Value} {ws : List Int} {lg : List DoneD} {j : Nat} {k a bb x r1 : Int} {r2 : Bool} {W2 : World} (m : Mid T B b g cap w vl ws lg j k a bb x r1 r2 W2)
    (h : CObj T B w b (.slice (some ⟨g, 0, none⟩) ws.length cap) vl ws lg) (hgb : g ≠ b) (hr1 : 0 ≤ r1 ∧ r1 < 18446744073709551616)
    {wF : World} {gg cap' : Nat} (tF : Touch W2 wF []) (hgg : W2.heap.size ≤ gg) (hown : wF.ownsRow B 51 6 (.slice (some ⟨gg, 0, none⟩) (lg.length + 1) cap') (lg.length + 1) (lg.flatMap DoneD.cells ++ [.int .u8 k, .int .i64 j, .int .u64 a, .int .u64 bb, .int .u64 x, .bool r2])) :
    Fin T B b g cap w vl ws lg j k a bb x r1 r2 (wF.setCell ⟨b, 1, none⟩ (.slice (some ⟨gg, 0, none⟩) (lg.length + 1) cap')) := by
  have hbl := lt_of_heap h.st
  have hgl : g < w.heap.size := (h.own.lt g rfl).2
  have hsz := m.sz
  have t3 : Touch W2 (wF.setCell ⟨b, 1, none⟩ (.slice (some ⟨gg, 0, none⟩) (lg.length + 1) cap')) [b] := (tF.mono (by simp)).setCell (.inl (by simp)) _
  have st3 : (wF.setCell ⟨b, 1, none⟩ (.slice (some ⟨gg, 0, none⟩) (lg.length + 1) cap')).heap[b]? = some (.cells #[.slice (some ⟨g, 0, none⟩) ws.length cap, .slice (some ⟨gg, 0, none⟩) (lg.length + 1) cap'] T (0, 0)) := by
    rw [heap_setCell_same _ _ _ _ _ _ ((tF.block b (by omega) (by simp)).trans m.st)]; rfl
  have own3 := ownsRow_touch m.own t3 (fun k hk => by simp only [Value.ownBlock, Option.some.injEq] at hk; subst hk; simpa using hgb)
  have log3 := ownsRow_setCell_other hown (a := ⟨b, 1, none⟩) (by simp [Value.ownBlock]; omega) (.slice (some ⟨gg, 0, none⟩) (lg.length + 1) cap')
  refine ⟨gg, cap', ⟨h.hb, st3, ?_, ?_, by simpa using h.pos, h.wds.set _ hr1, h.tw, h.tl⟩, by omega, (m.t.mono (by simp [foot, Value.ownBlock])).trans t3 (by simp [foot]), (t3.block _ (by omega) (by simp; omega)).trans m.D, (t3.block _ (by omega) (by simp; omega)).trans m.R⟩
  · rw [List.length_set, List.map_set]; exact own3
  · simpa [DoneD.cells] using log3

/-- Ahead of the switch. -/
structure Pre (T B b g cap : Nat) (w : World) (vl : Value) (ws : List Int) (lg : List DoneD) (j : Nat) (k a bb x : Int) (W : World) : Prop where
  D : W.heap[w.heap.size + 2]? = some (.cells #[.int .u8 k, .int .i64 j, .int .u64 a, .int .u64 bb, .int .u64 x, .bool true] 51 (0, 0))
  R : W.heap[w.heap.size + 1]? = some (.cells #[.int .u8 0, .int .i64 0, .int .u64 0, .int .u64 0, .int .u64 0, .bool false] 51 (0, 0))
  t : Touch w W []
  sz : W.heap.size = w.heap.size + 3

theorem Pre.mid {T B b g cap : Nat} {w : World} {vl : Value} {ws : List Int} {lg : List DoneD} {j : Nat} {k a bb x : Int} {W : World} (p : Pre T B b g cap w vl ws lg j k a bb x W)
    (h : CObj T B w b (.slice (some ⟨g, 0, none⟩) ws.length cap) vl ws lg) (hx : x = ws.getD j 0) (hj : j < ws.length) (hgb : g ≠ b) (r1 : Int) (r2 : Bool) :
    (r1 = x → r2 = true → Mid T B b g cap w vl ws lg j k a bb x r1 r2 W) ∧
    (r2 = true → Mid T B b g cap w vl ws lg j k a bb x r1 r2 (W.setCell ⟨g, j, none⟩ (.int .u64 r1)).drew) ∧
    (r1 = x → Mid T B b g cap w vl ws lg j k a bb x r1 r2 (W.setCell ⟨w.heap.size + 1 + 1, 5, none⟩ (.bool r2))) ∧
    (Mid T B b g cap w vl ws lg j k a bb x r1 r2 ((W.setCell ⟨w.heap.size + 1 + 1, 5, none⟩ (.bool r2)).setCell ⟨g, j, none⟩ (.int .u64 r1)).drew) := by
  have hgl : g < w.heap.size := (h.own.lt g rfl).2
  have hbl := lt_of_heap h.st
  have hsz := p.sz
  have own1 := ownsRow_touch h.own p.t (by simp)
  have log1 := ownsRow_touch h.log p.t (by simp)
  have st1 := (p.t.block b hbl (by simp)).trans h.st
  have hlg : ∀ k, vl.ownBlock = some k → k ∉ [g] := fun k hk => by have := h.apart.2 g rfl; rw [hk] at this; simpa using this
  have hself : ((ws.map (Value.int .u64)).set j (.int .u64 x)) = ws.map (Value.int .u64) := by
    rw [← List.map_set, hx, List.getD_eq_getElem?_getD, List.getElem?_eq_getElem hj]
    simp
  -- the answer's Ok
  have D5 : (W.setCell ⟨w.heap.size + 1 + 1, 5, none⟩ (.bool r2)).heap[w.heap.size + 2]? = some (.cells #[.int .u8 k, .int .i64 j, .int .u64 a, .int .u64 bb, .int .u64 x, .bool r2] 51 (0, 0)) := by
    rw [heap_setCell_same W (w.heap.size + 1 + 1) 5 _ _ _ p.D]; rfl
  have t5 : Touch W (W.setCell ⟨w.heap.size + 1 + 1, 5, none⟩ (.bool r2)) [w.heap.size + 2] := (Touch.refl _ _).setCell (by simp) _
  have tg : ∀ X : World, Touch X (X.setCell ⟨g, j, none⟩ (.int .u64 r1)).drew [g] := fun X => ((Touch.refl _ _).setCell (by simp) _).drew
  have t15 : Touch w (W.setCell ⟨w.heap.size + 1 + 1, 5, none⟩ (.bool r2)) [] := p.t.trans t5 (by simp)
  have sz5 : (W.setCell ⟨w.heap.size + 1 + 1, 5, none⟩ (.bool r2)).heap.size = w.heap.size + 3 := by simpa [World.setCell] using hsz
  have own5 := ownsRow_touch h.own t15 (by simp)
  have log5 := ownsRow_touch h.log t15 (by simp)
  have st5 := (t15.block b hbl (by simp)).trans h.st
  have R5 := (t5.block (w.heap.size + 1) (by omega) (by simp)).trans p.R
  refine ⟨?_, ?_, ?_, ?_⟩
  · rintro rfl rfl
    exact ⟨by rw [hself]; exact own1, log1, st1, p.D, p.R, p.t.mono (by simp), hsz⟩
  · rintro rfl
    refine ⟨(own1.stored j _).1.drew, ownsRow_touch log1 (tg W) hlg, ((tg W).block b (by omega) (by simpa using Ne.symm hgb)).trans st1, ((tg W).block _ (by omega) (by simp; omega)).trans p.D, ((tg W).block _ (by omega) (by simp; omega)).trans p.R, (p.t.mono (by simp)).trans (tg W) (by simp), by simpa [World.setCell] using hsz⟩
  · rintro rfl
    exact ⟨by rw [hself]; exact own5, log5, st5, D5, R5, t15.mono (by simp), sz5⟩
  · refine ⟨(own5.stored j _).1.drew, ownsRow_touch log5 (tg _) hlg, ((tg _).block b (by omega) (by simpa using Ne.symm hgb)).trans st5, ((tg _).block _ (by omega) (by simp; omega)).trans D5, ((tg _).block _ (by omega) (by simp; omega)).trans R5, (t15.mono (by simp)).trans (tg _) (by simp), by simpa [World.setCell] using hsz⟩

set_option maxRecDepth 100000 in
set_option maxHeartbeats 6400000 in
theorem rdo_ok {B b : Nat} {w : World} {vw vl : Value} {ws : List Int} {lg : List DoneD} (h : CObj 66 B w b vw vl ws lg) (hB : B ≤ w.heap.size) (o : OpD) (ho : o.Wf) (hn : ws.length ≤ 32) (hlg : lg.length ≤ 1000)
    (j : Nat) (hj : j < ws.length) (hoc : o.cell = j) (he : (outc o (ws.getD j 0)).2.2 = 0) :
    Calls Try.prog 25 #[.pointer (some ⟨b, 0, none⟩), o.val] w fun e w' => ∃ vw' vl',
      e = .returned (.tuple #[(⟨o, ws.getD j 0, (outc o (ws.getD j 0)).2.1⟩ : DoneD).val, .int .i64 0]) ∧
      CObj 66 B w' b vw' vl' (ws.set j (outc o (ws.getD j 0)).1) (lg ++ [⟨o, ws.getD j 0, (outc o (ws.getD j 0)).2.1⟩]) ∧ Touch w w' (foot b vw vl) ∧ ∀ k ∈ foot b vw' vl', k ∈ foot b vw vl ∨ w.heap.size ≤ k := by
  obtain ⟨g, cap, rfl, hcell, hfz, hBg, hgl, hcap, hcm, hgb⟩ := h.words
  obtain ⟨s0, s1, f0, f1⟩ := cells_two h.st
  have hbl := lt_of_heap h.st
  have hcj := hcell j hj
  have hfj := hfz j
  have hwd := h.wds.getD j
  obtain ⟨x, hx⟩ : ∃ x, x = ws.getD j 0 := ⟨_, rfl⟩
  rw [← hx] at he hcj hwd ⊢
  obtain ⟨n, hnn⟩ : ∃ n, n = ws.length := ⟨_, rfl⟩
  rw [← hnn] at s0 hn
  have hjn : j < n := by omega
  obtain ⟨k, c, a, bb⟩ := o
  simp only at hoc
  subst hoc
  simp only [OpD.val] at ⊢
  have hj0 : ¬ (j : Int) < 0 := by omega
  have hj0' : decide ((j : Int) < 0) = false := by simp
  have hj1 : (j : Int) < n := by omega
  have hj2 : (0 : Int) ≤ j := by omega
  have hkd : k = 1 ∨ k = 2 ∨ k = 3 ∨ k = 4 := by
    by_cases g1 : k = 1
    · exact .inl g1
    by_cases g2 : k = 2
    · exact .inr (.inl g2)
    by_cases g3 : k = 3
    · exact .inr (.inr (.inl g3))
    by_cases g4 : k = 4
    · exact .inr (.inr (.inr g4))
    · simp [outc, g1, g2, g3, g4] at he
  have hk0 : decide (k < 1) = false := by simp; omega
  have hk1 : ¬ k < 1 := by omega
  have hk4 : ¬ 4 < k := by omega
  have hk4' : decide (4 < k) = false := by simp; omega
  have hjn' : decide (n ≤ j) = false := by simp; omega
  obtain ⟨⟨r1, r2, r3⟩, hr⟩ : ∃ r, r = outc ⟨k, j, a, bb⟩ x := ⟨_, rfl⟩
  rw [← hr] at he ⊢
  simp only at he ⊢
  subst he
  clear hcell hfz
  have HX : Hid (x = ws.getD j 0) := hx
  have HN : Hid (n = ws.length) := hnn
  have HR : Hid ((r1, r2, (0 : Int)) = outc ⟨k, j, a, bb⟩ x) := hr
  have HK : Hid (k = 1 ∨ k = 2 ∨ k = 3 ∨ k = 4) := hkd
  clear hx hnn hr hkd
  have S0 : ∀ o1 o2, ((w.alloc o1).alloc o2).cell? ⟨b, 0, none⟩ = _ := fun o1 o2 => cell_alloc (cell_alloc s0 o1) o2
  have CJ : ∀ o1 o2, ((w.alloc o1).alloc o2).cell? ⟨g, j, none⟩ = _ := fun o1 o2 => cell_alloc (cell_alloc hcj o1) o2
  go_enter Try.func25, Try.ntmps25
  go_wp2_with fail
  go_quiet (fail)
  go_wp2_with fail
  go_quiet (fail)
  go_upto_block 1 with fail
  refine wp_name fun W hW => ?_
  obtain ⟨Q, R, D, hsz, t1⟩ := heap_three' hW
  obtain ⟨q0, q1, q2, q3⟩ := cells_op Q
  have n1 : ¬ g = w.heap.size := by omega
  have n2 : ¬ w.heap.size = g := by omega
  have c0 := (t1.cell (p := ⟨b, 0, none⟩) hbl (by simp)).trans s0
  have cg := (t1.cell (p := ⟨g, j, none⟩) hgl (by simp)).trans hcj
  have fg := (t1.frozen (p := ⟨g, j, none⟩) hgl (by simp)).trans hfj
  have D' : W.heap[w.heap.size + 1 + 1]? = _ := D
  obtain ⟨⟨d0, d1, d2, d3, d4, d5⟩, e0, e1, e2, e3, e4, e5⟩ := cells_done D'
  have PR : Hid (Pre 66 B b g cap w vl ws lg j k a bb x W) := ⟨D, R, t1, hsz⟩
  have n3 : ¬ g = w.heap.size + 1 + 1 := by omega
  have n4 : ¬ w.heap.size + 1 + 1 = g := by omega
  have n7 : ¬ w.heap.size + 1 + 1 = w.heap.size := by omega
  have n8 : ¬ w.heap.size = w.heap.size + 1 + 1 := by omega
  have n5 : ¬ b = w.heap.size + 1 + 1 := by omega
  have n6 : ¬ w.heap.size + 1 + 1 = b := by omega
  clear hW hsz S0 CJ D D' R Q t1
  go_cut [] (fun wx => Mid 66 B b g cap w vl ws lg j k a bb x r1 r2 wx)
  case first =>
    have HS : Hid (∀ k' : Int, (k == k') = decide (k = k')) := fun k' => by simp [BEq.beq]
    rcases HK.out with hk | hk | hk | hk
    · have hr : (r1, r2, (0 : Int)) = (x, true, 0) := HR.out.trans (by simp [outc, hk])
      simp only [Prod.mk.injEq, and_true] at hr
      have M : Hid _ := (PR.out.mid h HX.out hj hgb r1 r2).1 hr.1 hr.2
      have b2 : (k == 2) = false := by rw [hk]; rfl
      have b3 : (k == 3) = false := by rw [hk]; rfl
      have b4 : (k == 4) = false := by rw [hk]; rfl
      clear hr hk
      go_wp2
      go_meet
      case rel => exact M.out
    · have hr : (r1, r2, (0 : Int)) = (a, true, 0) := HR.out.trans (by simp [outc, hk])
      simp only [Prod.mk.injEq, and_true] at hr
      have M : Hid (Mid 66 B b g cap w vl ws lg j k a bb x r1 r2 (W.setCell ⟨g, j, none⟩ (.int .u64 a)).drew) := by rw [hr.1, hr.2]; exact (PR.out.mid h HX.out hj hgb a true).2.1 rfl
      have b2 : (k == 2) = true := by rw [hk]; rfl
      clear hr hk
      go_wp2_with fail
      go_region_held3 (fun w' => w'.cell? ⟨b, 0, none⟩ = some (.slice (some ⟨g, 0, none⟩) n cap) ∧ w'.cell? ⟨w.heap.size, 1, none⟩ = some (.int .i64 j) ∧ w'.cell? ⟨w.heap.size, 2, none⟩ = some (.int .u64 a)) (go_keep) (fail)
      go_wp2
      go_meet
      case rel => exact M.out
    · have b2 : (k == 2) = false := by rw [hk]; rfl
      have b3 : (k == 3) = true := by rw [hk]; rfl
      by_cases hxa : x = a
      · have hr : (r1, r2, (0 : Int)) = (bb, true, 0) := HR.out.trans (by simp [outc, hk, hxa])
        simp only [Prod.mk.injEq, and_true] at hr
        have M : Hid (Mid 66 B b g cap w vl ws lg j k a bb x r1 r2 ((W.setCell ⟨w.heap.size + 1 + 1, 5, none⟩ (.bool true)).setCell ⟨g, j, none⟩ (.int .u64 bb)).drew) := by rw [hr.1, hr.2]; exact (PR.out.mid h HX.out hj hgb bb true).2.2.2
        have hxa' : (x == a) = true := by simpa using hxa
        clear hxa hr hk
        go_wp2_with fail
        go_region_held3 (fun w' => w'.cell? ⟨b, 0, none⟩ = some (.slice (some ⟨g, 0, none⟩) n cap) ∧ w'.cell? ⟨w.heap.size, 1, none⟩ = some (.int .i64 j) ∧ w'.cell? ⟨w.heap.size, 3, none⟩ = some (.int .u64 bb)) (go_keep) (fail)
        go_wp2
        go_meet
        case rel => exact M.out
      · have hr : (r1, r2, (0 : Int)) = (x, false, 0) := HR.out.trans (by simp [outc, hk, hxa])
        simp only [Prod.mk.injEq, and_true] at hr
        have M : Hid (Mid 66 B b g cap w vl ws lg j k a bb x r1 r2 (W.setCell ⟨w.heap.size + 1 + 1, 5, none⟩ (.bool false))) := by rw [hr.2]; exact (PR.out.mid h HX.out hj hgb r1 false).2.2.1 hr.1
        have hxa' : (x == a) = false := by simpa using hxa
        clear hxa hr hk
        go_wp2
        go_meet
        case rel => exact M.out
    · have b2 : (k == 2) = false := by rw [hk]; rfl
      have b3 : (k == 3) = false := by rw [hk]; rfl
      have b4 : (k == 4) = true := by rw [hk]; rfl
      have hlt : x + a < 18446744073709551616 := by
        by_cases hc : x + a < 18446744073709551616
        · exact hc
        · have := HR.out
          simp [outc, hk, hc] at this
      have hr : (r1, r2, (0 : Int)) = (x + a, true, 0) := HR.out.trans (by simp [outc, hk, hlt])
      simp only [Prod.mk.injEq, and_true] at hr
      have M : Hid (Mid 66 B b g cap w vl ws lg j k a bb x r1 r2 (W.setCell ⟨g, j, none⟩ (.int .u64 (x + a))).drew) := by rw [hr.1, hr.2]; exact (PR.out.mid h HX.out hj hgb (x + a) true).2.1 rfl
      have ha0 := ho.a0
      have ha1 := ho.a1
      simp only at ha0 ha1
      clear hr hk
      go_wp2_with fail
      go_region_held3 (fun w' => w'.cell? ⟨b, 0, none⟩ = some (.slice (some ⟨g, 0, none⟩) n cap) ∧ w'.cell? ⟨w.heap.size, 1, none⟩ = some (.int .i64 j) ∧ w'.cell? ⟨w.heap.size, 2, none⟩ = some (.int .u64 a)) (go_keep) (fail)
      go_wp2
      go_meet
      case rel =>
        rw [show IntKind.u64.wrap (x + a) = x + a by rw [IntKind.wrap_u64]; omega]
        exact M.out
  case rest =>
    go_upto_region 20 with fail
    go_cut [] (fun wx => Fin 66 B b g cap w vl ws lg j k a bb x r1 r2 wx)
    case first =>
      have HM : Hid (Mid 66 B b g cap w vl ws lg j k a bb x r1 r2 wc) := hcut
      have hrw : Hid (0 ≤ r1 ∧ r1 < 18446744073709551616) := by
        have := outc_word ho hwd
        rw [← HR.out] at this
        exact this
      obtain ⟨_, log2, st2, D2, _, _, hsz2⟩ := hcut
      have D2' : wc.heap[w.heap.size + 1 + 1]? = some (.cells #[.int .u8 k, .int .i64 j, .int .u64 a, .int .u64 bb, .int .u64 x, .bool r2] 51 (0, 0)) := D2
      have hDl := lt_of_heap D2'
      have hbw : b < wc.heap.size := by omega
      have hBw : B ≤ wc.heap.size := by omega
      obtain ⟨_, a1, _, e1⟩ := cells_two st2
      obtain ⟨⟨d0', d1', d2', d3', d4', d5'⟩, _⟩ := cells_done D2'
      obtain ⟨i0, hi0, hz0, hz1, hz2⟩ := info_parts Try.info_done
      have H1 : Hid (∀ u ∈ lg.flatMap DoneD.cells, u.oneCell' = true) := done_one
      have A1 : ∀ o, (wc.alloc o).cell? ⟨b, 1, none⟩ = some vl := fun o => cell_alloc a1 o
      have A2 : ∀ o o', ((wc.alloc o).alloc o').cell? ⟨b, 1, none⟩ = some vl := fun o o' => cell_alloc (cell_alloc a1 o) o'
      have E0 := fun o => cell_alloc d0' o
      have E1 := fun o => cell_alloc d1' o
      have E2 := fun o => cell_alloc d2' o
      have E3 := fun o => cell_alloc d3' o
      have E4 := fun o => cell_alloc d4' o
      have E5 := fun o => cell_alloc d5' o
      have OE : ∀ (X : World) (c : Array Value), c.size = 0 → B ≤ X.heap.size → (X.alloc (.cells c 51)).ownsRow B 51 6 (.slice (some ⟨X.heap.size, 0, none⟩) 0 0) 0 [] := fun X c hc hX => World.ownsRow_made X c 0 hX (by decide) (by simpa using hc)
      have OE' : ∀ (o : Obj) (c : Array Value), c.size = 0 → ((wc.alloc o).alloc (.cells c 51)).ownsRow B 51 6 (.slice (some ⟨wc.heap.size + 1, 0, none⟩) 0 0) 0 [] := fun o c hc => by
        have := OE (wc.alloc o) c hc (by simp; omega)
        simpa using this
      have hl1 : 0 + lg.length ≤ maxLen := by unfold maxLen; omega
      have hl2 : (0 + lg.length) * 48 ≤ 140737488355328 := by omega
      have hl3 : lg.length + 1 ≤ maxLen := by unfold maxLen; omega
      have hl4 : (lg.length + 1) * 48 ≤ 140737488355328 := by omega
      clear D2 hsz2 st2 HX HN HR HK PR s0 s1 f0 f1 hcj hfj q0 q1 q2 q3 c0 cg fg d0 d1 d2 d3 d4 d5 e0 e2 e3 e4 e5 n1 n2 n3 n4 n5 n6 n7 n8 hj0 hj0' hj1 hj2 hk0 hk1 hk4 hk4' hjn'
      have HL1 : Hid _ := hl1
      go_region_law (first | (refine step_append_src (by rfl) (.tmp 99) (.tmp 103) 30 (by rfl) B 51 i0 _ 6 48 Try.underlying30 hi0 hz0 hz1 hz2 rfl (by omega) (wc.heap.size) 0 0 [] (by rfl) (OE wc #[] rfl hBw).drew vl B lg.length (lg.flatMap DoneD.cells) (by rfl) (log2.alloc _).drew H1.out hl1 hl2 (by simp; omega) ?_; intro g1 cap1 w1 hown1 hgrow1 hat1 hlt1; simp only [Nat.zero_add, List.nil_append] at hown1; have tw : Touch wc w1 [] := ((Touch.refl wc []).alloc _).drew.grown hgrow1 (fun q hq => .inr (by simp at hq; omega)); have hg1 : wc.heap.size ≤ g1 := hat1.elim (fun e => by omega) (fun e => by simp at e; omega); obtain ⟨⟨f0, f1, f2, f3, f4, f5⟩, _⟩ := cells_done ((tw.block (w.heap.size + 1 + 1) hDl (by simp)).trans D2')) | (refine step_append_src (by rfl) (.tmp 99) (.tmp 103) 30 (by rfl) B 51 i0 _ 6 48 Try.underlying30 hi0 hz0 hz1 hz2 rfl (by omega) (wc.heap.size) 0 0 [] (by rfl) ((OE wc #[] rfl hBw).alloc _).drew vl B lg.length (lg.flatMap DoneD.cells) (by rfl) ((log2.alloc _).alloc _).drew H1.out hl1 hl2 (by simp; omega) ?_; intro g1 cap1 w1 hown1 hgrow1 hat1 hlt1; simp only [Nat.zero_add, List.nil_append] at hown1; have tw : Touch wc w1 [] := (((Touch.refl wc []).alloc _).alloc _).drew.grown hgrow1 (fun q hq => .inr (by simp at hq; omega)); have hg1 : wc.heap.size ≤ g1 := hat1.elim (fun e => by omega) (fun e => by simp at e; omega); obtain ⟨⟨f0, f1, f2, f3, f4, f5⟩, _⟩ := cells_done ((tw.block (w.heap.size + 1 + 1) hDl (by simp)).trans D2'); have hE : w1.heap[wc.heap.size + 1]? = _ := (hgrow1.block (wc.heap.size + 1) (by simp) (by simp)).trans (heap_two wc _ _).2) | (refine step_append_src (by rfl) (.tmp 99) (.tmp 103) 30 (by rfl) B 51 i0 _ 6 48 Try.underlying30 hi0 hz0 hz1 hz2 rfl (by omega) (wc.heap.size + 1) 0 0 [] (by rfl) (OE' _ #[] rfl).drew vl B lg.length (lg.flatMap DoneD.cells) (by rfl) ((log2.alloc _).alloc _).drew H1.out hl1 hl2 (by simp; omega) ?_; intro g1 cap1 w1 hown1 hgrow1 hat1 hlt1; simp only [Nat.zero_add, List.nil_append] at hown1; have tw : Touch wc w1 [] := (((Touch.refl wc []).alloc _).alloc _).drew.grown hgrow1 (fun q hq => .inr (by simp at hq; omega)); have hg1 : wc.heap.size ≤ g1 := hat1.elim (fun e => by omega) (fun e => by simp at e; omega); obtain ⟨⟨f0, f1, f2, f3, f4, f5⟩, _⟩ := cells_done ((tw.block (w.heap.size + 1 + 1) hDl (by simp)).trans D2'); have hE : w1.heap[wc.heap.size]? = _ := (hgrow1.block wc.heap.size (by simp <;> omega) (by simp <;> omega)).trans (heap_two wc _ _).1) | (have hB1 : B ≤ (w1.alloc (.cells #[.int .u8 k, .int .i64 j, .int .u64 a, .int .u64 bb, .int .u64 x, .bool r2] 51)).heap.size := (by have := tw.size; simp; omega); refine step_append_lies _ (by rfl) (.tmp 104) (.tmp 106) 30 (by rfl) B 51 i0 _ 6 48 Try.underlying30 hi0 hz0 hz1 hz2 rfl (by omega) (.slice (some ⟨g1, 0, none⟩) lg.length cap1) lg.length (lg.flatMap DoneD.cells) (by rfl) (hown1.alloc _) ⟨w1.heap.size, 0, none⟩ 1 1 [.int .u8 k, .int .i64 j, .int .u64 a, .int .u64 bb, .int .u64 x, .bool r2] (by rfl) (by rfl) (World.news_of_block (cs := #[.int .u8 k, .int .i64 j, .int .u64 a, .int .u64 bb, .int .u64 x, .bool r2]) (t := 51) (fr := (0, 0)) (heap_alloc_new w1 _)) (by simp [Value.oneCell']) (by omega) hl3 hl4 hB1 (w1.heap.size + 1) (by simp) ?_; intro g2 cap2 w2 hown2 hgrow2 hat2 hlt2; have tF : Touch wc w2 [] := (tw.alloc _).grown hgrow2 (fun q hq => .inr (by simp [Value.ownBlock] at hq; omega)); have hg2 : wc.heap.size ≤ g2 := hat2.elim (fun e => by simp [Value.ownBlock] at e; omega) (fun e => by have := tw.size; omega); have k1 : w2.cell? ⟨b, 1, none⟩ = some vl := (tF.cell (p := ⟨b, 1, none⟩) hbw (by simp)).trans a1; have k2 : w2.frozen? ⟨b, 1, none⟩ = false := (tF.frozen (p := ⟨b, 1, none⟩) hbw (by simp)).trans e1) | (have hB1 : B ≤ w1.heap.size := Nat.le_trans hBw tw.size; refine step_append_lies _ (by rfl) (.tmp 104) (.tmp 106) 30 (by rfl) B 51 i0 _ 6 48 Try.underlying30 hi0 hz0 hz1 hz2 rfl (by omega) (.slice (some ⟨g1, 0, none⟩) lg.length cap1) lg.length (lg.flatMap DoneD.cells) (by rfl) hown1 ⟨wc.heap.size + 1, 0, none⟩ 1 1 [.int .u8 k, .int .i64 j, .int .u64 a, .int .u64 bb, .int .u64 x, .bool r2] (by rfl) (by rfl) (World.news_of_block (cs := #[.int .u8 k, .int .i64 j, .int .u64 a, .int .u64 bb, .int .u64 x, .bool r2]) (t := 51) (fr := (0, 0)) hE) (by simp [Value.oneCell']) (by omega) hl3 hl4 hB1 w1.heap.size rfl ?_; intro g2 cap2 w2 hown2 hgrow2 hat2 hlt2; have tF : Touch wc w2 [] := tw.grown hgrow2 (fun q hq => .inr (by simp [Value.ownBlock] at hq; omega)); have hg2 : wc.heap.size ≤ g2 := hat2.elim (fun e => by simp [Value.ownBlock] at e; omega) (fun e => by have := tw.size; omega); have k1 : w2.cell? ⟨b, 1, none⟩ = some vl := (tF.cell (p := ⟨b, 1, none⟩) hbw (by simp)).trans a1; have k2 : w2.frozen? ⟨b, 1, none⟩ = false := (tF.frozen (p := ⟨b, 1, none⟩) hbw (by simp)).trans e1) | (have hB1 : B ≤ w1.heap.size := Nat.le_trans hBw tw.size; refine step_append_lies _ (by rfl) (.tmp 104) (.tmp 106) 30 (by rfl) B 51 i0 _ 6 48 Try.underlying30 hi0 hz0 hz1 hz2 rfl (by omega) (.slice (some ⟨g1, 0, none⟩) lg.length cap1) lg.length (lg.flatMap DoneD.cells) (by rfl) hown1 ⟨wc.heap.size, 0, none⟩ 1 1 [.int .u8 k, .int .i64 j, .int .u64 a, .int .u64 bb, .int .u64 x, .bool r2] (by rfl) (by rfl) (World.news_of_block (cs := #[.int .u8 k, .int .i64 j, .int .u64 a, .int .u64 bb, .int .u64 x, .bool r2]) (t := 51) (fr := (0, 0)) hE) (by simp [Value.oneCell']) (by omega) hl3 hl4 hB1 w1.heap.size rfl ?_; intro g2 cap2 w2 hown2 hgrow2 hat2 hlt2; have tF : Touch wc w2 [] := tw.grown hgrow2 (fun q hq => .inr (by simp [Value.ownBlock] at hq; omega)); have hg2 : wc.heap.size ≤ g2 := hat2.elim (fun e => by simp [Value.ownBlock] at e; omega) (fun e => by have := tw.size; omega); have k1 : w2.cell? ⟨b, 1, none⟩ = some vl := (tF.cell (p := ⟨b, 1, none⟩) hbw (by simp)).trans a1; have k2 : w2.frozen? ⟨b, 1, none⟩ = false := (tF.frozen (p := ⟨b, 1, none⟩) hbw (by simp)).trans e1))
      all_goals
        clear a1 e1 A1 A2 E0 E1 E2 E3 E4 E5 f0 f1 f2 f3 f4 f5 d0' d1' d2' d3' d4' d5' OE OE' k1 k2 hown1 hgrow1 hgrow2
        go_wp2
        go_meet
        case rel => exact HM.out.fin h hgb hrw.out tF hg2 hown2
    case rest =>
      obtain ⟨gg, cap', obj3, hgg, t4, D3, R3⟩ := hcut
      obtain ⟨⟨d0', d1', d2', d3', d4', d5'⟩, _⟩ := cells_done D3
      obtain ⟨⟨z0, z1, z2, z3, z4, z5⟩, y0, y1, y2, y3, y4, y5⟩ := cells_done R3
      have OB : Hid _ := obj3
      have T4 : Hid _ := t4
      clear obj3 t4 D3 R3 HX HN HR HK PR s0 s1 f0 f1 hcj hfj q0 q1 q2 q3 c0 cg fg d0 d1 d2 d3 d4 d5 e0 e1 e2 e3 e4 e5 n1 n2 n3 n4 n5 n6 n7 n8 hj0 hj0' hj1 hj2 hk0 hk1 hk4 hk4' hjn'
      go_wp2
      have tz : ∀ v0 v1 v2 v3 v4 v5, Touch wc ((((((wc.setCell ⟨w.heap.size + 1, 0, none⟩ v0).setCell ⟨w.heap.size + 1, 1, none⟩ v1).setCell ⟨w.heap.size + 1, 2, none⟩ v2).setCell ⟨w.heap.size + 1, 3, none⟩ v3).setCell ⟨w.heap.size + 1, 4, none⟩ v4).setCell ⟨w.heap.size + 1, 5, none⟩ v5) [w.heap.size + 1] :=
        fun v0 v1 v2 v3 v4 v5 => ((((((Touch.refl _ _).setCell (.inl (by simp)) _).setCell (.inl (by simp)) _).setCell (.inl (by simp)) _).setCell (.inl (by simp)) _).setCell (.inl (by simp)) _).setCell (.inl (by simp)) _
      refine bodyPost_ret (v := .tuple #[(⟨⟨k, j, a, bb⟩, x, r2⟩ : DoneD).val, .int .i64 0]) (by simp [results, Try.results25, go_sem, z0, z1, z2, z3, z4, z5]) rfl ⟨_, _, rfl, OB.out.keep (tz _ _ _ _ _ _) ?_, T4.out.trans (tz _ _ _ _ _ _) (by simp), ?_⟩
      · intro m hm e
        have e' : m = w.heap.size + 1 := by simpa using e
        rw [mem_foot] at hm
        simp only [Value.ownBlock, Option.some.injEq] at hm
        omega
      · exact foot_grown (.inr (by omega))

end Go.Proofs.Ytcoacfdbcinapaa

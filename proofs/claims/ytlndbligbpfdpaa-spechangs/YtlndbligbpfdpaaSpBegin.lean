/-
  package spec: begin BY ITS CONTRACT. Written by mkbegin.py.
-/
import Derived.Test.YtlndbligbpfdpaaSpRow1
namespace Go.Proofs.Ytlndbligbpfdpaa
set_option linter.unusedVariables false
set_option linter.unusedSimpArgs false
open Go.RowKit
attribute [local go_sem] Oper.semAt_some

/-- Behind both stores. -/
theorem MkA.fin {Q W : World} {D : WD} {H : List Int} {s h p q : Nat} {vs vo vh : Value} {b : Nat} {B : Gd} {e : Int} (k : MkA Q W D H (some s) (some h) (some (vs, vo)) (some vh)) (hp : Q.heap[p]? = some (.cells #[.pointer (some ⟨b, 0, none⟩)] 72 (0, 0))) (hq : Q.heap[q]? = some (.cells #[.int .i64 e] 3 (0, 0))) (hpq : p ≠ q) :
    Touch Q ((stPut W s D vs vo).setCell ⟨h, 0, none⟩ vh) [] ∧ MkC ((stPut W s D vs vo).setCell ⟨h, 0, none⟩ vh) b B ⟨D, H, e⟩ s h p q vs vo vh ∧ (∀ x ∈ s :: h :: p :: q :: (ob vs ++ (ob vo ++ ob vh)), x < ((stPut W s D vs vo).setCell ⟨h, 0, none⟩ vh).heap.size) ∧ (∀ x ∈ s :: h :: (ob vs ++ (ob vo ++ ob vh)), Q.heap.size ≤ x) := by
  have hnd := k.nd
  have hlt := k.lt
  simp only [accF, cB, dB, Option.toList_some, List.singleton_append, List.append_assoc, List.cons_append, List.nil_append] at hnd hlt
  have hs0 := (hlt s (by simp)).1
  have hh0 := (hlt h (by simp)).1
  have hpl := lt_of_heap hp
  have hql := lt_of_heap hq
  have t1 : Touch W (stPut W s D vs vo) [s] := stPut_touch _ _ _ _ _
  have t2 : Touch (stPut W s D vs vo) ((stPut W s D vs vo).setCell ⟨h, 0, none⟩ vh) [h] := (Touch.refl _ [h]).setCell (.inl (by simp)) _
  have t3 : Touch W ((stPut W s D vs vo).setCell ⟨h, 0, none⟩ vh) [s, h] := (t1.mono (by simp)).trans t2 (by simp)
  have tQ : Touch Q ((stPut W s D vs vo).setCell ⟨h, 0, none⟩ vh) [] := k.t.trans t3 (fun x hx => .inr (by simp at hx; rcases hx with rfl | rfl; exact hs0; exact hh0))
  have hsz : ((stPut W s D vs vo).setCell ⟨h, 0, none⟩ vh).heap.size = W.heap.size := by simp
  simp only [List.nodup_cons, List.mem_cons, List.mem_append, not_or] at hnd
  obtain ⟨⟨n1, n2, n3, n4⟩, ⟨n5, n6, n7⟩, n8⟩ := hnd
  have hge : ∀ x ∈ s :: h :: (ob vs ++ (ob vo ++ ob vh)), Q.heap.size ≤ x := fun x hx => (hlt x (by simpa using hx)).1
  have c1 := k.co _ rfl
  have d1 := k.dd _ rfl
  refine ⟨tQ, ⟨((k.sb s rfl).put D vs vo).touch t2 (by simp; exact n1), own_base (ownsRow_touch c1.1 t3 (fun g hg hm => ?_)) (Nat.zero_le _), own_base (ownsRow_touch c1.2 t3 (fun g hg hm => ?_)) (Nat.zero_le _), ?_, own_base (ownsRow_touch d1 t3 (fun g hg hm => ?_)) (Nat.zero_le _), (tQ.block p hpl (by simp)).trans hp, (tQ.block q hql (by simp)).trans hq, ?_⟩, ?_, hge⟩
  · simp at hm; rcases hm with rfl | rfl
    · exact n2 (mem_ob.2 hg)
    · exact n5 (mem_ob.2 hg)
  · simp at hm; rcases hm with rfl | rfl
    · exact n3 (mem_ob.2 hg)
    · exact n6 (mem_ob.2 hg)
  · have hh := (t1.block h (lt_of_heap (k.hb h rfl)) (by simp; exact fun e => n1 e.symm)).trans (k.hb h rfl)
    rw [heap_setCell_same _ _ _ _ _ _ hh]
    simp
  · simp at hm; rcases hm with rfl | rfl
    · exact n4 (mem_ob.2 hg)
    · exact n7 (mem_ob.2 hg)
  · have hbig : ∀ x ∈ ob vs ++ (ob vo ++ ob vh), Q.heap.size ≤ x := fun x hx => hge x (by simp only [List.mem_cons]; exact .inr (.inr hx))
    simp only [List.nodup_cons, List.mem_cons, List.mem_append, not_or]
    refine ⟨⟨n1, by omega, by omega, n2, n3, n4⟩, ⟨by omega, by omega, n5, n6, n7⟩, ⟨hpq, fun hx => ?_, fun hx => ?_, fun hx => ?_⟩, ⟨fun hx => ?_, fun hx => ?_, fun hx => ?_⟩, n8⟩
    · have := hbig p (by simp [hx]); omega
    · have := hbig p (by simp [hx]); omega
    · have := hbig p (by simp [hx]); omega
    · have := hbig q (by simp [hx]); omega
    · have := hbig q (by simp [hx]); omega
    · have := hbig q (by simp [hx]); omega
  · intro x hx
    rw [hsz]
    have hqs := k.t.size
    simp only [List.mem_cons] at hx
    rcases hx with rfl | rfl | rfl | rfl | hx
    · exact (hlt _ (by simp)).2
    · exact (hlt _ (by simp)).2
    · omega
    · omega
    · exact (hlt x (by simp only [List.mem_cons]; exact .inr (.inr hx))).2

/-- One left arm more. -/
theorem BObj.begun {w W W4 : World} {b : Nat} {B : Gd} {vp : Value} {D : WD} {hh : List Int} {L : List MkT} {arms : List Bool} {vs vo vh vl vl' va : Value} {m : MkD} {fv : Value} {F : List Nat} (k : BObj w b B vp D hh L arms vs vo vh vl va) (tW : Touch w W []) (hm : MkAt W b B m fv F) (hlt : ∀ x ∈ F, x < W.heap.size) (hge : ∀ x ∈ F, w.heap.size ≤ x)
    (t4 : Touch W W4 (b :: vl.ownBlock.toList)) (o4 : WObj W4 b 75 [vh, vl', va] vs vo vp D) (l4 : W4.ownsRow 0 1 1 vl' (L.length + 1) (L.map (fun t => t.2.1) ++ [fv])) (hv : ∀ g, vl'.ownBlock = some g → vl.ownBlock = some g ∨ W.heap.size ≤ g) (hv2 : ∀ g, vl'.ownBlock = some g → g < W4.heap.size) :
    BObj W4 b B vp D hh (L ++ [(m, fv, F)]) arms vs vo vh vl' va := by
  have kW := k.touch tW
  have hft : ftL (L ++ [(m, fv, F)]) = ftL L ++ F := by unfold ftL; rw [List.flatMap_append]; simp
  have hsw := tW.size
  have hs4 := t4.size
  have hS : ∀ i, i ≠ 0 → i ≠ 4 → ∀ x ∈ comp b vs vo vh vl va (ftL L) i, x ∉ b :: vl.ownBlock.toList := by
    intro i h0 h4 x hx hm
    simp only [List.mem_cons, Option.mem_toList] at hm
    rcases hm with rfl | hm
    · exact k.ap i 0 h0 x hx (by simp [comp])
    · exact k.ap i 4 h4 x hx (mem_ob.2 hm)
  have hSF : ∀ x ∈ F, x ∉ b :: vl.ownBlock.toList := by
    intro x hx hm
    have := hge x hx
    simp only [List.mem_cons, Option.mem_toList] at hm
    rcases hm with rfl | hm
    · have := k.lt 0 x (by simp [comp]); omega
    · have := k.lt 4 x (mem_ob.2 hm); omega
  have hsub : ∀ i, ∀ x ∈ comp b vs vo vh vl' va (ftL (L ++ [(m, fv, F)])) i, x ∈ comp b vs vo vh vl va (ftL L) i ∨ (i = 4 ∧ W.heap.size ≤ x ∧ x < W4.heap.size) ∨ (i = 6 ∧ x ∈ F) := by
    intro i x hx
    match i, hx with
    | 0, hx => exact .inl hx
    | 1, hx => exact .inl hx
    | 2, hx => exact .inl hx
    | 3, hx => exact .inl hx
    | 4, hx => rcases hv x (mem_ob.1 hx) with q | q; exact .inl (mem_ob.2 q); exact .inr (.inl ⟨rfl, q, hv2 x (mem_ob.1 hx)⟩)
    | 5, hx => exact .inl hx
    | 6, hx =>
      have hx2 : x ∈ ftL L ++ F := by rw [← hft]; exact hx
      rcases List.mem_append.1 hx2 with q | q
      · exact .inl q
      · exact .inr (.inr ⟨rfl, q⟩)
    | n + 7, hx => simp [comp] at hx
  refine ⟨o4, ownsRow_touch kW.s t4 (fun g hg => hS 1 (by decide) (by decide) g (mem_ob.2 hg)), ownsRow_touch kW.u t4 (fun g hg => hS 2 (by decide) (by decide) g (mem_ob.2 hg)), ownsRow_touch kW.hp t4 (fun g hg => hS 3 (by decide) (by decide) g (mem_ob.2 hg)), by simpa using l4, ownsRow_touch kW.ar t4 (fun g hg => hS 5 (by decide) (by decide) g (mem_ob.2 hg)), ?_, ?_, ?_, ?_, ?_, Nat.le_trans kW.hB hs4⟩
  · intro u hu
    rcases List.mem_append.1 hu with hu | hu
    · exact (kW.mks u hu).touch t4 (fun x hx => hS 6 (by decide) (by decide) x (by simp only [comp, ftL]; exact List.mem_flatMap.2 ⟨u, hu, hx⟩))
    · rw [List.mem_singleton.1 hu]; exact hm.touch t4 hSF
  · rw [List.pairwise_append]
    refine ⟨k.mn, by simp, fun u hu v hv x hx hx' => ?_⟩
    rw [List.mem_singleton.1 hv] at hx'
    have h1 := hge x hx'
    have h2 := k.lt 6 x (by simp only [comp, ftL]; exact List.mem_flatMap.2 ⟨u, hu, hx⟩)
    omega
  · intro i j hij x hx hx'
    rcases hsub i x hx with q | ⟨rfl, q1, q2⟩ | ⟨rfl, q⟩
    · rcases hsub j x hx' with r | ⟨rfl, r1, r2⟩ | ⟨rfl, r⟩
      · exact k.ap i j hij x q r
      · have := k.lt i x q; omega
      · have := k.lt i x q; have := hge x r; omega
    · rcases hsub j x hx' with r | ⟨rfl, r1, r2⟩ | ⟨rfl, r⟩
      · have := k.lt j x r; omega
      · exact hij rfl
      · have := hlt x r; omega
    · rcases hsub j x hx' with r | ⟨rfl, r1, r2⟩ | ⟨rfl, r⟩
      · have := k.lt j x r; have := hge x q; omega
      · have := hlt x q; omega
      · exact hij rfl
  · intro i x hx
    rcases hsub i x hx with q | ⟨_, _, q⟩ | ⟨_, q⟩
    · have := k.lt i x q; omega
    · exact q
    · have := hlt x q; omega
  · intro i x hx
    rcases hsub i x hx with q | ⟨_, q, _⟩ | ⟨_, q⟩
    · exact k.ge i x q
    · exact .inr (by have := k.hB; omega)
    · exact .inr (by have := k.hB; have := hge x q; omega)

/-- Behind what is kept. -/
def BegPost (Q w : World) (b : Nat) (B : Gd) (D : WD) (hh : List Int) (e : Int) (sa0 : Option Addr) (sc0 : Nat) (oa0 : Option Addr) (oc0 : Nat) (ha0 : Option Addr) (hc0 : Nat) : Exit → Act → World → Prop
  | .normal, a, W => ∃ s h sa sc oa oc ha hc, a = { tmps := #[.pointer (some ⟨b, 0, none⟩), .int .i64 e, .pointer (some ⟨w.heap.size, 0, none⟩), .pointer (some ⟨w.heap.size + 1, 0, none⟩), .pointer (some ⟨s, 0, none⟩), .pointer (some ⟨h, 0, none⟩), .pointer (some ⟨b, 0, none⟩), .pointer (some ⟨b, 0, none⟩), .pointer (some ⟨b, 0, none⟩), .pointer (some ⟨b, 0, none⟩), stV D (.slice sa0 D.st.length sc0) (.slice oa0 D.out.length oc0), stV D (.slice sa D.st.length sc) (.slice oa D.out.length oc), .pointer (some ⟨b, 0, none⟩), .pointer (some ⟨b, 0, none⟩), .pointer (some ⟨b, 9, none⟩), .slice ha0 hh.length hc0, .slice ha hh.length hc, undef, undef, undef, undef, undef, undef, undef, undef, undef, undef], defers := [] } ∧ Touch Q W [] ∧ MkC W b B ⟨D, hh, e⟩ s h w.heap.size (w.heap.size + 1) (.slice sa D.st.length sc) (.slice oa D.out.length oc) (.slice ha hh.length hc) ∧ (∀ x ∈ s :: h :: w.heap.size :: (w.heap.size + 1) :: (ob (.slice sa D.st.length sc) ++ (ob (.slice oa D.out.length oc) ++ ob (.slice ha hh.length hc))), x < W.heap.size) ∧ (∀ x ∈ s :: h :: (ob (.slice sa D.st.length sc) ++ (ob (.slice oa D.out.length oc) ++ ob (.slice ha hh.length hc))), Q.heap.size ≤ x)
  | _, _, _ => False

set_option maxRecDepth 100000 in
set_option maxHeartbeats 4000000 in
theorem begin_any {w : World} {b : Nat} {B : Gd} {vp : Value} {D : WD} {hh : List Int} {L : List MkT} {arms : List Bool} {vs vo vh vl va : Value} (k : BObj w b B vp D hh L arms vs vo vh vl va) (hsl : D.st.length ≤ 100000) (hol : D.out.length ≤ 100000) (hhl : hh.length ≤ 100000) (hL : L.length ≤ 1000) (e : Int) :
    Calls Try.prog 97 #[.pointer (some ⟨b, 0, none⟩), .int .i64 e] w fun x w' => x = .returned (.tuple #[]) ∧ (∃ t vl', t.1 = ⟨D, hh, e⟩ ∧ BObj w' b B vp D hh (L ++ [t]) arms vs vo vh vl' va) ∧ Touch w w' (b :: vl.ownBlock.toList) := by
  obtain ⟨sa0, sc0, rfl⟩ := owns_slice k.s
  obtain ⟨oa0, oc0, rfl⟩ := owns_slice k.u
  obtain ⟨ha0, hc0, rfl⟩ := owns_slice k.hp
  obtain ⟨la0, lc0, rfl⟩ := owns_slice k.lf
  have tQ : Touch w ((w.alloc (.cells #[.pointer (some ⟨b, 0, none⟩)] 72)).alloc (.cells #[.int .i64 e] 3)) [] := ((Touch.refl w []).alloc _).alloc _
  have hQs : ((w.alloc (.cells #[.pointer (some ⟨b, 0, none⟩)] 72)).alloc (.cells #[.int .i64 e] 3)).heap.size = w.heap.size + 2 := by simp
  have hQp : ((w.alloc (.cells #[.pointer (some ⟨b, 0, none⟩)] 72)).alloc (.cells #[.int .i64 e] 3)).heap[w.heap.size]? = some (.cells #[.pointer (some ⟨b, 0, none⟩)] 72 (0, 0)) := ((((Touch.refl _ []).alloc _).block w.heap.size (by simp) (by simp))).trans (heap_alloc_new w _)
  have hQq : ((w.alloc (.cells #[.pointer (some ⟨b, 0, none⟩)] 72)).alloc (.cells #[.int .i64 e] 3)).heap[w.heap.size + 1]? = some (.cells #[.int .i64 e] 3 (0, 0)) := by
    have := heap_alloc_new (w.alloc (.cells #[.pointer (some ⟨b, 0, none⟩)] 72)) (.cells #[.int .i64 e] 3)
    simpa using this
  generalize hQ : ((w.alloc (.cells #[.pointer (some ⟨b, 0, none⟩)] 72)).alloc (.cells #[.int .i64 e] 3)) = Q at *
  have HL : Hid (∀ W, Touch Q W [] → W.cell? ⟨w.heap.size, 0, none⟩ = some (.pointer (some ⟨b, 0, none⟩)) ∧ (W.cell? ⟨b, 0, none⟩ = some (.int .i64 D.pc) ∧ W.cell? ⟨b, 1, none⟩ = some (.slice sa0 D.st.length sc0) ∧ W.cell? ⟨b, 2, none⟩ = some (.int .u64 D.l0) ∧ W.cell? ⟨b, 3, none⟩ = some (.int .u64 D.l1) ∧ W.cell? ⟨b, 4, none⟩ = some (.int .u64 D.l2) ∧ W.cell? ⟨b, 5, none⟩ = some (.int .u64 D.l3) ∧ W.cell? ⟨b, 6, none⟩ = some (.slice oa0 D.out.length oc0)) ∧ W.cell? ⟨b, 9, none⟩ = some (.slice ha0 hh.length hc0)) := fun W t => by
    have kk := k.touch (tQ.trans t (by simp))
    have c := kk.o.cells
    exact ⟨by unfold World.cell?; rw [(t.block _ (lt_of_heap hQp) (by simp)).trans hQp]; rfl, ⟨c.c0, c.c1, c.c2, c.c3, c.c4, c.c5, c.c6⟩, kk.c9.1⟩
  have HC : Hid (∀ W, Touch Q W [] → HidC Try.prog 34 #[stV D (.slice sa0 D.st.length sc0) (.slice oa0 D.out.length oc0)] W (CopP W D)) := fun W t => by
    have kk := k.touch (tQ.trans t (by simp))
    exact ⟨copied_any (vrow_of kk.s) (vrow_of kk.u) hsl hol⟩
  have HD : Hid (∀ W, Touch Q W [] → HidC Try.prog 32 #[.slice ha0 hh.length hc0] W (PushP W hh)) := fun W t => by
    have kk := k.touch (tQ.trans t (by simp))
    exact ⟨sclone_any (vrow_of kk.hp) hhl⟩
  have HFIN : Hid (∀ W s h vs vo vh, MkA Q W D hh (some s) (some h) (some (vs, vo)) (some vh) → Touch Q ((stPut W s D vs vo).setCell ⟨h, 0, none⟩ vh) [] ∧ MkC ((stPut W s D vs vo).setCell ⟨h, 0, none⟩ vh) b B ⟨D, hh, e⟩ s h w.heap.size (w.heap.size + 1) vs vo vh ∧ (∀ x ∈ s :: h :: w.heap.size :: (w.heap.size + 1) :: (ob vs ++ (ob vo ++ ob vh)), x < ((stPut W s D vs vo).setCell ⟨h, 0, none⟩ vh).heap.size) ∧ (∀ x ∈ s :: h :: (ob vs ++ (ob vo ++ ob vh)), Q.heap.size ≤ x)) := fun W s h vs vo vh A => A.fin hQp hQq (by omega)
  have HST : Hid (∀ W s h c d, MkA Q W D hh (some s) h c d → W.cell? ⟨s, 0, none⟩ = some (.int .i64 0)) := fun W s h c d A => (A.sb s rfl).cells.1
  have HK : Hid _ := k
  have HTQ : Hid _ := tQ
  have HQS : Hid _ := hQs
  clear k tQ hQs hQp hQq hsl hol hhl
  go_enter Try.func97, Try.ntmps97
  go_wp2_with fail
  (try rw [hQ])
  clear hQ
  refine Code.wp_mono (Q := BegPost Q w b B D hh e sa0 sc0 oa0 oc0 ha0 hc0) ?_ ?_
  · intro ex a WF hx
    cases ex with
    | normal => ?_
    | _ => exact hx.elim
    obtain ⟨s, h, sa, sc, oa, oc, ha, hc, rfl, f1, f2, f3, f4⟩ := hx
    have HF1 : Hid _ := f1
    have HF2 : Hid _ := f2
    have HF3 : Hid _ := f3
    have HF4 : Hid _ := f4
    clear f1 f2 f3 f4
    have k2 := HK.out.touch (HTQ.out.trans HF1.out (by simp))
    have tD : Touch WF WF.drew [] := (Touch.refl WF []).drew
    obtain ⟨aw, cw, w7, hrun, l7, t7, hv7⟩ := row1_push 73 1 Try.underlying73 Try.info_fun rfl (by decide) (by decide) (k2.touch tD).lf hL (Nat.zero_le _) (clV s h w.heap.size (w.heap.size + 1)) rfl 73
    replace t7 : Touch WF w7 (Value.slice la0 L.length lc0).ownBlock.toList := (tD.mono (by simp)).trans t7 (fun x hx => .inl hx)
    replace hv7 : ∀ (g : Nat), (Value.slice aw (L.length + 1) cw).ownBlock = some g → (Value.slice la0 L.length lc0).ownBlock = some g ∨ WF.heap.size ≤ g := hv7
    have hnb : b ∉ (Value.slice la0 L.length lc0).ownBlock.toList := fun hx => k2.ap 4 0 (by decide) b (by simpa [comp, ob] using hx) (by simp [comp])
    have tA : Touch WF (WF.alloc (.cells #[(clV s h w.heap.size (w.heap.size + 1))] 1)) [] := (Touch.refl WF []).alloc _
    have o7 : WObj w7 b 75 [.slice ha0 hh.length hc0, .slice la0 L.length lc0, va] (.slice sa0 D.st.length sc0) (.slice oa0 D.out.length oc0) vp D := k2.o.touch t7 hnb
    have hpw : w.heap.size < Q.heap.size := by have := HQS.out; omega
    have hpn : w.heap.size ∉ (Value.slice la0 L.length lc0).ownBlock.toList := fun hx => by have := HK.out.lt 4 w.heap.size (by simpa [comp, ob] using hx); omega
    have p0 := (HL.out _ (HF1.out.trans tD (by simp))).1
    have q0 : WF.drew.cell? ⟨b, 10, none⟩ = _ := k2.c9.2.1
    have p1 := (HL.out _ ((HF1.out.trans tA (by simp)).drew)).1
    have q1 := (k2.touch (tA.drew)).c9.2.1
    unfold clV at q1
    have p7 : w7.drew.cell? ⟨w.heap.size, 0, none⟩ = some (.pointer (some ⟨b, 0, none⟩)) := (t7.cell (p := ⟨w.heap.size, 0, none⟩) (by have := HF1.out.size; show w.heap.size < _; omega) hpn).trans (HL.out _ HF1.out).1
    have q7 : w7.drew.cell? ⟨b, 10, none⟩ = some (.slice la0 L.length lc0) := by unfold World.cell?; show (match w7.heap[b]? with | some (.cells c _ _) => _ | _ => _) = _; rw [o7.st]; rfl
    have f7 : w7.frozen? ⟨b, 10, none⟩ = false := o7.fr 10
    have c7 : w7.cell? ⟨b, 10, none⟩ = some (.slice la0 L.length lc0) := q7
    have HO : Hid _ := o7.set10 (.slice aw (L.length + 1) cw)
    have hnw : (Value.slice aw (L.length + 1) cw).ownBlock ≠ some b := fun hx => by
      rcases hv7 b hx with q | q
      · exact hnb (by simp [q])
      · have := k2.o.lt; omega
    have HT8 : Hid (Touch WF (w7.setCell ⟨b, 10, none⟩ (.slice aw (L.length + 1) cw)) (b :: (Value.slice la0 L.length lc0).ownBlock.toList)) := (t7.mono (by intro x hx; simp only [List.mem_cons]; exact .inr hx)).setCell (.inl (by simp)) _
    have HL8 : Hid _ := ownsRow_touch l7 ((Touch.refl w7 [b]).setCell (p := ⟨b, 10, none⟩) (.inl (by simp)) (.slice aw (L.length + 1) cw)) (fun g hg hm => by simp at hm; subst hm; exact hnw hg)
    have HV7 : Hid _ := hv7
    have p8 := ((HT8.out.cell (p := ⟨w.heap.size, 0, none⟩) (by have := HF1.out.size; show w.heap.size < _; omega) (by simp only [List.mem_cons, not_or]; exact ⟨by have := HK.out.o.lt; show w.heap.size ≠ b; omega, hpn⟩)).trans (HL.out _ HF1.out).1)
    have q8 : (w7.setCell ⟨b, 10, none⟩ (.slice aw (L.length + 1) cw)).cell? ⟨b, 10, none⟩ = some (.slice aw (L.length + 1) cw) := by unfold World.cell?; rw [HO.out.st]; rfl
    clear k2 tD l7 t7 hv7 hnb tA o7 hpn hnw hpw
    go_wp2_with fail
    refine wp_region_held_drew (S := (fun W : World => W.cell? ⟨w.heap.size, 0, none⟩ = some (.pointer (some ⟨b, 0, none⟩)))) (by kernel_rfl) p0 (fun hHeld => ?_)
    try simp only [Act.put, List.getElem_toArray, List.getElem_cons_succ, List.getElem_cons_zero, List.setIfInBounds_toArray, List.set_cons_zero, List.set_cons_succ]
    refine wpAnyH_take (i := 0) (v := (.pointer (some ⟨b, 0, none⟩))) rfl (by kernel_rfl) (by kernel_rfl) (by kernel_rfl) (fun _ _ _ h => h) (Or.inl ⟨by rfl, ?_⟩) hHeld ?_
    · intro w' hSw
      go_simp
    try simp only [Act.put, List.getElem_toArray, List.getElem_cons_succ, List.getElem_cons_zero, List.setIfInBounds_toArray, List.set_cons_zero, List.set_cons_succ]
    refine wpAnyH_take (i := 1) (v := (.pointer (some ⟨b, 0, none⟩))) rfl (by kernel_rfl) (by kernel_rfl) (by kernel_rfl) (fun _ _ _ h => h) (Or.inl ⟨by rfl, ?_⟩) hHeld ?_
    · intro w' hSw
      go_simp
    try simp only [Act.put, List.getElem_toArray, List.getElem_cons_succ, List.getElem_cons_zero, List.setIfInBounds_toArray, List.set_cons_zero, List.set_cons_succ]
    refine wpAnyH_take (i := 2) (v := (.pointer (some ⟨b, 0, none⟩))) rfl (by kernel_rfl) (by kernel_rfl) (by kernel_rfl) (fun _ _ _ h => h) (Or.inl ⟨by rfl, ?_⟩) hHeld ?_
    · intro w' hSw
      go_simp
    try simp only [Act.put, List.getElem_toArray, List.getElem_cons_succ, List.getElem_cons_zero, List.setIfInBounds_toArray, List.set_cons_zero, List.set_cons_succ]
    refine wpAnyH_take (i := 3) (v := (.pointer (some ⟨b, 10, none⟩))) rfl (by kernel_rfl) (by kernel_rfl) (by kernel_rfl) (fun _ _ _ h => h) (Or.inl ⟨by rfl, ?_⟩) hHeld ?_
    · intro w' hSw
      go_simp
    try simp only [Act.put, List.getElem_toArray, List.getElem_cons_succ, List.getElem_cons_zero, List.setIfInBounds_toArray, List.set_cons_zero, List.set_cons_succ]
    refine wpAnyH_take (i := 5) (v := (.func (.func 104) #[] #[.pointer (some ⟨s, 0, none⟩), .pointer (some ⟨h, 0, none⟩), .pointer (some ⟨w.heap.size, 0, none⟩), .pointer (some ⟨w.heap.size + 1, 0, none⟩)])) rfl (by kernel_rfl) (by kernel_rfl) (by kernel_rfl) (fun _ _ _ h => h) (Or.inl ⟨by rfl, ?_⟩) hHeld ?_
    · intro w' hSw
      go_simp
    try simp only [Act.put, List.getElem_toArray, List.getElem_cons_succ, List.getElem_cons_zero, List.setIfInBounds_toArray, List.set_cons_zero, List.set_cons_succ]
    clear hHeld
    refine wpAnyH_ready (rs := [4, 6]) (by kernel_rfl) (by simp) (AllReadyH.cons rfl (fun K hK => ?_) (AllReadyH.cons rfl (fun K hK => ?_) AllReadyH.nil))
    · rw [if_pos (by rfl)]
      go_simp
      refine hK.out _ _ p0 (fun hHeld => ?_)
      clear hK
      try simp only [Act.put, List.getElem_toArray, List.getElem_cons_succ, List.getElem_cons_zero, List.setIfInBounds_toArray, List.set_cons_zero, List.set_cons_succ]
      clear hHeld
      refine wpAnyH_ready (rs := [6]) (by kernel_rfl) (by simp) (AllReadyH.cons rfl (fun K hK => ?_) AllReadyH.nil)
      rw [if_pos (by rfl)]
      go_simp
      refine hK.out _ _ p1 (fun hHeld => ?_)
      clear hK
      try simp only [Act.put, List.getElem_toArray, List.getElem_cons_succ, List.getElem_cons_zero, List.setIfInBounds_toArray, List.set_cons_zero, List.set_cons_succ]
      clear hHeld
      refine wpAnyH_ready (rs := [7]) (by kernel_rfl) (by simp) (AllReadyH.cons rfl (fun K hK => ?_) AllReadyH.nil)
      refine step_append_run (by rfl) (.tmp 21) (.tmp 23) 73 73 (by rfl) (by rfl) (.slice la0 L.length lc0) (.slice (some ⟨WF.heap.size, 0, none⟩) 1 1) (.slice aw (L.length + 1) cw) w7 (by rfl) (by rfl) hrun ?_
      refine hK.out _ _ p7 (fun hHeld => ?_)
      clear hK
      try simp only [Act.put, List.getElem_toArray, List.getElem_cons_succ, List.getElem_cons_zero, List.setIfInBounds_toArray, List.set_cons_zero, List.set_cons_succ]
      refine wpAnyH_take (i := 8) (v := (.pointer (some ⟨b, 0, none⟩))) rfl (by kernel_rfl) (by kernel_rfl) (by kernel_rfl) (fun _ _ _ h => h) (Or.inl ⟨by rfl, ?_⟩) hHeld ?_
      · intro w' hSw
        go_simp
      try simp only [Act.put, List.getElem_toArray, List.getElem_cons_succ, List.getElem_cons_zero, List.setIfInBounds_toArray, List.set_cons_zero, List.set_cons_succ]
      refine wpAnyH_take (i := 9) (v := (.pointer (some ⟨b, 10, none⟩))) rfl (by kernel_rfl) (by kernel_rfl) (by kernel_rfl) (fun _ _ _ h => h) (Or.inl ⟨by rfl, ?_⟩) hHeld ?_
      · intro w' hSw
        go_simp
      try simp only [Act.put, List.getElem_toArray, List.getElem_cons_succ, List.getElem_cons_zero, List.setIfInBounds_toArray, List.set_cons_zero, List.set_cons_succ]
      clear hHeld
      refine wpAnyH_ready (rs := [10]) (by kernel_rfl) (by simp) (AllReadyH.cons rfl (fun K hK => ?_) AllReadyH.nil)
      rw [if_pos (by rfl)]
      go_simp
      refine hK.out _ _ p8 (fun hHeld => ?_)
      clear hK
      try simp only [Act.put, List.getElem_toArray, List.getElem_cons_succ, List.getElem_cons_zero, List.setIfInBounds_toArray, List.set_cons_zero, List.set_cons_succ]
      clear hHeld
      refine wpAnyH_done (by kernel_rfl) ?_ _
      clear p0 q0 p1 q1 p7 q7 f7 c7 hrun p8 q8
      go_wp2
      go_end0
      refine ⟨rfl, ⟨(⟨D, hh, e⟩, clV s h w.heap.size (w.heap.size + 1), _), _, rfl, HK.out.begun (HTQ.out.trans HF1.out (by simp)) ⟨s, h, w.heap.size, w.heap.size + 1, _, _, _, rfl, rfl, HF2.out⟩ HF3.out (fun y hy => ?_) HT8.out HO.out HL8.out HV7.out (fun g hg => (World.ownsRow.lt HL8.out g hg).2)⟩, (HTQ.out.trans HF1.out (by simp)).mono (by simp) |>.trans HT8.out (fun y hy => .inl hy)⟩
      have hq := HQS.out
      simp only [List.mem_cons] at hy
      rcases hy with rfl | rfl | rfl | rfl | hy
      · have := HF4.out y (by simp); omega
      · have := HF4.out y (by simp); omega
      · exact Nat.le_refl _
      · omega
      · have := HF4.out y (by simp only [List.mem_cons]; exact .inr (.inr hy)); omega
    · rw [if_pos (by rfl)]
      go_simp
      refine hK.out _ _ p1 (fun hHeld => ?_)
      clear hK
      try simp only [Act.put, List.getElem_toArray, List.getElem_cons_succ, List.getElem_cons_zero, List.setIfInBounds_toArray, List.set_cons_zero, List.set_cons_succ]
      clear hHeld
      refine wpAnyH_ready (rs := [4]) (by kernel_rfl) (by simp) (AllReadyH.cons rfl (fun K hK => ?_) AllReadyH.nil)
      rw [if_pos (by rfl)]
      go_simp
      refine hK.out _ _ p1 (fun hHeld => ?_)
      clear hK
      try simp only [Act.put, List.getElem_toArray, List.getElem_cons_succ, List.getElem_cons_zero, List.setIfInBounds_toArray, List.set_cons_zero, List.set_cons_succ]
      clear hHeld
      refine wpAnyH_ready (rs := [7]) (by kernel_rfl) (by simp) (AllReadyH.cons rfl (fun K hK => ?_) AllReadyH.nil)
      refine step_append_run (by rfl) (.tmp 21) (.tmp 23) 73 73 (by rfl) (by rfl) (.slice la0 L.length lc0) (.slice (some ⟨WF.heap.size, 0, none⟩) 1 1) (.slice aw (L.length + 1) cw) w7 (by rfl) (by rfl) hrun ?_
      refine hK.out _ _ p7 (fun hHeld => ?_)
      clear hK
      try simp only [Act.put, List.getElem_toArray, List.getElem_cons_succ, List.getElem_cons_zero, List.setIfInBounds_toArray, List.set_cons_zero, List.set_cons_succ]
      refine wpAnyH_take (i := 8) (v := (.pointer (some ⟨b, 0, none⟩))) rfl (by kernel_rfl) (by kernel_rfl) (by kernel_rfl) (fun _ _ _ h => h) (Or.inl ⟨by rfl, ?_⟩) hHeld ?_
      · intro w' hSw
        go_simp
      try simp only [Act.put, List.getElem_toArray, List.getElem_cons_succ, List.getElem_cons_zero, List.setIfInBounds_toArray, List.set_cons_zero, List.set_cons_succ]
      refine wpAnyH_take (i := 9) (v := (.pointer (some ⟨b, 10, none⟩))) rfl (by kernel_rfl) (by kernel_rfl) (by kernel_rfl) (fun _ _ _ h => h) (Or.inl ⟨by rfl, ?_⟩) hHeld ?_
      · intro w' hSw
        go_simp
      try simp only [Act.put, List.getElem_toArray, List.getElem_cons_succ, List.getElem_cons_zero, List.setIfInBounds_toArray, List.set_cons_zero, List.set_cons_succ]
      clear hHeld
      refine wpAnyH_ready (rs := [10]) (by kernel_rfl) (by simp) (AllReadyH.cons rfl (fun K hK => ?_) AllReadyH.nil)
      rw [if_pos (by rfl)]
      go_simp
      refine hK.out _ _ p8 (fun hHeld => ?_)
      clear hK
      try simp only [Act.put, List.getElem_toArray, List.getElem_cons_succ, List.getElem_cons_zero, List.setIfInBounds_toArray, List.set_cons_zero, List.set_cons_succ]
      clear hHeld
      refine wpAnyH_done (by kernel_rfl) ?_ _
      clear p0 q0 p1 q1 p7 q7 f7 c7 hrun p8 q8
      go_wp2
      go_end0
      refine ⟨rfl, ⟨(⟨D, hh, e⟩, clV s h w.heap.size (w.heap.size + 1), _), _, rfl, HK.out.begun (HTQ.out.trans HF1.out (by simp)) ⟨s, h, w.heap.size, w.heap.size + 1, _, _, _, rfl, rfl, HF2.out⟩ HF3.out (fun y hy => ?_) HT8.out HO.out HL8.out HV7.out (fun g hg => (World.ownsRow.lt HL8.out g hg).2)⟩, (HTQ.out.trans HF1.out (by simp)).mono (by simp) |>.trans HT8.out (fun y hy => .inl hy)⟩
      have hq := HQS.out
      simp only [List.mem_cons] at hy
      rcases hy with rfl | rfl | rfl | rfl | hy
      · have := HF4.out y (by simp); omega
      · have := HF4.out y (by simp); omega
      · exact Nat.le_refl _
      · omega
      · have := HF4.out y (by simp only [List.mem_cons]; exact .inr (.inr hy)); omega
  have A0 : Hid (MkA Q Q.drew D hh none none none none) := MkA.zero Q Q.drew D hh ((Touch.refl Q []).drew)
  refine wp_region_held_drew (S := (fun W : World => Touch Q W [])) (by kernel_rfl) A0.out.t (fun hHeld => ?_)
  try simp only [Act.put, List.getElem_toArray, List.getElem_cons_succ, List.getElem_cons_zero, List.setIfInBounds_toArray, List.set_cons_zero, List.set_cons_succ]
  refine wpAnyH_take (i := 0) (v := (.pointer (some ⟨b, 0, none⟩))) rfl (by kernel_rfl) (by kernel_rfl) (by kernel_rfl) (fun _ _ _ h => h) (Or.inl ⟨by rfl, ?_⟩) hHeld ?_
  · intro w' hSw
    (obtain ⟨l0, ⟨l1, l2, l3, l4, l5, l6, l7⟩, l8⟩ := HL.out _ hSw; go_simp)
  try simp only [Act.put, List.getElem_toArray, List.getElem_cons_succ, List.getElem_cons_zero, List.setIfInBounds_toArray, List.set_cons_zero, List.set_cons_succ]
  refine wpAnyH_take (i := 1) (v := (.pointer (some ⟨b, 0, none⟩))) rfl (by kernel_rfl) (by kernel_rfl) (by kernel_rfl) (fun _ _ _ h => h) (Or.inl ⟨by rfl, ?_⟩) hHeld ?_
  · intro w' hSw
    (obtain ⟨l0, ⟨l1, l2, l3, l4, l5, l6, l7⟩, l8⟩ := HL.out _ hSw; go_simp)
  try simp only [Act.put, List.getElem_toArray, List.getElem_cons_succ, List.getElem_cons_zero, List.setIfInBounds_toArray, List.set_cons_zero, List.set_cons_succ]
  refine wpAnyH_take (i := 2) (v := (.pointer (some ⟨b, 0, none⟩))) rfl (by kernel_rfl) (by kernel_rfl) (by kernel_rfl) (fun _ _ _ h => h) (Or.inl ⟨by rfl, ?_⟩) hHeld ?_
  · intro w' hSw
    (obtain ⟨l0, ⟨l1, l2, l3, l4, l5, l6, l7⟩, l8⟩ := HL.out _ hSw; go_simp)
  try simp only [Act.put, List.getElem_toArray, List.getElem_cons_succ, List.getElem_cons_zero, List.setIfInBounds_toArray, List.set_cons_zero, List.set_cons_succ]
  refine wpAnyH_take (i := 3) (v := (.pointer (some ⟨b, 0, none⟩))) rfl (by kernel_rfl) (by kernel_rfl) (by kernel_rfl) (fun _ _ _ h => h) (Or.inl ⟨by rfl, ?_⟩) hHeld ?_
  · intro w' hSw
    (obtain ⟨l0, ⟨l1, l2, l3, l4, l5, l6, l7⟩, l8⟩ := HL.out _ hSw; go_simp)
  try simp only [Act.put, List.getElem_toArray, List.getElem_cons_succ, List.getElem_cons_zero, List.setIfInBounds_toArray, List.set_cons_zero, List.set_cons_succ]
  refine wpAnyH_take (i := 4) (v := (stV D (.slice sa0 D.st.length sc0) (.slice oa0 D.out.length oc0))) rfl (by kernel_rfl) (by kernel_rfl) (by kernel_rfl) (fun _ _ _ h => h) (Or.inl ⟨by rfl, ?_⟩) hHeld ?_
  · intro w' hSw
    (obtain ⟨l0, ⟨l1, l2, l3, l4, l5, l6, l7⟩, l8⟩ := HL.out _ hSw; go_simp)
  try simp only [Act.put, List.getElem_toArray, List.getElem_cons_succ, List.getElem_cons_zero, List.setIfInBounds_toArray, List.set_cons_zero, List.set_cons_succ]
  refine wpAnyH_take (i := 6) (v := (.pointer (some ⟨b, 0, none⟩))) rfl (by kernel_rfl) (by kernel_rfl) (by kernel_rfl) (fun _ _ _ h => h) (Or.inl ⟨by rfl, ?_⟩) hHeld ?_
  · intro w' hSw
    (obtain ⟨l0, ⟨l1, l2, l3, l4, l5, l6, l7⟩, l8⟩ := HL.out _ hSw; go_simp)
  try simp only [Act.put, List.getElem_toArray, List.getElem_cons_succ, List.getElem_cons_zero, List.setIfInBounds_toArray, List.set_cons_zero, List.set_cons_succ]
  refine wpAnyH_take (i := 7) (v := (.pointer (some ⟨b, 0, none⟩))) rfl (by kernel_rfl) (by kernel_rfl) (by kernel_rfl) (fun _ _ _ h => h) (Or.inl ⟨by rfl, ?_⟩) hHeld ?_
  · intro w' hSw
    (obtain ⟨l0, ⟨l1, l2, l3, l4, l5, l6, l7⟩, l8⟩ := HL.out _ hSw; go_simp)
  try simp only [Act.put, List.getElem_toArray, List.getElem_cons_succ, List.getElem_cons_zero, List.setIfInBounds_toArray, List.set_cons_zero, List.set_cons_succ]
  refine wpAnyH_take (i := 8) (v := (.pointer (some ⟨b, 9, none⟩))) rfl (by kernel_rfl) (by kernel_rfl) (by kernel_rfl) (fun _ _ _ h => h) (Or.inl ⟨by rfl, ?_⟩) hHeld ?_
  · intro w' hSw
    (obtain ⟨l0, ⟨l1, l2, l3, l4, l5, l6, l7⟩, l8⟩ := HL.out _ hSw; go_simp)
  try simp only [Act.put, List.getElem_toArray, List.getElem_cons_succ, List.getElem_cons_zero, List.setIfInBounds_toArray, List.set_cons_zero, List.set_cons_succ]
  refine wpAnyH_take (i := 9) (v := (.slice ha0 hh.length hc0)) rfl (by kernel_rfl) (by kernel_rfl) (by kernel_rfl) (fun _ _ _ h => h) (Or.inl ⟨by rfl, ?_⟩) hHeld ?_
  · intro w' hSw
    (obtain ⟨l0, ⟨l1, l2, l3, l4, l5, l6, l7⟩, l8⟩ := HL.out _ hSw; go_simp)
  try simp only [Act.put, List.getElem_toArray, List.getElem_cons_succ, List.getElem_cons_zero, List.setIfInBounds_toArray, List.set_cons_zero, List.set_cons_succ]
  generalize Q.drew = W0 at *
  clear hHeld
  refine wpAnyH_ready (rs := [5, 11, 12]) (by kernel_rfl) (by simp) (AllReadyH.cons rfl (fun K hK => ?_) (AllReadyH.cons rfl (fun K hK => ?_) (AllReadyH.cons rfl (fun K hK => ?_) (AllReadyH.nil))))
  · rw [if_pos (by rfl)]
    go_simp
    refine (HC.out _ A0.out.t).out.mono ?_
    intro x W1 hx
    obtain ⟨sa, sc, oa, oc, rfl, A1', _⟩ := A0.out.callC hx
    clear hx
    have A1 : Hid _ := A1'
    clear A1'
    go_simp
    refine hK.out _ _ A1.out.t (fun hHeld => ?_)
    clear hK
    try simp only [Act.put, List.getElem_toArray, List.getElem_cons_succ, List.getElem_cons_zero, List.setIfInBounds_toArray, List.set_cons_zero, List.set_cons_succ]
    clear hHeld
    refine wpAnyH_ready (rs := [10, 11, 12]) (by kernel_rfl) (by simp) (AllReadyH.cons rfl (fun K hK => ?_) (AllReadyH.cons rfl (fun K hK => ?_) (AllReadyH.cons rfl (fun K hK => ?_) (AllReadyH.nil))))
    · rw [if_pos (by rfl)]
      go_simp
      refine (HD.out _ A1.out.t).out.mono ?_
      intro x W2 hx
      obtain ⟨ha, hc, rfl, A2', _⟩ := A1.out.callD hx
      clear hx
      have A2 : Hid _ := A2'
      clear A2'
      go_simp
      refine hK.out _ _ A2.out.t (fun hHeld => ?_)
      clear hK
      try simp only [Act.put, List.getElem_toArray, List.getElem_cons_succ, List.getElem_cons_zero, List.setIfInBounds_toArray, List.set_cons_zero, List.set_cons_succ]
      clear hHeld
      refine wpAnyH_ready (rs := [11, 12]) (by kernel_rfl) (by simp) (AllReadyH.cons rfl (fun K hK => ?_) (AllReadyH.cons rfl (fun K hK => ?_) (AllReadyH.nil)))
      · rw [if_pos (by rfl)]
        have A3 : Hid _ := A2.out.allocS
        go_simp
        refine hK.out _ _ A3.out.t (fun hHeld => ?_)
        clear hK
        try simp only [Act.put, List.getElem_toArray, List.getElem_cons_succ, List.getElem_cons_zero, List.setIfInBounds_toArray, List.set_cons_zero, List.set_cons_succ]
        generalize W2.heap.size = s at *
        generalize (W2.alloc (.cells #[.int .i64 0, .slice none 0 0, .int .u64 0, .int .u64 0, .int .u64 0, .int .u64 0, .slice none 0 0] 28)) = W3 at *
        clear hHeld
        refine wpAnyH_ready (rs := [12]) (by kernel_rfl) (by simp) (AllReadyH.cons rfl (fun K hK => ?_) (AllReadyH.nil))
        · rw [if_pos (by rfl)]
          have A4 : Hid _ := A3.out.allocH
          go_simp
          refine hK.out _ _ A4.out.t (fun hHeld => ?_)
          clear hK
          try simp only [Act.put, List.getElem_toArray, List.getElem_cons_succ, List.getElem_cons_zero, List.setIfInBounds_toArray, List.set_cons_zero, List.set_cons_succ]
          generalize W3.heap.size = h at *
          generalize (W3.alloc (.cells #[.slice none 0 0] 23)) = W4 at *
          obtain ⟨f1, f2, f3, f4⟩ := HFIN.out _ _ _ _ _ _ A4.out
          have HF1 : Hid _ := f1
          have HF2 : Hid _ := f2
          have HF3 : Hid _ := f3
          have HF4 : Hid _ := f4
          have hz := A4.out.sb s rfl
          have hy := A4.out.hb h rfl
          obtain ⟨z0, z1, z2, z3, z4, z5, z6⟩ := hz.cells
          have g0 := hz.fr 0
          have g1 := hz.fr 1
          have g2 := hz.fr 2
          have g3 := hz.fr 3
          have g4 := hz.fr 4
          have g5 := hz.fr 5
          have g6 := hz.fr 6
          have hsge : Q.heap.size ≤ s := f4 s (by simp)
          have tS : Touch Q (stPut W4 s D (.slice sa D.st.length sc) (.slice oa D.out.length oc)) [] := A4.out.t.trans (stPut_touch _ _ _ _ _) (fun x hx => .inr (by simp at hx; omega))
          have hsh : h ≠ s := by have := f2.nd; intro e; rw [e] at this; simp at this
          have hy2 := ((stPut_touch W4 s D (.slice sa D.st.length sc) (.slice oa D.out.length oc)).block h (lt_of_heap hy) (by simpa using hsh)).trans hy
          have yc : (stPut W4 s D (.slice sa D.st.length sc) (.slice oa D.out.length oc)).cell? ⟨h, 0, none⟩ = some (.slice none 0 0) := by unfold World.cell?; rw [hy2]; rfl
          have yf : (stPut W4 s D (.slice sa D.st.length sc) (.slice oa D.out.length oc)).frozen? ⟨h, 0, none⟩ = false := by unfold World.frozen?; rw [hy2]; simp
          have HTS : Hid _ := tS
          clear f1 f2 f3 f4 hz hy hy2 hsge hsh tS
          clear hHeld
          refine wpAnyH_ready (rs := [13]) (by kernel_rfl) (by simp) (AllReadyH.cons rfl (fun K hK => ?_) AllReadyH.nil)
          rw [if_pos (by rfl)]
          go_simp
          refine hK.out _ _ HTS.out (fun hHeld => ?_)
          clear hK
          try simp only [Act.put, List.getElem_toArray, List.getElem_cons_succ, List.getElem_cons_zero, List.setIfInBounds_toArray, List.set_cons_zero, List.set_cons_succ]
          clear hHeld
          refine wpAnyH_ready (rs := [14]) (by kernel_rfl) (by simp) (AllReadyH.cons rfl (fun K hK => ?_) AllReadyH.nil)
          rw [if_pos (by rfl)]
          go_simp
          refine hK.out _ _ HF1.out (fun hHeld => ?_)
          clear hK
          try simp only [Act.put, List.getElem_toArray, List.getElem_cons_succ, List.getElem_cons_zero, List.setIfInBounds_toArray, List.set_cons_zero, List.set_cons_succ]
          clear hHeld
          refine wpAnyH_done (by kernel_rfl) ?_ _
          clear z0 z1 z2 z3 z4 z5 z6 g0 g1 g2 g3 g4 g5 g6 yc yf HTS
          generalize ((stPut W4 s D (.slice sa D.st.length sc) (.slice oa D.out.length oc)).setCell ⟨h, 0, none⟩ (.slice ha hh.length hc)) = WF at *
          exact ⟨s, h, sa, sc, oa, oc, ha, hc, rfl, HF1.out, HF2.out, HF3.out, HF4.out⟩
      · rw [if_pos (by rfl)]
        have A3 : Hid _ := A2.out.allocH
        go_simp
        refine hK.out _ _ A3.out.t (fun hHeld => ?_)
        clear hK
        try simp only [Act.put, List.getElem_toArray, List.getElem_cons_succ, List.getElem_cons_zero, List.setIfInBounds_toArray, List.set_cons_zero, List.set_cons_succ]
        generalize W2.heap.size = h at *
        generalize (W2.alloc (.cells #[.slice none 0 0] 23)) = W3 at *
        clear hHeld
        refine wpAnyH_ready (rs := [11]) (by kernel_rfl) (by simp) (AllReadyH.cons rfl (fun K hK => ?_) (AllReadyH.nil))
        · rw [if_pos (by rfl)]
          have A4 : Hid _ := A3.out.allocS
          go_simp
          refine hK.out _ _ A4.out.t (fun hHeld => ?_)
          clear hK
          try simp only [Act.put, List.getElem_toArray, List.getElem_cons_succ, List.getElem_cons_zero, List.setIfInBounds_toArray, List.set_cons_zero, List.set_cons_succ]
          generalize W3.heap.size = s at *
          generalize (W3.alloc (.cells #[.int .i64 0, .slice none 0 0, .int .u64 0, .int .u64 0, .int .u64 0, .int .u64 0, .slice none 0 0] 28)) = W4 at *
          obtain ⟨f1, f2, f3, f4⟩ := HFIN.out _ _ _ _ _ _ A4.out
          have HF1 : Hid _ := f1
          have HF2 : Hid _ := f2
          have HF3 : Hid _ := f3
          have HF4 : Hid _ := f4
          have hz := A4.out.sb s rfl
          have hy := A4.out.hb h rfl
          obtain ⟨z0, z1, z2, z3, z4, z5, z6⟩ := hz.cells
          have g0 := hz.fr 0
          have g1 := hz.fr 1
          have g2 := hz.fr 2
          have g3 := hz.fr 3
          have g4 := hz.fr 4
          have g5 := hz.fr 5
          have g6 := hz.fr 6
          have hsge : Q.heap.size ≤ s := f4 s (by simp)
          have tS : Touch Q (stPut W4 s D (.slice sa D.st.length sc) (.slice oa D.out.length oc)) [] := A4.out.t.trans (stPut_touch _ _ _ _ _) (fun x hx => .inr (by simp at hx; omega))
          have hsh : h ≠ s := by have := f2.nd; intro e; rw [e] at this; simp at this
          have hy2 := ((stPut_touch W4 s D (.slice sa D.st.length sc) (.slice oa D.out.length oc)).block h (lt_of_heap hy) (by simpa using hsh)).trans hy
          have yc : (stPut W4 s D (.slice sa D.st.length sc) (.slice oa D.out.length oc)).cell? ⟨h, 0, none⟩ = some (.slice none 0 0) := by unfold World.cell?; rw [hy2]; rfl
          have yf : (stPut W4 s D (.slice sa D.st.length sc) (.slice oa D.out.length oc)).frozen? ⟨h, 0, none⟩ = false := by unfold World.frozen?; rw [hy2]; simp
          have HTS : Hid _ := tS
          clear f1 f2 f3 f4 hz hy hy2 hsge hsh tS
          clear hHeld
          refine wpAnyH_ready (rs := [13]) (by kernel_rfl) (by simp) (AllReadyH.cons rfl (fun K hK => ?_) AllReadyH.nil)
          rw [if_pos (by rfl)]
          go_simp
          refine hK.out _ _ HTS.out (fun hHeld => ?_)
          clear hK
          try simp only [Act.put, List.getElem_toArray, List.getElem_cons_succ, List.getElem_cons_zero, List.setIfInBounds_toArray, List.set_cons_zero, List.set_cons_succ]
          clear hHeld
          refine wpAnyH_ready (rs := [14]) (by kernel_rfl) (by simp) (AllReadyH.cons rfl (fun K hK => ?_) AllReadyH.nil)
          rw [if_pos (by rfl)]
          go_simp
          refine hK.out _ _ HF1.out (fun hHeld => ?_)
          clear hK
          try simp only [Act.put, List.getElem_toArray, List.getElem_cons_succ, List.getElem_cons_zero, List.setIfInBounds_toArray, List.set_cons_zero, List.set_cons_succ]
          clear hHeld
          refine wpAnyH_done (by kernel_rfl) ?_ _
          clear z0 z1 z2 z3 z4 z5 z6 g0 g1 g2 g3 g4 g5 g6 yc yf HTS
          generalize ((stPut W4 s D (.slice sa D.st.length sc) (.slice oa D.out.length oc)).setCell ⟨h, 0, none⟩ (.slice ha hh.length hc)) = WF at *
          exact ⟨s, h, sa, sc, oa, oc, ha, hc, rfl, HF1.out, HF2.out, HF3.out, HF4.out⟩
    · rw [if_pos (by rfl)]
      have A2 : Hid _ := A1.out.allocS
      go_simp
      refine hK.out _ _ A2.out.t (fun hHeld => ?_)
      clear hK
      try simp only [Act.put, List.getElem_toArray, List.getElem_cons_succ, List.getElem_cons_zero, List.setIfInBounds_toArray, List.set_cons_zero, List.set_cons_succ]
      generalize W1.heap.size = s at *
      generalize (W1.alloc (.cells #[.int .i64 0, .slice none 0 0, .int .u64 0, .int .u64 0, .int .u64 0, .int .u64 0, .slice none 0 0] 28)) = W2 at *
      clear hHeld
      refine wpAnyH_ready (rs := [10, 12]) (by kernel_rfl) (by simp) (AllReadyH.cons rfl (fun K hK => ?_) (AllReadyH.cons rfl (fun K hK => ?_) (AllReadyH.nil)))
      · rw [if_pos (by rfl)]
        go_simp
        refine (HD.out _ A2.out.t).out.mono ?_
        intro x W3 hx
        obtain ⟨ha, hc, rfl, A3', _⟩ := A2.out.callD hx
        clear hx
        have A3 : Hid _ := A3'
        clear A3'
        go_simp
        refine hK.out _ _ A3.out.t (fun hHeld => ?_)
        clear hK
        try simp only [Act.put, List.getElem_toArray, List.getElem_cons_succ, List.getElem_cons_zero, List.setIfInBounds_toArray, List.set_cons_zero, List.set_cons_succ]
        clear hHeld
        refine wpAnyH_ready (rs := [12]) (by kernel_rfl) (by simp) (AllReadyH.cons rfl (fun K hK => ?_) (AllReadyH.nil))
        · rw [if_pos (by rfl)]
          have A4 : Hid _ := A3.out.allocH
          go_simp
          refine hK.out _ _ A4.out.t (fun hHeld => ?_)
          clear hK
          try simp only [Act.put, List.getElem_toArray, List.getElem_cons_succ, List.getElem_cons_zero, List.setIfInBounds_toArray, List.set_cons_zero, List.set_cons_succ]
          generalize W3.heap.size = h at *
          generalize (W3.alloc (.cells #[.slice none 0 0] 23)) = W4 at *
          obtain ⟨f1, f2, f3, f4⟩ := HFIN.out _ _ _ _ _ _ A4.out
          have HF1 : Hid _ := f1
          have HF2 : Hid _ := f2
          have HF3 : Hid _ := f3
          have HF4 : Hid _ := f4
          have hz := A4.out.sb s rfl
          have hy := A4.out.hb h rfl
          obtain ⟨z0, z1, z2, z3, z4, z5, z6⟩ := hz.cells
          have g0 := hz.fr 0
          have g1 := hz.fr 1
          have g2 := hz.fr 2
          have g3 := hz.fr 3
          have g4 := hz.fr 4
          have g5 := hz.fr 5
          have g6 := hz.fr 6
          have hsge : Q.heap.size ≤ s := f4 s (by simp)
          have tS : Touch Q (stPut W4 s D (.slice sa D.st.length sc) (.slice oa D.out.length oc)) [] := A4.out.t.trans (stPut_touch _ _ _ _ _) (fun x hx => .inr (by simp at hx; omega))
          have hsh : h ≠ s := by have := f2.nd; intro e; rw [e] at this; simp at this
          have hy2 := ((stPut_touch W4 s D (.slice sa D.st.length sc) (.slice oa D.out.length oc)).block h (lt_of_heap hy) (by simpa using hsh)).trans hy
          have yc : (stPut W4 s D (.slice sa D.st.length sc) (.slice oa D.out.length oc)).cell? ⟨h, 0, none⟩ = some (.slice none 0 0) := by unfold World.cell?; rw [hy2]; rfl
          have yf : (stPut W4 s D (.slice sa D.st.length sc) (.slice oa D.out.length oc)).frozen? ⟨h, 0, none⟩ = false := by unfold World.frozen?; rw [hy2]; simp
          have HTS : Hid _ := tS
          clear f1 f2 f3 f4 hz hy hy2 hsge hsh tS
          clear hHeld
          refine wpAnyH_ready (rs := [13]) (by kernel_rfl) (by simp) (AllReadyH.cons rfl (fun K hK => ?_) AllReadyH.nil)
          rw [if_pos (by rfl)]
          go_simp
          refine hK.out _ _ HTS.out (fun hHeld => ?_)
          clear hK
          try simp only [Act.put, List.getElem_toArray, List.getElem_cons_succ, List.getElem_cons_zero, List.setIfInBounds_toArray, List.set_cons_zero, List.set_cons_succ]
          clear hHeld
          refine wpAnyH_ready (rs := [14]) (by kernel_rfl) (by simp) (AllReadyH.cons rfl (fun K hK => ?_) AllReadyH.nil)
          rw [if_pos (by rfl)]
          go_simp
          refine hK.out _ _ HF1.out (fun hHeld => ?_)
          clear hK
          try simp only [Act.put, List.getElem_toArray, List.getElem_cons_succ, List.getElem_cons_zero, List.setIfInBounds_toArray, List.set_cons_zero, List.set_cons_succ]
          clear hHeld
          refine wpAnyH_done (by kernel_rfl) ?_ _
          clear z0 z1 z2 z3 z4 z5 z6 g0 g1 g2 g3 g4 g5 g6 yc yf HTS
          generalize ((stPut W4 s D (.slice sa D.st.length sc) (.slice oa D.out.length oc)).setCell ⟨h, 0, none⟩ (.slice ha hh.length hc)) = WF at *
          exact ⟨s, h, sa, sc, oa, oc, ha, hc, rfl, HF1.out, HF2.out, HF3.out, HF4.out⟩
      · rw [if_pos (by rfl)]
        have A3 : Hid _ := A2.out.allocH
        go_simp
        refine hK.out _ _ A3.out.t (fun hHeld => ?_)
        clear hK
        try simp only [Act.put, List.getElem_toArray, List.getElem_cons_succ, List.getElem_cons_zero, List.setIfInBounds_toArray, List.set_cons_zero, List.set_cons_succ]
        generalize W2.heap.size = h at *
        generalize (W2.alloc (.cells #[.slice none 0 0] 23)) = W3 at *
        clear hHeld
        refine wpAnyH_ready (rs := [10]) (by kernel_rfl) (by simp) (AllReadyH.cons rfl (fun K hK => ?_) (AllReadyH.nil))
        · rw [if_pos (by rfl)]
          go_simp
          refine (HD.out _ A3.out.t).out.mono ?_
          intro x W4 hx
          obtain ⟨ha, hc, rfl, A4', _⟩ := A3.out.callD hx
          clear hx
          have A4 : Hid _ := A4'
          clear A4'
          go_simp
          refine hK.out _ _ A4.out.t (fun hHeld => ?_)
          clear hK
          try simp only [Act.put, List.getElem_toArray, List.getElem_cons_succ, List.getElem_cons_zero, List.setIfInBounds_toArray, List.set_cons_zero, List.set_cons_succ]
          obtain ⟨f1, f2, f3, f4⟩ := HFIN.out _ _ _ _ _ _ A4.out
          have HF1 : Hid _ := f1
          have HF2 : Hid _ := f2
          have HF3 : Hid _ := f3
          have HF4 : Hid _ := f4
          have hz := A4.out.sb s rfl
          have hy := A4.out.hb h rfl
          obtain ⟨z0, z1, z2, z3, z4, z5, z6⟩ := hz.cells
          have g0 := hz.fr 0
          have g1 := hz.fr 1
          have g2 := hz.fr 2
          have g3 := hz.fr 3
          have g4 := hz.fr 4
          have g5 := hz.fr 5
          have g6 := hz.fr 6
          have hsge : Q.heap.size ≤ s := f4 s (by simp)
          have tS : Touch Q (stPut W4 s D (.slice sa D.st.length sc) (.slice oa D.out.length oc)) [] := A4.out.t.trans (stPut_touch _ _ _ _ _) (fun x hx => .inr (by simp at hx; omega))
          have hsh : h ≠ s := by have := f2.nd; intro e; rw [e] at this; simp at this
          have hy2 := ((stPut_touch W4 s D (.slice sa D.st.length sc) (.slice oa D.out.length oc)).block h (lt_of_heap hy) (by simpa using hsh)).trans hy
          have yc : (stPut W4 s D (.slice sa D.st.length sc) (.slice oa D.out.length oc)).cell? ⟨h, 0, none⟩ = some (.slice none 0 0) := by unfold World.cell?; rw [hy2]; rfl
          have yf : (stPut W4 s D (.slice sa D.st.length sc) (.slice oa D.out.length oc)).frozen? ⟨h, 0, none⟩ = false := by unfold World.frozen?; rw [hy2]; simp
          have HTS : Hid _ := tS
          clear f1 f2 f3 f4 hz hy hy2 hsge hsh tS
          clear hHeld
          refine wpAnyH_ready (rs := [13]) (by kernel_rfl) (by simp) (AllReadyH.cons rfl (fun K hK => ?_) AllReadyH.nil)
          rw [if_pos (by rfl)]
          go_simp
          refine hK.out _ _ HTS.out (fun hHeld => ?_)
          clear hK
          try simp only [Act.put, List.getElem_toArray, List.getElem_cons_succ, List.getElem_cons_zero, List.setIfInBounds_toArray, List.set_cons_zero, List.set_cons_succ]
          clear hHeld
          refine wpAnyH_ready (rs := [14]) (by kernel_rfl) (by simp) (AllReadyH.cons rfl (fun K hK => ?_) AllReadyH.nil)
          rw [if_pos (by rfl)]
          go_simp
          refine hK.out _ _ HF1.out (fun hHeld => ?_)
          clear hK
          try simp only [Act.put, List.getElem_toArray, List.getElem_cons_succ, List.getElem_cons_zero, List.setIfInBounds_toArray, List.set_cons_zero, List.set_cons_succ]
          clear hHeld
          refine wpAnyH_done (by kernel_rfl) ?_ _
          clear z0 z1 z2 z3 z4 z5 z6 g0 g1 g2 g3 g4 g5 g6 yc yf HTS
          generalize ((stPut W4 s D (.slice sa D.st.length sc) (.slice oa D.out.length oc)).setCell ⟨h, 0, none⟩ (.slice ha hh.length hc)) = WF at *
          exact ⟨s, h, sa, sc, oa, oc, ha, hc, rfl, HF1.out, HF2.out, HF3.out, HF4.out⟩
    · rw [if_pos (by rfl)]
      have A2 : Hid _ := A1.out.allocH
      go_simp
      refine hK.out _ _ A2.out.t (fun hHeld => ?_)
      clear hK
      try simp only [Act.put, List.getElem_toArray, List.getElem_cons_succ, List.getElem_cons_zero, List.setIfInBounds_toArray, List.set_cons_zero, List.set_cons_succ]
      generalize W1.heap.size = h at *
      generalize (W1.alloc (.cells #[.slice none 0 0] 23)) = W2 at *
      clear hHeld
      refine wpAnyH_ready (rs := [10, 11]) (by kernel_rfl) (by simp) (AllReadyH.cons rfl (fun K hK => ?_) (AllReadyH.cons rfl (fun K hK => ?_) (AllReadyH.nil)))
      · rw [if_pos (by rfl)]
        go_simp
        refine (HD.out _ A2.out.t).out.mono ?_
        intro x W3 hx
        obtain ⟨ha, hc, rfl, A3', _⟩ := A2.out.callD hx
        clear hx
        have A3 : Hid _ := A3'
        clear A3'
        go_simp
        refine hK.out _ _ A3.out.t (fun hHeld => ?_)
        clear hK
        try simp only [Act.put, List.getElem_toArray, List.getElem_cons_succ, List.getElem_cons_zero, List.setIfInBounds_toArray, List.set_cons_zero, List.set_cons_succ]
        clear hHeld
        refine wpAnyH_ready (rs := [11]) (by kernel_rfl) (by simp) (AllReadyH.cons rfl (fun K hK => ?_) (AllReadyH.nil))
        · rw [if_pos (by rfl)]
          have A4 : Hid _ := A3.out.allocS
          go_simp
          refine hK.out _ _ A4.out.t (fun hHeld => ?_)
          clear hK
          try simp only [Act.put, List.getElem_toArray, List.getElem_cons_succ, List.getElem_cons_zero, List.setIfInBounds_toArray, List.set_cons_zero, List.set_cons_succ]
          generalize W3.heap.size = s at *
          generalize (W3.alloc (.cells #[.int .i64 0, .slice none 0 0, .int .u64 0, .int .u64 0, .int .u64 0, .int .u64 0, .slice none 0 0] 28)) = W4 at *
          obtain ⟨f1, f2, f3, f4⟩ := HFIN.out _ _ _ _ _ _ A4.out
          have HF1 : Hid _ := f1
          have HF2 : Hid _ := f2
          have HF3 : Hid _ := f3
          have HF4 : Hid _ := f4
          have hz := A4.out.sb s rfl
          have hy := A4.out.hb h rfl
          obtain ⟨z0, z1, z2, z3, z4, z5, z6⟩ := hz.cells
          have g0 := hz.fr 0
          have g1 := hz.fr 1
          have g2 := hz.fr 2
          have g3 := hz.fr 3
          have g4 := hz.fr 4
          have g5 := hz.fr 5
          have g6 := hz.fr 6
          have hsge : Q.heap.size ≤ s := f4 s (by simp)
          have tS : Touch Q (stPut W4 s D (.slice sa D.st.length sc) (.slice oa D.out.length oc)) [] := A4.out.t.trans (stPut_touch _ _ _ _ _) (fun x hx => .inr (by simp at hx; omega))
          have hsh : h ≠ s := by have := f2.nd; intro e; rw [e] at this; simp at this
          have hy2 := ((stPut_touch W4 s D (.slice sa D.st.length sc) (.slice oa D.out.length oc)).block h (lt_of_heap hy) (by simpa using hsh)).trans hy
          have yc : (stPut W4 s D (.slice sa D.st.length sc) (.slice oa D.out.length oc)).cell? ⟨h, 0, none⟩ = some (.slice none 0 0) := by unfold World.cell?; rw [hy2]; rfl
          have yf : (stPut W4 s D (.slice sa D.st.length sc) (.slice oa D.out.length oc)).frozen? ⟨h, 0, none⟩ = false := by unfold World.frozen?; rw [hy2]; simp
          have HTS : Hid _ := tS
          clear f1 f2 f3 f4 hz hy hy2 hsge hsh tS
          clear hHeld
          refine wpAnyH_ready (rs := [13]) (by kernel_rfl) (by simp) (AllReadyH.cons rfl (fun K hK => ?_) AllReadyH.nil)
          rw [if_pos (by rfl)]
          go_simp
          refine hK.out _ _ HTS.out (fun hHeld => ?_)
          clear hK
          try simp only [Act.put, List.getElem_toArray, List.getElem_cons_succ, List.getElem_cons_zero, List.setIfInBounds_toArray, List.set_cons_zero, List.set_cons_succ]
          clear hHeld
          refine wpAnyH_ready (rs := [14]) (by kernel_rfl) (by simp) (AllReadyH.cons rfl (fun K hK => ?_) AllReadyH.nil)
          rw [if_pos (by rfl)]
          go_simp
          refine hK.out _ _ HF1.out (fun hHeld => ?_)
          clear hK
          try simp only [Act.put, List.getElem_toArray, List.getElem_cons_succ, List.getElem_cons_zero, List.setIfInBounds_toArray, List.set_cons_zero, List.set_cons_succ]
          clear hHeld
          refine wpAnyH_done (by kernel_rfl) ?_ _
          clear z0 z1 z2 z3 z4 z5 z6 g0 g1 g2 g3 g4 g5 g6 yc yf HTS
          generalize ((stPut W4 s D (.slice sa D.st.length sc) (.slice oa D.out.length oc)).setCell ⟨h, 0, none⟩ (.slice ha hh.length hc)) = WF at *
          exact ⟨s, h, sa, sc, oa, oc, ha, hc, rfl, HF1.out, HF2.out, HF3.out, HF4.out⟩
      · rw [if_pos (by rfl)]
        have A3 : Hid _ := A2.out.allocS
        go_simp
        refine hK.out _ _ A3.out.t (fun hHeld => ?_)
        clear hK
        try simp only [Act.put, List.getElem_toArray, List.getElem_cons_succ, List.getElem_cons_zero, List.setIfInBounds_toArray, List.set_cons_zero, List.set_cons_succ]
        generalize W2.heap.size = s at *
        generalize (W2.alloc (.cells #[.int .i64 0, .slice none 0 0, .int .u64 0, .int .u64 0, .int .u64 0, .int .u64 0, .slice none 0 0] 28)) = W3 at *
        clear hHeld
        refine wpAnyH_ready (rs := [10]) (by kernel_rfl) (by simp) (AllReadyH.cons rfl (fun K hK => ?_) (AllReadyH.nil))
        · rw [if_pos (by rfl)]
          go_simp
          refine (HD.out _ A3.out.t).out.mono ?_
          intro x W4 hx
          obtain ⟨ha, hc, rfl, A4', _⟩ := A3.out.callD hx
          clear hx
          have A4 : Hid _ := A4'
          clear A4'
          go_simp
          refine hK.out _ _ A4.out.t (fun hHeld => ?_)
          clear hK
          try simp only [Act.put, List.getElem_toArray, List.getElem_cons_succ, List.getElem_cons_zero, List.setIfInBounds_toArray, List.set_cons_zero, List.set_cons_succ]
          obtain ⟨f1, f2, f3, f4⟩ := HFIN.out _ _ _ _ _ _ A4.out
          have HF1 : Hid _ := f1
          have HF2 : Hid _ := f2
          have HF3 : Hid _ := f3
          have HF4 : Hid _ := f4
          have hz := A4.out.sb s rfl
          have hy := A4.out.hb h rfl
          obtain ⟨z0, z1, z2, z3, z4, z5, z6⟩ := hz.cells
          have g0 := hz.fr 0
          have g1 := hz.fr 1
          have g2 := hz.fr 2
          have g3 := hz.fr 3
          have g4 := hz.fr 4
          have g5 := hz.fr 5
          have g6 := hz.fr 6
          have hsge : Q.heap.size ≤ s := f4 s (by simp)
          have tS : Touch Q (stPut W4 s D (.slice sa D.st.length sc) (.slice oa D.out.length oc)) [] := A4.out.t.trans (stPut_touch _ _ _ _ _) (fun x hx => .inr (by simp at hx; omega))
          have hsh : h ≠ s := by have := f2.nd; intro e; rw [e] at this; simp at this
          have hy2 := ((stPut_touch W4 s D (.slice sa D.st.length sc) (.slice oa D.out.length oc)).block h (lt_of_heap hy) (by simpa using hsh)).trans hy
          have yc : (stPut W4 s D (.slice sa D.st.length sc) (.slice oa D.out.length oc)).cell? ⟨h, 0, none⟩ = some (.slice none 0 0) := by unfold World.cell?; rw [hy2]; rfl
          have yf : (stPut W4 s D (.slice sa D.st.length sc) (.slice oa D.out.length oc)).frozen? ⟨h, 0, none⟩ = false := by unfold World.frozen?; rw [hy2]; simp
          have HTS : Hid _ := tS
          clear f1 f2 f3 f4 hz hy hy2 hsge hsh tS
          clear hHeld
          refine wpAnyH_ready (rs := [13]) (by kernel_rfl) (by simp) (AllReadyH.cons rfl (fun K hK => ?_) AllReadyH.nil)
          rw [if_pos (by rfl)]
          go_simp
          refine hK.out _ _ HTS.out (fun hHeld => ?_)
          clear hK
          try simp only [Act.put, List.getElem_toArray, List.getElem_cons_succ, List.getElem_cons_zero, List.setIfInBounds_toArray, List.set_cons_zero, List.set_cons_succ]
          clear hHeld
          refine wpAnyH_ready (rs := [14]) (by kernel_rfl) (by simp) (AllReadyH.cons rfl (fun K hK => ?_) AllReadyH.nil)
          rw [if_pos (by rfl)]
          go_simp
          refine hK.out _ _ HF1.out (fun hHeld => ?_)
          clear hK
          try simp only [Act.put, List.getElem_toArray, List.getElem_cons_succ, List.getElem_cons_zero, List.setIfInBounds_toArray, List.set_cons_zero, List.set_cons_succ]
          clear hHeld
          refine wpAnyH_done (by kernel_rfl) ?_ _
          clear z0 z1 z2 z3 z4 z5 z6 g0 g1 g2 g3 g4 g5 g6 yc yf HTS
          generalize ((stPut W4 s D (.slice sa D.st.length sc) (.slice oa D.out.length oc)).setCell ⟨h, 0, none⟩ (.slice ha hh.length hc)) = WF at *
          exact ⟨s, h, sa, sc, oa, oc, ha, hc, rfl, HF1.out, HF2.out, HF3.out, HF4.out⟩
  · rw [if_pos (by rfl)]
    have A1 : Hid _ := A0.out.allocS
    go_simp
    refine hK.out _ _ A1.out.t (fun hHeld => ?_)
    clear hK
    try simp only [Act.put, List.getElem_toArray, List.getElem_cons_succ, List.getElem_cons_zero, List.setIfInBounds_toArray, List.set_cons_zero, List.set_cons_succ]
    generalize W0.heap.size = s at *
    generalize (W0.alloc (.cells #[.int .i64 0, .slice none 0 0, .int .u64 0, .int .u64 0, .int .u64 0, .int .u64 0, .slice none 0 0] 28)) = W1 at *
    clear hHeld
    refine wpAnyH_ready (rs := [5, 12]) (by kernel_rfl) (by simp) (AllReadyH.cons rfl (fun K hK => ?_) (AllReadyH.cons rfl (fun K hK => ?_) (AllReadyH.nil)))
    · rw [if_pos (by rfl)]
      go_simp
      refine (HC.out _ A1.out.t).out.mono ?_
      intro x W2 hx
      obtain ⟨sa, sc, oa, oc, rfl, A2', _⟩ := A1.out.callC hx
      clear hx
      have A2 : Hid _ := A2'
      clear A2'
      go_simp
      refine hK.out _ _ A2.out.t (fun hHeld => ?_)
      clear hK
      try simp only [Act.put, List.getElem_toArray, List.getElem_cons_succ, List.getElem_cons_zero, List.setIfInBounds_toArray, List.set_cons_zero, List.set_cons_succ]
      clear hHeld
      refine wpAnyH_ready (rs := [10, 12]) (by kernel_rfl) (by simp) (AllReadyH.cons rfl (fun K hK => ?_) (AllReadyH.cons rfl (fun K hK => ?_) (AllReadyH.nil)))
      · rw [if_pos (by rfl)]
        go_simp
        refine (HD.out _ A2.out.t).out.mono ?_
        intro x W3 hx
        obtain ⟨ha, hc, rfl, A3', _⟩ := A2.out.callD hx
        clear hx
        have A3 : Hid _ := A3'
        clear A3'
        go_simp
        refine hK.out _ _ A3.out.t (fun hHeld => ?_)
        clear hK
        try simp only [Act.put, List.getElem_toArray, List.getElem_cons_succ, List.getElem_cons_zero, List.setIfInBounds_toArray, List.set_cons_zero, List.set_cons_succ]
        clear hHeld
        refine wpAnyH_ready (rs := [12]) (by kernel_rfl) (by simp) (AllReadyH.cons rfl (fun K hK => ?_) (AllReadyH.nil))
        · rw [if_pos (by rfl)]
          have A4 : Hid _ := A3.out.allocH
          go_simp
          refine hK.out _ _ A4.out.t (fun hHeld => ?_)
          clear hK
          try simp only [Act.put, List.getElem_toArray, List.getElem_cons_succ, List.getElem_cons_zero, List.setIfInBounds_toArray, List.set_cons_zero, List.set_cons_succ]
          generalize W3.heap.size = h at *
          generalize (W3.alloc (.cells #[.slice none 0 0] 23)) = W4 at *
          obtain ⟨f1, f2, f3, f4⟩ := HFIN.out _ _ _ _ _ _ A4.out
          have HF1 : Hid _ := f1
          have HF2 : Hid _ := f2
          have HF3 : Hid _ := f3
          have HF4 : Hid _ := f4
          have hz := A4.out.sb s rfl
          have hy := A4.out.hb h rfl
          obtain ⟨z0, z1, z2, z3, z4, z5, z6⟩ := hz.cells
          have g0 := hz.fr 0
          have g1 := hz.fr 1
          have g2 := hz.fr 2
          have g3 := hz.fr 3
          have g4 := hz.fr 4
          have g5 := hz.fr 5
          have g6 := hz.fr 6
          have hsge : Q.heap.size ≤ s := f4 s (by simp)
          have tS : Touch Q (stPut W4 s D (.slice sa D.st.length sc) (.slice oa D.out.length oc)) [] := A4.out.t.trans (stPut_touch _ _ _ _ _) (fun x hx => .inr (by simp at hx; omega))
          have hsh : h ≠ s := by have := f2.nd; intro e; rw [e] at this; simp at this
          have hy2 := ((stPut_touch W4 s D (.slice sa D.st.length sc) (.slice oa D.out.length oc)).block h (lt_of_heap hy) (by simpa using hsh)).trans hy
          have yc : (stPut W4 s D (.slice sa D.st.length sc) (.slice oa D.out.length oc)).cell? ⟨h, 0, none⟩ = some (.slice none 0 0) := by unfold World.cell?; rw [hy2]; rfl
          have yf : (stPut W4 s D (.slice sa D.st.length sc) (.slice oa D.out.length oc)).frozen? ⟨h, 0, none⟩ = false := by unfold World.frozen?; rw [hy2]; simp
          have HTS : Hid _ := tS
          clear f1 f2 f3 f4 hz hy hy2 hsge hsh tS
          clear hHeld
          refine wpAnyH_ready (rs := [13]) (by kernel_rfl) (by simp) (AllReadyH.cons rfl (fun K hK => ?_) AllReadyH.nil)
          rw [if_pos (by rfl)]
          go_simp
          refine hK.out _ _ HTS.out (fun hHeld => ?_)
          clear hK
          try simp only [Act.put, List.getElem_toArray, List.getElem_cons_succ, List.getElem_cons_zero, List.setIfInBounds_toArray, List.set_cons_zero, List.set_cons_succ]
          clear hHeld
          refine wpAnyH_ready (rs := [14]) (by kernel_rfl) (by simp) (AllReadyH.cons rfl (fun K hK => ?_) AllReadyH.nil)
          rw [if_pos (by rfl)]
          go_simp
          refine hK.out _ _ HF1.out (fun hHeld => ?_)
          clear hK
          try simp only [Act.put, List.getElem_toArray, List.getElem_cons_succ, List.getElem_cons_zero, List.setIfInBounds_toArray, List.set_cons_zero, List.set_cons_succ]
          clear hHeld
          refine wpAnyH_done (by kernel_rfl) ?_ _
          clear z0 z1 z2 z3 z4 z5 z6 g0 g1 g2 g3 g4 g5 g6 yc yf HTS
          generalize ((stPut W4 s D (.slice sa D.st.length sc) (.slice oa D.out.length oc)).setCell ⟨h, 0, none⟩ (.slice ha hh.length hc)) = WF at *
          exact ⟨s, h, sa, sc, oa, oc, ha, hc, rfl, HF1.out, HF2.out, HF3.out, HF4.out⟩
      · rw [if_pos (by rfl)]
        have A3 : Hid _ := A2.out.allocH
        go_simp
        refine hK.out _ _ A3.out.t (fun hHeld => ?_)
        clear hK
        try simp only [Act.put, List.getElem_toArray, List.getElem_cons_succ, List.getElem_cons_zero, List.setIfInBounds_toArray, List.set_cons_zero, List.set_cons_succ]
        generalize W2.heap.size = h at *
        generalize (W2.alloc (.cells #[.slice none 0 0] 23)) = W3 at *
        clear hHeld
        refine wpAnyH_ready (rs := [10]) (by kernel_rfl) (by simp) (AllReadyH.cons rfl (fun K hK => ?_) (AllReadyH.nil))
        · rw [if_pos (by rfl)]
          go_simp
          refine (HD.out _ A3.out.t).out.mono ?_
          intro x W4 hx
          obtain ⟨ha, hc, rfl, A4', _⟩ := A3.out.callD hx
          clear hx
          have A4 : Hid _ := A4'
          clear A4'
          go_simp
          refine hK.out _ _ A4.out.t (fun hHeld => ?_)
          clear hK
          try simp only [Act.put, List.getElem_toArray, List.getElem_cons_succ, List.getElem_cons_zero, List.setIfInBounds_toArray, List.set_cons_zero, List.set_cons_succ]
          obtain ⟨f1, f2, f3, f4⟩ := HFIN.out _ _ _ _ _ _ A4.out
          have HF1 : Hid _ := f1
          have HF2 : Hid _ := f2
          have HF3 : Hid _ := f3
          have HF4 : Hid _ := f4
          have hz := A4.out.sb s rfl
          have hy := A4.out.hb h rfl
          obtain ⟨z0, z1, z2, z3, z4, z5, z6⟩ := hz.cells
          have g0 := hz.fr 0
          have g1 := hz.fr 1
          have g2 := hz.fr 2
          have g3 := hz.fr 3
          have g4 := hz.fr 4
          have g5 := hz.fr 5
          have g6 := hz.fr 6
          have hsge : Q.heap.size ≤ s := f4 s (by simp)
          have tS : Touch Q (stPut W4 s D (.slice sa D.st.length sc) (.slice oa D.out.length oc)) [] := A4.out.t.trans (stPut_touch _ _ _ _ _) (fun x hx => .inr (by simp at hx; omega))
          have hsh : h ≠ s := by have := f2.nd; intro e; rw [e] at this; simp at this
          have hy2 := ((stPut_touch W4 s D (.slice sa D.st.length sc) (.slice oa D.out.length oc)).block h (lt_of_heap hy) (by simpa using hsh)).trans hy
          have yc : (stPut W4 s D (.slice sa D.st.length sc) (.slice oa D.out.length oc)).cell? ⟨h, 0, none⟩ = some (.slice none 0 0) := by unfold World.cell?; rw [hy2]; rfl
          have yf : (stPut W4 s D (.slice sa D.st.length sc) (.slice oa D.out.length oc)).frozen? ⟨h, 0, none⟩ = false := by unfold World.frozen?; rw [hy2]; simp
          have HTS : Hid _ := tS
          clear f1 f2 f3 f4 hz hy hy2 hsge hsh tS
          clear hHeld
          refine wpAnyH_ready (rs := [13]) (by kernel_rfl) (by simp) (AllReadyH.cons rfl (fun K hK => ?_) AllReadyH.nil)
          rw [if_pos (by rfl)]
          go_simp
          refine hK.out _ _ HTS.out (fun hHeld => ?_)
          clear hK
          try simp only [Act.put, List.getElem_toArray, List.getElem_cons_succ, List.getElem_cons_zero, List.setIfInBounds_toArray, List.set_cons_zero, List.set_cons_succ]
          clear hHeld
          refine wpAnyH_ready (rs := [14]) (by kernel_rfl) (by simp) (AllReadyH.cons rfl (fun K hK => ?_) AllReadyH.nil)
          rw [if_pos (by rfl)]
          go_simp
          refine hK.out _ _ HF1.out (fun hHeld => ?_)
          clear hK
          try simp only [Act.put, List.getElem_toArray, List.getElem_cons_succ, List.getElem_cons_zero, List.setIfInBounds_toArray, List.set_cons_zero, List.set_cons_succ]
          clear hHeld
          refine wpAnyH_done (by kernel_rfl) ?_ _
          clear z0 z1 z2 z3 z4 z5 z6 g0 g1 g2 g3 g4 g5 g6 yc yf HTS
          generalize ((stPut W4 s D (.slice sa D.st.length sc) (.slice oa D.out.length oc)).setCell ⟨h, 0, none⟩ (.slice ha hh.length hc)) = WF at *
          exact ⟨s, h, sa, sc, oa, oc, ha, hc, rfl, HF1.out, HF2.out, HF3.out, HF4.out⟩
    · rw [if_pos (by rfl)]
      have A2 : Hid _ := A1.out.allocH
      go_simp
      refine hK.out _ _ A2.out.t (fun hHeld => ?_)
      clear hK
      try simp only [Act.put, List.getElem_toArray, List.getElem_cons_succ, List.getElem_cons_zero, List.setIfInBounds_toArray, List.set_cons_zero, List.set_cons_succ]
      generalize W1.heap.size = h at *
      generalize (W1.alloc (.cells #[.slice none 0 0] 23)) = W2 at *
      clear hHeld
      refine wpAnyH_ready (rs := [5]) (by kernel_rfl) (by simp) (AllReadyH.cons rfl (fun K hK => ?_) (AllReadyH.nil))
      · rw [if_pos (by rfl)]
        go_simp
        refine (HC.out _ A2.out.t).out.mono ?_
        intro x W3 hx
        obtain ⟨sa, sc, oa, oc, rfl, A3', _⟩ := A2.out.callC hx
        clear hx
        have A3 : Hid _ := A3'
        clear A3'
        go_simp
        refine hK.out _ _ A3.out.t (fun hHeld => ?_)
        clear hK
        try simp only [Act.put, List.getElem_toArray, List.getElem_cons_succ, List.getElem_cons_zero, List.setIfInBounds_toArray, List.set_cons_zero, List.set_cons_succ]
        clear hHeld
        refine wpAnyH_ready (rs := [10]) (by kernel_rfl) (by simp) (AllReadyH.cons rfl (fun K hK => ?_) (AllReadyH.nil))
        · rw [if_pos (by rfl)]
          go_simp
          refine (HD.out _ A3.out.t).out.mono ?_
          intro x W4 hx
          obtain ⟨ha, hc, rfl, A4', _⟩ := A3.out.callD hx
          clear hx
          have A4 : Hid _ := A4'
          clear A4'
          go_simp
          refine hK.out _ _ A4.out.t (fun hHeld => ?_)
          clear hK
          try simp only [Act.put, List.getElem_toArray, List.getElem_cons_succ, List.getElem_cons_zero, List.setIfInBounds_toArray, List.set_cons_zero, List.set_cons_succ]
          obtain ⟨f1, f2, f3, f4⟩ := HFIN.out _ _ _ _ _ _ A4.out
          have HF1 : Hid _ := f1
          have HF2 : Hid _ := f2
          have HF3 : Hid _ := f3
          have HF4 : Hid _ := f4
          have hz := A4.out.sb s rfl
          have hy := A4.out.hb h rfl
          obtain ⟨z0, z1, z2, z3, z4, z5, z6⟩ := hz.cells
          have g0 := hz.fr 0
          have g1 := hz.fr 1
          have g2 := hz.fr 2
          have g3 := hz.fr 3
          have g4 := hz.fr 4
          have g5 := hz.fr 5
          have g6 := hz.fr 6
          have hsge : Q.heap.size ≤ s := f4 s (by simp)
          have tS : Touch Q (stPut W4 s D (.slice sa D.st.length sc) (.slice oa D.out.length oc)) [] := A4.out.t.trans (stPut_touch _ _ _ _ _) (fun x hx => .inr (by simp at hx; omega))
          have hsh : h ≠ s := by have := f2.nd; intro e; rw [e] at this; simp at this
          have hy2 := ((stPut_touch W4 s D (.slice sa D.st.length sc) (.slice oa D.out.length oc)).block h (lt_of_heap hy) (by simpa using hsh)).trans hy
          have yc : (stPut W4 s D (.slice sa D.st.length sc) (.slice oa D.out.length oc)).cell? ⟨h, 0, none⟩ = some (.slice none 0 0) := by unfold World.cell?; rw [hy2]; rfl
          have yf : (stPut W4 s D (.slice sa D.st.length sc) (.slice oa D.out.length oc)).frozen? ⟨h, 0, none⟩ = false := by unfold World.frozen?; rw [hy2]; simp
          have HTS : Hid _ := tS
          clear f1 f2 f3 f4 hz hy hy2 hsge hsh tS
          clear hHeld
          refine wpAnyH_ready (rs := [13]) (by kernel_rfl) (by simp) (AllReadyH.cons rfl (fun K hK => ?_) AllReadyH.nil)
          rw [if_pos (by rfl)]
          go_simp
          refine hK.out _ _ HTS.out (fun hHeld => ?_)
          clear hK
          try simp only [Act.put, List.getElem_toArray, List.getElem_cons_succ, List.getElem_cons_zero, List.setIfInBounds_toArray, List.set_cons_zero, List.set_cons_succ]
          clear hHeld
          refine wpAnyH_ready (rs := [14]) (by kernel_rfl) (by simp) (AllReadyH.cons rfl (fun K hK => ?_) AllReadyH.nil)
          rw [if_pos (by rfl)]
          go_simp
          refine hK.out _ _ HF1.out (fun hHeld => ?_)
          clear hK
          try simp only [Act.put, List.getElem_toArray, List.getElem_cons_succ, List.getElem_cons_zero, List.setIfInBounds_toArray, List.set_cons_zero, List.set_cons_succ]
          clear hHeld
          refine wpAnyH_done (by kernel_rfl) ?_ _
          clear z0 z1 z2 z3 z4 z5 z6 g0 g1 g2 g3 g4 g5 g6 yc yf HTS
          generalize ((stPut W4 s D (.slice sa D.st.length sc) (.slice oa D.out.length oc)).setCell ⟨h, 0, none⟩ (.slice ha hh.length hc)) = WF at *
          exact ⟨s, h, sa, sc, oa, oc, ha, hc, rfl, HF1.out, HF2.out, HF3.out, HF4.out⟩
  · rw [if_pos (by rfl)]
    have A1 : Hid _ := A0.out.allocH
    go_simp
    refine hK.out _ _ A1.out.t (fun hHeld => ?_)
    clear hK
    try simp only [Act.put, List.getElem_toArray, List.getElem_cons_succ, List.getElem_cons_zero, List.setIfInBounds_toArray, List.set_cons_zero, List.set_cons_succ]
    generalize W0.heap.size = h at *
    generalize (W0.alloc (.cells #[.slice none 0 0] 23)) = W1 at *
    clear hHeld
    refine wpAnyH_ready (rs := [5, 11]) (by kernel_rfl) (by simp) (AllReadyH.cons rfl (fun K hK => ?_) (AllReadyH.cons rfl (fun K hK => ?_) (AllReadyH.nil)))
    · rw [if_pos (by rfl)]
      go_simp
      refine (HC.out _ A1.out.t).out.mono ?_
      intro x W2 hx
      obtain ⟨sa, sc, oa, oc, rfl, A2', _⟩ := A1.out.callC hx
      clear hx
      have A2 : Hid _ := A2'
      clear A2'
      go_simp
      refine hK.out _ _ A2.out.t (fun hHeld => ?_)
      clear hK
      try simp only [Act.put, List.getElem_toArray, List.getElem_cons_succ, List.getElem_cons_zero, List.setIfInBounds_toArray, List.set_cons_zero, List.set_cons_succ]
      clear hHeld
      refine wpAnyH_ready (rs := [10, 11]) (by kernel_rfl) (by simp) (AllReadyH.cons rfl (fun K hK => ?_) (AllReadyH.cons rfl (fun K hK => ?_) (AllReadyH.nil)))
      · rw [if_pos (by rfl)]
        go_simp
        refine (HD.out _ A2.out.t).out.mono ?_
        intro x W3 hx
        obtain ⟨ha, hc, rfl, A3', _⟩ := A2.out.callD hx
        clear hx
        have A3 : Hid _ := A3'
        clear A3'
        go_simp
        refine hK.out _ _ A3.out.t (fun hHeld => ?_)
        clear hK
        try simp only [Act.put, List.getElem_toArray, List.getElem_cons_succ, List.getElem_cons_zero, List.setIfInBounds_toArray, List.set_cons_zero, List.set_cons_succ]
        clear hHeld
        refine wpAnyH_ready (rs := [11]) (by kernel_rfl) (by simp) (AllReadyH.cons rfl (fun K hK => ?_) (AllReadyH.nil))
        · rw [if_pos (by rfl)]
          have A4 : Hid _ := A3.out.allocS
          go_simp
          refine hK.out _ _ A4.out.t (fun hHeld => ?_)
          clear hK
          try simp only [Act.put, List.getElem_toArray, List.getElem_cons_succ, List.getElem_cons_zero, List.setIfInBounds_toArray, List.set_cons_zero, List.set_cons_succ]
          generalize W3.heap.size = s at *
          generalize (W3.alloc (.cells #[.int .i64 0, .slice none 0 0, .int .u64 0, .int .u64 0, .int .u64 0, .int .u64 0, .slice none 0 0] 28)) = W4 at *
          obtain ⟨f1, f2, f3, f4⟩ := HFIN.out _ _ _ _ _ _ A4.out
          have HF1 : Hid _ := f1
          have HF2 : Hid _ := f2
          have HF3 : Hid _ := f3
          have HF4 : Hid _ := f4
          have hz := A4.out.sb s rfl
          have hy := A4.out.hb h rfl
          obtain ⟨z0, z1, z2, z3, z4, z5, z6⟩ := hz.cells
          have g0 := hz.fr 0
          have g1 := hz.fr 1
          have g2 := hz.fr 2
          have g3 := hz.fr 3
          have g4 := hz.fr 4
          have g5 := hz.fr 5
          have g6 := hz.fr 6
          have hsge : Q.heap.size ≤ s := f4 s (by simp)
          have tS : Touch Q (stPut W4 s D (.slice sa D.st.length sc) (.slice oa D.out.length oc)) [] := A4.out.t.trans (stPut_touch _ _ _ _ _) (fun x hx => .inr (by simp at hx; omega))
          have hsh : h ≠ s := by have := f2.nd; intro e; rw [e] at this; simp at this
          have hy2 := ((stPut_touch W4 s D (.slice sa D.st.length sc) (.slice oa D.out.length oc)).block h (lt_of_heap hy) (by simpa using hsh)).trans hy
          have yc : (stPut W4 s D (.slice sa D.st.length sc) (.slice oa D.out.length oc)).cell? ⟨h, 0, none⟩ = some (.slice none 0 0) := by unfold World.cell?; rw [hy2]; rfl
          have yf : (stPut W4 s D (.slice sa D.st.length sc) (.slice oa D.out.length oc)).frozen? ⟨h, 0, none⟩ = false := by unfold World.frozen?; rw [hy2]; simp
          have HTS : Hid _ := tS
          clear f1 f2 f3 f4 hz hy hy2 hsge hsh tS
          clear hHeld
          refine wpAnyH_ready (rs := [13]) (by kernel_rfl) (by simp) (AllReadyH.cons rfl (fun K hK => ?_) AllReadyH.nil)
          rw [if_pos (by rfl)]
          go_simp
          refine hK.out _ _ HTS.out (fun hHeld => ?_)
          clear hK
          try simp only [Act.put, List.getElem_toArray, List.getElem_cons_succ, List.getElem_cons_zero, List.setIfInBounds_toArray, List.set_cons_zero, List.set_cons_succ]
          clear hHeld
          refine wpAnyH_ready (rs := [14]) (by kernel_rfl) (by simp) (AllReadyH.cons rfl (fun K hK => ?_) AllReadyH.nil)
          rw [if_pos (by rfl)]
          go_simp
          refine hK.out _ _ HF1.out (fun hHeld => ?_)
          clear hK
          try simp only [Act.put, List.getElem_toArray, List.getElem_cons_succ, List.getElem_cons_zero, List.setIfInBounds_toArray, List.set_cons_zero, List.set_cons_succ]
          clear hHeld
          refine wpAnyH_done (by kernel_rfl) ?_ _
          clear z0 z1 z2 z3 z4 z5 z6 g0 g1 g2 g3 g4 g5 g6 yc yf HTS
          generalize ((stPut W4 s D (.slice sa D.st.length sc) (.slice oa D.out.length oc)).setCell ⟨h, 0, none⟩ (.slice ha hh.length hc)) = WF at *
          exact ⟨s, h, sa, sc, oa, oc, ha, hc, rfl, HF1.out, HF2.out, HF3.out, HF4.out⟩
      · rw [if_pos (by rfl)]
        have A3 : Hid _ := A2.out.allocS
        go_simp
        refine hK.out _ _ A3.out.t (fun hHeld => ?_)
        clear hK
        try simp only [Act.put, List.getElem_toArray, List.getElem_cons_succ, List.getElem_cons_zero, List.setIfInBounds_toArray, List.set_cons_zero, List.set_cons_succ]
        generalize W2.heap.size = s at *
        generalize (W2.alloc (.cells #[.int .i64 0, .slice none 0 0, .int .u64 0, .int .u64 0, .int .u64 0, .int .u64 0, .slice none 0 0] 28)) = W3 at *
        clear hHeld
        refine wpAnyH_ready (rs := [10]) (by kernel_rfl) (by simp) (AllReadyH.cons rfl (fun K hK => ?_) (AllReadyH.nil))
        · rw [if_pos (by rfl)]
          go_simp
          refine (HD.out _ A3.out.t).out.mono ?_
          intro x W4 hx
          obtain ⟨ha, hc, rfl, A4', _⟩ := A3.out.callD hx
          clear hx
          have A4 : Hid _ := A4'
          clear A4'
          go_simp
          refine hK.out _ _ A4.out.t (fun hHeld => ?_)
          clear hK
          try simp only [Act.put, List.getElem_toArray, List.getElem_cons_succ, List.getElem_cons_zero, List.setIfInBounds_toArray, List.set_cons_zero, List.set_cons_succ]
          obtain ⟨f1, f2, f3, f4⟩ := HFIN.out _ _ _ _ _ _ A4.out
          have HF1 : Hid _ := f1
          have HF2 : Hid _ := f2
          have HF3 : Hid _ := f3
          have HF4 : Hid _ := f4
          have hz := A4.out.sb s rfl
          have hy := A4.out.hb h rfl
          obtain ⟨z0, z1, z2, z3, z4, z5, z6⟩ := hz.cells
          have g0 := hz.fr 0
          have g1 := hz.fr 1
          have g2 := hz.fr 2
          have g3 := hz.fr 3
          have g4 := hz.fr 4
          have g5 := hz.fr 5
          have g6 := hz.fr 6
          have hsge : Q.heap.size ≤ s := f4 s (by simp)
          have tS : Touch Q (stPut W4 s D (.slice sa D.st.length sc) (.slice oa D.out.length oc)) [] := A4.out.t.trans (stPut_touch _ _ _ _ _) (fun x hx => .inr (by simp at hx; omega))
          have hsh : h ≠ s := by have := f2.nd; intro e; rw [e] at this; simp at this
          have hy2 := ((stPut_touch W4 s D (.slice sa D.st.length sc) (.slice oa D.out.length oc)).block h (lt_of_heap hy) (by simpa using hsh)).trans hy
          have yc : (stPut W4 s D (.slice sa D.st.length sc) (.slice oa D.out.length oc)).cell? ⟨h, 0, none⟩ = some (.slice none 0 0) := by unfold World.cell?; rw [hy2]; rfl
          have yf : (stPut W4 s D (.slice sa D.st.length sc) (.slice oa D.out.length oc)).frozen? ⟨h, 0, none⟩ = false := by unfold World.frozen?; rw [hy2]; simp
          have HTS : Hid _ := tS
          clear f1 f2 f3 f4 hz hy hy2 hsge hsh tS
          clear hHeld
          refine wpAnyH_ready (rs := [13]) (by kernel_rfl) (by simp) (AllReadyH.cons rfl (fun K hK => ?_) AllReadyH.nil)
          rw [if_pos (by rfl)]
          go_simp
          refine hK.out _ _ HTS.out (fun hHeld => ?_)
          clear hK
          try simp only [Act.put, List.getElem_toArray, List.getElem_cons_succ, List.getElem_cons_zero, List.setIfInBounds_toArray, List.set_cons_zero, List.set_cons_succ]
          clear hHeld
          refine wpAnyH_ready (rs := [14]) (by kernel_rfl) (by simp) (AllReadyH.cons rfl (fun K hK => ?_) AllReadyH.nil)
          rw [if_pos (by rfl)]
          go_simp
          refine hK.out _ _ HF1.out (fun hHeld => ?_)
          clear hK
          try simp only [Act.put, List.getElem_toArray, List.getElem_cons_succ, List.getElem_cons_zero, List.setIfInBounds_toArray, List.set_cons_zero, List.set_cons_succ]
          clear hHeld
          refine wpAnyH_done (by kernel_rfl) ?_ _
          clear z0 z1 z2 z3 z4 z5 z6 g0 g1 g2 g3 g4 g5 g6 yc yf HTS
          generalize ((stPut W4 s D (.slice sa D.st.length sc) (.slice oa D.out.length oc)).setCell ⟨h, 0, none⟩ (.slice ha hh.length hc)) = WF at *
          exact ⟨s, h, sa, sc, oa, oc, ha, hc, rfl, HF1.out, HF2.out, HF3.out, HF4.out⟩
    · rw [if_pos (by rfl)]
      have A2 : Hid _ := A1.out.allocS
      go_simp
      refine hK.out _ _ A2.out.t (fun hHeld => ?_)
      clear hK
      try simp only [Act.put, List.getElem_toArray, List.getElem_cons_succ, List.getElem_cons_zero, List.setIfInBounds_toArray, List.set_cons_zero, List.set_cons_succ]
      generalize W1.heap.size = s at *
      generalize (W1.alloc (.cells #[.int .i64 0, .slice none 0 0, .int .u64 0, .int .u64 0, .int .u64 0, .int .u64 0, .slice none 0 0] 28)) = W2 at *
      clear hHeld
      refine wpAnyH_ready (rs := [5]) (by kernel_rfl) (by simp) (AllReadyH.cons rfl (fun K hK => ?_) (AllReadyH.nil))
      · rw [if_pos (by rfl)]
        go_simp
        refine (HC.out _ A2.out.t).out.mono ?_
        intro x W3 hx
        obtain ⟨sa, sc, oa, oc, rfl, A3', _⟩ := A2.out.callC hx
        clear hx
        have A3 : Hid _ := A3'
        clear A3'
        go_simp
        refine hK.out _ _ A3.out.t (fun hHeld => ?_)
        clear hK
        try simp only [Act.put, List.getElem_toArray, List.getElem_cons_succ, List.getElem_cons_zero, List.setIfInBounds_toArray, List.set_cons_zero, List.set_cons_succ]
        clear hHeld
        refine wpAnyH_ready (rs := [10]) (by kernel_rfl) (by simp) (AllReadyH.cons rfl (fun K hK => ?_) (AllReadyH.nil))
        · rw [if_pos (by rfl)]
          go_simp
          refine (HD.out _ A3.out.t).out.mono ?_
          intro x W4 hx
          obtain ⟨ha, hc, rfl, A4', _⟩ := A3.out.callD hx
          clear hx
          have A4 : Hid _ := A4'
          clear A4'
          go_simp
          refine hK.out _ _ A4.out.t (fun hHeld => ?_)
          clear hK
          try simp only [Act.put, List.getElem_toArray, List.getElem_cons_succ, List.getElem_cons_zero, List.setIfInBounds_toArray, List.set_cons_zero, List.set_cons_succ]
          obtain ⟨f1, f2, f3, f4⟩ := HFIN.out _ _ _ _ _ _ A4.out
          have HF1 : Hid _ := f1
          have HF2 : Hid _ := f2
          have HF3 : Hid _ := f3
          have HF4 : Hid _ := f4
          have hz := A4.out.sb s rfl
          have hy := A4.out.hb h rfl
          obtain ⟨z0, z1, z2, z3, z4, z5, z6⟩ := hz.cells
          have g0 := hz.fr 0
          have g1 := hz.fr 1
          have g2 := hz.fr 2
          have g3 := hz.fr 3
          have g4 := hz.fr 4
          have g5 := hz.fr 5
          have g6 := hz.fr 6
          have hsge : Q.heap.size ≤ s := f4 s (by simp)
          have tS : Touch Q (stPut W4 s D (.slice sa D.st.length sc) (.slice oa D.out.length oc)) [] := A4.out.t.trans (stPut_touch _ _ _ _ _) (fun x hx => .inr (by simp at hx; omega))
          have hsh : h ≠ s := by have := f2.nd; intro e; rw [e] at this; simp at this
          have hy2 := ((stPut_touch W4 s D (.slice sa D.st.length sc) (.slice oa D.out.length oc)).block h (lt_of_heap hy) (by simpa using hsh)).trans hy
          have yc : (stPut W4 s D (.slice sa D.st.length sc) (.slice oa D.out.length oc)).cell? ⟨h, 0, none⟩ = some (.slice none 0 0) := by unfold World.cell?; rw [hy2]; rfl
          have yf : (stPut W4 s D (.slice sa D.st.length sc) (.slice oa D.out.length oc)).frozen? ⟨h, 0, none⟩ = false := by unfold World.frozen?; rw [hy2]; simp
          have HTS : Hid _ := tS
          clear f1 f2 f3 f4 hz hy hy2 hsge hsh tS
          clear hHeld
          refine wpAnyH_ready (rs := [13]) (by kernel_rfl) (by simp) (AllReadyH.cons rfl (fun K hK => ?_) AllReadyH.nil)
          rw [if_pos (by rfl)]
          go_simp
          refine hK.out _ _ HTS.out (fun hHeld => ?_)
          clear hK
          try simp only [Act.put, List.getElem_toArray, List.getElem_cons_succ, List.getElem_cons_zero, List.setIfInBounds_toArray, List.set_cons_zero, List.set_cons_succ]
          clear hHeld
          refine wpAnyH_ready (rs := [14]) (by kernel_rfl) (by simp) (AllReadyH.cons rfl (fun K hK => ?_) AllReadyH.nil)
          rw [if_pos (by rfl)]
          go_simp
          refine hK.out _ _ HF1.out (fun hHeld => ?_)
          clear hK
          try simp only [Act.put, List.getElem_toArray, List.getElem_cons_succ, List.getElem_cons_zero, List.setIfInBounds_toArray, List.set_cons_zero, List.set_cons_succ]
          clear hHeld
          refine wpAnyH_done (by kernel_rfl) ?_ _
          clear z0 z1 z2 z3 z4 z5 z6 g0 g1 g2 g3 g4 g5 g6 yc yf HTS
          generalize ((stPut W4 s D (.slice sa D.st.length sc) (.slice oa D.out.length oc)).setCell ⟨h, 0, none⟩ (.slice ha hh.length hc)) = WF at *
          exact ⟨s, h, sa, sc, oa, oc, ha, hc, rfl, HF1.out, HF2.out, HF3.out, HF4.out⟩

end Go.Proofs.Ytlndbligbpfdpaa

/-
  package spec, the document's: Block BY ITS CONTRACT, for programs without arms, where it ends or is retried.
-/
import Derived.Test.YtkpgfchglaemgaaDoorRbPl
import Derived.Test.YtkpgfchglaemgaaDoorRbOk
namespace Go.Proofs.YtkpgfchglaemgaaDoor
set_option linter.unusedVariables false
set_option linter.unusedSimpArgs false
open Go.RowKit
attribute [local go_sem] Oper.semAt_some

theorem blk_Q (w : World) (D : WD) (vs vo : Value) : ∀ Q, Q = (w.alloc (.cells (stA D vs vo) 38)).alloc (.cells zOut 51) → StB Q w.heap.size D vs vo ∧ OutB Q (w.heap.size + 1) zOut ∧ Touch w Q [] ∧ Q.heap.size = w.heap.size + 2 := by
  intro Q hQ
  have h1 := heap_alloc_new w (.cells (stA D vs vo) 38)
  have h2 := heap_alloc_new (w.alloc (.cells (stA D vs vo) 38)) (.cells zOut 51)
  have s1 : (w.alloc (.cells (stA D vs vo) 38)).heap.size = w.heap.size + 1 := by simp
  rw [s1] at h2
  have sb : StB (w.alloc (.cells (stA D vs vo) 38)) w.heap.size D vs vo := ⟨h1⟩
  subst hQ
  exact ⟨sb.touch ((Touch.refl _ []).alloc _) (by simp), ⟨h2⟩, ((Touch.refl w []).alloc _).alloc _, by simp⟩
theorem RbAt.heap {w W : World} {b9 : Nat} {D0 D : WD} {h0 h : List Int} {v0s v0o v0h vs vo vh : Value} (k : RbAt w W b9 D0 D h0 h v0s v0o v0h vs vo vh) {h2 : List Int} {vh2 : Value} (r3 : VRow W vh2 h2) (f3 : FrN (w.heap.size + 2) vh2) : RbAt w W b9 D0 D h0 h2 v0s v0o v0h vs vo vh2 := ⟨k.s, k.r, k.q, k.hb, k.rs, k.ro, r3, k.ks, k.ko, k.kh, k.fs, k.fo, f3, k.gs, k.go, k.gh, k.t⟩
theorem step_err (l : List InsD) (D : WD) : (stepW l D).1 = 0 ∨ 0 < (stepW l D).1 := by
  unfold stepW
  split
  · exact .inr (by simp)
  split
  · exact .inr (by simp)
  split
  · exact .inr (by simp)
  split
  · exact .inr (by simp)
  unfold doW
  split
  · split
    · exact .inl rfl
    · exact .inr (by simp)
  split
  · exact .inl rfl
  split
  · split
    · exact .inl rfl
    · exact .inr (by simp)
  split
  · split
    · exact .inl rfl
    · split
      · exact .inl rfl
      · exact .inr (by simp)
  · exact .inl rfl
theorem reach_err (X : BX) (i : InsD) : (reachB X i).1 = 0 ∨ 0 < (reachB X i).1 := by
  unfold reachB
  split
  · exact .inr (by simp)
  split
  · exact .inr (by simp)
  split
  · exact .inl rfl
  · exact .inl rfl

theorem rdo_reach (l : List InsD) (D : WD) (h : List Int) (o a v : Int) (hop : o = 4 ∨ o = 5 ∨ o = 6 ∨ o = 7) : rdoB l D h ⟨o, a, v⟩ = ((reachB ⟨D, h, [], []⟩ ⟨o, a, v⟩).1, (reachB ⟨D, h, [], []⟩ ⟨o, a, v⟩).2.D, (reachB ⟨D, h, [], []⟩ ⟨o, a, v⟩).2.h) := by
  unfold rdoB
  rw [if_neg (by simp only; omega), if_neg (by simp only; omega)]
  unfold doB
  rw [if_neg (by simp only; omega), if_pos hop]
theorem rdo_bad (l : List InsD) (D : WD) (h : List Int) (o a v : Int) (hop : o = 27 ∨ o = 28 ∨ o = 21) : (rdoB l D h ⟨o, a, v⟩).1 = 3 := by
  unfold rdoB
  rw [if_neg (by simp only; omega), if_neg (by simp only; omega)]
  unfold doB
  rw [if_pos hop]
theorem rdo_plain (l : List InsD) (D : WD) (h : List Int) (o a v : Int) (h1 : ¬ (o = 27 ∨ o = 28 ∨ o = 21)) (h2 : ¬ (o = 4 ∨ o = 5 ∨ o = 6 ∨ o = 7)) (h3 : ¬ (o = 22 ∨ o = 23 ∨ o = 24 ∨ o = 25 ∨ o = 26)) : rdoB l D h ⟨o, a, v⟩ = ((stepW l D).1, (stepW l D).2, h) := by
  unfold rdoB
  rw [if_neg (by simp only; omega), if_neg (by simp only; omega)]
  unfold doB
  rw [if_neg h1, if_neg h2, if_neg h3]
theorem rgo {R r K : Int × WD × List Int} {o : Int} (hR : R = if r.1 = 0 then (if o = 22 then r else K) else r) (h22 : o ≠ 22) (hok : R.1 = 0 ∨ R.1 = -1) (he : r.1 = 0 ∨ 0 < r.1) : r.1 = 0 ∧ R = K := by
  by_cases h : r.1 = 0
  · rw [if_pos h, if_neg h22] at hR; exact ⟨h, hR⟩
  · rw [if_neg h] at hR; rw [hR] at hok; omega

set_option maxRecDepth 100000 in
set_option maxHeartbeats 12000000 in
theorem rblock_ok {w : World} {sa oa ap ah : Option Addr} {sc oc cp ch : Nat} {l : List InsD} {D : WD} {h : List Int} (hs : VRow w (.slice sa D.st.length sc) D.st) (ho : VRow w (.slice oa D.out.length oc) D.out) (hh : VRow w (.slice ah h.length ch) h) (hl : InsRow w (.slice ap l.length cp) l) (hll : l.length ≤ 1000) (hlw : ∀ i ∈ l, i.Wf) (hna : ∀ i ∈ l, i.op ≠ 23 ∧ i.op ≠ 24 ∧ i.op ≠ 25) (hS : SWf D h) {i0 : InsD} (h21 : hereP l D.pc = some i0) (hi0 : i0.op = 21) (f : Int)
    (hok : (rrunB l (rFuel f).toNat { D with pc := D.pc + 1 } h).1 = 0 ∨ (rrunB l (rFuel f).toNat { D with pc := D.pc + 1 } h).1 = -1) :
    Calls Tryd.prog 10 #[.slice ap l.length cp, stV D (.slice sa D.st.length sc) (.slice oa D.out.length oc), .slice ah h.length ch, .int .i64 f] w (BlkG w (rrunB l (rFuel f).toNat { D with pc := D.pc + 1 } h) D h) := by
  obtain ⟨k0, hk0, hkl0, hlk0, hri0⟩ := here_at h21
  obtain ⟨pc, S, l0, l1, l2, l3, O, fu⟩ := D
  obtain ⟨o0, a0, v0⟩ := i0
  simp only at hs ho hk0 h21 hi0 hok ⊢
  subst hk0 hi0
  obtain ⟨g, off, rfl, hg, _, _, _⟩ := ins_cells hl k0 hkl0
  have HI : Hid (∀ W, Touch w W [] → ∀ (k : Nat) (hk : k < l.length), W.cell? ⟨g, off + k * 3, none⟩ = some (.int .u8 l[k].op) ∧ W.cell? ⟨g, off + k * 3 + 1, none⟩ = some (.int .i64 l[k].arg) ∧ W.cell? ⟨g, off + k * 3 + 2, none⟩ = some (.int .u64 l[k].val)) := fun W t k hk => by
    obtain ⟨g', off', e, hg', c0, c1, c2⟩ := ins_cells hl k hk
    simp only [Option.some.injEq, Addr.mk.injEq, and_true] at e
    obtain ⟨rfl, rfl⟩ := e
    exact ⟨(t.cell (p := ⟨g, _, none⟩) hg (by simp)).trans c0, (t.cell (p := ⟨g, _, none⟩) hg (by simp)).trans c1, (t.cell (p := ⟨g, _, none⟩) hg (by simp)).trans c2⟩
  have HRT : Hid (∀ i : InsD, i.Wf → rightI i = true → ∀ W, HidC Tryd.prog 21 #[i.v] W (fun e w' => e = .returned (.bool true) ∧ Touch W w' [])) := fun i hi hr W => ⟨by have := rrightI_any i hi W; rw [hr] at this; exact this⟩
  have HCP : Hid (∀ W, Touch w W [] → HidC Tryd.prog 20 #[.agg #[.int .i64 k0, .slice sa S.length sc, .int .u64 l0, .int .u64 l1, .int .u64 l2, .int .u64 l3, .slice oa O.length oc]] W (CopP W ⟨k0, S, l0, l1, l2, l3, O, fu⟩)) := fun W t => ⟨rcopied_any (D := ⟨k0, S, l0, l1, l2, l3, O, fu⟩) (SRow.keep hs t (by simp)) (SRow.keep ho t (by simp)) hS.st hS.out⟩
  have HFU : Hid (∀ W, HidC Tryd.prog 23 #[.int .i64 f] W (fun e w' => e = .returned (.int .i64 (rFuel f)) ∧ W = w')) := fun W => ⟨rfuel_any f W⟩
  have HST : Hid (∀ (W : World) (D1 : WD) sa1 sc1 oa1 oc1 (h1 : List Int), Touch w W [] → VRow W (.slice sa1 D1.st.length sc1) D1.st → VRow W (.slice oa1 D1.out.length oc1) D1.out → SWf D1 h1 → HidC Tryd.prog 25 #[.slice (some ⟨g, off, none⟩) l.length cp, stV D1 (.slice sa1 D1.st.length sc1) (.slice oa1 D1.out.length oc1)] W (StpP W (stepW l D1))) := fun W D1 sa1 sc1 oa1 oc1 h1 t r1 r2 k => ⟨rstep_any ⟨r1, r2, SRow.keep hl t (by simp), hll, k.st, k.out, hlw, k.ws⟩⟩
  have HWI := hlw
  have HLW : Hid _ := hlw
  have HNA : Hid _ := hna
  have HLL : Hid (l.length ≤ 1000) := hll
  have HS0 : Hid _ := hS
  have HHR : Hid (∀ W, Touch w W [] → VRow W (.slice ah h.length ch) h) := fun W t => SRow.keep hh t (by simp)
  have HHL : Hid (h.length ≤ 1000) := hS.hl
  obtain ⟨fl, fl0, fl1⟩ : ∃ fl : Nat, (fl : Int) = rFuel f ∧ fl ≤ 300 := ⟨(rFuel f).toNat, by have := rFuel_le f; omega, by have := rFuel_le f; omega⟩
  have hfl : (rFuel f).toNat = fl := by omega
  rw [hfl] at hok ⊢
  rw [← fl0] at HFU
  have HFL : Hid (fl ≤ 300) := fl1
  generalize hR : rrunB l fl { pc := (k0 : Int) + 1, st := S, l0 := l0, l1 := l1, l2 := l2, l3 := l3, out := O, fuel := fu } h = R at *
  have HR : Hid _ := hR
  have HOK : Hid _ := hok
  have hiw0 : InsD.Wf ⟨21, a0, v0⟩ := hlk0 ▸ hlw _ (List.getElem_mem hkl0)
  have HRT0 := HRT.out ⟨21, a0, v0⟩ hiw0 hri0
  obtain ⟨Q, hQ⟩ : ∃ Q, Q = (w.alloc (.cells #[.int .i64 k0, .slice sa S.length sc, .int .u64 l0, .int .u64 l1, .int .u64 l2, .int .u64 l3, .slice oa O.length oc] 38)).alloc (.cells zOut 51) := ⟨_, rfl⟩
  obtain ⟨qb, qr, qt, qs⟩ := blk_Q w ⟨k0, S, l0, l1, l2, l3, O, fu⟩ (.slice sa S.length sc) (.slice oa O.length oc) Q hQ
  have HQ : Hid ((w.alloc (.cells #[.int .i64 k0, .slice sa S.length sc, .int .u64 l0, .int .u64 l1, .int .u64 l2, .int .u64 l3, .slice oa O.length oc] 38)).alloc (.cells zOut 51) = Q) := hQ.symm
  clear hQ
  obtain ⟨x0, x1, x2, x3, x4, x5, x6⟩ := qb.cells
  simp only at x0 x1 x2 x3 x4 x5 x6
  have HQB : Hid _ := qb
  have HQR : Hid _ := qr
  have HTQ : Hid _ := qt
  have HQS : Hid _ := qs
  have hk0 : (0 : Int) ≤ k0 := by omega
  have hk1 : (k0 : Int) < l.length := by omega
  have hkw0 : IntKind.i64.wrap ((k0 : Int) + 1) = (k0 : Int) + 1 := by rw [IntKind.wrap_i64]; omega
  have HLK0 : Hid _ := hlk0
  clear qb qr qt qs hs ho hh hl hll hlw hna hS h21 hok hR hri0 hiw0 hlk0 hg fl1 fl0 hfl HWI
  go_enter Tryd.func10, Tryd.ntmps10
  go_wp2_with fail
  rw [HQ.out]
  clear HQ
  go_wp2_with fail
  refine (HCP.out _ HTQ.out).out.mono ?_
  rintro e w1 ⟨vs0, vo0, he1, o1, u1, n1, t1⟩
  have he1' : e = .returned (.agg #[.int .i64 k0, vs0, .int .u64 l0, .int .u64 l1, .int .u64 l2, .int .u64 l3, vo0]) := he1
  subst he1'
  clear he1 x0 x1 x2 x3 x4 x5 x6
  obtain ⟨sa0, sc0, rfl⟩ := owns_slice o1
  obtain ⟨oa0, oc0, rfl⟩ := owns_slice u1
  have T1 : Touch w w1 [] := HTQ.out.trans t1 (by simp)
  obtain ⟨ah0, ch0, w2, rH, oH, tH⟩ := app_new (HHR.out w1 T1) HHL.out
  have t12 : Touch Q w2 [] := t1.trans tH (by simp)
  have t3 : Touch w2 (w2.alloc (.cells #[.int .i64 k0, .slice sa0 S.length sc0, .int .u64 l0, .int .u64 l1, .int .u64 l2, .int .u64 l3, .slice oa0 O.length oc0] 38)) [] := (Touch.refl w2 []).alloc _
  have hb3 := HQB.out.touch (t12.trans t3 (by simp)) (by simp)
  have hq3 : StB (w2.alloc (.cells #[.int .i64 k0, .slice sa0 S.length sc0, .int .u64 l0, .int .u64 l1, .int .u64 l2, .int .u64 l3, .slice oa0 O.length oc0] 38)) w2.heap.size ⟨k0, S, l0, l1, l2, l3, O, fu⟩ (.slice sa0 S.length sc0) (.slice oa0 O.length oc0) := ⟨heap_alloc_new w2 _⟩
  have T3 : Touch w (w2.alloc (.cells #[.int .i64 k0, .slice sa0 S.length sc0, .int .u64 l0, .int .u64 l1, .int .u64 l2, .int .u64 l3, .slice oa0 O.length oc0] 38)) [] := (HTQ.out.trans t12 (by simp)).trans t3 (by simp)
  obtain ⟨x0, x1, x2, x3, x4, x5, x6⟩ := hb3.cells
  obtain ⟨d0, d1, d2⟩ := HI.out _ T3 k0 hkl0
  rw [HLK0.out] at d0 d1 d2
  simp only at d0 d1 d2 x0 x1 x2 x3 x4 x5 x6
  have HB3 : Hid _ := hb3
  have HQ3 : Hid _ := hq3
  have HR3 : Hid _ := HQR.out.touch (t12.trans t3 (by simp)) (by simp)
  have HT3 : Hid _ := T3
  have HO3 : Hid (VRow (w2.alloc (.cells #[.int .i64 k0, .slice sa0 S.length sc0, .int .u64 l0, .int .u64 l1, .int .u64 l2, .int .u64 l3, .slice oa0 O.length oc0] 38)) (.slice sa0 S.length sc0) S) := SRow.keep (vrow_of o1) (tH.trans t3 (by simp)) (by simp)
  have HU3 : Hid (VRow (w2.alloc (.cells #[.int .i64 k0, .slice sa0 S.length sc0, .int .u64 l0, .int .u64 l1, .int .u64 l2, .int .u64 l3, .slice oa0 O.length oc0] 38)) (.slice oa0 O.length oc0) O) := SRow.keep (vrow_of u1) (tH.trans t3 (by simp)) (by simp)
  have HH3 : Hid (VRow (w2.alloc (.cells #[.int .i64 k0, .slice sa0 S.length sc0, .int .u64 l0, .int .u64 l1, .int .u64 l2, .int .u64 l3, .slice oa0 O.length oc0] 38)) (.slice ah0 h.length ch0) h) := SRow.keep (vrow_of oH) t3 (by simp)
  have hqs := HQS.out
  have hs1 := t1.size
  have hs2 := tH.size
  have HF1 : Hid (FrN (w.heap.size + 2) (.slice sa0 S.length sc0)) := fun g hg => by have := own_ge o1 g hg; omega
  have HF2 : Hid (FrN (w.heap.size + 2) (.slice oa0 O.length oc0)) := fun g hg => by have := own_ge u1 g hg; omega
  have HF3 : Hid (FrN (w.heap.size + 2) (.slice ah0 h.length ch0)) := fun g hg => by have := own_ge oH g hg; omega
  have HN9 : Hid (w.heap.size + 2 ≤ w2.heap.size) := by show _ ≤ _; omega
  clear o1 u1 n1 t1 T1 oH tH t12 t3 hb3 hq3 T3 hqs hs1 hs2 HQB HQR HTQ HQS
  go_wp2_with (at_builtin; refine Lib.wpList_append_run _ rfl (.tmp 21) (.tmp 22) _ _ rfl _ _ rfl rfl _ _ rH ?_)
  generalize hX : w2.alloc (.cells #[.int .i64 k0, .slice sa0 S.length sc0, .int .u64 l0, .int .u64 l1, .int .u64 l2, .int .u64 l3, .slice oa0 O.length oc0] 38) = X at *
  have hX' := hX
  clear hX hX' rH
  generalize w2.heap.size = b9 at *
  refine (HRT0 _).out.mono ?_
  rintro e w4 ⟨rfl, t4⟩
  have hb4 := HB3.out.touch t4 (by simp)
  have T4 : Touch w w4 [] := HT3.out.trans t4 (by simp)
  clear x0 x1 x2 x3 x4 x5 x6 d0 d1 d2
  obtain ⟨x0, x1, x2, x3, x4, x5, x6⟩ := hb4.cells
  simp only at x0 x1 x2 x3 x4 x5 x6
  have HC4 : HidC _ _ _ _ _ := HCP.out w4 T4
  have HB4 : Hid _ := hb4
  have HT4 : Hid _ := t4
  clear hb4 T4 t4 HCP HRT0 HLK0
  go_wp2_with fail
  refine HC4.out.mono ?_
  rintro e w5 ⟨vs1, vo1, he1, o5, u5, n5, t5⟩
  have he1' : e = .returned (.agg #[.int .i64 k0, vs1, .int .u64 l0, .int .u64 l1, .int .u64 l2, .int .u64 l3, vo1]) := he1
  subst he1'
  clear he1 x0 x1 x2 x3 x4 x5 x6 HC4
  obtain ⟨sa1, sc1, rfl⟩ := owns_slice o5
  obtain ⟨oa1, oc1, rfl⟩ := owns_slice u5
  have hb5 := HB4.out.touch t5 (by simp)
  have t35 := HT4.out.trans t5 (by simp)
  have s4 := HT4.out.size
  have s3 := HT3.out.size
  have s9 := HN9.out
  have hX9 := lt_of_heap HQ3.out.st
  have HTH : Hid _ := st_there hb5
  have HM : Hid (∀ W6, W6 = w5.setCells w.heap.size 0 (stA ⟨k0, S, l0, l1, l2, l3, O, fu⟩ (.slice sa1 S.length sc1) (.slice oa1 O.length oc1)).toList → RbAt w W6 b9 ⟨k0, S, l0, l1, l2, l3, O, fu⟩ ⟨k0, S, l0, l1, l2, l3, O, fu⟩ h h (.slice sa0 S.length sc0) (.slice oa0 O.length oc0) (.slice ah0 h.length ch0) (.slice sa1 S.length sc1) (.slice oa1 O.length oc1) (.slice ah0 h.length ch0)) := fun W6 hW6 => by
    obtain ⟨g1, tp⟩ := st_sets hb5 ⟨k0, S, l0, l1, l2, l3, O, fu⟩ (.slice sa1 S.length sc1) (.slice oa1 O.length oc1) W6 hW6
    have hS : ∀ x ∈ [w.heap.size], x < w.heap.size + 2 := by simp
    have y1 : FrN (w.heap.size + 2) (.slice sa1 S.length sc1) := fun g hg => by have := own_ge o5 g hg; omega
    have y2 : FrN (w.heap.size + 2) (.slice oa1 O.length oc1) := fun g hg => by have := own_ge u5 g hg; omega
    exact ⟨g1, (HR3.out.touch t35 (by simp)).touch tp (by simp), (HQ3.out.touch t35 (by simp)).touch tp (by simp; omega), s9, frn_keep (vrow_of o5) y1 tp hS, frn_keep (vrow_of u5) y2 tp hS, frn_keep (SRow.keep HH3.out t35 (by simp)) HF3.out tp hS, frn_keep (SRow.keep HO3.out t35 (by simp)) HF1.out tp hS, frn_keep (SRow.keep HU3.out t35 (by simp)) HF2.out tp hS, frn_keep (SRow.keep HH3.out t35 (by simp)) HF3.out tp hS, y1, y2, HF3.out, HF1.out, HF2.out, HF3.out, (HT3.out.trans t35 (by simp)).trans tp (fun x hx => .inr (by simp at hx; omega))⟩
  clear o5 u5 n5 t5 hb5 t35 s4 s3 s9 hX9 HB4 HT4 HB3 HQ3 HR3 HT3 HO3 HU3 HH3 HF1 HF2 HF3 HN9
  have HAP : Hid (∀ W6, RbAt w W6 b9 ⟨k0, S, l0, l1, l2, l3, O, fu⟩ ⟨k0, S, l0, l1, l2, l3, O, fu⟩ h h (.slice sa0 S.length sc0) (.slice oa0 O.length oc0) (.slice ah0 h.length ch0) (.slice sa1 S.length sc1) (.slice oa1 O.length oc1) (.slice ah0 h.length ch0) → ∃ ah1 ch1 w8, (Builtin.append_ #[35, 35] 35 #[.slice (some ⟨W6.heap.size, 0, none⟩) 0 0, .slice ah h.length ch]).run Tryd.prog ((W6.setCell ⟨w.heap.size, 0, none⟩ (.int .i64 ((k0 : Int) + 1))).alloc (.cells #[] 24)) = .ok (.slice ah1 h.length ch1) w8 ∧ RbAt w w8 b9 ⟨k0, S, l0, l1, l2, l3, O, fu⟩ ⟨(k0 : Int) + 1, S, l0, l1, l2, l3, O, fu⟩ h h (.slice sa0 S.length sc0) (.slice oa0 O.length oc0) (.slice ah0 h.length ch0) (.slice sa1 S.length sc1) (.slice oa1 O.length oc1) (.slice ah1 h.length ch1)) := fun W6 k => by
    have k7 := k.pc ((k0 : Int) + 1)
    obtain ⟨ah1, ch1, w8, rH, oH, tH⟩ := app_new (HHR.out _ k7.t) HHL.out
    have hsz : (W6.setCell ⟨w.heap.size, 0, none⟩ (.int .i64 ((k0 : Int) + 1))).heap.size = W6.heap.size := by simp
    rw [hsz] at rH
    have h9 := k7.hb
    have h8 := lt_of_heap k7.q.st
    exact ⟨ah1, ch1, w8, rH, (k7.keep tH).heap (vrow_of oH) (fun g hg => by have := own_ge oH g hg; omega)⟩
  go_wp2_with first | (refine wpList_store_mid rfl 38 _ _ rfl w.heap.size 0 (stA ⟨k0, S, l0, l1, l2, l3, O, fu⟩ (.slice sa1 S.length sc1) (.slice oa1 O.length oc1)) ?_ ?_ ?_ ?_ ?_ ?_; rfl; rfl; exact HTH.out; exact Tryd.size_state; exact st_one _ _ _ _ _ _ _; refine wpList_nameR fun W6 hW6 => ?_; have hm := HM.out W6 hW6; obtain ⟨ah1, ch1, w8, rH, h8⟩ := HAP.out W6 hm; have H8 : Hid _ := h8; obtain ⟨z0, z1, z2, z3, z4, z5, z6⟩ := hm.s.cells; simp only at z0 z1 z2 z3 z4 z5 z6; have f0 := hm.s.fr 0; clear hW6 hm h8 HTH HM HAP) | (at_builtin; refine Lib.wpList_append_run _ rfl (.tmp 61) (.tmp 62) _ _ rfl _ _ rfl rfl _ _ rH ?_)
  clear rH z0 z1 z2 z3 z4 z5 z6 f0
  refine (HFU.out _).out.mono ?_
  rintro e _ ⟨rfl, rfl⟩
  clear HFU
  go_wp2_with fail
  go_loopw [11, 12, 13, 14] (fun vh vm va vl wr => ∃ (n : Nat) (D1 : WD) (h1 : List Int) (sa2 oa2 ha2 : Option Addr) (sc2 oc2 hc2 : Nat), vh = .slice ha2 h1.length hc2 ∧ vm = .slice none 0 0 ∧ va = .slice none 0 0 ∧ vl = .int .i64 n ∧ n ≤ 300 ∧ RbAt w wr b9 ⟨k0, S, l0, l1, l2, l3, O, fu⟩ D1 h h1 (.slice sa0 S.length sc0) (.slice oa0 O.length oc0) (.slice ah0 h.length ch0) (.slice sa2 D1.st.length sc2) (.slice oa2 D1.out.length oc2) (.slice ha2 h1.length hc2) ∧ SWf D1 h1 ∧ rrunB l n D1 h1 = R) (fun _ _ _ vl _ => (intOf vl).toNat)
  case atStart => exact ⟨fl, ⟨(k0 : Int) + 1, S, l0, l1, l2, l3, O, fu⟩, h, sa1, oa1, ah1, sc1, oc1, ch1, rfl, rfl, rfl, rfl, HFL.out, H8.out, HS0.out.pc _, HR.out⟩
  case round =>
    obtain ⟨n, D1, h1, sa2, oa2, ha2, sc2, oc2, hc2, rfl, rfl, rfl, rfl, hn, hat, hsw, hrun⟩ := hrel
    obtain ⟨pc1, S1, q0, q1, q2, q3, O1, fu1⟩ := D1
    simp only at hat hsw hrun
    cases hh : hereP l pc1 with
    | none =>
      exfalso
      have := HOK.out
      rw [← hrun, rrun_none (D := ⟨pc1, S1, q0, q1, q2, q3, O1, fu1⟩) hh] at this
      simp at this
    | some i =>
      obtain ⟨k, hpk, hkl, hlk, hri⟩ := here_at hh
      obtain ⟨o, a, v⟩ := i
      subst hpk
      cases n with
      | zero =>
        exfalso
        have := HOK.out
        rw [← hrun, rrun_zero (D := ⟨k, S1, q0, q1, q2, q3, O1, fu1⟩) hh] at this
        simp at this
      | succ n =>
        have hiw : InsD.Wf ⟨o, a, v⟩ := hlk ▸ HLW.out _ (List.getElem_mem hkl)
        have hra := right_arg hri
        have hnar := HNA.out _ (List.getElem_mem hkl)
        rw [hlk] at hnar
        simp only at hra hnar
        by_cases h22 : o = 22
        · subst h22
          have hR := rrun_some (n := n) (D := ⟨k, S1, q0, q1, q2, q3, O1, fu1⟩) (h := h1) hh
          rw [hrun] at hR
          have HRT1 : HidC Tryd.prog 21 #[.agg #[.int .u8 22, .int .i64 a, .int .u64 v]] wr (fun e w' => e = .returned (.bool true) ∧ Touch wr w' []) := HRT.out ⟨22, a, v⟩ hiw hri wr
          obtain ⟨d0, d1, d2⟩ := HI.out wr hat.t k hkl
          rw [hlk] at d0 d1 d2
          obtain ⟨x0, x1, x2, x3, x4, x5, x6⟩ := hat.s.cells
          simp only at d0 d1 d2 x0 x1 x2 x3 x4 x5 x6
          have HAT : Hid _ := hat
          have HSW1 : Hid _ := hsw
          have HRR : Hid _ := hR
          have hll := HLL.out
          have hk0 : (0 : Int) ≤ k := by omega
          have hk1 : (k : Int) < l.length := by omega
          have hm0 : ¬ ((n : Int) + 1 = 0) := by omega
          have hm1 : IntKind.i64.wrap ((n : Int) + 1 - 1) = n := by rw [IntKind.wrap_i64]; omega
          have hkw : IntKind.i64.wrap ((k : Int) + 1) = (k : Int) + 1 := by rw [IntKind.wrap_i64]; omega
          have HLK : Hid _ := hlk
          have HPC : Hid _ := hh
          clear hll hat hsw hR hrun hh hlk hri hiw
          go_wp2_with fail
          refine HRT1.out.mono ?_
          rintro e w1 ⟨rfl, t1⟩
          have hat1 := HAT.out.keep t1
          obtain ⟨e0, e1, e2⟩ := HI.out w1 hat1.t k hkl
          rw [HLK.out] at e0 e1 e2
          obtain ⟨y0, y1, y2, y3, y4, y5, y6⟩ := hat1.s.cells
          simp only at e0 e1 e2 y0 y1 y2 y3 y4 y5 y6
          have tX : Touch w1 (w1.alloc (.cells #[.int .u8 22, .int .i64 a, .int .u64 v] 62)) [] := (Touch.refl w1 []).alloc _
          have HXB : Hid (IxB (w1.alloc (.cells #[.int .u8 22, .int .i64 a, .int .u64 v] 62)) w1.heap.size ⟨22, a, v⟩) := ⟨heap_alloc_new w1 _⟩
          have hatX := hat1.keep tX
          obtain ⟨m0, m1, m2⟩ := HXB.out.cells
          obtain ⟨z0, z1, z2, z3, z4, z5, z6⟩ := hatX.s.cells
          simp only at m0 m1 m2 z0 z1 z2 z3 z4 z5 z6
          have f0 := hatX.s.fr 0
          have HAX : Hid _ := hatX
          have HXS : Hid ((w1.alloc (.cells #[.int .u8 22, .int .i64 a, .int .u64 v] 62)).heap.size = w1.heap.size + 1) := by show _ = _; simp
          clear x0 x1 x2 x3 x4 x5 x6 d0 d1 d2 HRT1 hat1 tX hatX t1 HAT
          have HD : Hid (R = (0, ⟨(k : Int) + 1, S1, q0, q1, q2, q3, O1, fu1⟩, h1)) := HRR.out
          have hk := HAX.out.pc ((k : Int) + 1)
          have HTH : Hid _ := out_there hk.r
          have HEND : Hid _ := hk.done HD.out
          clear hk
          go_wp2_with (refine wpList_store_mid rfl 51 _ _ rfl (w.heap.size + 1) 0 (outA 1 ⟨(k : Int) + 1, S1, q0, q1, q2, q3, O1, fu1⟩ (.slice sa2 S1.length sc2) (.slice oa2 O1.length oc2) (.slice ha2 h1.length hc2) (.slice none 0 0) 0) rfl rfl HTH.out Tryd.size_out (out_one _ _ _ _ _ _ _ _ _ _ _ _ _ _ _) ?_; refine wpList_nameS fun W8 hW8 => ?_; have H8 : Hid _ := HEND.out W8 hW8; clear hW8 HEND HTH)
          obtain ⟨b8, r8⟩ := H8.out
          refine bodyPost_ret (v := .agg (outA 1 ⟨(k : Int) + 1, S1, q0, q1, q2, q3, O1, fu1⟩ (.slice sa2 S1.length sc2) (.slice oa2 O1.length oc2) (.slice ha2 h1.length hc2) (.slice none 0 0) 0)) ?_ rfl r8
          rw [res_cell rfl]
          have p0 := b8.cell 0
          have p1 := b8.cell 1
          have p2 := b8.cell 2
          have p3 := b8.cell 3
          have p4 := b8.cell 4
          have p5 := b8.cell 5
          have p6 := b8.cell 6
          have p7 := b8.cell 7
          have p8 := b8.cell 8
          have p9 := b8.cell 9
          have p10 := b8.cell 10
          simp only [outA, List.getElem?_toArray, List.getElem?_cons_zero, List.getElem?_cons_succ] at p0 p1 p2 p3 p4 p5 p6 p7 p8 p9 p10
          simp [go_sem, p0, p1, p2, p3, p4, p5, p6, p7, p8, p9, p10]
        by_cases h26 : o = 26
        · subst h26
          have hR := rrun_some (n := n) (D := ⟨k, S1, q0, q1, q2, q3, O1, fu1⟩) (h := h1) hh
          rw [hrun] at hR
          have HRT1 : HidC Tryd.prog 21 #[.agg #[.int .u8 26, .int .i64 a, .int .u64 v]] wr (fun e w' => e = .returned (.bool true) ∧ Touch wr w' []) := HRT.out ⟨26, a, v⟩ hiw hri wr
          obtain ⟨d0, d1, d2⟩ := HI.out wr hat.t k hkl
          rw [hlk] at d0 d1 d2
          obtain ⟨x0, x1, x2, x3, x4, x5, x6⟩ := hat.s.cells
          simp only at d0 d1 d2 x0 x1 x2 x3 x4 x5 x6
          have HAT : Hid _ := hat
          have HSW1 : Hid _ := hsw
          have HRR : Hid _ := hR
          have hll := HLL.out
          have hk0 : (0 : Int) ≤ k := by omega
          have hk1 : (k : Int) < l.length := by omega
          have hm0 : ¬ ((n : Int) + 1 = 0) := by omega
          have hm1 : IntKind.i64.wrap ((n : Int) + 1 - 1) = n := by rw [IntKind.wrap_i64]; omega
          have hkw : IntKind.i64.wrap ((k : Int) + 1) = (k : Int) + 1 := by rw [IntKind.wrap_i64]; omega
          have HLK : Hid _ := hlk
          have HPC : Hid _ := hh
          clear hll hat hsw hR hrun hh hlk hri hiw
          go_wp2_with fail
          refine HRT1.out.mono ?_
          rintro e w1 ⟨rfl, t1⟩
          have hat1 := HAT.out.keep t1
          obtain ⟨e0, e1, e2⟩ := HI.out w1 hat1.t k hkl
          rw [HLK.out] at e0 e1 e2
          obtain ⟨y0, y1, y2, y3, y4, y5, y6⟩ := hat1.s.cells
          simp only at e0 e1 e2 y0 y1 y2 y3 y4 y5 y6
          have tX : Touch w1 (w1.alloc (.cells #[.int .u8 26, .int .i64 a, .int .u64 v] 62)) [] := (Touch.refl w1 []).alloc _
          have HXB : Hid (IxB (w1.alloc (.cells #[.int .u8 26, .int .i64 a, .int .u64 v] 62)) w1.heap.size ⟨26, a, v⟩) := ⟨heap_alloc_new w1 _⟩
          have hatX := hat1.keep tX
          obtain ⟨m0, m1, m2⟩ := HXB.out.cells
          obtain ⟨z0, z1, z2, z3, z4, z5, z6⟩ := hatX.s.cells
          simp only at m0 m1 m2 z0 z1 z2 z3 z4 z5 z6
          have f0 := hatX.s.fr 0
          have HAX : Hid _ := hatX
          have HXS : Hid ((w1.alloc (.cells #[.int .u8 26, .int .i64 a, .int .u64 v] 62)).heap.size = w1.heap.size + 1) := by show _ = _; simp
          clear x0 x1 x2 x3 x4 x5 x6 d0 d1 d2 HRT1 hat1 tX hatX t1 HAT
          obtain ⟨u0, u1, u2, u3, u4, u5, u6⟩ := HAX.out.q.cells
          simp only at u0 u1 u2 u3 u4 u5 u6
          have HD : Hid (R.1 = -1) := by show R.1 = -1; rw [HRR.out]; rfl
          have HTH : Hid _ := out_there HAX.out.r
          have HEND : Hid _ := HAX.out.again HD.out
          go_wp2_with (refine wpList_store_mid rfl 51 _ _ rfl (w.heap.size + 1) 0 (outA 2 ⟨(k0 : Int), S, l0, l1, l2, l3, O, fu⟩ (.slice sa0 S.length sc0) (.slice oa0 O.length oc0) (.slice ah0 h.length ch0) (.slice none 0 0) 0) rfl rfl HTH.out Tryd.size_out (out_one _ _ _ _ _ _ _ _ _ _ _ _ _ _ _) ?_; refine wpList_nameS fun W8 hW8 => ?_; have H8 : Hid _ := HEND.out W8 hW8; clear hW8 HEND HTH)
          obtain ⟨b8, r8⟩ := H8.out
          refine bodyPost_ret (v := .agg (outA 2 ⟨(k0 : Int), S, l0, l1, l2, l3, O, fu⟩ (.slice sa0 S.length sc0) (.slice oa0 O.length oc0) (.slice ah0 h.length ch0) (.slice none 0 0) 0)) ?_ rfl r8
          rw [res_cell rfl]
          have p0 := b8.cell 0
          have p1 := b8.cell 1
          have p2 := b8.cell 2
          have p3 := b8.cell 3
          have p4 := b8.cell 4
          have p5 := b8.cell 5
          have p6 := b8.cell 6
          have p7 := b8.cell 7
          have p8 := b8.cell 8
          have p9 := b8.cell 9
          have p10 := b8.cell 10
          simp only [outA, List.getElem?_toArray, List.getElem?_cons_zero, List.getElem?_cons_succ] at p0 p1 p2 p3 p4 p5 p6 p7 p8 p9 p10
          simp [go_sem, p0, p1, p2, p3, p4, p5, p6, p7, p8, p9, p10]
        by_cases hbad : o = 27 ∨ o = 28 ∨ o = 21
        · exfalso
          have hR := rrun_some (n := n) (D := ⟨k, S1, q0, q1, q2, q3, O1, fu1⟩) (h := h1) hh
          rw [hrun] at hR
          have h3 := rdo_bad l ⟨k, S1, q0, q1, q2, q3, O1, fu1⟩ h1 o a v hbad
          rw [if_neg (by rw [h3]; decide)] at hR
          have := HOK.out
          rw [hR, h3] at this
          simp at this
        by_cases htch : o = 4 ∨ o = 5 ∨ o = 6 ∨ o = 7
        · have hrd := rdo_reach l ⟨k, S1, q0, q1, q2, q3, O1, fu1⟩ h1 o a v htch
          have hR := rrun_some (n := n) (D := ⟨k, S1, q0, q1, q2, q3, O1, fu1⟩) (h := h1) hh
          rw [hrun] at hR
          have HRT1 : HidC Tryd.prog 21 #[.agg #[.int .u8 o, .int .i64 a, .int .u64 v]] wr (fun e w' => e = .returned (.bool true) ∧ Touch wr w' []) := HRT.out ⟨o, a, v⟩ hiw hri wr
          obtain ⟨d0, d1, d2⟩ := HI.out wr hat.t k hkl
          rw [hlk] at d0 d1 d2
          obtain ⟨x0, x1, x2, x3, x4, x5, x6⟩ := hat.s.cells
          simp only at d0 d1 d2 x0 x1 x2 x3 x4 x5 x6
          have HAT : Hid _ := hat
          have HSW1 : Hid _ := hsw
          have HRR : Hid _ := hR
          have hll := HLL.out
          have hk0 : (0 : Int) ≤ k := by omega
          have hk1 : (k : Int) < l.length := by omega
          have hm0 : ¬ ((n : Int) + 1 = 0) := by omega
          have hm1 : IntKind.i64.wrap ((n : Int) + 1 - 1) = n := by rw [IntKind.wrap_i64]; omega
          have hkw : IntKind.i64.wrap ((k : Int) + 1) = (k : Int) + 1 := by rw [IntKind.wrap_i64]; omega
          have HLK : Hid _ := hlk
          have HPC : Hid _ := hh
          clear hll hat hsw hR hrun hh hlk hri hiw
          go_wp2_with fail
          refine HRT1.out.mono ?_
          rintro e w1 ⟨rfl, t1⟩
          have hat1 := HAT.out.keep t1
          obtain ⟨e0, e1, e2⟩ := HI.out w1 hat1.t k hkl
          rw [HLK.out] at e0 e1 e2
          obtain ⟨y0, y1, y2, y3, y4, y5, y6⟩ := hat1.s.cells
          simp only at e0 e1 e2 y0 y1 y2 y3 y4 y5 y6
          have tX : Touch w1 (w1.alloc (.cells #[.int .u8 o, .int .i64 a, .int .u64 v] 62)) [] := (Touch.refl w1 []).alloc _
          have HXB : Hid (IxB (w1.alloc (.cells #[.int .u8 o, .int .i64 a, .int .u64 v] 62)) w1.heap.size ⟨o, a, v⟩) := ⟨heap_alloc_new w1 _⟩
          have hatX := hat1.keep tX
          obtain ⟨m0, m1, m2⟩ := HXB.out.cells
          obtain ⟨z0, z1, z2, z3, z4, z5, z6⟩ := hatX.s.cells
          simp only at m0 m1 m2 z0 z1 z2 z3 z4 z5 z6
          have f0 := hatX.s.fr 0
          have HAX : Hid _ := hatX
          have HXS : Hid ((w1.alloc (.cells #[.int .u8 o, .int .i64 a, .int .u64 v] 62)).heap.size = w1.heap.size + 1) := by show _ = _; simp
          clear x0 x1 x2 x3 x4 x5 x6 d0 d1 d2 HRT1 hat1 tX hatX t1 HAT
          have hgo := rgo HRR.out h22 HOK.out (by rw [hrd]; exact reach_err _ _)
          have hke := rdo_keep (D := ⟨k, S1, q0, q1, q2, q3, O1, fu1⟩) HSW1.out HLW.out (i := ⟨o, a, v⟩) h22 (fun _ => by simp only; omega) hgo.1
          rw [hrd] at hgo hke
          simp only at hgo hke
          have HTC : HidC _ _ _ _ _ := ⟨rtouch_ok (w := w1.alloc (.cells #[.int .u8 o, .int .i64 a, .int .u64 v] 62)) ⟨HAX.out.rs, HAX.out.ro, HAX.out.rh, HSW1.out.st, HSW1.out.out, HSW1.out.hl, HSW1.out.ws, hk0, by have := HLL.out; show (k : Int) ≤ 1000; omega⟩ o a v htch hra.1 hra.2 hgo.1⟩
          have HGO : Hid _ := hgo
          have HKE : Hid _ := hke
          generalize reachB ⟨⟨k, S1, q0, q1, q2, q3, O1, fu1⟩, h1, [], []⟩ ⟨o, a, v⟩ = r at *
          obtain ⟨r1, ⟨r2, r3, r4, r5⟩⟩ := r
          simp only at HTC HGO HKE
          clear hgo hke hrd
          rcases htch with rfl | rfl | rfl | rfl
          · go_wp2_with fail
            generalize hX : w1.alloc (.cells #[.int .u8 4, .int .i64 a, .int .u64 v] 62) = X at *
            have hX' := hX
            clear hX hX' e0 e1 e2 y0 y1 y2 y3 y4 y5 y6
            clear m1 m2
            have hX1 := HAX.out.hb
            have hX0 := lt_of_heap HAX.out.q.st
            have HNX : Hid (∀ (w7 : World) (sa7 oa7 ha7 : Option Addr) (sc7 oc7 hc7 : Nat), VRow w7 (.slice sa7 r2.st.length sc7) r2.st → VRow w7 (.slice oa7 r2.out.length oc7) r2.out → VRow w7 (.slice ha7 r3.length hc7) r3 → Touch X w7 [] → (∀ g, (Value.slice sa7 r2.st.length sc7).ownBlock = some g → X.heap.size ≤ g) → (∀ g, (Value.slice oa7 r2.out.length oc7).ownBlock = some g → X.heap.size ≤ g) → (∀ g, (Value.slice ha7 r3.length hc7).ownBlock = some g → X.heap.size ≤ g ∨ (Value.slice ha2 h1.length hc2).ownBlock = some g) → w7.there w.heap.size 0 7 ∧ ∀ W8, W8 = w7.setCells w.heap.size 0 (stA r2 (.slice sa7 r2.st.length sc7) (.slice oa7 r2.out.length oc7)).toList → RbAt w W8 b9 ⟨k0, S, l0, l1, l2, l3, O, fu⟩ r2 h r3 (.slice sa0 S.length sc0) (.slice oa0 O.length oc0) (.slice ah0 h.length ch0) (.slice sa7 r2.st.length sc7) (.slice oa7 r2.out.length oc7) (.slice ha7 r3.length hc7)) := fun w7 sa7 oa7 ha7 sc7 oc7 hc7 v1 v2 v3 t7 g1 g2 g3 => by
              have hat7 := HAX.out.keep t7
              exact ⟨st_there hat7.s, hat7.put v1 v2 v3 (fun g hg => by have := g1 g hg; omega) (fun g hg => by have := g2 g hg; omega) (fun g hg => by
                rcases g3 g hg with q | q
                · omega
                · exact HAX.out.fh g q)⟩
            clear hX1 hX0
            refine HTC.out.mono ?_
            rintro e w7 (⟨_, sa7, sc7, oa7, oc7, ha7, hc7, rfl, v1, v2, v3, t7, g1, g2, g3⟩ | ⟨hne, _⟩)
            · clear z0 z1 z2 z3 z4 z5 z6 m0
              obtain ⟨k1, k2⟩ := HNX.out w7 sa7 oa7 ha7 sc7 oc7 hc7 v1 v2 v3 t7 g1 g2 g3
              have HTH : Hid _ := k1
              have HM : Hid _ := k2
              clear k1 k2 g1 g2 g3 v1 v2 v3 t7 HTC HNX
              go_wp2_with (refine wpList_store_mid rfl 38 _ _ rfl w.heap.size 0 (stA r2 (.slice sa7 r2.st.length sc7) (.slice oa7 r2.out.length oc7)) ?_ ?_ ?_ ?_ ?_ ?_; rfl; rfl; exact HTH.out; exact Tryd.size_state; exact st_one _ _ _ _ _ _ _; refine wpList_nameR fun W8 hW8 => ?_; have H9 : Hid _ := HM.out W8 hW8; clear hW8 HTH HM)
              go_roundw
              case rel => exact ⟨n, r2, r3, sa7, oa7, ha7, sc7, oc7, hc7, rfl, rfl, rfl, by go_num, by omega, H9.out, HKE.out, HGO.out.2.symm⟩
              case measure => simp [intOf]
            · exact absurd rfl hne
          · go_wp2_with fail
            generalize hX : w1.alloc (.cells #[.int .u8 5, .int .i64 a, .int .u64 v] 62) = X at *
            have hX' := hX
            clear hX hX' e0 e1 e2 y0 y1 y2 y3 y4 y5 y6
            clear m1 m2
            have hX1 := HAX.out.hb
            have hX0 := lt_of_heap HAX.out.q.st
            have HNX : Hid (∀ (w7 : World) (sa7 oa7 ha7 : Option Addr) (sc7 oc7 hc7 : Nat), VRow w7 (.slice sa7 r2.st.length sc7) r2.st → VRow w7 (.slice oa7 r2.out.length oc7) r2.out → VRow w7 (.slice ha7 r3.length hc7) r3 → Touch X w7 [] → (∀ g, (Value.slice sa7 r2.st.length sc7).ownBlock = some g → X.heap.size ≤ g) → (∀ g, (Value.slice oa7 r2.out.length oc7).ownBlock = some g → X.heap.size ≤ g) → (∀ g, (Value.slice ha7 r3.length hc7).ownBlock = some g → X.heap.size ≤ g ∨ (Value.slice ha2 h1.length hc2).ownBlock = some g) → w7.there w.heap.size 0 7 ∧ ∀ W8, W8 = w7.setCells w.heap.size 0 (stA r2 (.slice sa7 r2.st.length sc7) (.slice oa7 r2.out.length oc7)).toList → RbAt w W8 b9 ⟨k0, S, l0, l1, l2, l3, O, fu⟩ r2 h r3 (.slice sa0 S.length sc0) (.slice oa0 O.length oc0) (.slice ah0 h.length ch0) (.slice sa7 r2.st.length sc7) (.slice oa7 r2.out.length oc7) (.slice ha7 r3.length hc7)) := fun w7 sa7 oa7 ha7 sc7 oc7 hc7 v1 v2 v3 t7 g1 g2 g3 => by
              have hat7 := HAX.out.keep t7
              exact ⟨st_there hat7.s, hat7.put v1 v2 v3 (fun g hg => by have := g1 g hg; omega) (fun g hg => by have := g2 g hg; omega) (fun g hg => by
                rcases g3 g hg with q | q
                · omega
                · exact HAX.out.fh g q)⟩
            clear hX1 hX0
            refine HTC.out.mono ?_
            rintro e w7 (⟨_, sa7, sc7, oa7, oc7, ha7, hc7, rfl, v1, v2, v3, t7, g1, g2, g3⟩ | ⟨hne, _⟩)
            · clear z0 z1 z2 z3 z4 z5 z6 m0
              obtain ⟨k1, k2⟩ := HNX.out w7 sa7 oa7 ha7 sc7 oc7 hc7 v1 v2 v3 t7 g1 g2 g3
              have HTH : Hid _ := k1
              have HM : Hid _ := k2
              clear k1 k2 g1 g2 g3 v1 v2 v3 t7 HTC HNX
              go_wp2_with (refine wpList_store_mid rfl 38 _ _ rfl w.heap.size 0 (stA r2 (.slice sa7 r2.st.length sc7) (.slice oa7 r2.out.length oc7)) ?_ ?_ ?_ ?_ ?_ ?_; rfl; rfl; exact HTH.out; exact Tryd.size_state; exact st_one _ _ _ _ _ _ _; refine wpList_nameR fun W8 hW8 => ?_; have H9 : Hid _ := HM.out W8 hW8; clear hW8 HTH HM)
              go_roundw
              case rel => exact ⟨n, r2, r3, sa7, oa7, ha7, sc7, oc7, hc7, rfl, rfl, rfl, by go_num, by omega, H9.out, HKE.out, HGO.out.2.symm⟩
              case measure => simp [intOf]
            · exact absurd rfl hne
          · go_wp2_with fail
            generalize hX : w1.alloc (.cells #[.int .u8 6, .int .i64 a, .int .u64 v] 62) = X at *
            have hX' := hX
            clear hX hX' e0 e1 e2 y0 y1 y2 y3 y4 y5 y6
            clear m1 m2
            have hX1 := HAX.out.hb
            have hX0 := lt_of_heap HAX.out.q.st
            have HNX : Hid (∀ (w7 : World) (sa7 oa7 ha7 : Option Addr) (sc7 oc7 hc7 : Nat), VRow w7 (.slice sa7 r2.st.length sc7) r2.st → VRow w7 (.slice oa7 r2.out.length oc7) r2.out → VRow w7 (.slice ha7 r3.length hc7) r3 → Touch X w7 [] → (∀ g, (Value.slice sa7 r2.st.length sc7).ownBlock = some g → X.heap.size ≤ g) → (∀ g, (Value.slice oa7 r2.out.length oc7).ownBlock = some g → X.heap.size ≤ g) → (∀ g, (Value.slice ha7 r3.length hc7).ownBlock = some g → X.heap.size ≤ g ∨ (Value.slice ha2 h1.length hc2).ownBlock = some g) → w7.there w.heap.size 0 7 ∧ ∀ W8, W8 = w7.setCells w.heap.size 0 (stA r2 (.slice sa7 r2.st.length sc7) (.slice oa7 r2.out.length oc7)).toList → RbAt w W8 b9 ⟨k0, S, l0, l1, l2, l3, O, fu⟩ r2 h r3 (.slice sa0 S.length sc0) (.slice oa0 O.length oc0) (.slice ah0 h.length ch0) (.slice sa7 r2.st.length sc7) (.slice oa7 r2.out.length oc7) (.slice ha7 r3.length hc7)) := fun w7 sa7 oa7 ha7 sc7 oc7 hc7 v1 v2 v3 t7 g1 g2 g3 => by
              have hat7 := HAX.out.keep t7
              exact ⟨st_there hat7.s, hat7.put v1 v2 v3 (fun g hg => by have := g1 g hg; omega) (fun g hg => by have := g2 g hg; omega) (fun g hg => by
                rcases g3 g hg with q | q
                · omega
                · exact HAX.out.fh g q)⟩
            clear hX1 hX0
            refine HTC.out.mono ?_
            rintro e w7 (⟨_, sa7, sc7, oa7, oc7, ha7, hc7, rfl, v1, v2, v3, t7, g1, g2, g3⟩ | ⟨hne, _⟩)
            · clear z0 z1 z2 z3 z4 z5 z6 m0
              obtain ⟨k1, k2⟩ := HNX.out w7 sa7 oa7 ha7 sc7 oc7 hc7 v1 v2 v3 t7 g1 g2 g3
              have HTH : Hid _ := k1
              have HM : Hid _ := k2
              clear k1 k2 g1 g2 g3 v1 v2 v3 t7 HTC HNX
              go_wp2_with (refine wpList_store_mid rfl 38 _ _ rfl w.heap.size 0 (stA r2 (.slice sa7 r2.st.length sc7) (.slice oa7 r2.out.length oc7)) ?_ ?_ ?_ ?_ ?_ ?_; rfl; rfl; exact HTH.out; exact Tryd.size_state; exact st_one _ _ _ _ _ _ _; refine wpList_nameR fun W8 hW8 => ?_; have H9 : Hid _ := HM.out W8 hW8; clear hW8 HTH HM)
              go_roundw
              case rel => exact ⟨n, r2, r3, sa7, oa7, ha7, sc7, oc7, hc7, rfl, rfl, rfl, by go_num, by omega, H9.out, HKE.out, HGO.out.2.symm⟩
              case measure => simp [intOf]
            · exact absurd rfl hne
          · go_wp2_with fail
            generalize hX : w1.alloc (.cells #[.int .u8 7, .int .i64 a, .int .u64 v] 62) = X at *
            have hX' := hX
            clear hX hX' e0 e1 e2 y0 y1 y2 y3 y4 y5 y6
            clear m1 m2
            have hX1 := HAX.out.hb
            have hX0 := lt_of_heap HAX.out.q.st
            have HNX : Hid (∀ (w7 : World) (sa7 oa7 ha7 : Option Addr) (sc7 oc7 hc7 : Nat), VRow w7 (.slice sa7 r2.st.length sc7) r2.st → VRow w7 (.slice oa7 r2.out.length oc7) r2.out → VRow w7 (.slice ha7 r3.length hc7) r3 → Touch X w7 [] → (∀ g, (Value.slice sa7 r2.st.length sc7).ownBlock = some g → X.heap.size ≤ g) → (∀ g, (Value.slice oa7 r2.out.length oc7).ownBlock = some g → X.heap.size ≤ g) → (∀ g, (Value.slice ha7 r3.length hc7).ownBlock = some g → X.heap.size ≤ g ∨ (Value.slice ha2 h1.length hc2).ownBlock = some g) → w7.there w.heap.size 0 7 ∧ ∀ W8, W8 = w7.setCells w.heap.size 0 (stA r2 (.slice sa7 r2.st.length sc7) (.slice oa7 r2.out.length oc7)).toList → RbAt w W8 b9 ⟨k0, S, l0, l1, l2, l3, O, fu⟩ r2 h r3 (.slice sa0 S.length sc0) (.slice oa0 O.length oc0) (.slice ah0 h.length ch0) (.slice sa7 r2.st.length sc7) (.slice oa7 r2.out.length oc7) (.slice ha7 r3.length hc7)) := fun w7 sa7 oa7 ha7 sc7 oc7 hc7 v1 v2 v3 t7 g1 g2 g3 => by
              have hat7 := HAX.out.keep t7
              exact ⟨st_there hat7.s, hat7.put v1 v2 v3 (fun g hg => by have := g1 g hg; omega) (fun g hg => by have := g2 g hg; omega) (fun g hg => by
                rcases g3 g hg with q | q
                · omega
                · exact HAX.out.fh g q)⟩
            clear hX1 hX0
            refine HTC.out.mono ?_
            rintro e w7 (⟨_, sa7, sc7, oa7, oc7, ha7, hc7, rfl, v1, v2, v3, t7, g1, g2, g3⟩ | ⟨hne, _⟩)
            · clear z0 z1 z2 z3 z4 z5 z6 m0
              obtain ⟨k1, k2⟩ := HNX.out w7 sa7 oa7 ha7 sc7 oc7 hc7 v1 v2 v3 t7 g1 g2 g3
              have HTH : Hid _ := k1
              have HM : Hid _ := k2
              clear k1 k2 g1 g2 g3 v1 v2 v3 t7 HTC HNX
              go_wp2_with (refine wpList_store_mid rfl 38 _ _ rfl w.heap.size 0 (stA r2 (.slice sa7 r2.st.length sc7) (.slice oa7 r2.out.length oc7)) ?_ ?_ ?_ ?_ ?_ ?_; rfl; rfl; exact HTH.out; exact Tryd.size_state; exact st_one _ _ _ _ _ _ _; refine wpList_nameR fun W8 hW8 => ?_; have H9 : Hid _ := HM.out W8 hW8; clear hW8 HTH HM)
              go_roundw
              case rel => exact ⟨n, r2, r3, sa7, oa7, ha7, sc7, oc7, hc7, rfl, rfl, rfl, by go_num, by omega, H9.out, HKE.out, HGO.out.2.symm⟩
              case measure => simp [intOf]
            · exact absurd rfl hne
        have hpl : ¬ (o = 22 ∨ o = 23 ∨ o = 24 ∨ o = 25 ∨ o = 26) := by omega
        have hrd := rdo_plain l ⟨k, S1, q0, q1, q2, q3, O1, fu1⟩ h1 o a v hbad htch hpl
        have hR := rrun_some (n := n) (D := ⟨k, S1, q0, q1, q2, q3, O1, fu1⟩) (h := h1) hh
        rw [hrun] at hR
        have HRT1 : HidC Tryd.prog 21 #[.agg #[.int .u8 o, .int .i64 a, .int .u64 v]] wr (fun e w' => e = .returned (.bool true) ∧ Touch wr w' []) := HRT.out ⟨o, a, v⟩ hiw hri wr
        obtain ⟨d0, d1, d2⟩ := HI.out wr hat.t k hkl
        rw [hlk] at d0 d1 d2
        obtain ⟨x0, x1, x2, x3, x4, x5, x6⟩ := hat.s.cells
        simp only at d0 d1 d2 x0 x1 x2 x3 x4 x5 x6
        have HAT : Hid _ := hat
        have HSW1 : Hid _ := hsw
        have HRR : Hid _ := hR
        have hll := HLL.out
        have hk0 : (0 : Int) ≤ k := by omega
        have hk1 : (k : Int) < l.length := by omega
        have hm0 : ¬ ((n : Int) + 1 = 0) := by omega
        have hm1 : IntKind.i64.wrap ((n : Int) + 1 - 1) = n := by rw [IntKind.wrap_i64]; omega
        have hkw : IntKind.i64.wrap ((k : Int) + 1) = (k : Int) + 1 := by rw [IntKind.wrap_i64]; omega
        have HLK : Hid _ := hlk
        have HPC : Hid _ := hh
        clear hll hat hsw hR hrun hh hlk hri hiw
        go_wp2_with fail
        refine HRT1.out.mono ?_
        rintro e w1 ⟨rfl, t1⟩
        have hat1 := HAT.out.keep t1
        obtain ⟨e0, e1, e2⟩ := HI.out w1 hat1.t k hkl
        rw [HLK.out] at e0 e1 e2
        obtain ⟨y0, y1, y2, y3, y4, y5, y6⟩ := hat1.s.cells
        simp only at e0 e1 e2 y0 y1 y2 y3 y4 y5 y6
        have tX : Touch w1 (w1.alloc (.cells #[.int .u8 o, .int .i64 a, .int .u64 v] 62)) [] := (Touch.refl w1 []).alloc _
        have HXB : Hid (IxB (w1.alloc (.cells #[.int .u8 o, .int .i64 a, .int .u64 v] 62)) w1.heap.size ⟨o, a, v⟩) := ⟨heap_alloc_new w1 _⟩
        have hatX := hat1.keep tX
        obtain ⟨m0, m1, m2⟩ := HXB.out.cells
        obtain ⟨z0, z1, z2, z3, z4, z5, z6⟩ := hatX.s.cells
        simp only at m0 m1 m2 z0 z1 z2 z3 z4 z5 z6
        have f0 := hatX.s.fr 0
        have HAX : Hid _ := hatX
        have HXS : Hid ((w1.alloc (.cells #[.int .u8 o, .int .i64 a, .int .u64 v] 62)).heap.size = w1.heap.size + 1) := by show _ = _; simp
        clear x0 x1 x2 x3 x4 x5 x6 d0 d1 d2 HRT1 hat1 tX hatX t1 HAT
        have hgo := rgo HRR.out h22 HOK.out (by rw [hrd]; exact step_err _ _)
        have hke := rdo_keep (D := ⟨k, S1, q0, q1, q2, q3, O1, fu1⟩) HSW1.out HLW.out (i := ⟨o, a, v⟩) h22 (fun _ => by simp only; omega) hgo.1
        rw [hrd] at hgo hke
        simp only at hgo hke
        have tS : Touch (w1.alloc (.cells #[.int .u8 o, .int .i64 a, .int .u64 v] 62)) ((w1.alloc (.cells #[.int .u8 o, .int .i64 a, .int .u64 v] 62)).alloc (.cells #[.int .i64 0, .slice none 0 0, .int .u64 0, .int .u64 0, .int .u64 0, .int .u64 0, .slice none 0 0] 38)) [] := (Touch.refl _ []).alloc _
        have hatS := HAX.out.keep tS
        have HTC : HidC _ _ _ _ _ := HST.out ((w1.alloc (.cells #[.int .u8 o, .int .i64 a, .int .u64 v] 62)).alloc (.cells #[.int .i64 0, .slice none 0 0, .int .u64 0, .int .u64 0, .int .u64 0, .int .u64 0, .slice none 0 0] 38)) ⟨k, S1, q0, q1, q2, q3, O1, fu1⟩ sa2 sc2 oa2 oc2 h1 hatS.t hatS.rs hatS.ro HSW1.out
        have HTB : Hid (StB ((w1.alloc (.cells #[.int .u8 o, .int .i64 a, .int .u64 v] 62)).alloc (.cells #[.int .i64 0, .slice none 0 0, .int .u64 0, .int .u64 0, .int .u64 0, .int .u64 0, .slice none 0 0] 38)) (w1.alloc (.cells #[.int .u8 o, .int .i64 a, .int .u64 v] 62)).heap.size zWD (.slice none 0 0) (.slice none 0 0)) := ⟨heap_alloc_new _ _⟩
        rw [HXS.out] at HTB
        have HAS : Hid _ := hatS
        obtain ⟨s0, s1, s2, s3, s4, s5, s6⟩ := hatS.s.cells
        simp only at s0 s1 s2 s3 s4 s5 s6
        have HGO : Hid _ := hgo
        have HKE : Hid _ := hke
        generalize stepW l ⟨k, S1, q0, q1, q2, q3, O1, fu1⟩ = r at *
        obtain ⟨r1, r2⟩ := r
        simp only at HTC HGO HKE
        clear hgo hke hrd tS hatS
        have n4 : o ≠ 4 := by omega
        have n5 : o ≠ 5 := by omega
        have n6 : o ≠ 6 := by omega
        have n7 : o ≠ 7 := by omega
        have n23 : o ≠ 23 := hnar.1
        have n24 : o ≠ 24 := hnar.2.1
        have n25 : o ≠ 25 := hnar.2.2
        have n27 : o ≠ 27 := by omega
        have n28 : o ≠ 28 := by omega
        have n21 : o ≠ 21 := by omega
        clear m1 m2 z0 z1 z2 z3 z4 z5 z6 f0
        go_wp2_with fail
        generalize hX : w1.alloc (.cells #[.int .u8 o, .int .i64 a, .int .u64 v] 62) = X at *
        have hX' := hX
        clear hX hX' e0 e1 e2 y0 y1 y2 y3 y4 y5 y6
        generalize hY : X.alloc (.cells #[.int .i64 0, .slice none 0 0, .int .u64 0, .int .u64 0, .int .u64 0, .int .u64 0, .slice none 0 0] 38) = Y at *
        have HXY : Hid (Touch X Y []) := by rw [← hY]; exact (Touch.refl X []).alloc _
        have HYS : Hid (Y.heap.size = X.heap.size + 1) := by show _ = _; rw [← hY]; simp
        have hY' := hY
        clear hY hY'
        refine HTC.out.mono ?_
        rintro e w7 (⟨_, sa7, sc7, oa7, oc7, rfl, v1, v2, t7, g1, g2⟩ | ⟨hne, _⟩)
        · clear s0 s1 s2 s3 s4 s5 s6 m0
          have hxs := HXS.out
          have hys := HYS.out
          have hX2 : w.heap.size + 2 ≤ X.heap.size := by have := HAX.out.hb; have := lt_of_heap HAX.out.q.st; omega
          have hb7 := HTB.out.touch t7 (by simp)
          have HTH : Hid _ := st_there hb7
          have HM : Hid (∀ W, W = w7.setCells (w1.heap.size + 1) 0 (stA r2 (.slice sa7 r2.st.length sc7) (.slice oa7 r2.out.length oc7)).toList → StB W (w1.heap.size + 1) r2 (.slice sa7 r2.st.length sc7) (.slice oa7 r2.out.length oc7) ∧ W.there w.heap.size 0 7 ∧ ∀ W8, W8 = W.setCells w.heap.size 0 (stA r2 (.slice sa7 r2.st.length sc7) (.slice oa7 r2.out.length oc7)).toList → RbAt w W8 b9 ⟨k0, S, l0, l1, l2, l3, O, fu⟩ r2 h h1 (.slice sa0 S.length sc0) (.slice oa0 O.length oc0) (.slice ah0 h.length ch0) (.slice sa7 r2.st.length sc7) (.slice oa7 r2.out.length oc7) (.slice ha2 h1.length hc2)) := fun W hW => by
            obtain ⟨k1, tp⟩ := st_sets hb7 r2 (.slice sa7 r2.st.length sc7) (.slice oa7 r2.out.length oc7) W hW
            have T : Touch X W [] := (HXY.out.trans t7 (by simp)).trans tp (fun x hx => .inr (by simp at hx; omega))
            have hatW := HAX.out.keep T
            have y1 : VRow W (.slice sa7 r2.st.length sc7) r2.st := SRow.keepB v1 tp (fun _ g hg hs => by have := g1 g hg; simp at hs; omega)
            have y2 : VRow W (.slice oa7 r2.out.length oc7) r2.out := SRow.keepB v2 tp (fun _ g hg hs => by have := g2 g hg; simp at hs; omega)
            exact ⟨k1, st_there hatW.s, hatW.put y1 y2 hatW.rh (fun g hg => by have := g1 g hg; omega) (fun g hg => by have := g2 g hg; omega) hatW.fh⟩
          clear hb7 hxs hys hX2 g1 g2 v1 v2 t7 HTC HTB HXY HYS HXS
          go_wp2_with first | (refine wpList_store_mid rfl 38 _ _ rfl (w1.heap.size + 1) 0 (stA r2 (.slice sa7 r2.st.length sc7) (.slice oa7 r2.out.length oc7)) ?_ ?_ ?_ ?_ ?_ ?_; rfl; rfl; exact HTH.out; exact Tryd.size_state; exact st_one _ _ _ _ _ _ _; refine wpList_nameR fun W7 hW7 => ?_; obtain ⟨k1, k2, k3⟩ := HM.out W7 hW7; have HTH2 : Hid _ := k2; have HM2 : Hid _ := k3; obtain ⟨z0, z1, z2, z3, z4, z5, z6⟩ := k1.cells; clear hW7 k1 k2 k3 HTH HM) | (refine wpList_store_mid rfl 38 _ _ rfl w.heap.size 0 (stA r2 (.slice sa7 r2.st.length sc7) (.slice oa7 r2.out.length oc7)) ?_ ?_ ?_ ?_ ?_ ?_; rfl; rfl; exact HTH2.out; exact Tryd.size_state; exact st_one _ _ _ _ _ _ _; refine wpList_nameR fun W8 hW8 => ?_; have H9 : Hid _ := HM2.out W8 hW8; clear hW8 HTH2 HM2)
          go_roundw
          case rel => exact ⟨n, r2, h1, sa7, oa7, ha2, sc7, oc7, hc2, rfl, rfl, rfl, by go_num, by omega, H9.out, HKE.out, HGO.out.2.symm⟩
          case measure => simp [intOf]
        · exact absurd HGO.out.1 hne

end Go.Proofs.YtkpgfchglaemgaaDoor

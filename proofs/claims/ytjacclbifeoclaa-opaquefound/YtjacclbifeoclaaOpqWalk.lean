/-
  package opaque: walked, Legal, Heap BY THEIR CONTRACTS.
-/
import Derived.Test.YtjacclbifeoclaaOpqLegal
namespace Go.Proofs.Ytjacclbifeoclaa
set_option linter.unusedVariables false
set_option linter.unusedSimpArgs false
open Go.RowKit Go.Maps
attribute [local go_sem] Oper.semAt_some

/-- What walked comes to. -/
def WalkE (w : World) (res : Nat × Int × List Int) (e : Ending) (w' : World) : Prop :=
  Touch w w' [] ∧ ((res.2.1 ≠ 0 ∧ e = .returned (.tuple #[.pointer none, .int .i64 res.1, .int .i64 res.2.1])) ∨
    (res.2.1 = 0 ∧ res.1 = 0 ∧ ∃ rb ve vc vl ah nh ch, e = .returned (.tuple #[ptr rb, .int .i64 0, .int .i64 0]) ∧ RowAt w' rb ve vc vl (.slice ah nh ch) ∧ VRow w' (.slice ah nh ch) res.2.2))

theorem walkO_zero (l : List EvD) (com : List Int) : ∀ (o lf hp : List Int) (k : Nat), (walkO l com o lf hp k).2.1 = 0 → (walkO l com o lf hp k).1 = 0
  | [], _, _, _, _ => rfl
  | a :: o, lf, hp, k, h => by
    unfold walkO at *
    split
    · rename_i h1
      rw [if_pos h1] at h
      exact walkO_zero l com o _ _ _ h
    · rename_i h1
      rw [if_neg h1] at h
      exact absurd h h1

set_option maxRecDepth 100000 in
set_option maxHeartbeats 4000000 in
theorem walked_any {w : World} {ve vh vo vc : Value} {l : List EvD} {hp o com : List Int} (hr : EvRow w ve l) (hl : l.length ≤ 1000) (hwf : ∀ e ∈ l, e.Wf) (hh : VRow w vh hp) (hhl : hp.length ≤ 9223372036854775807)
    (ho : IRow w vo o) (hol : o.length ≤ 9223372036854775807) (hocap : ∀ ao n cap, vo = .slice ao n cap → n ≤ cap) (hc : IRow w vc com) (hcl : com.length ≤ 9223372036854775807) (hcap : ∀ ao n cap, vc = .slice ao n cap → n ≤ cap) :
    Calls Try.prog 31 #[ve, vh, vo, vc] w (WalkE w (legalP l hp o com)) := by
  have hbg := begun_any hr hl hwf hh hhl hc hcl hcap
  obtain ⟨res, hres⟩ : ∃ r, r = legalP l hp o com := ⟨_, rfl⟩
  rw [← hres]
  have HRES : Hid (res = legalP l hp o com) := hres
  obtain ⟨aE, cE, rfl⟩ := hr.form
  obtain ⟨aH, cH, rfl⟩ := hh.form
  obtain ⟨aO, cO, rfl⟩ := ho.form
  obtain ⟨aC, cC, rfl⟩ := hc.form
  have HHO : Hid (IRow w (.slice aO o.length cO) o) := ho
  have HOC : Hid (∀ ao n cap, Value.slice aO o.length cO = .slice ao n cap → n ≤ cap) := hocap
  have HWF : Hid (∀ e ∈ l, e.Wf) := hwf
  have HOL : Hid _ := hol
  clear hr hh ho hc hocap hcap hres hwf
  generalize hNo : o.length = NO at hol ⊢
  have HNO : Hid (o.length = NO) := hNo
  clear hNo
  generalize hp.length = NH at hhl hbg ⊢
  generalize com.length = NC at hcl hbg ⊢
  generalize hNe : l.length = NE at hbg ⊢
  have HNE : Hid (l.length = NE) := hNe
  clear hNe
  go_enter Try.func31, Try.ntmps31
  go_wp2_with fail
  refine hbg.mono ?_
  intro e w1 hbe
  clear hbg
  rcases hbe with ⟨he, rfl, t1⟩ | ⟨he, rb, vc, vl, vh, rfl, hrow, hrb, t1⟩
  · have HR : Hid (res = (0, begE l hp com, [])) := by show _ = _; rw [HRES.out]; unfold legalP; rw [if_pos he]
    have HE : Hid _ := he
    generalize begE l hp com = er at *
    clear HRES
    go_wp2
    go_ret3
    refine ⟨t1, .inl ?_⟩
    rw [HR.out]
    exact ⟨HE.out, rfl⟩
  · obtain ⟨aL, cL, rfl⟩ := hrow.lf.form
    obtain ⟨c0, c1, c2, c3⟩ := hrow.row.cells
    have hal : (attS l).length ≤ 1000 := Nat.le_trans (attS_le l) hl
    have heo := eachOnce_any (SRow.keep HHO.out t1 (by simp)) hrow.lf HOC.out HOL.out (by omega)
    rw [HNO.out] at heo
    have HROW : Hid (RowO w1 rb (.slice aE NE cE) vc (.slice aL (attS l).length cL) vh l (com ++ inS l 3) (attS l) hp) := hrow
    have HRES2 : Hid (res = if ordOk l o = false then (0, 2, []) else walkO l (com ++ inS l 3) o (attS l) hp 0) := by show _ = _; rw [HRES.out]; unfold legalP; rw [if_neg (by rw [he]; simp)]
    have HT1 : Hid (Touch w w1 []) := t1
    have HRB : Hid _ := hrb
    have HNM : Hid (∀ e ∈ l, namedS e = true) := right_named (by
      unfold begE at he
      cases hq : rightS l with
      | true => rfl
      | false => rw [if_pos (.inl hq)] at he; cases he)
    have HHL : Hid (hp.length ≤ 12) := by
      unfold begE at he
      cases hq : heapOk hp with
      | true =>
        unfold heapOk at hq
        simp only [Bool.and_eq_true, decide_eq_true_eq] at hq
        exact hq.2
      | false => rw [if_pos (.inr hq)] at he; cases he
    have HCL : Hid ((com ++ inS l 3).length ≤ 100000) := by
      unfold begE at he
      cases hq : eachP com (inS l 2) with
      | true =>
        unfold eachP at hq
        simp only [decide_eq_true_eq] at hq
        have h1 := List.Nodup.length_le_of_subset hq.1 hq.2
        have h2 : (inS l 2).length ≤ (attS l).length := List.length_filter_le _ _
        have h3 : (inS l 3).length ≤ (attS l).length := List.length_filter_le _ _
        show _ ≤ _
        rw [List.length_append]
        omega
      | false =>
        rw [hq] at he
        split at he
        · cases he
        · simp at he
    clear hrow he t1 hrb HRES c0 c1 c3
    generalize hNA : (attS l).length = NA at hal heo HROW c2
    have HNA : Hid (ordOk l o = (decide (NO = NA) && eachP o (attS l))) := by show _ = _; unfold ordOk; rw [HNO.out, hNA]
    have HNA2 : Hid _ := hNA
    clear hNA
    by_cases hlen : NO = NA
    · subst hlen
      have q1 : ¬ ((NO : Int) ≠ NO) := by simp
      cases he : eachP o (attS l) with
      | false =>
        rw [he] at heo
        have HR : Hid (res = (0, 2, [])) := by show _ = _; rw [HRES2.out, HNA.out, he]; simp
        clear he HRES2 HNA
        go_wp2_with fail
        refine heo.mono ?_
        rintro e w2 ⟨rfl, rfl⟩
        clear heo
        go_wp2
        go_ret3
        refine ⟨HT1.out, .inl ?_⟩
        rw [HR.out]
        exact ⟨by decide, rfl⟩
      | true =>
        rw [he] at heo
        have HR : Hid (res = walkO l (com ++ inS l 3) (o.drop 0) (attS l) hp 0) := by show _ = _; rw [HRES2.out, HNA.out, he]; simp
        clear he HRES2 HNA
        go_wp2_with fail
        refine heo.mono ?_
        rintro e w2 ⟨rfl, rfl⟩
        clear heo c2
        go_wp2_with fail
        go_loopw [46] (fun i wr => ∃ (k : Nat) (vl vh : Value) (lf h : List Int), i = .int .i64 k ∧ k ≤ NO ∧ res = walkO l (com ++ inS l 3) (o.drop k) lf h k ∧ RowO wr rb (.slice aE NE cE) vc vl vh l (com ++ inS l 3) lf h ∧ lf.length ≤ 1000 ∧ h.length ≤ 12 ∧ Touch w1 wr [rb]) (fun i _ => NO - (intOf i).toNat)
        case atStart => exact ⟨0, _, _, attS l, hp, rfl, Nat.zero_le _, HR.out, HROW.out, by rw [HNA2.out]; exact hal, HHL.out, Touch.refl _ _⟩
        case round =>
          obtain ⟨k, vl, vh, lf, h, rfl, hk, hrs, hrow, hlf, hh, t2⟩ := hrel
          clear HR HROW
          have HT2 : Hid (Touch w wr []) := HT1.out.trans t2 (fun x hx => .inr (by simp at hx; subst hx; exact HRB.out))
          by_cases hlt : k < NO
          · have h1 : (k : Int) < NO := by omega
            have h0 : (0 : Int) ≤ k := by omega
            have hkl : k < o.length := by rw [HNO.out]; exact hlt
            obtain ⟨g, off, rfl, hg, d0⟩ := IRow.one (SRow.keep HHO.out HT2.out (by simp)) k hkl
            rw [walkO_drop hkl] at hrs
            generalize o[k] = a at *
            have hpu := oput_any hrow (by rw [HNE.out]; have := HNE.out; omega) HWF.out HNM.out HCL.out (by omega) hh a
            have hle := putO_len l (com ++ inS l 3) lf h a
            have hz := walkO_zero l (com ++ inS l 3)
            generalize hpq : putO l (com ++ inS l 3) lf h a = pr at *
            obtain ⟨er, lf', h'⟩ := pr
            have HE3 : Hid _ := putO_err l (com ++ inS l 3) lf h a
            rw [hpq] at HE3
            simp only at hpu hrs hle HE3
            have HRS : Hid _ := hrs
            have HT3 : Hid (Touch w1 wr [rb]) := t2
            have HLE : Hid _ := hle
            clear hpq hrs t2 hrow hz hle
            by_cases he0 : er = 0
            · subst he0
              have HRS2 : Hid (res = walkO l (com ++ inS l 3) (o.drop (k + 1)) lf' h' (k + 1)) := by have := HRS.out; rw [if_pos rfl] at this; exact this
              clear HRS
              go_wp2_with fail
              refine hpu.mono ?_
              rintro e w3 ⟨fv, vl', vh', rfl, hrow, t3, hbk, _, _⟩
              clear hpu
              obtain ⟨p, q, r, rfl, _⟩ := (hbk (by trivial)).is
              clear hbk
              have HROW3 : Hid (RowO w3 rb (.slice aE NE cE) vc vl' vh' l (com ++ inS l 3) lf' h') := hrow
              have HT4 : Hid (Touch w1 w3 [rb]) := HT3.out.trans t3 (fun x hx => .inl hx)
              clear hrow t3
              go_wp2
              go_roundw
              case rel => exact ⟨k + 1, vl', vh', lf', h', by go_num, by omega, HRS2.out, HROW3.out, Nat.le_trans HLE.out.1 hlf, by rw [HLE.out.2]; exact hh, HT4.out⟩
              case measure => simp [intOf]; omega
            · have HRS2 : Hid (res = (k, er, [])) := by have := HRS.out; rw [if_neg he0] at this; exact this
              have he0' : (er == 0) = false := by simpa using he0
              have HZ : Hid _ := he0
              clear HRS
              go_wp2_with fail
              refine hpu.mono ?_
              rintro e w3 ⟨fv, vl', vh', rfl, hrow, t3, hbk, _, _⟩
              clear hpu hbk
              have HT4 : Hid (Touch w w3 []) := HT2.out.trans t3 (fun x hx => .inr (by simp at hx; subst hx; exact HRB.out))
              clear hrow t3
              go_wp2
              go_ret3
              refine ⟨HT4.out, .inl ?_⟩
              rw [HRS2.out]
              exact ⟨HZ.out, rfl⟩
          · obtain rfl : k = NO := by omega
            have hall : o.drop k = [] := by rw [← HNO.out, List.drop_length]
            rw [hall] at hrs
            have HRS : Hid (res = (0, 0, h)) := hrs
            have HROW3 : Hid (RowO wr rb (.slice aE NE cE) vc vl vh l (com ++ inS l 3) lf h) := hrow
            clear hrs hrow hall t2
            go_wp2
            go_ret3
            obtain ⟨ah, ch, hf⟩ := HROW3.out.hp.form
            have hr := HROW3.out.row
            have hv := HROW3.out.hp
            rw [hf] at hr hv
            refine ⟨HT2.out, .inr ?_⟩
            rw [HRS.out]
            exact ⟨rfl, rfl, rb, _, _, _, ah, _, ch, rfl, hr, hv⟩
    · have q1 : ((NO : Int) == NA) = false := by simp; omega
      have q2 : ¬ ((NO : Int) = NA) := by omega
      have HR : Hid (res = (0, 2, [])) := by show _ = _; rw [HRES2.out, HNA.out, decide_eq_false hlen]; rfl
      clear HRES2 HNA heo
      go_wp2
      go_ret3
      refine ⟨HT1.out, .inl ?_⟩
      rw [HR.out]
      exact ⟨by decide, rfl⟩

/-- What Legal tells. -/
def LegE (w : World) (res : Nat × Int × List Int) (e : Ending) (w' : World) : Prop := e = .returned (.tuple #[.int .i64 res.1, .int .i64 res.2.1]) ∧ Touch w w' []
def HeapE (w : World) (res : Nat × Int × List Int) (e : Ending) (w' : World) : Prop := Touch w w' [] ∧ ((res.2.1 ≠ 0 ∧ e = .returned (.tuple #[.slice none 0 0, .int .i64 res.2.1])) ∨ (res.2.1 = 0 ∧ ∃ a n c, e = .returned (.tuple #[.slice a n c, .int .i64 0]) ∧ VRow w' (.slice a n c) res.2.2))

set_option maxRecDepth 100000 in
set_option maxHeartbeats 4000000 in
theorem legal_any {w : World} {ve vh vo vc : Value} {l : List EvD} {hp o com : List Int} (hr : EvRow w ve l) (hl : l.length ≤ 1000) (hwf : ∀ e ∈ l, e.Wf) (hh : VRow w vh hp) (hhl : hp.length ≤ 9223372036854775807)
    (ho : IRow w vo o) (hol : o.length ≤ 9223372036854775807) (hocap : ∀ ao n cap, vo = .slice ao n cap → n ≤ cap) (hc : IRow w vc com) (hcl : com.length ≤ 9223372036854775807) (hcap : ∀ ao n cap, vc = .slice ao n cap → n ≤ cap) :
    Calls Try.prog 14 #[ve, vh, vo, vc] w (LegE w (legalP l hp o com)) := by
  have hwk := walked_any hr hl hwf hh hhl ho hol hocap hc hcl hcap
  obtain ⟨aE, cE, rfl⟩ := hr.form
  obtain ⟨aH, cH, rfl⟩ := hh.form
  obtain ⟨aO, cO, rfl⟩ := ho.form
  obtain ⟨aC, cC, rfl⟩ := hc.form
  generalize legalP l hp o com = res at *
  clear hr hh ho hc hocap hcap hwf
  generalize l.length = N1 at *
  generalize hp.length = N2 at *
  generalize o.length = N3 at *
  generalize com.length = N4 at *
  obtain ⟨pl, er, h⟩ := res
  go_enter Try.func14, Try.ntmps14
  go_wp2_with fail
  refine hwk.mono ?_
  rintro e w1 ⟨t1, ⟨he, rfl⟩ | ⟨he, hpl, rb, v1, v2, v3, ah, nh, ch, rfl, _, _⟩⟩
  · clear hwk
    simp only at he
    have HE : Hid _ := he
    clear he
    go_wp2
    go_ret2
    exact ⟨rfl, t1⟩
  · clear hwk
    simp only at he hpl
    subst he hpl
    go_wp2
    go_ret2
    exact ⟨rfl, t1⟩

set_option maxRecDepth 100000 in
set_option maxHeartbeats 4000000 in
theorem heap_any {w : World} {ve vh vo vc : Value} {l : List EvD} {hp o com : List Int} (hr : EvRow w ve l) (hl : l.length ≤ 1000) (hwf : ∀ e ∈ l, e.Wf) (hh : VRow w vh hp) (hhl : hp.length ≤ 9223372036854775807)
    (ho : IRow w vo o) (hol : o.length ≤ 9223372036854775807) (hocap : ∀ ao n cap, vo = .slice ao n cap → n ≤ cap) (hc : IRow w vc com) (hcl : com.length ≤ 9223372036854775807) (hcap : ∀ ao n cap, vc = .slice ao n cap → n ≤ cap) :
    Calls Try.prog 21 #[ve, vh, vo, vc] w (HeapE w (legalP l hp o com)) := by
  have hwk := walked_any hr hl hwf hh hhl ho hol hocap hc hcl hcap
  obtain ⟨aE, cE, rfl⟩ := hr.form
  obtain ⟨aH, cH, rfl⟩ := hh.form
  obtain ⟨aO, cO, rfl⟩ := ho.form
  obtain ⟨aC, cC, rfl⟩ := hc.form
  generalize legalP l hp o com = res at *
  clear hr hh ho hc hocap hcap hwf
  generalize l.length = N1 at *
  generalize hp.length = N2 at *
  generalize o.length = N3 at *
  generalize com.length = N4 at *
  obtain ⟨pl, er, h⟩ := res
  go_enter Try.func21, Try.ntmps21
  go_wp2_with fail
  refine hwk.mono ?_
  rintro e w1 ⟨t1, ⟨he, rfl⟩ | ⟨he, hpl, rb, v1, v2, v3, ah, nh, ch, rfl, hra, hv⟩⟩
  · clear hwk
    simp only at he
    have HE : Hid _ := he
    have he' : (er == 0) = false := by simpa using he
    go_wp2
    go_ret2
    exact ⟨t1, .inl ⟨HE.out, rfl⟩⟩
  · clear hwk
    simp only at he hpl
    obtain ⟨c0, c1, c2, c3⟩ := hra.cells
    have HV : Hid (VRow w1 (.slice ah nh ch) h) := hv
    subst he hpl
    clear hv hra c0 c1 c2
    go_wp2
    go_ret2
    exact ⟨t1, .inr ⟨rfl, ah, nh, ch, rfl, HV.out⟩⟩

end Go.Proofs.Ytjacclbifeoclaa

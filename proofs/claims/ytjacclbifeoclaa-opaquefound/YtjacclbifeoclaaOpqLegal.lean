/-
  package opaque: begun, walked, Legal, Heap BY THEIR CONTRACTS.
-/
import Derived.Test.YtjacclbifeoclaaOpqPut
import Derived.Test.YtjacclbifeoclaaOpqConcat
import Derived.Test.YtjacclbifeoclaaHistEnds
namespace Go.Proofs.Ytjacclbifeoclaa
set_option linter.unusedVariables false
set_option linter.unusedSimpArgs false
open Go.RowKit Go.Maps
attribute [local go_sem] Oper.semAt_some

/-! ### Plain data -/
def inS (l : List EvD) (s : Int) : List Int := (attS l).filter fun x => !(stateS l x != s)
def begE (l : List EvD) (hp com : List Int) : Int := if rightS l = false ∨ heapOk hp = false then 3 else if eachP com (inS l 2) = false then 2 else 0
def walkO (l : List EvD) (com : List Int) : List Int → List Int → List Int → Nat → Nat × Int × List Int
  | [], _, hp, _ => (0, 0, hp)
  | a :: o, lf, hp, k => if (putO l com lf hp a).1 = 0 then walkO l com o (putO l com lf hp a).2.1 (putO l com lf hp a).2.2 (k + 1) else (k, (putO l com lf hp a).1, [])
def ordOk (l : List EvD) (o : List Int) : Bool := decide (o.length = (attS l).length) && eachP o (attS l)
def legalP (l : List EvD) (hp o com : List Int) : Nat × Int × List Int :=
  if begE l hp com ≠ 0 then (0, begE l hp com, []) else if ordOk l o = false then (0, 2, []) else walkO l (com ++ inS l 3) o (attS l) hp 0
theorem walkO_drop {l : List EvD} {com o lf hp : List Int} {k j : Nat} (hk : k < o.length) : walkO l com (o.drop k) lf hp j = if (putO l com lf hp o[k]).1 = 0 then walkO l com (o.drop (k + 1)) (putO l com lf hp o[k]).2.1 (putO l com lf hp o[k]).2.2 (j + 1) else (j, (putO l com lf hp o[k]).1, []) := by
  rw [List.drop_eq_getElem_cons hk]
  rfl
theorem putO_len (l : List EvD) (com lf hp : List Int) (a : Int) : (putO l com lf hp a).2.1.length ≤ lf.length ∧ (putO l com lf hp a).2.2.length = hp.length := by
  unfold putO
  split
  · exact ⟨Nat.le_refl _, rfl⟩
  · split
    · exact ⟨Nat.le_refl _, rfl⟩
    · exact ⟨List.length_filter_le _ _, behP_len _ _ _ _⟩
theorem putO_err (l : List EvD) (com lf hp : List Int) (a : Int) : (putO l com lf hp a).1 = 0 ∨ (putO l com lf hp a).1 = 8 ∨ (putO l com lf hp a).1 = 9 := by
  unfold putO
  split
  · exact .inr (.inl rfl)
  · split
    · exact .inr (.inr rfl)
    · exact .inl rfl
theorem putO_stay {l : List EvD} {com lf hp : List Int} {a : Int} (h : (putO l com lf hp a).1 ≠ 0) : (putO l com lf hp a).2 = (lf, hp) := by
  unfold putO at *
  split
  · rfl
  · split
    · rfl
    · rename_i h1 h2
      rw [if_neg h1, if_neg h2] at h
      exact absurd rfl h
theorem behind_named {st : Int} {Fs : List Fr} {e : EvD} (h : (behindS st Fs e).isSome = true) : namedS e = true := by
  unfold behindS at h
  cases hq : namedS e with
  | true => rfl
  | false => rw [if_pos hq] at h; cases h
theorem run_named (l : List EvD) : ∀ M N, runC M l = some N → ∀ e ∈ l, namedS e = true := by
  induction l with
  | nil => intro M N _ e he; simp at he
  | cons x l ih =>
    intro M N h e he
    unfold runC at h
    cases hs : stepC M x with
    | none => rw [hs] at h; cases h
    | some M1 =>
      rw [hs] at h
      rcases List.mem_cons.1 he with rfl | he
      · unfold stepC at hs
        split at hs
        · refine behind_named (st := stC M e.a) (Fs := fsC M e.a) ?_
          cases hb : behindS (stC M e.a) (fsC M e.a) e with
          | none => rw [hb] at hs; cases hs
          | some r => rfl
        · cases hs
      · exact ih M1 N h e he
theorem right_named {l : List EvD} (h : rightS l = true) : ∀ e ∈ l, namedS e = true := by
  unfold rightS at h
  simp only [Bool.and_eq_true, decide_eq_true_eq] at h
  cases hr : runC (fun _ => none) l with
  | none => rw [hr] at h; simp at h
  | some N => exact run_named l _ _ hr

/-- What begun comes to. -/
def BegE (w : World) (ve : Value) (l : List EvD) (hp com : List Int) (er : Int) (e : Ending) (w' : World) : Prop :=
  (er ≠ 0 ∧ e = .returned (.tuple #[.pointer none, .int .i64 er]) ∧ Touch w w' []) ∨
  (er = 0 ∧ ∃ rb vc vl vh, e = .returned (.tuple #[ptr rb, .int .i64 0]) ∧ RowO w' rb ve vc vl vh l (com ++ inS l 3) (attS l) hp ∧ w.heap.size ≤ rb ∧ Touch w w' [])

set_option maxRecDepth 100000 in
set_option maxHeartbeats 4000000 in
theorem begun_any {w : World} {ve vh vc : Value} {l : List EvD} {hp com : List Int} (hr : EvRow w ve l) (hl : l.length ≤ 1000) (hwf : ∀ e ∈ l, e.Wf) (hh : VRow w vh hp) (hhl : hp.length ≤ 9223372036854775807) (hc : IRow w vc com) (hcl : com.length ≤ 9223372036854775807) (hcap : ∀ ao n cap, vc = .slice ao n cap → n ≤ cap) :
    Calls Try.prog 25 #[ve, vh, vc] w (BegE w ve l hp com (begE l hp com)) := by
  obtain ⟨ao, cap, rfl⟩ := hr.form
  have hrt := right_of hr hl hwf
  have HIS : Hid (∀ W, Touch w W [] → Calls Try.prog 40 #[vh] W fun e w' => e = .returned (.bool (heapOk hp)) ∧ W = w') := fun W t => isHeap_any (SRow.keep hh t (by simp)) hhl
  have HIN : Hid (∀ s W, Touch w W [] → Calls Try.prog 42 #[.slice ao l.length cap, .int .u8 s] W fun x w' => ∃ v, x = .returned v ∧ intOwn w' W.heap.size v (inS l s) ∧ Touch W w' []) := fun s W t => in_any (SRow.keep hr t (by simp)) hl hwf s
  have HEO : Hid (∀ W v, Touch w W [] → IRow W v (inS l 2) → Calls Try.prog 41 #[vc, v] W fun e w' => e = .returned (.bool (eachP com (inS l 2))) ∧ W = w') := fun W v t hv => eachOnce_any (SRow.keep hc t (by simp)) hv hcap hcl (by
    have h1 : (inS l 2).length ≤ (attS l).length := List.length_filter_le _ _
    have h2 := attS_le l
    omega)
  have HAT : Hid (∀ W, Touch w W [] → Calls Try.prog 15 #[.slice ao l.length cap] W fun x w' => ∃ v, x = .returned v ∧ intOwn w' W.heap.size v (attS l) ∧ Touch W w' []) := fun W t => attempts_any (SRow.keep hr t (by simp)) hl hwf
  have HHH : Hid (VRow w vh hp) := hh
  have HCC : Hid (IRow w vc com) := hc
  have HRR : Hid (EvRow w (.slice ao l.length cap) l) := hr
  have HIL : Hid (∀ s, (inS l s).length ≤ 1000) := fun s => by
    have h1 : (inS l s).length ≤ (attS l).length := List.length_filter_le _ _
    have h2 := attS_le l
    omega
  obtain ⟨er, her⟩ : ∃ er, er = begE l hp com := ⟨_, rfl⟩
  rw [← her]
  have HER : Hid (er = begE l hp com) := her
  obtain ⟨ho, hcap2, rfl⟩ := hh.form
  obtain ⟨co, ccap, rfl⟩ := hc.form
  clear hr hh hc hwf hcap her
  generalize hNe : l.length = NE at *
  generalize hp.length = NH at *
  generalize com.length = NC at *
  cases hq : rightS l with
  | false =>
    rw [hq] at hrt
    have HE : Hid (er = 3) := by show _ = _; rw [HER.out]; unfold begE; rw [if_pos (.inl hq)]
    clear hq HER
    go_enter Try.func25, Try.ntmps25
    go_wp2_with fail
    refine hrt.mono ?_
    rintro e w1 ⟨rfl, t1⟩
    clear hrt
    go_wp2
    go_ret2
    exact .inl ⟨by rw [HE.out]; decide, by rw [HE.out]; rfl, t1⟩
  | true =>
    rw [hq] at hrt
    have HQ : Hid _ := hq
    clear hq
    go_enter Try.func25, Try.ntmps25
    go_wp2_with fail
    refine hrt.mono ?_
    rintro e w1 ⟨rfl, t1⟩
    have his := HIS.out w1 t1
    clear hrt
    cases hk : heapOk hp with
    | false =>
      rw [hk] at his
      have HE : Hid (er = 3) := by show _ = _; rw [HER.out]; unfold begE; rw [if_pos (.inr hk)]
      clear hk HER
      go_wp2_with fail
      refine his.mono ?_
      rintro e w2 ⟨rfl, rfl⟩
      clear his
      go_wp2
      go_ret2
      exact .inl ⟨by rw [HE.out]; decide, by rw [HE.out]; rfl, t1⟩
    | true =>
      rw [hk] at his
      have HK : Hid _ := hk
      have hin := HIN.out 2 w1 t1
      have HT1 : Hid _ := t1
      clear hk t1
      go_wp2_with fail
      refine his.mono ?_
      rintro e w2 ⟨rfl, rfl⟩
      clear his
      go_wp2_with fail
      refine hin.mono ?_
      rintro e w3 ⟨v3, rfl, hv3, t3⟩
      have T3 := HT1.out.trans t3 (by simp)
      have heo := HEO.out w3 v3 T3 (irow_of hv3)
      obtain ⟨ao3, cap3, rfl⟩ := owns_slice hv3
      have HT3 : Hid (Touch w w3 []) := T3
      clear hin hv3 t3 T3 HT1
      generalize (inS l 2).length = N3 at heo ⊢
      cases he : eachP com (inS l 2) with
      | false =>
        rw [he] at heo
        have HE : Hid (er = 2) := by show _ = _; rw [HER.out]; unfold begE; rw [if_neg (by rw [HQ.out, HK.out]; simp), if_pos he]
        clear he HER
        go_wp2_with fail
        refine heo.mono ?_
        rintro e w4 ⟨rfl, rfl⟩
        clear heo
        go_wp2
        go_ret2
        exact .inl ⟨by rw [HE.out]; decide, by rw [HE.out]; rfl, HT3.out⟩
      | true =>
        rw [he] at heo
        have HE : Hid (er = 0) := by show _ = _; rw [HER.out]; unfold begE; rw [if_neg (by rw [HQ.out, HK.out]; simp), if_neg (by rw [he]; simp)]
        have hcl2 : com.length ≤ 1000 := by
          unfold eachP at he
          simp only [decide_eq_true_eq] at he
          have := List.Nodup.length_le_of_subset he.1 he.2
          have := HIL.out 2
          omega
        have hhl2 : hp.length ≤ 12 := by
          have := HK.out
          unfold heapOk at this
          simp only [Bool.and_eq_true, decide_eq_true_eq] at this
          exact this.2
        have HCL2 : Hid _ := hcl2
        have HHL2 : Hid _ := hhl2
        clear he HER hcl2 hhl2
        have hin := HIN.out 3 w3 HT3.out
        go_wp2_with fail
        refine heo.mono ?_
        rintro e w4 ⟨rfl, rfl⟩
        clear heo
        go_wp2_with fail
        refine hin.mono ?_
        rintro e w5 ⟨v5, rfl, hv5, t5⟩
        have T5 := HT3.out.trans t5 (by simp)
        clear hin HT3 t5
        obtain ⟨ao5, cap5, hf5⟩ := owns_slice hv5
        have TB : Touch w5 (w5.alloc (.cells #[.slice co NC ccap, v5] 24)) [] := (Touch.refl w5 []).alloc _
        have hcc := concat_two (w := w5.alloc (.cells #[.slice co NC ccap, v5] 24)) (g := w5.heap.size) (v1 := .slice co NC ccap) (v2 := v5) (l1 := com) (l2 := inS l 3) (cell_new _ _ _ _) (cell_new _ _ _ _) (SRow.keep HCC.out (T5.trans TB (by simp)) (by simp)) (SRow.keep (irow_of hv5) TB (by simp)) (by have := HCL2.out; omega) (by have := HIL.out 3; omega)
        have HTB : Hid (Touch w (w5.alloc (.cells #[.slice co NC ccap, v5] 24)) []) := T5.trans TB (by simp)
        clear hv5 TB T5
        subst hf5
        generalize (inS l 3).length = N5 at hcc HTB ⊢
        go_wp2_with fail
        refine hcc.mono ?_
        rintro e w6 ⟨v6, rfl, hv6, t6⟩
        have T6 := HTB.out.trans t6 (by simp)
        have hat := HAT.out w6 T6
        have HV6 : Hid (intOwn w6 w.heap.size v6 (com ++ inS l 3)) := by
          rcases hv6.2 with h | ⟨g, c, cur, e1, hB, r⟩
          · exact ⟨hv6.1, .inl h⟩
          · exact ⟨hv6.1, .inr ⟨g, c, cur, e1, Nat.le_trans HTB.out.size hB, r⟩⟩
        have HT6 : Hid (Touch w w6 []) := T6
        clear hcc hv6 t6 T6 HTB
        obtain ⟨ao6, cap6, rfl⟩ := owns_slice HV6.out
        generalize hN6 : (com ++ inS l 3).length = N6 at HV6 ⊢
        go_wp2_with fail
        refine hat.mono ?_
        rintro e w7 ⟨v7, rfl, hv7, t7⟩
        have T7 := HT6.out.trans t7 (by simp)
        have hcn := oclone_any (SRow.keep HHH.out T7 (by simp)) (by have := HHL2.out; omega)
        have HV7 : Hid (intOwn w7 w6.heap.size v7 (attS l)) := hv7
        have HT7 : Hid (Touch w6 w7 []) := t7
        clear hat hv7 t7 T7
        obtain ⟨ao7, cap7, rfl⟩ := owns_slice HV7.out
        generalize hN7 : (attS l).length = N7 at HV7 ⊢
        go_wp2_with fail
        refine hcn.mono ?_
        rintro e w8 ⟨v8, rfl, hv8, t8⟩
        obtain ⟨ao8, cap8, rfl⟩ := owns_slice hv8
        have HV8 : Hid (valOwn w8 w7.heap.size (.slice ao8 hp.length cap8) hp) := hv8
        have HT8 : Hid (Touch w7 w8 []) := t8
        clear hcn hv8 t8
        generalize hN8 : hp.length = N8 at HV8 ⊢
        have HN : Hid _ := And.intro hN6 (And.intro hN7 hN8)
        clear hN6 hN7 hN8
        go_wp2
        go_ret2
        have ta : Touch w8 (w8.alloc (.cells #[.slice ao NE cap, .slice ao6 N6 cap6, .slice ao7 N7 cap7, .slice ao8 N8 cap8] 60)) [] := (Touch.refl w8 []).alloc _
        have T8 := (HT6.out.trans HT7.out (by simp)).trans HT8.out (by simp)
        have t68 := (HT7.out.trans HT8.out (by simp)).trans ta (by simp)
        have t78 := HT8.out.trans ta (by simp)
        refine .inr ⟨HE.out, w8.heap.size, .slice ao6 N6 cap6, .slice ao7 N7 cap7, .slice ao8 N8 cap8, rfl, ⟨heap_alloc_new _ _, ⟨fun _ e => ?_, fun _ e => ?_⟩, SRow.keep HRR.out (T8.trans ta (by simp)) (by simp), ?_, ?_, ?_, ⟨fun hne e => ?_, fun e => ?_⟩⟩, T8.size, T8.trans ta (by simp)⟩
        · have := (HV7.out.lt _ e).2
          have := HT8.out.size
          omega
        · have := (HV8.out.lt _ e).2
          omega
        · exact SRow.keep (irow_of HV6.out) t68 (by simp)
        · exact SRow.keep (irow_of HV7.out) t78 (by simp)
        · exact SRow.keep (vrow_of HV8.out) ta (by simp)
        · have := SRow.block HRR.out hne _ e
          have := T8.size
          omega
        · have := (HV6.out.lt _ e).2
          have := HT7.out.size
          have := HT8.out.size
          omega

end Go.Proofs.Ytjacclbifeoclaa

/-
  package rowlockref09: run BY ITS CONTRACT.
-/
import Derived.Test.YtjacclbifeoclaaOpqOneR
import Derived.Test.YtjacclbifeoclaaOpqAsked
import Derived.Test.YtjacclbifeoclaaOpqSound
namespace Go.Proofs.Ytjacclbifeoclaa
set_option linter.unusedVariables false
set_option linter.unusedSimpArgs false
open Go.RowKit Go.Maps Go.Shelf
attribute [local go_sem] Oper.semAt_some

/-! ### Plain data -/
def nextR (l : List EvD) (com hp : List Int) (a : Int) : List Int := if (decide (stateS l a = 3) || decide (a ∈ com)) = true then wrAll hp (wrP l a) else hp
def runR (l : List EvD) (com : List Int) : List Int → List Int → Nat → Nat × Int × List Int
  | [], hp, _ => (0, 0, hp)
  | a :: o, hp, k => if (o.any fun b => befS b a false l) = true then (k, 8, []) else if fitP l hp a = false then (k, 9, []) else runR l com o (nextR l com hp a) (k + 1)
theorem runR_drop {l : List EvD} {com o hp : List Int} {k : Nat} (hk : k < o.length) : runR l com (o.drop k) hp k = if ((o.drop (k + 1)).any fun b => befS b o[k] false l) = true then (k, 8, []) else if fitP l hp o[k] = false then (k, 9, []) else runR l com (o.drop (k + 1)) (nextR l com hp o[k]) (k + 1) := by
  rw [List.drop_eq_getElem_cons hk]
  rfl
theorem next_beh (l : List EvD) (com hp : List Int) (a : Int) : nextR l com hp a = behP l (com ++ inS l 3) hp a := by
  unfold nextR behP
  have e : (a ∈ com ++ inS l 3) ↔ ((decide (stateS l a = 3) || decide (a ∈ com)) = true) := by
    rw [List.mem_append, in_state (by decide)]
    simp only [Bool.or_eq_true, decide_eq_true_eq]
    exact ⟨fun h => h.symm, fun h => h.symm⟩
  by_cases h : a ∈ com ++ inS l 3
  · rw [if_pos h, if_pos (e.1 h)]
  · rw [if_neg h, if_neg (fun h2 => h (e.2 h2))]
theorem walk_run {l : List EvD} {N : CM} (hr : runC M0 l = some N) (com : List Int) : ∀ (o lf hp : List Int) (k : Nat), o.Nodup → (∀ x, x ∈ lf ↔ x ∈ o) → walkO l (com ++ inS l 3) o lf hp k = runR l com o hp k
  | [], lf, hp, k, _, _ => rfl
  | a :: o, lf, hp, k, hn, hm => by
    rw [List.nodup_cons] at hn
    have hany : (lf.any fun b => befS b a false l) = (o.any fun b => befS b a false l) := by
      rw [Bool.eq_iff_iff, List.any_eq_true, List.any_eq_true]
      constructor
      · rintro ⟨x, hx, hb⟩
        rcases List.mem_cons.1 ((hm x).1 hx) with rfl | h
        · rw [bef_self hr] at hb; cases hb
        · exact ⟨x, h, hb⟩
      · rintro ⟨x, hx, hb⟩
        exact ⟨x, (hm x).2 (by simp [hx]), hb⟩
    unfold walkO runR putO
    rw [hany]
    by_cases h1 : (o.any fun b => befS b a false l) = true
    · rw [if_pos h1, if_pos h1]
      simp
    · rw [if_neg h1, if_neg h1]
      by_cases h2 : fitP l hp a = false
      · rw [if_pos h2, if_pos h2]
        simp
      · rw [if_neg h2, if_neg h2]
        simp only [if_true]
        rw [next_beh]
        refine walk_run hr com o _ _ _ hn.2 (fun x => ?_)
        rw [List.mem_filter]
        constructor
        · rintro ⟨h3, h4⟩
          rcases List.mem_cons.1 ((hm x).1 h3) with rfl | h
          · simp at h4
          · exact h
        · intro h
          exact ⟨(hm x).2 (by simp [h]), by simp; exact fun e => hn.1 (e ▸ h)⟩
theorem wrAll_right {ps : List (Int × Int)} : ∀ {hp : List Int}, (∀ x ∈ hp, rightB x = true) → (∀ p ∈ ps, rightB p.2 = true) → ∀ x ∈ wrAll hp ps, rightB x = true := by
  induction ps with
  | nil => intro hp h _ x hx; exact h x hx
  | cons p ps ih =>
    intro hp h hps x hx
    refine ih (hp := hp.set p.1.toNat p.2) (fun y hy => ?_) (fun q hq => hps q (by simp [hq])) x hx
    rcases List.mem_or_eq_of_mem_set hy with h1 | h1
    · exact h y h1
    · rw [h1]; exact hps p (by simp)
theorem wrP_right (l : List EvD) (a : Int) : ∀ p ∈ wrP l a, rightB p.2 = true := fun p hp => (RtF.all _ RtF.f0).get (mem_allK hp).2.2
theorem next_right {l : List EvD} {com hp : List Int} (h : ∀ x ∈ hp, rightB x = true) (a : Int) : ∀ x ∈ nextR l com hp a, rightB x = true := by
  unfold nextR
  split
  · exact wrAll_right h (wrP_right l a)
  · exact h
theorem next_len (l : List EvD) (com hp : List Int) (a : Int) : (nextR l com hp a).length = hp.length := by
  unfold nextR
  split
  · exact wrAll_len _ _
  · rfl
theorem runR_zero (l : List EvD) (com : List Int) : ∀ (o hp : List Int) (k : Nat), (runR l com o hp k).2.1 = 0 → (runR l com o hp k).1 = 0
  | [], _, _, _ => rfl
  | a :: o, hp, k, h => by
    unfold runR at *
    split
    · rename_i h1; rw [if_pos h1] at h; cases h
    · rename_i h1
      rw [if_neg h1] at h
      split
      · rename_i h2; rw [if_pos h2] at h; cases h
      · rename_i h2; rw [if_neg h2] at h; exact runR_zero l com o _ _ h

/-- What run comes to. -/
def RunE (w : World) (res : Nat × Int × List Int) (e : Ending) (w' : World) : Prop :=
  Touch w w' [] ∧ ∃ v, e = .returned (.tuple #[.int .i64 res.1, .int .i64 res.2.1, v]) ∧ ((res.2.1 ≠ 0 ∧ v = .slice none 0 0) ∨ (res.2.1 = 0 ∧ valOwn w' w.heap.size v res.2.2))

set_option maxRecDepth 100000 in
set_option maxHeartbeats 8000000 in
theorem run_any {w : World} {ve vh vo vc : Value} {l : List EvD} {hp o com : List Int} (hr : EvRow w ve l) (hl : l.length ≤ 1000) (hwf : ∀ e ∈ l, e.Wf) (hn : ∀ e ∈ l, namedS e = true) (hh : VRow w vh hp) (hhr : ∀ x ∈ hp, rightB x = true) (hhl : hp.length ≤ 12) (ho : IRow w vo o) (hol : o.length ≤ 1000) (hc : IRow w vc com) (hcl : com.length ≤ 1000) :
    Calls Try.prog 30 #[ve, vh, vo, vc] w (RunE w (runR l com o hp 0)) := by
  obtain ⟨ao, cap, rfl⟩ := hr.form
  obtain ⟨bo, bcap, rfl⟩ := hh.form
  obtain ⟨oo, ocap, rfl⟩ := ho.form
  obtain ⟨co, ccap, rfl⟩ := hc.form
  obtain ⟨i0, hi, hz0, hz1, hz2⟩ := info_partsO Try.info_valO
  have t0 := (Touch.refl w []).alloc (.cells #[] 49)
  obtain ⟨v1, w1, hrun, o1, g1, b1⟩ := run_app (P := Try.prog) (cells := fun x : Int => [Value.int .u64 x]) 23 23 49 i0 _ 1 8 Try.underlying23 hi hz0 hz1 hz2 rfl (by decide) (fun _ => rfl) (by simp [Value.oneCell']) (empty_row w 49 1) (SRow.keep hh t0 (by simp)) (by omega) (by decide) (by simp)
  rw [Nat.zero_add, List.nil_append, flat_one] at o1
  have T1 : Touch w w1 [] := t0.grown g1 (by intro k hk; cases hk; exact .inr (Nat.le_refl _))
  obtain ⟨g, c1, hv1⟩ : ∃ g c, v1 = .slice (some ⟨g, 0, none⟩) hp.length c := by
    rcases o1.2 with ⟨e, _⟩ | ⟨g, c, cur, e, _⟩
    · rw [e] at b1; simp [Value.ownBlock] at b1
    · exact ⟨g, c, e⟩
  subst hv1
  have HEV : Hid (EvRow w (.slice ao l.length cap) l) := hr
  have HVO : Hid (IRow w (.slice oo o.length ocap) o) := ho
  have HVC : Hid (IRow w (.slice co com.length ccap) com) := hc
  have hgw : w.heap.size ≤ g := (o1.lt g rfl).1
  have HBF : Hid (∀ W, Touch w W [] → ∀ a b, Calls Try.prog 52 #[.slice ao l.length cap, .int .i64 a, .int .i64 b] W fun x w' => x = .returned (.bool (befS a b false l)) ∧ W = w') := fun W t a b => rbefore_any (SRow.keep hr t (by simp)) hl a b
  have HST : Hid (∀ W, Touch w W [] → ∀ a, Calls Try.prog 49 #[.slice ao l.length cap, .int .i64 a] W fun x w' => x = .returned (.int .u8 (stateS l a)) ∧ W = w') := fun W t a => rstateOf_any (SRow.keep hr t (by simp)) hl a
  have HIN : Hid (∀ W, Touch w W [] → ∀ x, Calls Try.prog 50 #[.slice co com.length ccap, .int .i64 x] W fun e w' => e = .returned (.bool (decide (x ∈ com))) ∧ W = w') := fun W t x => rin_of (SRow.keep hc t (by simp)) (by omega) x
  have HONE : Hid (∀ W, Touch w W [] → ∀ h a cnt, valOwn W w.heap.size (.slice (some ⟨g, 0, none⟩) (List.length h) c1) h → (∀ x ∈ h, rightB x = true) → h.length ≤ 12 → Calls Try.prog 53 #[.slice ao l.length cap, .slice (some ⟨g, 0, none⟩) h.length c1, .int .i64 a, .bool cnt] W (OneE W w.heap.size g c1 (fitP l h a) (if cnt = true then wrAll h (wrP l a) else h))) := fun W t h a cnt hv hr' hl' =>
    one_any (SRow.keep hr t (by simp)) hl hwf hn hv hr' hl' (fun hne e => by have := hr.block hne g e; omega) a cnt
  have HO1 : Hid (valOwn w1 w.heap.size (.slice (some ⟨g, 0, none⟩) hp.length c1) hp) := o1
  have HHR : Hid (∀ x ∈ hp, rightB x = true) := hhr
  obtain ⟨res, hres⟩ : ∃ r, r = runR l com o hp 0 := ⟨_, rfl⟩
  rw [← hres]
  have HRES : Hid (res = runR l com (o.drop 0) hp 0) := hres
  have HT1 : Hid (Touch w w1 []) := T1
  obtain ⟨N, hN⟩ : ∃ N, N = hp.length := ⟨_, rfl⟩
  have HN : Hid (N = hp.length) := hN
  obtain ⟨NO, hNO⟩ : ∃ N, N = o.length := ⟨_, rfl⟩
  have HNO : Hid (NO = o.length) := hNO
  rw [← hNO] at hol ⊢
  have HR1 : Hid _ := hrun
  rw [← hN] at hrun hhl ⊢
  have HHL : Hid (N ≤ 12) := hhl
  clear hr hh ho hc hwf hn hhr hi hz0 hz1 hz2 t0 o1 g1 b1 T1 hres hN hNO HR1 hhl
  generalize l.length = NE at *
  generalize com.length = NC at *
  go_enter Try.func30, Try.ntmps30
  go_wp2_with (at_builtin; refine Lib.wpList_append_run _ rfl _ _ _ _ rfl _ _ rfl rfl _ _ hrun ?_)
  clear hrun
  go_loopw [12] (fun i wr => ∃ (k : Nat) (h : List Int), i = .int .i64 k ∧ k ≤ NO ∧ res = runR l com (o.drop k) h k ∧ h.length = N ∧ (∀ x ∈ h, rightB x = true) ∧ wr.ownsRow w.heap.size 49 1 (.slice (some ⟨g, 0, none⟩) N c1) N (h.map (Value.int .u64)) ∧ Touch w wr []) (fun i _ => NO - (intOf i).toNat)
  case atStart => exact ⟨0, hp, rfl, Nat.zero_le _, HRES.out, HN.out.symm, HHR.out, by have := HO1.out; unfold valOwn at this; rw [← HN.out] at this; exact this, HT1.out⟩
  case round =>
    obtain ⟨k, h, rfl, hk, hrs, hlen, hrt, hrow, t⟩ := hrel
    clear HRES HO1 HT1
    have HROW : Hid (wr.ownsRow w.heap.size 49 1 (.slice (some ⟨g, 0, none⟩) N c1) N (h.map (Value.int .u64))) := hrow
    have HRT : Hid (∀ x ∈ h, rightB x = true) := hrt
    have HLEN : Hid (h.length = N) := hlen
    have HTW : Hid (Touch w wr []) := t
    clear hrow hrt hlen
    by_cases hlt : k < NO
    · have h1 : (k : Int) < NO := by omega
      have h0 : (0 : Int) ≤ k := by omega
      have hkl : k < o.length := by rw [← HNO.out]; exact hlt
      obtain ⟨go, off, hgo, hg, d0⟩ := IRow.one (SRow.keep HVO.out t (by simp)) k hkl
      subst hgo
      rw [runR_drop hkl] at hrs
      obtain ⟨a, ha⟩ : ∃ a, a = o[k] := ⟨_, rfl⟩
      rw [← ha] at d0 hrs
      have HRS : Hid _ := hrs
      obtain ⟨W, hW⟩ : ∃ W, W = wr := ⟨_, rfl⟩
      rw [← hW] at HROW HTW hg d0 ⊢
      clear hrs t hW ha
      go_wp2_with fail
      go_loopw [13] (fun i wr => ∃ m : Nat, i = .int .i64 m ∧ k < m ∧ m ≤ NO ∧ (∀ q (hq : q < o.length), k < q → q < m → befS o[q] a false l = false) ∧ Touch W wr []) (fun i _ => NO - (intOf i).toNat)
      case atStart => exact ⟨k + 1, by go_num, by omega, by omega, fun q hq h1 h2 => by omega, Touch.refl _ _⟩
      case round =>
        obtain ⟨m, rfl, hkm, hm, hno, t2⟩ := hrel
        have HT2 : Hid (Touch W wr []) := t2
        have HTT : Hid (Touch w wr []) := HTW.out.trans t2 (by simp)
        have HNOB : Hid (∀ q (hq : q < o.length), k < q → q < m → befS o[q] a false l = false) := hno
        have e0 := (t2.cell (p := ⟨go, off + k, none⟩) hg (by simp)).trans d0
        clear hno
        by_cases hlt2 : m < NO
        · have q1 : (m : Int) < NO := by omega
          have q0 : (0 : Int) ≤ m := by omega
          have hml : m < o.length := by rw [← HNO.out]; exact hlt2
          obtain ⟨go2, off2, hgo2, hg2, d2⟩ := IRow.one (SRow.keep HVO.out HTT.out (by simp)) m hml
          simp at hgo2
          obtain ⟨rfl, rfl⟩ := hgo2
          have HNX : Hid (befS o[m] a false l = false → ∀ q (hq : q < o.length), k < q → q < m + 1 → befS o[q] a false l = false) := fun hb q hq h1 h2 => by
            by_cases hqm : q = m
            · subst hqm; exact hb
            · exact HNOB.out q hq h1 (by omega)
          have HST8 : Hid (befS o[m] a false l = true → res = (k, 8, [])) := fun hb => by
            rw [HRS.out, if_pos]
            rw [List.any_eq_true]
            refine ⟨o[m], ?_, hb⟩
            rw [List.mem_iff_getElem]
            exact ⟨m - (k + 1), by rw [List.length_drop]; omega, by rw [List.getElem_drop]; congr 1; omega⟩
          have hbf := fun W' (tt : Touch w W' []) => HBF.out W' tt o[m] a
          generalize o[m] = b at *
          cases hb : befS b a false l with
          | true =>
            have HR : Hid (res = (k, 8, [])) := HST8.out hb
            simp only [hb] at hbf
            have HBB : Hid (∀ W', Touch w W' [] → Calls Try.prog 52 #[.slice ao NE cap, .int .i64 b, .int .i64 a] W' fun x w' => x = .returned (.bool true) ∧ W' = w') := hbf
            clear hb HNX HST8 hbf t2
            go_wp2_with fail
            go_quiet (first | (go_at_call 52; exact Calls.quiet_of_same ((HBB.out _ (HTT.out.drewN _)).mono fun _ _ h => ⟨h.1, h.2.symm⟩)))
            go_wp2
            go_ret3
            refine ⟨HTT.out.drewN _, .slice none 0 0, by rw [HR.out]; rfl, .inl ⟨by rw [HR.out]; simp, rfl⟩⟩
          | false =>
            have HX2 : Hid (∀ q (hq : q < o.length), k < q → q < m + 1 → befS o[q] a false l = false) := HNX.out hb
            simp only [hb] at hbf
            have HBB : Hid (∀ W', Touch w W' [] → Calls Try.prog 52 #[.slice ao NE cap, .int .i64 b, .int .i64 a] W' fun x w' => x = .returned (.bool false) ∧ W' = w') := hbf
            clear hb HNX HST8 hbf t2
            go_wp2_with fail
            go_quiet (first | (go_at_call 52; exact Calls.quiet_of_same ((HBB.out _ (HTT.out.drewN _)).mono fun _ _ h => ⟨h.1, h.2.symm⟩)))
            go_wp2
            go_roundw
            case rel => exact ⟨m + 1, by go_num, by omega, by omega, HX2.out, HT2.out.drewN _⟩
            case measure => simp [intOf]; omega
        · obtain rfl : m = NO := by omega
          have hany : ((o.drop (k + 1)).any fun b => befS b a false l) = false := by
            rw [List.any_eq_false]
            intro b hb
            obtain ⟨q, hq, rfl⟩ := List.getElem_of_mem hb
            rw [List.length_drop] at hq
            rw [List.getElem_drop, HNOB.out (k + 1 + q) (by omega) (by omega) (by rw [HNO.out]; omega)]
            simp
          have HRS2 : Hid (res = if fitP l h a = false then (k, 9, []) else runR l com (o.drop (k + 1)) (nextR l com h a) (k + 1)) := by show _ = _; rw [HRS.out, if_neg (by rw [hany]; simp)]
          have hrow2 := ownsRow_touch HROW.out t2 (by simp)
          have hst := HST.out wr HTT.out a
          have hin := HIN.out wr HTT.out a
          have HOE : Hid (∀ cnt, Calls Try.prog 53 #[.slice ao NE cap, .slice (some ⟨g, 0, none⟩) N c1, .int .i64 a, .bool cnt] wr (OneE wr w.heap.size g c1 (fitP l h a) (if cnt = true then wrAll h (wrP l a) else h))) := fun cnt => by
            have := HONE.out wr HTT.out h a cnt (by unfold valOwn; rw [HLEN.out]; exact hrow2) HRT.out (by rw [HLEN.out]; exact HHL.out)
            rw [HLEN.out] at this
            exact this
          have HNXT : Hid (nextR l com h a = if (decide (stateS l a = 3) || decide (a ∈ com)) = true then wrAll h (wrP l a) else h) := rfl
          have HNR : Hid (∀ x ∈ nextR l com h a, rightB x = true) := next_right HRT.out a
          have HNL : Hid ((nextR l com h a).length = N) := by show _ = _; rw [next_len, HLEN.out]
          generalize nextR l com h a = h2 at *
          generalize hsv : stateS l a = st at *
          generalize decide (a ∈ com) = q at *
          generalize wrAll h (wrP l a) = hw at *
          have hmm : ¬ (m : Int) < m := by omega
          clear hany t2 hlt2 HNOB hrow2 HRS hsv
          obtain ⟨cnt, hcnt⟩ : ∃ cnt, cnt = (decide (st = 3) || q) := ⟨_, rfl⟩
          rw [← hcnt] at HNXT
          have hone := HOE.out cnt
          rw [← HNXT.out] at hone
          have HCN : Hid _ := hcnt
          have tailp : ∀ (e : Ending) (w6 : World), OneE wr w.heap.size g c1 (fitP l h a) h2 e w6 → ∃ b : Bool, e = .returned (.bool b) ∧ Touch w w6 [] ∧ ((b = false ∧ res = (k, 9, [])) ∨ (b = true ∧ res = runR l com (o.drop (k + 1)) h2 (k + 1) ∧ w6.ownsRow w.heap.size 49 1 (.slice (some ⟨g, 0, none⟩) N c1) N (h2.map (Value.int .u64)))) := fun e w6 ⟨he, ht, ho⟩ => by
            refine ⟨fitP l h a, he, HTT.out.trans ht (fun x hx => .inr (by simp at hx; omega)), ?_⟩
            cases hf : fitP l h a with
            | false => exact .inl ⟨rfl, by rw [HRS2.out, if_pos hf]⟩
            | true =>
              refine .inr ⟨rfl, by rw [HRS2.out, if_neg (by rw [hf]; simp)], ?_⟩
              have := ho hf
              rw [HNL.out] at this
              exact this
          have HTP : Hid (∀ (e : Ending) (w6 : World), OneE wr w.heap.size g c1 (fitP l h a) h2 e w6 → ∃ b : Bool, e = .returned (.bool b) ∧ Touch w w6 [] ∧ ((b = false ∧ res = (k, 9, [])) ∨ (b = true ∧ res = runR l com (o.drop (k + 1)) h2 (k + 1) ∧ w6.ownsRow w.heap.size 49 1 (.slice (some ⟨g, 0, none⟩) N c1) N (h2.map (Value.int .u64))))) := tailp
          clear hcnt tailp HNXT HRS2 HOE HROW
          by_cases h3 : st = 3
          · subst h3
            have hct : cnt = true := by rw [HCN.out]; simp
            subst hct
            clear HCN hin
            go_wp2_with fail
            refine hst.mono ?_
            rintro e w5 ⟨rfl, rfl⟩
            clear hst
            go_wp2_with fail
            refine hone.mono ?_
            intro e w6 hoe
            clear hone
            obtain ⟨b, rfl, t6, hcase⟩ := HTP.out e w6 hoe
            clear hoe
            rcases hcase with ⟨rfl, hres⟩ | ⟨rfl, hres, hro⟩
            · have HR : Hid _ := hres
              clear hres
              go_wp2
              go_ret3
              exact ⟨t6, .slice none 0 0, by rw [HR.out]; rfl, .inl ⟨by rw [HR.out]; simp, rfl⟩⟩
            · have HR : Hid _ := hres
              have HRO : Hid _ := hro
              clear hres hro
              go_wp2
              go_roundw
              case rel => exact ⟨k + 1, h2, by go_num, by omega, HR.out, HNL.out, HNR.out, HRO.out, t6⟩
              case measure => simp [intOf]; omega
          · have h3' : (st == 3) = false := by simpa using h3
            have hct : cnt = q := by rw [HCN.out, decide_eq_false h3, Bool.false_or]
            subst hct
            clear HCN h3
            go_wp2_with fail
            refine hst.mono ?_
            rintro e w5 ⟨rfl, rfl⟩
            clear hst
            go_wp2_with fail
            refine hin.mono ?_
            rintro e w5 ⟨rfl, rfl⟩
            clear hin
            go_wp2_with fail
            refine hone.mono ?_
            intro e w6 hoe
            clear hone
            obtain ⟨b, rfl, t6, hcase⟩ := HTP.out e w6 hoe
            clear hoe
            rcases hcase with ⟨rfl, hres⟩ | ⟨rfl, hres, hro⟩
            · have HR : Hid _ := hres
              clear hres
              go_wp2
              go_ret3
              exact ⟨t6, .slice none 0 0, by rw [HR.out]; rfl, .inl ⟨by rw [HR.out]; simp, rfl⟩⟩
            · have HR : Hid _ := hres
              have HRO : Hid _ := hro
              clear hres hro
              go_wp2
              go_roundw
              case rel => exact ⟨k + 1, h2, by go_num, by omega, HR.out, HNL.out, HNR.out, HRO.out, t6⟩
              case measure => simp [intOf]; omega
    · obtain rfl : k = NO := by omega
      have hall : o.drop k = [] := by rw [HNO.out, List.drop_length]
      rw [hall] at hrs
      have HR : Hid (res = (0, 0, h)) := hrs
      have hkk : ¬ (k : Int) < k := by omega
      clear hrs hall t
      go_wp2
      go_ret3
      refine ⟨HTW.out, .slice (some ⟨g, 0, none⟩) N c1, by rw [HR.out]; rfl, .inr ⟨by rw [HR.out], ?_⟩⟩
      rw [HR.out]
      show World.ownsRow _ _ _ _ _ _ _
      rw [HLEN.out]
      exact HROW.out

end Go.Proofs.Ytjacclbifeoclaa

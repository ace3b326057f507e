/-
  TraceAlone, WALKED.
-/
import Derived.Test.YtmiaibpdeofokaaDoorTrAlonePl
import Derived.Test.YtmiaibpdeofokaaDoorTrConf
import Derived.Test.YtmiaibpdeofokaaDoorTrBoth
namespace Go.Proofs.YtmiaibpdeofokaaDoor
set_option linter.unusedVariables false
set_option linter.unusedSimpArgs false
open Go.RowKit Go.Maps
attribute [local go_sem] Oper.semAt_some

theorem ser_120 {l : List EvD} (hl : l.length ≤ 60) (k : Nat) : (serS l ((attS l).take k)).length ≤ 120 ∧ ((serS l ((attS l).take k)) ++ cutS ((attS l).getD k 0) l).length ≤ 240 := by
  have h1 := ser_len l ((attS l).take k)
  have h2 := cut_sum ((attS l).take k) ((attS_nodup l).sublist (List.take_sublist _ _)) l
  have h3 := attS_le l
  have h4 := cutS_le ((attS l).getD k 0) l
  rw [List.length_take] at h1
  rw [List.length_append]
  omega
theorem ser_wf {l : List EvD} (hw : ∀ e ∈ l, e.Wf) {xs : List Int} (hx : ∀ x ∈ xs, W64 x) : ∀ e ∈ serS l xs, e.Wf := by
  intro e he
  unfold serS at he
  obtain ⟨x, hxs, he⟩ := List.mem_flatMap.1 he
  unfold segS at he
  rcases List.mem_append.1 he with he | he
  · unfold cutS at he
    exact hw e (List.mem_filter.1 he).1
  · split at he
    · simp at he
      rw [he]
      exact ⟨⟨by show (0 : Int) ≤ 9; decide, by show (9 : Int) ≤ 255; decide⟩, hx x hxs, ⟨by show (-9223372036854775808 : Int) ≤ 0; decide, by show (0 : Int) ≤ 9223372036854775807; decide⟩, ⟨by show (0 : Int) ≤ 0; decide, by show (0 : Int) < 18446744073709551616; decide⟩⟩
    · cases he

set_option maxRecDepth 100000 in
set_option maxHeartbeats 4000000 in
theorem tracealone_cut {w : World} (hw : Wdt w) (hz : Tz w) {ao : Option Addr} {na ca : Nat} {l : List EvD}
    (fa : ∀ W, Calls Tryd.prog 7 #[.slice ao na ca] W fun e w' => e = .returned (.slice ao l.length ca) ∧ w' = W)
    (ra : EvRow w (.slice ao l.length ca) l) (la : l.length ≤ 60) (wa : ∀ e ∈ l, e.Wf) :
    Calls Tryd.prog 5 #[.slice ao na ca] w fun e w' => e = .returned (.bool true) ∧ Touch w w' [] := by
  have FA : Hid (∀ W, HidC _ _ _ _ _) := fun W => ⟨fa W⟩
  have HLV : Hid (∀ W, Touch w W [] → HidC Tryd.prog 9 #[] W fun e w' => e = .returned (.bool true) ∧ Touch W w' []) := fun W t => ⟨trlive_any W (hw.touch t (by simp)) (hz.touch t)⟩
  have HRI : Hid (HidC Tryd.prog 15 #[.slice ao l.length ca] w fun x w' => x = .returned (.bool (rightS l)) ∧ Touch w w' []) := ⟨right_of ra (by omega) wa⟩
  have HAT : Hid (∀ W, Touch w W [] → HidC Tryd.prog 12 #[.slice ao l.length ca] W fun x w' => ∃ ao' cap', x = .returned (.slice ao' (attS l).length cap') ∧ AtI w' ao' (attS l) ∧ Touch W w' []) := fun W t => ⟨attempts_at (SRow.keep ra t (by simp)) (by omega) wa⟩
  have HCU : Hid (∀ W x, Touch w W [] → HidC Tryd.prog 16 #[.slice ao l.length ca, .int .i64 x] W fun y w' => ∃ so sc, y = .returned (.slice so (cutS x l).length sc) ∧ EvRow w' (.slice so (cutS x l).length sc) (cutS x l) ∧ Touch W w' []) := fun W x t => ⟨(cut_any (SRow.keep ra t (by simp)) (by omega) x).mono (by rintro y w' ⟨v, rfl, h1, h2⟩; obtain ⟨so, sc, rfl⟩ := owns_slice h1; exact ⟨so, sc, rfl, srow_of (cells := EvD.cells) (fun _ => rfl) h1, h2⟩)⟩
  have HST : Hid (∀ W p, Touch w W [] → W64 p → HidC Tryd.prog 13 #[.slice ao l.length ca, .int .i64 p] W fun x w' => x = .returned (.int .u8 (stateS l p)) ∧ Touch W w' []) := fun W p t hp => ⟨stateOf_any (SRow.keep ra t (by simp)) (by omega) wa p hp⟩
  have HSE : Hid (rightS l = true → ∀ W so sc, EvRow W (.slice so (serS l (attS l)).length sc) (serS l (attS l)) →
      HidC Tryd.prog 15 #[.slice so (serS l (attS l)).length sc] W (fun x w' => x = .returned (.bool true) ∧ Touch W w' []) ∧
      HidC Tryd.prog 17 #[.slice so (serS l (attS l)).length sc] W (fun x w' => x = .returned (.slice none 0 0) ∧ Touch W w' []) ∧
      HidC Tryd.prog 18 #[.slice so (serS l (attS l)).length sc] W (fun x w' => x = .returned (.int .i64 ((attS l).length : Nat)) ∧ Touch W w' [])) := fun hr W so sc h => by
    have hle : (serS l (attS l)).length ≤ 1000 := by have := (ser_120 la (attS l).length).1; rw [List.take_length] at this; omega
    have hwf := ser_wf wa (attS_wf wa)
    refine ⟨⟨?_⟩, ⟨?_⟩, ⟨?_⟩⟩
    · have := right_of h hle hwf
      rw [ser_right hr la] at this
      exact this
    · exact conf_none h hle hwf (fun i j h1 h2 => ser_bef hr h1 (by rw [ser_atts hr] at h2; exact h2))
    · have := chains_any h hle hwf
      rw [ser_chain hr la] at this
      exact this
  have HAW : Hid (∀ x ∈ attS l, W64 x) := attS_wf wa
  have H12 : Hid (∀ k, (serS l ((attS l).take k)).length ≤ 120 ∧ ((serS l ((attS l).take k)) ++ cutS ((attS l).getD k 0) l).length ≤ 240) := fun k => ser_120 la k
  have HNA : Hid ((attS l).length ≤ 60) := Nat.le_trans (attS_le l) la
  clear fa ra la wa hw hz
  generalize l.length = La at *
  go_enter Tryd.func5, Tryd.ntmps5
  go_wp2_with fail
  refine (FA.out _).out.mono ?_
  rintro e wx ⟨rfl, rfl⟩
  clear FA
  go_wp2_with fail
  refine HRI.out.out.mono ?_
  rintro e w1 ⟨rfl, t1⟩
  have T1 : Hid (Touch _ w1 []) := t1
  clear t1 HRI
  cases hq : rightS l with
  | false =>
    clear hq HSE HAT HCU HST
    go_wp2_with fail
    refine (HLV.out _ T1.out).out.mono ?_
    rintro e w2 ⟨rfl, t2⟩
    have T2 : Hid _ := T1.out.trans t2 (by simp)
    clear t2 T1
    go_wp2
    go_ret
    exact ⟨rfl, T2.out⟩
  | true =>
    have HS2 : Hid _ := HSE.out hq
    clear hq HSE
    go_wp2_with fail
    refine (HAT.out _ T1.out).out.mono ?_
    rintro e w2 ⟨ap, cp1, rfl, ip, t2⟩
    have T2 : Hid _ := T1.out.trans t2 (by simp)
    have IP : Hid (AtI w2 ap (attS l)) := ip
    clear t2 ip T1 HAT
    obtain ⟨P, hP⟩ : ∃ P, P = attS l := ⟨_, rfl⟩
    rw [← hP] at HS2 HAW H12 IP HNA
    rw [← hP]
    clear hP
    obtain ⟨NP, hNP⟩ : ∃ x, x = P.length := ⟨_, rfl⟩
    have HNP : Hid (NP = P.length) := hNP
    have hp60 : NP ≤ 60 := by rw [hNP]; exact HNA.out
    rw [← hNP] at HS2
    rw [← hNP]
    clear hNP
    obtain ⟨i0, hi0, hz0, hz1, hz2⟩ := info_parts Tryd.info_ev
    go_wp2_with fail
    go_loopw [4, 5] (fun v iv wr => ∃ i : Nat, iv = .int .i64 i ∧ i ≤ NP ∧ evOwn wr w2.heap.size v (serS l (P.take i)) ∧ Touch w2 wr []) (fun _ iv _ => NP - (intOf iv).toNat)
    case atStart => exact ⟨0, rfl, Nat.zero_le _, World.ownsRow_nil _ _ _ _, Touch.refl _ _⟩
    case round =>
      obtain ⟨i, rfl, hi, hrow, hT⟩ := hrel
      have HT : Hid (Touch w2 wr []) := hT
      have HTW : Hid _ := T2.out.trans hT (by simp)
      by_cases hlt : i < NP
      · have h1 : (i : Int) < NP := by omega
        have h0 : (0 : Int) ≤ i := by omega
        have hil : i < P.length := by rw [← HNP.out]; exact hlt
        obtain ⟨gp, hao, hgp0, cp0⟩ := IP.out.at' i hil
        subst hao
        have cp := (hT.cell (p := ⟨gp, i, none⟩) hgp0 (by simp)).trans cp0
        have HPW : Hid (W64 P[i]) := HAW.out _ (List.getElem_mem hil)
        have h12 := H12.out i
        have hgd : P.getD i 0 = P[i] := by rw [List.getD_eq_getElem?_getD, List.getElem?_eq_getElem hil]; rfl
        rw [hgd] at h12
        have HSN : Hid (serS l (P.take (i + 1)) = serS l (P.take i) ++ segS l P[i]) := by show _ = _; rw [List.take_succ_eq_append_getElem hil, serS_snoc]
        have HCP : Hid (gp < w2.heap.size ∧ w2.cell? ⟨gp, i, none⟩ = some (.int .i64 P[i])) := ⟨hgp0, cp0⟩
        obtain ⟨so0, sc0, rfl⟩ := owns_slice hrow
        have HROW : Hid _ := hrow
        clear hT cp0 hgp0 hgd hrow
        generalize P[i] = x at *
        have HSG : Hid (segS l x = cutS x l ++ (if stateS l x = 1 ∨ stateS l x = 2 then [⟨9, x, 0, 0⟩] else [])) := rfl
        have HC1 := (HCU.out wr x HTW.out).out
        have HS1 : Hid (∀ W, Touch _ W [] → HidC Tryd.prog 13 #[.slice ao La ca, .int .i64 x] W fun y w' => y = .returned (.int .u8 (stateS l x)) ∧ Touch W w' []) := fun W t => HST.out W x t HPW.out
        generalize hser : serS l (P.take i) = A at *
        generalize hcut : cutS x l = C at *
        generalize stateS l x = st at *
        clear hser hcut
        rw [List.length_append] at h12
        have hA : A.length ≤ 120 := h12.1
        have hAC : A.length + C.length ≤ 240 := h12.2
        clear h12
        go_wp2_with fail
        refine HC1.mono ?_
        rintro y w3 ⟨so, sc, rfl, r3, t3⟩
        have T23 : Hid (Touch w2 w3 []) := HT.out.trans t3 (by simp)
        obtain ⟨v4, w4, hap, ho4, hg4, _⟩ := run_app (cells := EvD.cells) 22 22 43 i0 _ 4 32 Tryd.underlying22 hi0 hz0 hz1 hz2 rfl (by decide) (fun _ => rfl) ev_one (ownsRow_touch HROW.out t3 (by simp)) r3 (by omega) (by decide) T23.out.size
        have T24 : Hid (Touch w2 w4 []) := T23.out.grown hg4 (fun q hq => .inr ((World.ownsRow.lt HROW.out q hq).1))
        obtain ⟨so4, sc4, rfl⟩ := owns_slice ho4
        have HO4 : Hid (evOwn w4 w2.heap.size (.slice so4 (A.length + C.length) sc4) (A ++ C)) := by
          show w4.ownsRow _ _ _ _ _ _
          rw [List.length_append, List.flatMap_append]
          exact ho4
        have T04 : Hid _ := T2.out.trans T24.out (by simp)
        have c4 := (T24.out.cell (p := ⟨gp, i, none⟩) HCP.out.1 (by simp)).trans HCP.out.2
        clear t3 r3 ho4 hg4 HC1 T23 HROW cp
        go_wp2_with (at_builtin; refine Lib.wpList_append_run _ rfl _ _ _ _ rfl _ _ rfl rfl _ _ hap ?_)
        clear hap
        refine (HS1.out _ T04.out).out.mono ?_
        rintro y w5 ⟨rfl, t5⟩
        have T25 : Hid (Touch w2 w5 []) := T24.out.trans t5 (by simp)
        have HO5 : Hid (evOwn w5 w2.heap.size (.slice so4 (A.length + C.length) sc4) (A ++ C)) := ownsRow_touch HO4.out t5 (by simp)
        have c5 := (T25.out.cell (p := ⟨gp, i, none⟩) HCP.out.1 (by simp)).trans HCP.out.2
        clear t5 c4 T04 HO4 T24 HS1
        by_cases h12 : st = 1 ∨ st = 2
        · have HS3 : Hid (serS l (P.take (i + 1)) = A ++ C ++ [⟨9, x, 0, 0⟩]) := by show _ = _; rw [HSN.out, HSG.out, if_pos h12, List.append_assoc]
          have hnew : ∀ j u, [Value.int .u8 9, .int .i64 x, .int .i64 0, .int .u64 0][j]? = some u → (w5.alloc (.cells #[.int .u8 9, .int .i64 x, .int .i64 0, .int .u64 0] 43)).cell? (Addr.add ⟨w5.heap.size, 0, none⟩ j) = some u := World.news_of_block (cs := #[.int .u8 9, .int .i64 x, .int .i64 0, .int .u64 0]) (t := 43) (fr := (0, 0)) (heap_alloc_new w5 _)
          have hrow5 : (w5.alloc (.cells #[.int .u8 9, .int .i64 x, .int .i64 0, .int .u64 0] 43)).ownsRow w2.heap.size 43 4 (.slice so4 (A.length + C.length) sc4) (A.length + C.length) ((A ++ C).flatMap EvD.cells) := by
            have := HO5.out.alloc (.cells #[.int .u8 9, .int .i64 x, .int .i64 0, .int .u64 0] 43)
            unfold evOwn at this
            rw [List.length_append] at this
            exact this
          have hsz5 : w2.heap.size ≤ (w5.alloc (.cells #[.int .u8 9, .int .i64 x, .int .i64 0, .int .u64 0] 43)).heap.size := by have := T25.out.size; simp; omega
          have HEND : Hid (∀ v' w6, w6.ownsRow w2.heap.size 43 4 v' (A.length + C.length + 1) ((A ++ C).flatMap EvD.cells ++ [.int .u8 9, .int .i64 x, .int .i64 0, .int .u64 0]) → (w5.alloc (.cells #[.int .u8 9, .int .i64 x, .int .i64 0, .int .u64 0] 43)).grownBy w6 (Value.slice so4 (A.length + C.length) sc4).ownBlock → evOwn w6 w2.heap.size v' (serS l (P.take (i + 1))) ∧ Touch w2 w6 []) := fun v' w6 h1 h2 => by
            refine ⟨?_, (T25.out.alloc _).grown h2 (fun q hq => .inr ((World.ownsRow.lt HO5.out q hq).1))⟩
            show w6.ownsRow _ _ _ _ _ _
            rw [HS3.out, List.length_append, List.flatMap_append, List.length_append]
            simpa [EvD.cells] using h1
          have hone : ∀ u ∈ [Value.int .u8 9, .int .i64 x, .int .i64 0, .int .u64 0], u.oneCell' = true := ev_one ⟨9, x, 0, 0⟩
          clear HO5
          have WALK : True := trivial
          rcases h12 with rfl | rfl
          · go_wp2_with (at_builtin; refine wpList_append_own _ rfl _ _ 22 rfl w2.heap.size 43 i0 _ 4 32 Tryd.underlying22 hi0 hz0 hz1 hz2 rfl (by decide) _ _ _ rfl hrow5 ⟨w5.heap.size, 0, none⟩ 1 1 [.int .u8 9, .int .i64 x, .int .i64 0, .int .u64 0] rfl rfl hnew hone (by unfold maxLen; omega) (by omega) hsz5 ?_)
            intro v' w6 hown' hgrow _
            have HE : Hid _ := HEND.out v' w6 (by simpa using hown') hgrow
            clear hown' hgrow hrow5 hnew hsz5 hone c5 HEND
            go_wp2
            go_roundw
            case rel => exact ⟨i + 1, by go_num, by omega, HE.out.1, HE.out.2⟩
            case measure => simp [intOf]; omega
          · go_wp2_with (at_builtin; refine wpList_append_own _ rfl _ _ 22 rfl w2.heap.size 43 i0 _ 4 32 Tryd.underlying22 hi0 hz0 hz1 hz2 rfl (by decide) _ _ _ rfl hrow5 ⟨w5.heap.size, 0, none⟩ 1 1 [.int .u8 9, .int .i64 x, .int .i64 0, .int .u64 0] rfl rfl hnew hone (by unfold maxLen; omega) (by omega) hsz5 ?_)
            intro v' w6 hown' hgrow _
            have HE : Hid _ := HEND.out v' w6 (by simpa using hown') hgrow
            clear hown' hgrow hrow5 hnew hsz5 hone c5 HEND
            go_wp2
            go_roundw
            case rel => exact ⟨i + 1, by go_num, by omega, HE.out.1, HE.out.2⟩
            case measure => simp [intOf]; omega
        · have p1 : (st == 1) = false := by simp; exact fun e => h12 (.inl e)
          have p2 : (st == 2) = false := by simp; exact fun e => h12 (.inr e)
          have HE : Hid (evOwn w5 w2.heap.size (.slice so4 (A.length + C.length) sc4) (serS l (P.take (i + 1)))) := by
            rw [HSN.out, HSG.out, if_neg h12, List.append_nil]
            exact HO5.out
          clear h12 HO5
          go_wp2
          go_roundw
          case rel => exact ⟨i + 1, by go_num, by omega, HE.out, T25.out⟩
          case measure => simp [intOf]; omega
      · obtain rfl : i = NP := by omega
        have hall : P.take i = P := by rw [HNP.out, List.take_length]
        rw [hall] at hrow
        obtain ⟨so, sc, rfl⟩ := owns_slice hrow
        have HR : Hid (EvRow wr (.slice so (serS l P).length sc) (serS l P)) := srow_of (cells := EvD.cells) (fun _ => rfl) hrow
        clear hrow hT hall
        go_wp2_with fail
        refine (HLV.out _ HTW.out).out.mono ?_
        rintro e w8 ⟨rfl, t8⟩
        have T8 : Hid _ := HTW.out.trans t8 (by simp)
        have R8 : Hid _ := SRow.keep HR.out t8 (by simp)
        clear t8 HTW HR HLV
        go_wp2_with fail
        refine (HS2.out _ _ _ R8.out).1.out.mono ?_
        rintro e w9 ⟨rfl, t9⟩
        have T9 : Hid _ := T8.out.trans t9 (by simp)
        have R9 : Hid _ := SRow.keep R8.out t9 (by simp)
        clear t9 T8 R8
        go_wp2_with fail
        refine (HS2.out _ _ _ R9.out).2.1.out.mono ?_
        rintro e w10 ⟨rfl, t10⟩
        have T10 : Hid _ := T9.out.trans t10 (by simp)
        have R10 : Hid _ := SRow.keep R9.out t10 (by simp)
        clear t10 T9 R9
        go_wp2_with fail
        refine (HS2.out _ _ _ R10.out).2.2.out.mono ?_
        rintro e w11 ⟨rfl, t11⟩
        have T11 : Hid _ := T10.out.trans t11 (by simp)
        clear t11 T10 R10
        go_wp2
        go_ret
        exact ⟨rfl, T11.out⟩
theorem tracealone_any {w : World} (hw : Wdt w) (hz : Tz w) {ao : Option Addr} {ca : Nat} {a : List EvD} (ra : EvRow w (.slice ao a.length ca) a) (wa : ∀ e ∈ a, e.Wf) (ha : a.length ≤ ca ∧ ca ≤ maxLen) :
    Calls Tryd.prog 5 #[.slice ao a.length ca] w fun e w' => e = .returned (.bool true) ∧ Touch w w' [] := by
  unfold maxLen at ha
  exact tracealone_cut hw hz (l := a.take 60) (fun W => by rw [cut60_len]; exact trfew_any ao a.length ca ha.1 (by omega) W) (row60 ra) (by rw [List.length_take]; omega) (fun e he => wa e (List.mem_of_mem_take he))

end Go.Proofs.YtmiaibpdeofokaaDoor

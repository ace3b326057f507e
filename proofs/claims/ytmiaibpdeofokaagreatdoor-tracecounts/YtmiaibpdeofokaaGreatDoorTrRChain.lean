/-
  package trace, the document's: Chains BY ITS CONTRACT.
-/
import Derived.Test.YtmiaibpdeofokaaGreatDoorTrCntPl
import Derived.Test.YtmiaibpdeofokaaGreatDoorHistRefRt
import Derived.Test.YtmiaibpdeofokaaGreatDoorHistRefAtt
import Derived.BigQuiet
namespace Go.Proofs.YtmiaibpdeofokaaGreatDoor
set_option linter.unusedVariables false
set_option linter.unusedSimpArgs false
open Go.RowKit Go.Maps
attribute [local go_sem] Oper.semAt_some

set_option maxRecDepth 100000 in
set_option maxHeartbeats 4000000 in
theorem rchains_any {w : World} {ao : Option Addr} {cap : Nat} {l : List EvD} (hr : EvRow w (.slice ao l.length cap) l) (hl : l.length ≤ 1000) (hwf : ∀ e ∈ l, e.Wf) :
    Calls Tryz.prog 20 #[.slice ao l.length cap] w fun y w' => y = .returned (.int .i64 (chainS l)) ∧ Touch w w' [] := by
  have HRT : Hid (HidC Tryz.prog 25 #[.slice ao l.length cap] w fun e w' => e = .returned (.bool (rightS l)) ∧ Touch w w' []) := ⟨rhright_any hr hl hwf⟩
  have HAT : Hid (∀ W, Touch w W [] → HidC Tryz.prog 37 #[.slice ao l.length cap] W fun y w' => ∃ v, y = .returned v ∧ intOwn w' W.heap.size v (attS l) ∧ Touch W w' []) := fun W t => ⟨rattempts_any (SRow.keep hr t (by simp)) hl⟩
  have HBF : Hid (∀ W, Touch w W [] → ∀ i j, j < (attS l).length → HidC Tryz.prog 38 #[.slice ao l.length cap, .int .i64 (attG l i), .int .i64 (attG l j)] W fun x w' => x = .returned (.bool (befC l i j)) ∧ W = w') := fun W t i j hj => ⟨by rw [befC_eq hj]; exact rbefore_any (SRow.keep hr t (by simp)) hl _ _⟩
  have hal : (attS l).length ≤ l.length := attS_le l
  obtain ⟨V, hV⟩ : ∃ V, V = chainS l := ⟨_, rfl⟩
  have HV : Hid (V = chainS l) := hV
  rw [← hV]
  obtain ⟨i0, hi0, hz0, hz1, hz2⟩ := info_parts Tryz.info_int
  generalize l.length = L at *
  clear hr hwf hV
  go_enter Tryz.func20, Tryz.ntmps20
  go_wp2_with fail
  refine HRT.out.out.mono ?_
  rintro y w1 ⟨rfl, t1⟩
  have T1 : Hid (Touch w w1 []) := t1
  clear t1 HRT
  cases hq : rightS l with
  | false =>
    have HV2 : Hid (V = 0) := by show _ = _; rw [HV.out]; unfold chainS; rw [hq]; rfl
    clear hq
    go_wp2
    go_ret
    rw [HV2.out]
    exact ⟨rfl, T1.out⟩
  | true =>
    have HV2 : Hid (V = lgN (befC l) (attS l).length) := by show _ = _; rw [HV.out]; unfold chainS; rw [hq]; rfl
    clear hq HV
    go_wp2_with fail
    refine (HAT.out _ T1.out).out.mono ?_
    rintro y w2 ⟨v, rfl, hown, t2⟩
    obtain ⟨aa, ca, rfl, hce⟩ := int_form hown
    have T2 : Hid (Touch w w2 []) := T1.out.trans t2 (by simp)
    have HCE : Hid (∀ k, k < (attS l).length → ∃ g, aa = some ⟨g, 0, none⟩ ∧ g < w2.heap.size ∧ w2.cell? ⟨g, k, none⟩ = some (.int .i64 (attG l k))) := fun k hk => by
      obtain ⟨g, h1, h2, h3⟩ := hce k hk
      have e : attG l k = (attS l)[k] := by unfold attG; rw [List.getD_eq_getElem?_getD, List.getElem?_eq_getElem hk]; rfl
      exact ⟨g, h1, h2, by rw [e]; exact h3⟩
    clear hce hown t2 HAT T1
    generalize befC l = bef at *
    generalize attG l = fa at *
    generalize (attS l).length = N at *
    go_wp2_with fail
    go_loopw [4, 5, 6] (fun m v i wr => ∃ k : Nat, i = .int .i64 k ∧ k ≤ N ∧ m = .int .i64 (lgN bef k) ∧ intOwn wr w2.heap.size v (lens bef k) ∧ Touch w2 wr []) (fun _ _ i _ => N - (intOf i).toNat)
    case atStart => exact ⟨0, rfl, Nat.zero_le _, rfl, World.ownsRow_nil _ _ _ _, Touch.refl _ _⟩
    case round =>
      obtain ⟨W1, rfl⟩ : ∃ W, W = wr := ⟨_, rfl⟩
      obtain ⟨i, rfl, hi, rfl, hrow, hT⟩ := hrel
      have HT : Hid (Touch w2 W1 []) := hT
      have HRW : Hid (intOwn W1 w2.heap.size u5 (lens bef i)) := hrow
      by_cases hlt : i < N
      · have h1 : (i : Int) < N := by omega
        have h0 : (0 : Int) ≤ i := by omega
        obtain ⟨g, rfl, hg, m0⟩ := HCE.out i hlt
        have di := (hT.cell (p := ⟨g, i, none⟩) hg (by simp)).trans m0
        obtain ⟨da, dc, hu5, hde⟩ := int_form hrow
        rw [lens_len] at hu5
        have HDE : Hid (∀ j, j < i → ∃ g', da = some ⟨g', 0, none⟩ ∧ g' < W1.heap.size ∧ W1.cell? ⟨g', j, none⟩ = some (.int .i64 ((lens bef i).getD j 0))) := fun j hj => by
          obtain ⟨g', q1, q2, q3⟩ := hde j (by rw [lens_len]; exact hj)
          exact ⟨g', q1, q2, by rw [List.getD_eq_getElem?_getD, List.getElem?_eq_getElem (by rw [lens_len]; exact hj)]; exact q3⟩
        subst hu5
        clear hde hrow hT m0
        go_wp2_with fail
        go_loopw [7, 8] (fun n jv wv => ∃ j : Nat, jv = .int .i64 j ∧ j ≤ i ∧ n = .int .i64 (chI bef (lens bef i) i j) ∧ Touch W1 wv []) (fun _ jv _ => i - (intOf jv).toNat)
        case atStart => exact ⟨0, rfl, Nat.zero_le _, rfl, Touch.refl _ _⟩
        case round =>
          obtain ⟨j, rfl, hj, rfl, hT5⟩ := hrel
          have HT5 : Hid (Touch W1 wr []) := hT5
          clear hT5
          have hrgi := chI_range (bef := bef) (i := i) (lens_range bef i) j
          have hdr := lens_range bef i j
          by_cases hjl : j < i
          · have h1j : (j : Int) < i := by omega
            have h0j : (0 : Int) ≤ j := by omega
            have hjN : (j : Int) < N := by omega
            obtain ⟨g1, e1, hg1, m1⟩ := HCE.out j (by omega)
            obtain rfl : g1 = g := by simpa [eq_comm] using e1
            have dj := ((HT.out.trans HT5.out (by simp)).cell (p := ⟨g1, j, none⟩) hg1 (by simp)).trans m1
            have di' := (HT5.out.cell (p := ⟨g1, i, none⟩) (Nat.lt_of_lt_of_le hg1 HT.out.size) (by simp)).trans di
            obtain ⟨g', rfl, hg', m2⟩ := HDE.out j hjl
            have m3 := (HT5.out.cell (p := ⟨g', j, none⟩) hg' (by simp)).trans m2
            have HBB : Hid (∀ W, Touch w W [] → Calls Tryz.prog 38 #[.slice ao L cap, .int .i64 (fa j), .int .i64 (fa i)] W fun x w' => x = .returned (.bool (bef j i)) ∧ W = w') := fun W t => (HBF.out W t j i (by omega)).out
            have HTT : Hid (Touch w wr []) := (T2.out.trans HT.out (by simp)).trans HT5.out (by simp)
            have hch : chI bef (lens bef i) i (j + 1) = if bef j i then max (chI bef (lens bef i) i j) ((lens bef i).getD j 0 + 1) else chI bef (lens bef i) i j := rfl
            have HCH : Hid _ := hch
            clear hch e1 m1
            generalize (lens bef i).getD j 0 = d at *
            generalize chI bef (lens bef i) i j = c at *
            have hwd : IntKind.i64.wrap (d + 1) = d + 1 := by rw [IntKind.wrap_i64]; omega
            cases hq : bef j i with
            | false =>
              have HC2 : Hid (chI bef (lens bef i) i (j + 1) = c) := by show _ = _; rw [HCH.out, hq]; rfl
              rw [hq] at HBB
              clear hq HCH
              go_wp2_with fail
              go_quiet (first | (go_at_call 38; exact Calls.quiet_of_same ((HBB.out _ (HTT.out.drewN _)).mono fun _ _ h => ⟨h.1, h.2.symm⟩)))
              go_wp2
              go_roundw
              case rel => exact ⟨j + 1, by go_num, by omega, by rw [HC2.out], HT5.out.drewN _⟩
              case measure => simp [intOf]; omega
            | true =>
              have HC2 : Hid (chI bef (lens bef i) i (j + 1) = max c (d + 1)) := by show _ = _; rw [HCH.out, hq]; rfl
              rw [hq] at HBB
              clear hq HCH
              by_cases hgt : c < d + 1
              · have hgd : decide (d + 1 > c) = true := decide_eq_true hgt
                go_wp2_with fail
                go_quiet (first | (go_at_call 38; exact Calls.quiet_of_same ((HBB.out _ (HTT.out.drewN _)).mono fun _ _ h => ⟨h.1, h.2.symm⟩)))
                go_wp2
                go_roundw
                case rel => exact ⟨j + 1, by go_num, by omega, by rw [HC2.out]; congr 1; omega, HT5.out.drewN _⟩
                case measure => simp [intOf]; omega
              · have hgd : decide (d + 1 > c) = false := decide_eq_false hgt
                go_wp2_with fail
                go_quiet (first | (go_at_call 38; exact Calls.quiet_of_same ((HBB.out _ (HTT.out.drewN _)).mono fun _ _ h => ⟨h.1, h.2.symm⟩)))
                go_wp2
                go_roundw
                case rel => exact ⟨j + 1, by go_num, by omega, by rw [HC2.out]; congr 1; omega, HT5.out.drewN _⟩
                case measure => simp [intOf]; omega
          · obtain rfl : j = i := by omega
            have HLN : Hid (lens bef (j + 1) = lens bef j ++ [chI bef (lens bef j) j j]) := rfl
            have HLG : Hid (lgN bef (j + 1) = max (lgN bef j) (chI bef (lens bef j) j j)) := rfl
            have hgr := lgN_range bef j
            have hlen := lens_len bef j
            have hrow : wr.ownsRow w2.heap.size 3 1 (.slice da j dc) (lens bef j).length ((lens bef j).map (Value.int .i64)) := ownsRow_touch HRW.out HT5.out (by simp)
            have HT6 : Hid (Touch w2 wr []) := HT.out.trans HT5.out (by simp)
            have hts := HT6.out.size
            clear HRW HDE di
            generalize Value.slice da j dc = sv at *
            generalize chI bef (lens bef j) j j = c at *
            generalize lgN bef j = m at *
            generalize lens bef j = ys at *
            have hnew : ∀ q u, [Value.int .i64 c][q]? = some u → (wr.alloc (.cells #[.int .i64 c] 3)).cell? (Addr.add ⟨wr.heap.size, 0, none⟩ q) = some u := World.news_of_block (cs := #[.int .i64 c]) (t := 3) (fr := (0, 0)) (heap_alloc_new wr _)
            go_wp2_with (at_builtin; refine wpList_append_own _ rfl _ _ 76 rfl w2.heap.size 3 i0 _ 1 8 Tryz.underlying76 hi0 hz0 hz1 hz2 rfl (by decide) _ _ _ rfl (hrow.alloc _) ⟨wr.heap.size, 0, none⟩ 1 1 [.int .i64 c] rfl rfl hnew (by simp [Value.oneCell']) (by unfold maxLen; omega) (by omega) (by simp; omega) ?_)
            intro v' w3 hown' hgrow _
            have t3 : Hid (Touch w2 w3 []) := (HT6.out.alloc _).grown hgrow (fun q hq => .inr (by
              rcases hrow.2 with ⟨e, _⟩ | ⟨g, cap, cur, e, hbg, _⟩
              · rw [e] at hq; simp [Value.ownBlock] at hq
              · rw [e] at hq; simp [Value.ownBlock] at hq; omega))
            have HR3 : Hid (intOwn w3 w2.heap.size v' (lens bef (j + 1))) := by
              show w3.ownsRow _ _ _ _ _ _
              rw [HLN.out, List.length_append, List.map_append]
              simpa [hlen] using hown'
            clear hown' hgrow hrow hnew
            by_cases hgt : m < c
            · have HG : Hid (lgN bef (j + 1) = c) := by show _ = _; rw [HLG.out]; omega
              clear HLG HLN
              go_wp2
              go_roundw
              case rel => exact ⟨j + 1, by go_num, by omega, by rw [HG.out], HR3.out, t3.out⟩
              case measure => simp [intOf]; omega
            · have HG : Hid (lgN bef (j + 1) = m) := by show _ = _; rw [HLG.out]; omega
              clear HLG HLN
              go_wp2
              go_roundw
              case rel => exact ⟨j + 1, by go_num, by omega, by rw [HG.out], HR3.out, t3.out⟩
              case measure => simp [intOf]; omega
      · obtain rfl : i = N := by omega
        clear hrow hT
        go_wp2
        go_ret
        rw [HV2.out]
        exact ⟨rfl, T2.out.trans HT.out (by simp)⟩

end Go.Proofs.YtmiaibpdeofokaaGreatDoor

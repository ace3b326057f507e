/-
  TopGuarded walked.
-/
import Derived.Test.YtnlamhmjlgaomaaDoorOfCalls
import Derived.Test.YtnlamhmjlgaomaaDoorGuardPlain
namespace Go.Proofs.YtnlamhmjlgaomaaDoor
set_option linter.unusedVariables false
set_option linter.unusedSimpArgs false
open Go.RowKit Go.Sort

/-- A slice of bytes, that can be read. -/
def ByteRow (w : World) (v : Value) (l : List Int) : Prop :=
  ∃ ao cap, v = .slice ao l.length cap ∧ (l ≠ [] → ∃ g off, ao = some ⟨g, off, none⟩ ∧ g < w.heap.size ∧ ∀ k (hk : k < l.length), w.cell? ⟨g, off + k, none⟩ = some (.int .u8 l[k]))
theorem ByteRow.at {w : World} {ao : Option Addr} {cap : Nat} {l : List Int} (h : ByteRow w (.slice ao l.length cap) l) (k : Nat) (hk : k < l.length) : ∃ g off, ao = some ⟨g, off, none⟩ ∧ g < w.heap.size ∧ w.cell? ⟨g, off + k, none⟩ = some (.int .u8 l[k]) := by
  obtain ⟨ao', cap', e, h1⟩ := h
  simp only [Value.slice.injEq, true_and] at e
  obtain ⟨rfl, rfl⟩ := e
  obtain ⟨g, off, rfl, hlt, hc⟩ := h1 (by intro e; rw [e] at hk; simp at hk)
  exact ⟨g, off, rfl, hlt, hc k hk⟩

theorem beq_dec (a b : Int) : (a == b) = decide (a = b) := by
  by_cases h : a = b <;> simp [h]

/-- The variables. -/
def varsK (l : List Int) (k : Nat) : List Int := (l.take k).map (· % 12)
theorem varsK_succ {l : List Int} {k : Nat} (hk : k < l.length) : varsK l (k + 1) = varsK l k ++ [l[k] % 12] := by
  unfold varsK
  rw [List.take_succ_eq_append_getElem hk, List.map_append]
  rfl
theorem varsK_le (l : List Int) (k : Nat) : (varsK l k).length ≤ k := by unfold varsK; simp; omega

/-- A row of the call's own can be read. -/
theorem introw_of_own {w : World} {B : Nat} {v : Value} {l : List Int} (h : w.ownsRow B 3 1 v l.length (l.map (Value.int .i64))) : IntRow w v l := by
  rcases h.2 with ⟨rfl, h0⟩ | ⟨g, cap, cur, rfl, hb, hg, _⟩
  · exact ⟨none, 0, by rw [h0], fun hn => absurd (List.eq_nil_of_length_eq_zero h0) hn⟩
  · refine ⟨_, cap, rfl, fun _ => ⟨g, 0, rfl, lt_of_heap hg, fun k hk => ?_⟩⟩
    have := h.cells (g := g) rfl k (.int .i64 l[k]) (by simp [hk])
    rw [Addr.add_lit] at this
    simpa using this

set_option maxRecDepth 100000 in
set_option maxHeartbeats 4000000 in
theorem guarded_walk (ao : Option Addr) (cap : Nat) (l : List Int) (hl0 : ∀ x ∈ l, 0 ≤ x ∧ x ≤ 255) (oth : Int) (ho0 : 0 ≤ oth) (ho1 : oth ≤ 255) (w : World) (S : Sh w) (hr : ByteRow w (.slice ao l.length cap) l) (hl : l.length ≤ maxLen) :
    Calls Tryd.prog 4 #[.slice ao l.length cap, .int .u8 oth] w fun e w' => e = .returned (.bool true) ∧ Touch w w' [] := by
  unfold maxLen at hl
  have HS : Hid _ := S
  have HBR : Hid (ByteRow w (.slice ao l.length cap) l) := hr
  have HL0 : Hid _ := hl0
  have hgl : 0 < w.heap.size := S.lt
  obtain ⟨i0, hi, hz0, hz1, hz2⟩ := info_parts Tryd.info_int
  obtain ⟨N, hN⟩ : ∃ N, N = l.length := ⟨_, rfl⟩
  have HN : Hid (N = l.length) := hN
  rw [← hN] at hl ⊢
  clear S hr hl0 hN
  have hnew := tnew_ok 4 (by omega) (by omega) w
  go_enter Tryd.func4, Tryd.ntmps4
  go_wp2_with fail
  refine hnew.mono ?_
  rintro e w1 ⟨rfl, ho, t1, hs1⟩
  clear hnew
  have HO : Hid _ := ho
  have HT1 : Hid _ := t1
  clear ho t1
  obtain ⟨b, hb⟩ : ∃ b, b = w.heap.size := ⟨_, rfl⟩
  rw [← hb] at HO ⊢
  have HBB : Hid (b = w.heap.size) := hb
  rw [← hb] at hs1 hgl
  have HS1 : Hid (w1.heap.size = b + 1) := hs1
  clear hb hs1
  go_wp2_with fail
  -- the variables that are written
  go_loopw [6, 7] (fun v i wr => ∃ k : Nat, i = .int .i64 k ∧ k ≤ N ∧ k ≤ 8 ∧ wr.ownsRow w1.heap.size 3 1 v (varsK l k).length ((varsK l k).map (Value.int .i64)) ∧ Touch w1 wr []) (fun _ i _ => 8 - (intOf i).toNat)
  case atStart => exact ⟨0, rfl, by omega, by omega, World.ownsRow_nil _ _ _ _, Touch.refl _ _⟩
  case round =>
    obtain ⟨k, rfl, hk, hk8, hrow, hT⟩ := hrel
    have HT : Hid _ := hT
    have hts := hT.size
    have hle := varsK_le l k
    by_cases hlt : k < N ∧ k < 8
    · obtain ⟨hlt, hlt8⟩ := hlt
      have hlt' : (k : Int) < N := by omega
      have hlt8' : (k : Int) < 8 := by omega
      have hkl : k < l.length := by rw [← HN.out]; exact hlt
      obtain ⟨g, off, hao, hg, M0⟩ := ByteRow.at HBR.out k hkl
      have m0 := ((HT1.out.trans hT (by simp)).cell (p := ⟨g, off + k, none⟩) hg (by simp)).trans M0
      have HK : Hid _ := varsK_succ hkl
      have hx := HL0.out l[k] (List.getElem_mem hkl)
      subst hao
      clear hT M0
      generalize l[k] = x at *
      go_wp2_with (at_builtin; refine wpList_append_own_at _ rfl _ _ 22 rfl w1.heap.size 3 i0 (.int .i64 0) 1 8 Tryd.underlying22 hi hz0 hz1 hz2 rfl (by decide) _ _ _ rfl (hrow.alloc _) ⟨wr.heap.size, 0, none⟩ 1 1 [.int .i64 (x % 12)] rfl rfl (cell_one_new _ _ _) (by simp [Value.oneCell']) (by unfold maxLen; omega) (by omega) (by simp; omega) ?_)
      intro v' w2 hown' hgrow _ _
      have t2 : Touch w1 w2 [] := (HT.out.alloc _).grown hgrow (fun q hq => .inr (by
        rcases hrow.2 with ⟨rfl, _⟩ | ⟨g, cap, cur, rfl, hbg, _⟩
        · simp [Value.ownBlock] at hq
        · simp [Value.ownBlock] at hq; omega))
      have HR2 : Hid (w2.ownsRow w1.heap.size 3 1 _ _ _) := hown'
      clear hown' hgrow hrow
      go_wp2
      go_roundw
      case rel => exact ⟨k + 1, by go_num, by omega, by omega, by rw [HK.out, List.length_append, List.map_append]; exact HR2.out, t2⟩
      case measure => simp [intOf]; omega
    · -- the stripes
      have HQ : Hid (∀ x ∈ varsK l k, 0 ≤ x ∧ x < 12) := by
        intro x hx
        unfold varsK at hx
        rw [List.mem_map] at hx
        obtain ⟨y, _, rfl⟩ := hx
        omega
      generalize hq : varsK l k = q at *
      have hstr := tstripes_any (HO.out.touch hT (by simp)) (good_new 4 (by omega) (by omega))
      have hir := introw_of_own hrow
      obtain ⟨ao3, cap3, e3⟩ : ∃ ao3 cap3, u6 = .slice ao3 q.length cap3 := by
        obtain ⟨ao3, cap3, e3, _⟩ := hir
        exact ⟨ao3, cap3, e3⟩
      subst e3
      have hst := hstr ao3 cap3 q (by omega) hir
      have e4 : (List.replicate 4 (0 : Int)).length = 4 := rfl
      rw [e4] at hst
      obtain ⟨A, B, C, D, hLf⟩ := stripes4 q
      rw [hLf] at hst
      have hol := lf_len A B C D
      have HLK : Hid _ := lf_lock A B C D
      have HUL : Hid _ := lf_unlock A B C D
      have HDU : Hid _ := lf_during A B C D
      have HBE : Hid _ := lf_behind A B C D
      have HHE : Hid _ := lf_held A B C D
      generalize Lf A B C D = L at *
      have HO2 : Hid (TObj wr b 0 (List.replicate 4 0)) := HO.out.touch hT (by simp)
      have HT2 : Hid (Touch w wr []) := HT1.out.trans hT (by simp)
      generalize q.length = nq at *
      clear hstr hir hrow hT HT HQ hq hLf HO
      rcases Nat.lt_or_ge k N with hkN | hkN
      · have a1 : (k : Int) < N := by omega
        have a2 : ¬ (k : Int) < 8 := by omega
        go_wp2_with fail
        refine hst.mono ?_
        rintro e w3 ⟨v3, B3, rfl, ho3, hB3, t3⟩
        obtain ⟨ao4, cap4, e4⟩ : ∃ ao4 cap4, v3 = .slice ao4 L.length cap4 := by
          obtain ⟨ao4, cap4, e4, _⟩ := introw_of_own ho3
          exact ⟨ao4, cap4, e4⟩
        subst e4
        have hbB : b < B3 := Nat.lt_of_lt_of_le HO2.out.lt hB3
        have HOW : Hid (w3.ownsRow B3 3 1 (.slice ao4 L.length cap4) L.length (L.map (Value.int .i64))) := ho3
        have HRD : Hid (∀ W, Touch w3 W [b] → ∀ k (hk : k < L.length), ∃ g off, ao4 = some ⟨g, off, none⟩ ∧ W.cell? ⟨g, off + k, none⟩ = some (.int .i64 L[k])) := by
          intro W t k hk
          have h5 := ownsRow_touch HOW.out t (fun g hg => by
            have : B3 ≤ g := by
              rcases HOW.out.2 with ⟨e6, _⟩ | ⟨g6, cap6, cur6, e6, h6, _⟩
              · rw [e6] at hg; simp [Value.ownBlock] at hg
              · rw [e6] at hg
                simp [Value.ownBlock] at hg
                omega
            simp
            omega)
          obtain ⟨g, off, e6, _, h6⟩ := (introw_of_own h5).at k hk
          exact ⟨g, off, e6, h6⟩
        have HO3 : Hid (TObj w3 b 0 (lockK L 0)) := HO2.out.touch t3 (by simp)
        have HT3 : Hid (Touch w w3 []) := HT2.out.trans t3 (by simp)
        have HNB : Hid (∀ W, Touch w3 W [b] → Touch w W []) := fun W t => HT3.out.trans t (by intro x hx; simp at hx; exact .inr (by have := HBB.out; omega))
        have hclk := clock_any HO3.out
        clear hst ho3 hB3 t3 HO2 HT2 HOW hbB
        obtain ⟨M, hM⟩ : ∃ M, M = L.length := ⟨_, rfl⟩
        have HM : Hid (M = L.length) := hM
        have hM4 : M ≤ 4 := by rw [hM]; exact hol
        rw [← hM]
        clear hM hol
        go_wp2_with fail
        refine hclk.mono ?_
        rintro e w4 ⟨rfl, rfl⟩
        clear hclk
        go_wp2_with fail
        go_loopw [10] (fun i W => ∃ k : Nat, i = .int .i64 k ∧ k ≤ M ∧ TObj W b 0 (lockK L k) ∧ Touch w3 W [b]) (fun i _ => M - (intOf i).toNat)
        case atStart => exact ⟨0, rfl, by omega, HO3.out, Touch.refl _ _⟩
        case round =>
          clear HO3 HT3
          obtain ⟨k, rfl, hk, hO, hT⟩ := hrel
          by_cases hlt : k < M
          · have hlt' : (k : Int) < M := by omega
            have hkl : k < L.length := by rw [← HM.out]; exact hlt
            obtain ⟨g, off, hao, m0⟩ := HRD.out wr hT k hkl
            have hlk := tlock_ext hO (lockK_good L k) (HS.out.touch (HNB.out wr hT) (by simp)) 0 L[k]
            have h0 := HLK.out ⟨k, by omega⟩ hkl
            rw [List.getD_eq_getElem?_getD, List.getElem?_eq_getElem hkl] at h0
            simp only [Option.getD_some] at h0
            rw [h0, ← lockK_succ hkl] at hlk
            have HT : Hid _ := hT
            clear hO hT h0
            subst hao
            generalize L[k] = x at *
            go_wp2_with fail
            refine hlk.mono ?_
            rintro e w5 ⟨rfl, ho5, t5⟩
            have HO5 : Hid _ := ho5
            have HT5 : Hid (Touch w3 w5 [b]) := HT.out.trans t5 (fun x hx => .inl hx)
            clear hlk ho5 t5 HT m0
            go_wp2
            go_roundw
            case rel => exact ⟨k + 1, by go_num, by omega, HO5.out, HT5.out⟩
            case measure => simp [intOf]; omega
          · obtain rfl : k = M := by omega
            have htk := ttick_ext hO (lockK_good L k)
            have e7 : tickS 0 = ((1, 0), 1) := by decide +kernel
            rw [e7] at htk
            have HT : Hid _ := hT
            clear hO hT e7
            go_wp2_with fail
            refine htk.mono ?_
            rintro e w5 ⟨rfl, ho5, t5⟩
            have HT5 : Hid (Touch w3 w5 [b]) := HT.out.trans t5 (fun x hx => .inl hx)
            have hof := of_any ho5 (by rw [lockK_len]; omega) (oth % 12)
            rw [lockK_len] at hof
            have hof0 : 0 ≤ ofP 4 (oth % 12) := ofP_in (by omega) (by omega) (by omega)
            have hof1 : ofP 4 (oth % 12) < 4 := ofP_lt (by omega) _
            have HO5 : Hid _ := ho5
            generalize ofP 4 (oth % 12) = o at *
            clear htk ho5 t5 HT
            simp only [two]
            go_wp2_with fail
            refine hof.mono ?_
            rintro e w6 ⟨rfl, rfl⟩
            clear hof
            go_wp2_with fail
            go_loopw [14, 15] (fun m i W => ∃ k2 : Nat, i = .int .i64 k2 ∧ k2 ≤ k ∧ m = .bool ((L.take k2).any fun s => decide (s = o)) ∧ w5 = W) (fun _ i _ => k - (intOf i).toNat)
            case atStart => exact ⟨0, rfl, by omega, rfl, rfl⟩
            case round =>
              obtain ⟨k2, rfl, hk2, rfl, rfl⟩ := hrel
              by_cases hl2 : k2 < k
              · have hl2' : (k2 : Int) < k := by omega
                have hkl : k2 < L.length := by rw [← HM.out]; exact hl2
                obtain ⟨g, off, hao, m0⟩ := HRD.out w5 HT5.out k2 hkl
                have HA : Hid (((L.take (k2 + 1)).any fun s => decide (s = o)) = (((L.take k2).any fun s => decide (s = o)) || decide (L[k2] = o))) := by
                  show ((L.take (k2 + 1)).any fun s => decide (s = o)) = (((L.take k2).any fun s => decide (s = o)) || decide (L[k2] = o))
                  rw [List.take_succ_eq_append_getElem hkl, List.any_append]
                  simp
                subst hao
                generalize L[k2] = x at *
                generalize ((L.take k2).any fun s => decide (s = o)) = q2 at *
                cases q2 with
                | true =>
                  clear m0
                  go_wp2
                  go_roundw
                  case rel => exact ⟨k2 + 1, by go_num, by omega, by rw [HA.out]; rfl, by first | rfl | trivial⟩
                  case measure => simp [intOf]; omega
                | false =>
                  go_wp2
                  go_roundw
                  case rel => exact ⟨k2 + 1, by go_num, by omega, by rw [HA.out]; simp [beq_dec], by first | rfl | trivial⟩
                  case measure => simp [intOf]; omega
              · obtain rfl : k2 = k := by omega
                have hall : (L.take k2) = L := List.take_of_length_le (by have := HM.out; omega)
                rw [hall]
                have hins : inS (lockK L k2) o := by unfold inS; rw [lockK_len]; omega
                have hwd := word_in HO5.out o hins (by rw [lockK_len]; omega)
                have hgw := (lockK_good1 L k2).at hins
                have hpw := passes_ext (wordAt (lockK L k2) o) 1 0 hgw.1 w5 (HS.out.touch (HNB.out w5 HT5.out) (by simp))
                have hdu := HDU.out ⟨o.toNat, by omega⟩
                have eo : ((o.toNat : Nat) : Int) = o := by omega
                simp only [eo] at hdu
                rw [← HM.out] at hdu
                have hbe := HBE.out ⟨o.toNat, by omega⟩
                simp only [eo] at hbe
                rw [← HM.out] at hbe
                generalize (L.any fun s => decide (s = o)) = mine at *
                have HBE2 : Hid _ := hbe
                clear hbe
                generalize wordAt (lockK L k2) o = wd at *
                generalize hpp : passesP wd 1 0 = du at *
                obtain rfl : du = !mine := by cases du <;> cases mine <;> first | rfl | (exact absurd hdu (by decide))
                clear hall hgw hpp hdu
                simp only [two] at hwd
                go_wp2_with fail
                refine hwd.mono ?_
                rintro e w7 ⟨rfl, rfl⟩
                clear hwd
                go_wp2_with fail
                refine hpw.mono ?_
                rintro e w7 ⟨rfl, t7⟩
                have HT7 : Hid (Touch w3 w7 [b]) := HT5.out.trans t7 (by simp)
                have HO7 : Hid (TObj w7 b 1 (unlockK (lockK L k2) L 0)) := HO5.out.touch t7 (by simp)
                have HG1 : Hid _ := lockK_good1 L k2
                have HL1 : Hid _ := lockK_len L k2
                have HUL2 : Hid _ := HUL.out
                have HHE2 : Hid _ := HHE.out
                rw [← HM.out] at HUL2 HHE2
                generalize lockK L k2 = ws1 at *
                clear hpw t7 HT5 HO5 hins
                go_wp2_with fail
                go_loopw [19] (fun i W => ∃ k3 : Nat, i = .int .i64 k3 ∧ k3 ≤ k2 ∧ TObj W b 1 (unlockK ws1 L k3) ∧ Touch w3 W [b]) (fun i _ => k2 - (intOf i).toNat)
                case atStart => exact ⟨0, rfl, by omega, HO7.out, HT7.out⟩
                case round =>
                  clear HO7 HT7
                  obtain ⟨k3, rfl, hk3, hO, hT⟩ := hrel
                  by_cases hl3 : k3 < k2
                  · have hl3' : (k3 : Int) < k2 := by omega
                    have hkl : k3 < L.length := by rw [← HM.out]; exact hl3
                    obtain ⟨g, off, hao, m0⟩ := HRD.out wr hT k3 hkl
                    have hlk := tunlock_ext hO (unlockK_good ws1 L k3 HG1.out) (HS.out.touch (HNB.out wr hT) (by simp)) 0 L[k3] 1 (by omega)
                    have h0 := HUL2.out ⟨k3, by omega⟩ hl3
                    simp only at h0
                    rw [List.getD_eq_getElem?_getD, List.getElem?_eq_getElem hkl] at h0
                    simp only [Option.getD_some] at h0
                    rw [h0, ← unlockK_succ hkl] at hlk
                    have HT : Hid _ := hT
                    clear hO hT h0
                    subst hao
                    generalize L[k3] = x at *
                    go_wp2_with fail
                    refine hlk.mono ?_
                    rintro e w8 ⟨rfl, ho8, t8⟩
                    have HO8 : Hid _ := ho8
                    have HT8 : Hid (Touch w3 w8 [b]) := HT.out.trans t8 (fun x hx => .inl hx)
                    clear hlk ho8 t8 HT m0
                    go_wp2
                    go_roundw
                    case rel => exact ⟨k3 + 1, by go_num, by omega, HO8.out, HT8.out⟩
                    case measure => simp [intOf]; omega
                  · obtain rfl : k3 = k2 := by omega
                    have hlen : (unlockK ws1 L k3).length = 4 := unlockK_len ws1 L k3 HL1.out
                    have hG := unlockK_good ws1 L k3 HG1.out
                    have hins2 : inS (unlockK ws1 L k3) o := by unfold inS; rw [hlen]; omega
                    have hwd2 := word_in hO o hins2 (by omega)
                    have hgw2 := hG.at hins2
                    have S8 := HS.out.touch (HNB.out wr hT) (by simp)
                    have hp0 := passes_ext (wordAt (unlockK ws1 L k3) o) 1 0 hgw2.1 wr S8
                    have hbe := HBE2.out
                    have HP1 : Hid (∀ W, Sh W → Calls Tryd.prog 18 #[.int .u64 (wordAt (unlockK ws1 L k3) o), .int .i64 1, .int .u64 1] W fun e w' => e = .returned (.bool (passesP (wordAt (unlockK ws1 L k3) o) 1 1)) ∧ Touch W w' []) := fun W hS => passes_ext _ 1 1 hgw2.1 W hS
                    rw [hbe.2] at HP1
                    have hb1 := hbe.1
                    have HHL : Hid (∀ W, TObj W b 1 (unlockK ws1 L k3) → Sh W → Calls Tryd.prog 20 #[ptr b, .int .i64 0] W (HeldE W [])) := by
                      intro W h1 h2
                      have h3 := held_get h1 hG h2 0
                      rw [hlen, HHE2.out] at h3
                      exact h3
                    have HO9 : Hid _ := hO
                    have HT9 : Hid _ := hT
                    have HCK : Hid (∀ W, TObj W b 1 (unlockK ws1 L k3) → Calls Tryd.prog 14 #[ptr b] W fun e w' => e = .returned (.int .u64 1) ∧ W = w') := fun W h => clock_any h
                    generalize wordAt (unlockK ws1 L k3) o = wb at *
                    generalize passesP wb 1 0 = p0 at *
                    obtain rfl : p0 = !mine := by cases p0 <;> cases mine <;> first | rfl | (exact absurd hb1 (by decide))
                    clear hb1
                    clear hG hins2 hgw2 hbe hO hT S8 HBE2 hlen
                    simp only [two] at hwd2
                    have hmm : (!mine != mine) = true := by cases mine <;> rfl
                    go_wp2_with fail
                    refine hwd2.mono ?_
                    rintro e w9 ⟨rfl, rfl⟩
                    clear hwd2
                    go_wp2_with fail
                    refine hp0.mono ?_
                    rintro e wa ⟨rfl, ta⟩
                    have hOa := HO9.out.touch ta (by simp)
                    have HTa : Hid (Touch w3 wa [b]) := HT9.out.trans ta (by simp)
                    have hck := HCK.out wa hOa
                    have hp1 := HP1.out wa (HS.out.touch (HNB.out wa HTa.out) (by simp))
                    have HOa : Hid _ := hOa
                    clear hp0 ta hOa HO9 HT9 HCK HP1
                    go_wp2_with fail
                    refine hck.mono ?_
                    rintro e w9 ⟨rfl, rfl⟩
                    clear hck
                    go_wp2_with fail
                    refine hp1.mono ?_
                    rintro e wc ⟨rfl, tc⟩
                    have HTc : Hid (Touch w3 wc [b]) := HTa.out.trans tc (by simp)
                    have hhl := HHL.out wc (HOa.out.touch tc (by simp)) (HS.out.touch (HNB.out wc HTc.out) (by simp))
                    clear hp1 tc HTa HOa HHL
                    go_wp2_with fail
                    refine hhl.mono ?_
                    rintro e wd2 ⟨vd, Bd, rfl, hod, _, td⟩
                    have HTd : Hid (Touch w wd2 []) := HNB.out wd2 (HTc.out.trans td (by simp))
                    obtain ⟨aod, capd, ed⟩ : ∃ aod capd, vd = .slice aod 0 capd := by
                      obtain ⟨aod, capd, ed, _⟩ := introw_of_own hod
                      exact ⟨aod, capd, ed⟩
                    subst ed
                    clear hhl hod td HTc
                    go_wp2
                    go_ret
                    exact ⟨by simp, HTd.out⟩
      · have a1 : ¬ (k : Int) < N := by omega
        go_wp2_with fail
        refine hst.mono ?_
        rintro e w3 ⟨v3, B3, rfl, ho3, hB3, t3⟩
        obtain ⟨ao4, cap4, e4⟩ : ∃ ao4 cap4, v3 = .slice ao4 L.length cap4 := by
          obtain ⟨ao4, cap4, e4, _⟩ := introw_of_own ho3
          exact ⟨ao4, cap4, e4⟩
        subst e4
        have hbB : b < B3 := Nat.lt_of_lt_of_le HO2.out.lt hB3
        have HOW : Hid (w3.ownsRow B3 3 1 (.slice ao4 L.length cap4) L.length (L.map (Value.int .i64))) := ho3
        have HRD : Hid (∀ W, Touch w3 W [b] → ∀ k (hk : k < L.length), ∃ g off, ao4 = some ⟨g, off, none⟩ ∧ W.cell? ⟨g, off + k, none⟩ = some (.int .i64 L[k])) := by
          intro W t k hk
          have h5 := ownsRow_touch HOW.out t (fun g hg => by
            have : B3 ≤ g := by
              rcases HOW.out.2 with ⟨e6, _⟩ | ⟨g6, cap6, cur6, e6, h6, _⟩
              · rw [e6] at hg; simp [Value.ownBlock] at hg
              · rw [e6] at hg
                simp [Value.ownBlock] at hg
                omega
            simp
            omega)
          obtain ⟨g, off, e6, _, h6⟩ := (introw_of_own h5).at k hk
          exact ⟨g, off, e6, h6⟩
        have HO3 : Hid (TObj w3 b 0 (lockK L 0)) := HO2.out.touch t3 (by simp)
        have HT3 : Hid (Touch w w3 []) := HT2.out.trans t3 (by simp)
        have HNB : Hid (∀ W, Touch w3 W [b] → Touch w W []) := fun W t => HT3.out.trans t (by intro x hx; simp at hx; exact .inr (by have := HBB.out; omega))
        have hclk := clock_any HO3.out
        clear hst ho3 hB3 t3 HO2 HT2 HOW hbB
        obtain ⟨M, hM⟩ : ∃ M, M = L.length := ⟨_, rfl⟩
        have HM : Hid (M = L.length) := hM
        have hM4 : M ≤ 4 := by rw [hM]; exact hol
        rw [← hM]
        clear hM hol
        go_wp2_with fail
        refine hclk.mono ?_
        rintro e w4 ⟨rfl, rfl⟩
        clear hclk
        go_wp2_with fail
        go_loopw [10] (fun i W => ∃ k : Nat, i = .int .i64 k ∧ k ≤ M ∧ TObj W b 0 (lockK L k) ∧ Touch w3 W [b]) (fun i _ => M - (intOf i).toNat)
        case atStart => exact ⟨0, rfl, by omega, HO3.out, Touch.refl _ _⟩
        case round =>
          clear HO3 HT3
          obtain ⟨k, rfl, hk, hO, hT⟩ := hrel
          by_cases hlt : k < M
          · have hlt' : (k : Int) < M := by omega
            have hkl : k < L.length := by rw [← HM.out]; exact hlt
            obtain ⟨g, off, hao, m0⟩ := HRD.out wr hT k hkl
            have hlk := tlock_ext hO (lockK_good L k) (HS.out.touch (HNB.out wr hT) (by simp)) 0 L[k]
            have h0 := HLK.out ⟨k, by omega⟩ hkl
            rw [List.getD_eq_getElem?_getD, List.getElem?_eq_getElem hkl] at h0
            simp only [Option.getD_some] at h0
            rw [h0, ← lockK_succ hkl] at hlk
            have HT : Hid _ := hT
            clear hO hT h0
            subst hao
            generalize L[k] = x at *
            go_wp2_with fail
            refine hlk.mono ?_
            rintro e w5 ⟨rfl, ho5, t5⟩
            have HO5 : Hid _ := ho5
            have HT5 : Hid (Touch w3 w5 [b]) := HT.out.trans t5 (fun x hx => .inl hx)
            clear hlk ho5 t5 HT m0
            go_wp2
            go_roundw
            case rel => exact ⟨k + 1, by go_num, by omega, HO5.out, HT5.out⟩
            case measure => simp [intOf]; omega
          · obtain rfl : k = M := by omega
            have htk := ttick_ext hO (lockK_good L k)
            have e7 : tickS 0 = ((1, 0), 1) := by decide +kernel
            rw [e7] at htk
            have HT : Hid _ := hT
            clear hO hT e7
            go_wp2_with fail
            refine htk.mono ?_
            rintro e w5 ⟨rfl, ho5, t5⟩
            have HT5 : Hid (Touch w3 w5 [b]) := HT.out.trans t5 (fun x hx => .inl hx)
            have hof := of_any ho5 (by rw [lockK_len]; omega) (oth % 12)
            rw [lockK_len] at hof
            have hof0 : 0 ≤ ofP 4 (oth % 12) := ofP_in (by omega) (by omega) (by omega)
            have hof1 : ofP 4 (oth % 12) < 4 := ofP_lt (by omega) _
            have HO5 : Hid _ := ho5
            generalize ofP 4 (oth % 12) = o at *
            clear htk ho5 t5 HT
            simp only [two]
            go_wp2_with fail
            refine hof.mono ?_
            rintro e w6 ⟨rfl, rfl⟩
            clear hof
            go_wp2_with fail
            go_loopw [14, 15] (fun m i W => ∃ k2 : Nat, i = .int .i64 k2 ∧ k2 ≤ k ∧ m = .bool ((L.take k2).any fun s => decide (s = o)) ∧ w5 = W) (fun _ i _ => k - (intOf i).toNat)
            case atStart => exact ⟨0, rfl, by omega, rfl, rfl⟩
            case round =>
              obtain ⟨k2, rfl, hk2, rfl, rfl⟩ := hrel
              by_cases hl2 : k2 < k
              · have hl2' : (k2 : Int) < k := by omega
                have hkl : k2 < L.length := by rw [← HM.out]; exact hl2
                obtain ⟨g, off, hao, m0⟩ := HRD.out w5 HT5.out k2 hkl
                have HA : Hid (((L.take (k2 + 1)).any fun s => decide (s = o)) = (((L.take k2).any fun s => decide (s = o)) || decide (L[k2] = o))) := by
                  show ((L.take (k2 + 1)).any fun s => decide (s = o)) = (((L.take k2).any fun s => decide (s = o)) || decide (L[k2] = o))
                  rw [List.take_succ_eq_append_getElem hkl, List.any_append]
                  simp
                subst hao
                generalize L[k2] = x at *
                generalize ((L.take k2).any fun s => decide (s = o)) = q2 at *
                cases q2 with
                | true =>
                  clear m0
                  go_wp2
                  go_roundw
                  case rel => exact ⟨k2 + 1, by go_num, by omega, by rw [HA.out]; rfl, by first | rfl | trivial⟩
                  case measure => simp [intOf]; omega
                | false =>
                  go_wp2
                  go_roundw
                  case rel => exact ⟨k2 + 1, by go_num, by omega, by rw [HA.out]; simp [beq_dec], by first | rfl | trivial⟩
                  case measure => simp [intOf]; omega
              · obtain rfl : k2 = k := by omega
                have hall : (L.take k2) = L := List.take_of_length_le (by have := HM.out; omega)
                rw [hall]
                have hins : inS (lockK L k2) o := by unfold inS; rw [lockK_len]; omega
                have hwd := word_in HO5.out o hins (by rw [lockK_len]; omega)
                have hgw := (lockK_good1 L k2).at hins
                have hpw := passes_ext (wordAt (lockK L k2) o) 1 0 hgw.1 w5 (HS.out.touch (HNB.out w5 HT5.out) (by simp))
                have hdu := HDU.out ⟨o.toNat, by omega⟩
                have eo : ((o.toNat : Nat) : Int) = o := by omega
                simp only [eo] at hdu
                rw [← HM.out] at hdu
                have hbe := HBE.out ⟨o.toNat, by omega⟩
                simp only [eo] at hbe
                rw [← HM.out] at hbe
                generalize (L.any fun s => decide (s = o)) = mine at *
                have HBE2 : Hid _ := hbe
                clear hbe
                generalize wordAt (lockK L k2) o = wd at *
                generalize hpp : passesP wd 1 0 = du at *
                obtain rfl : du = !mine := by cases du <;> cases mine <;> first | rfl | (exact absurd hdu (by decide))
                clear hall hgw hpp hdu
                simp only [two] at hwd
                go_wp2_with fail
                refine hwd.mono ?_
                rintro e w7 ⟨rfl, rfl⟩
                clear hwd
                go_wp2_with fail
                refine hpw.mono ?_
                rintro e w7 ⟨rfl, t7⟩
                have HT7 : Hid (Touch w3 w7 [b]) := HT5.out.trans t7 (by simp)
                have HO7 : Hid (TObj w7 b 1 (unlockK (lockK L k2) L 0)) := HO5.out.touch t7 (by simp)
                have HG1 : Hid _ := lockK_good1 L k2
                have HL1 : Hid _ := lockK_len L k2
                have HUL2 : Hid _ := HUL.out
                have HHE2 : Hid _ := HHE.out
                rw [← HM.out] at HUL2 HHE2
                generalize lockK L k2 = ws1 at *
                clear hpw t7 HT5 HO5 hins
                go_wp2_with fail
                go_loopw [19] (fun i W => ∃ k3 : Nat, i = .int .i64 k3 ∧ k3 ≤ k2 ∧ TObj W b 1 (unlockK ws1 L k3) ∧ Touch w3 W [b]) (fun i _ => k2 - (intOf i).toNat)
                case atStart => exact ⟨0, rfl, by omega, HO7.out, HT7.out⟩
                case round =>
                  clear HO7 HT7
                  obtain ⟨k3, rfl, hk3, hO, hT⟩ := hrel
                  by_cases hl3 : k3 < k2
                  · have hl3' : (k3 : Int) < k2 := by omega
                    have hkl : k3 < L.length := by rw [← HM.out]; exact hl3
                    obtain ⟨g, off, hao, m0⟩ := HRD.out wr hT k3 hkl
                    have hlk := tunlock_ext hO (unlockK_good ws1 L k3 HG1.out) (HS.out.touch (HNB.out wr hT) (by simp)) 0 L[k3] 1 (by omega)
                    have h0 := HUL2.out ⟨k3, by omega⟩ hl3
                    simp only at h0
                    rw [List.getD_eq_getElem?_getD, List.getElem?_eq_getElem hkl] at h0
                    simp only [Option.getD_some] at h0
                    rw [h0, ← unlockK_succ hkl] at hlk
                    have HT : Hid _ := hT
                    clear hO hT h0
                    subst hao
                    generalize L[k3] = x at *
                    go_wp2_with fail
                    refine hlk.mono ?_
                    rintro e w8 ⟨rfl, ho8, t8⟩
                    have HO8 : Hid _ := ho8
                    have HT8 : Hid (Touch w3 w8 [b]) := HT.out.trans t8 (fun x hx => .inl hx)
                    clear hlk ho8 t8 HT m0
                    go_wp2
                    go_roundw
                    case rel => exact ⟨k3 + 1, by go_num, by omega, HO8.out, HT8.out⟩
                    case measure => simp [intOf]; omega
                  · obtain rfl : k3 = k2 := by omega
                    have hlen : (unlockK ws1 L k3).length = 4 := unlockK_len ws1 L k3 HL1.out
                    have hG := unlockK_good ws1 L k3 HG1.out
                    have hins2 : inS (unlockK ws1 L k3) o := by unfold inS; rw [hlen]; omega
                    have hwd2 := word_in hO o hins2 (by omega)
                    have hgw2 := hG.at hins2
                    have S8 := HS.out.touch (HNB.out wr hT) (by simp)
                    have hp0 := passes_ext (wordAt (unlockK ws1 L k3) o) 1 0 hgw2.1 wr S8
                    have hbe := HBE2.out
                    have HP1 : Hid (∀ W, Sh W → Calls Tryd.prog 18 #[.int .u64 (wordAt (unlockK ws1 L k3) o), .int .i64 1, .int .u64 1] W fun e w' => e = .returned (.bool (passesP (wordAt (unlockK ws1 L k3) o) 1 1)) ∧ Touch W w' []) := fun W hS => passes_ext _ 1 1 hgw2.1 W hS
                    rw [hbe.2] at HP1
                    have hb1 := hbe.1
                    have HHL : Hid (∀ W, TObj W b 1 (unlockK ws1 L k3) → Sh W → Calls Tryd.prog 20 #[ptr b, .int .i64 0] W (HeldE W [])) := by
                      intro W h1 h2
                      have h3 := held_get h1 hG h2 0
                      rw [hlen, HHE2.out] at h3
                      exact h3
                    have HO9 : Hid _ := hO
                    have HT9 : Hid _ := hT
                    have HCK : Hid (∀ W, TObj W b 1 (unlockK ws1 L k3) → Calls Tryd.prog 14 #[ptr b] W fun e w' => e = .returned (.int .u64 1) ∧ W = w') := fun W h => clock_any h
                    generalize wordAt (unlockK ws1 L k3) o = wb at *
                    generalize passesP wb 1 0 = p0 at *
                    obtain rfl : p0 = !mine := by cases p0 <;> cases mine <;> first | rfl | (exact absurd hb1 (by decide))
                    clear hb1
                    clear hG hins2 hgw2 hbe hO hT S8 HBE2 hlen
                    simp only [two] at hwd2
                    have hmm : (!mine != mine) = true := by cases mine <;> rfl
                    go_wp2_with fail
                    refine hwd2.mono ?_
                    rintro e w9 ⟨rfl, rfl⟩
                    clear hwd2
                    go_wp2_with fail
                    refine hp0.mono ?_
                    rintro e wa ⟨rfl, ta⟩
                    have hOa := HO9.out.touch ta (by simp)
                    have HTa : Hid (Touch w3 wa [b]) := HT9.out.trans ta (by simp)
                    have hck := HCK.out wa hOa
                    have hp1 := HP1.out wa (HS.out.touch (HNB.out wa HTa.out) (by simp))
                    have HOa : Hid _ := hOa
                    clear hp0 ta hOa HO9 HT9 HCK HP1
                    go_wp2_with fail
                    refine hck.mono ?_
                    rintro e w9 ⟨rfl, rfl⟩
                    clear hck
                    go_wp2_with fail
                    refine hp1.mono ?_
                    rintro e wc ⟨rfl, tc⟩
                    have HTc : Hid (Touch w3 wc [b]) := HTa.out.trans tc (by simp)
                    have hhl := HHL.out wc (HOa.out.touch tc (by simp)) (HS.out.touch (HNB.out wc HTc.out) (by simp))
                    clear hp1 tc HTa HOa HHL
                    go_wp2_with fail
                    refine hhl.mono ?_
                    rintro e wd2 ⟨vd, Bd, rfl, hod, _, td⟩
                    have HTd : Hid (Touch w wd2 []) := HNB.out wd2 (HTc.out.trans td (by simp))
                    obtain ⟨aod, capd, ed⟩ : ∃ aod capd, vd = .slice aod 0 capd := by
                      obtain ⟨aod, capd, ed, _⟩ := introw_of_own hod
                      exact ⟨aod, capd, ed⟩
                    subst ed
                    clear hhl hod td HTc
                    go_wp2
                    go_ret
                    exact ⟨by simp, HTd.out⟩

end Go.Proofs.YtnlamhmjlgaomaaDoor

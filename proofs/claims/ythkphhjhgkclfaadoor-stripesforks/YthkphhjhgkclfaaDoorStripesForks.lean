/-
  StripesForks walked: what becomes of a Fork changes nothing.
-/
import Derived.Test.YthkphhjhgkclfaaDoorStripesFork
namespace Go.Proofs.YthkphhjhgkclfaaDoor
set_option linter.unusedVariables false
set_option linter.unusedSimpArgs false
open Go.RowKit

theorem DeedRow.touch {w w' : World} {ao : Option Addr} {cap : Nat} {l : List DeedD} (h : DeedRow w (.slice ao l.length cap) l) (t : Touch w w' []) : DeedRow w' (.slice ao l.length cap) l := by
  obtain ⟨ao', cap', e, h1⟩ := h
  refine ⟨ao', cap', e, fun hn => ?_⟩
  obtain ⟨g, off, rfl, hlt, hc⟩ := h1 hn
  refine ⟨g, off, rfl, Nat.lt_of_lt_of_le hlt t.size, fun k hk => ?_⟩
  obtain ⟨a, b, c, d⟩ := hc k hk
  exact ⟨(t.cell (p := ⟨g, _, none⟩) hlt (by simp)).trans a, (t.cell (p := ⟨g, _, none⟩) hlt (by simp)).trans b, (t.cell (p := ⟨g, _, none⟩) hlt (by simp)).trans c, (t.cell (p := ⟨g, _, none⟩) hlt (by simp)).trans d⟩

set_option maxRecDepth 100000 in
set_option maxHeartbeats 2000000 in
theorem forks_any (n : Int) (h0 : 0 ≤ n) (h1 : n ≤ 255) (ao : Option Addr) (cap : Nat) (l : List DeedD) (hwf : ∀ d ∈ l, 0 ≤ d.v) (ao2 : Option Addr) (cap2 : Nat) (l2 : List DeedD) (hwf2 : ∀ d ∈ l2, 0 ≤ d.v) (w : World) (S : Sh w) (hr : DeedRow w (.slice ao l.length cap) l) (hl : l.length ≤ maxLen) (hr2 : DeedRow w (.slice ao2 l2.length cap2) l2) (hl2 : l2.length ≤ maxLen) :
    Calls Tryd.prog 6 #[.int .u8 n, .slice ao l.length cap, .slice ao2 l2.length cap2] w fun e w' => e = .returned (.bool true) ∧ Touch w w' [] := by
  have hp := play_any n h0 h1 ao cap l hwf w S hr hl
  have HS : Hid _ := S
  obtain ⟨N2, hN2⟩ : ∃ N, N = l2.length := ⟨_, rfl⟩
  have HN2 : Hid (N2 = l2.length) := hN2
  have HR2 : Hid (DeedRow w (.slice ao2 l2.length cap2) l2) := hr2
  have HW2 : Hid _ := hwf2
  unfold maxLen at hl2
  generalize l.length = N at *
  rw [← hN2] at hl2 ⊢
  clear hr S hr2 hN2 hwf hwf2
  go_enter Tryd.func6, Tryd.ntmps6
  go_wp2_with fail
  refine hp.mono ?_
  rintro e w1 ⟨b, rb, vw, rfl, hP, t1⟩
  clear hp
  have hlv := slive_any w1 (HS.out.touch t1 (by simp))
  generalize runD (n % 8 + 1).toNat (l.take 60) = st at *
  obtain ⟨now, ws⟩ := st
  have HP : Hid _ := hP
  clear hP
  go_wp2_with fail
  refine hlv.mono ?_
  rintro e w2 ⟨rfl, t2'⟩
  have t2 : Touch w w2 [] := t1.trans t2' (by simp)
  have hP2 := HP.out.keep t2'
  have HP2 : Hid _ := hP2
  have hf := tfork_any hP2.t hP2.g.le
  clear hlv t1 t2' hP2 HP
  go_wp2_with fail
  refine hf.mono ?_
  rintro e w3 ⟨rfl, ho3, t3⟩
  have hP3 := HP2.out.keep t3
  have hg := rfork_any (C := w2.heap.size) hP3.r hP3.g.le t3.size
  have HO3 : Hid _ := ho3
  clear hf hP3 ho3
  go_wp2_with fail
  refine hg.mono ?_
  rintro e w4 ⟨rb', vw', rfl, ho4, t4, hb4, hv4⟩
  have hQ : Pair w2.heap.size w4 w2.heap.size rb' vw' (now, ws) := fork_pair (b' := 0) (rb' := rb') HP2.out rfl HO3.out t3 ho4 t4 hb4 hv4
  have hT : Touch w2 w4 [] := t3.trans t4 (by simp)
  have HQ : Hid _ := hQ
  have HT : Hid _ := hT
  have HT2 : Hid _ := t2
  have hsh : 0 < w2.heap.size := Nat.lt_of_lt_of_le HS.out.lt t2.size
  clear hg HO3 ho4 t3 t4 hb4 hv4 hQ hT t2
  generalize hb2 : w2.heap.size = b2 at *
  have HB2 : Hid _ := hb2
  clear hb2
  go_wp2_with fail
  go_loopw [12] (fun i wr => ∃ k : Nat, i = .int .i64 k ∧ k ≤ N2 ∧ k ≤ 14 ∧ (∃ st, Pair b2 wr b2 rb' vw' st) ∧ Touch w2 wr []) (fun i _ => 14 - (intOf i).toNat)
  case atStart => exact ⟨0, rfl, by omega, by omega, ⟨_, HQ.out⟩, HT.out⟩
  case round =>
    clear HQ HT
    obtain ⟨k, rfl, hk, hk14, ⟨st, hQ⟩, t⟩ := hrel
    by_cases hlt : k < N2 ∧ k < 14
    · obtain ⟨hlt, hlt4⟩ := hlt
      have hlt' : (k : Int) < N2 := by omega
      have hlt4' : (k : Int) < 14 := by omega
      have hkl : k < l2.length := by rw [← HN2.out]; exact hlt
      have HTW : Hid (Touch w wr []) := HT2.out.trans t (by simp)
      obtain ⟨g, off, hao, hg, m0, m1, m2, m3⟩ := DeedRow.four (DeedRow.touch HR2.out HTW.out) k hkl
      have hdv := HW2.out l2[k] (List.getElem_mem hkl)
      generalize l2[k] = d at *
      obtain ⟨kd, o, s, v⟩ := d
      simp only at hdv m0 m1 m2 m3
      subst hao
      have hdo := do_pair hQ (HS.out.touch HTW.out (by simp)) hsh ⟨kd, o, s, v⟩ hdv
      simp only [DeedD.val] at hdo
      have HF : Hid _ := hQ.foot
      have HT : Hid _ := t
      clear hQ t HTW
      generalize deedS st.1 st.2 ⟨kd, o, s, v⟩ = st2 at *
      go_wp2_with fail
      refine hdo.mono ?_
      rintro e w7 ⟨rfl, hP7, S7, t7⟩
      clear hdo m0 m1 m2 m3
      have HP7 : Hid _ := hP7
      have HT7 : Hid (Touch w2 w7 []) := HT.out.trans t7 (fun x hx => .inr (by rw [HB2.out]; exact HF.out x hx))
      clear hP7 S7 t7 HT HF
      go_wp2
      go_roundw
      case rel => exact ⟨k + 1, by go_num, by omega, by omega, ⟨_, HP7.out⟩, HT7.out⟩
      case measure => simp [intOf]; omega
    · have hs1 := same_pair (HP2.out.keep t) (HS.out.touch (HT2.out.trans t (by simp)) (by simp))
      have HQ : Hid _ := hQ
      have HTW : Hid (Touch w wr []) := HT2.out.trans t (by simp)
      clear hQ t HP2 HT2
      rcases Nat.lt_or_ge k N2 with hkN | hkN
      · have a1 : (k : Int) < N2 := by omega
        have a2 : ¬ (k : Int) < 14 := by omega
        go_wp2_with fail
        refine hs1.mono ?_
        rintro e w8 ⟨rfl, t8⟩
        have hs2 := same_pair (HQ.out.keep t8) (HS.out.touch (HTW.out.trans t8 (by simp)) (by simp))
        have HT8 : Hid (Touch w w8 []) := HTW.out.trans t8 (by simp)
        clear hs1 HTW HQ t8
        go_wp2_with fail
        refine hs2.mono ?_
        rintro e w9 ⟨rfl, t9⟩
        clear hs2
        go_wp2
        go_ret
        exact ⟨by simp, HT8.out.trans t9 (by simp)⟩
      · have a1 : ¬ (k : Int) < N2 := by omega
        go_wp2_with fail
        refine hs1.mono ?_
        rintro e w8 ⟨rfl, t8⟩
        have hs2 := same_pair (HQ.out.keep t8) (HS.out.touch (HTW.out.trans t8 (by simp)) (by simp))
        have HT8 : Hid (Touch w w8 []) := HTW.out.trans t8 (by simp)
        clear hs1 HTW HQ t8
        go_wp2_with fail
        refine hs2.mono ?_
        rintro e w9 ⟨rfl, t9⟩
        clear hs2
        go_wp2
        go_ret
        exact ⟨by simp, HT8.out.trans t9 (by simp)⟩

end Go.Proofs.YthkphhjhgkclfaaDoor

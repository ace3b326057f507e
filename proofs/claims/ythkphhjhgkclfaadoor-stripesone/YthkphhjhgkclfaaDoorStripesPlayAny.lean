/-
  play: deeds on both tables: they never part, and each is what the deeds tell.
-/
import Derived.Test.YthkphhjhgkclfaaDoorStripesPlay
namespace Go.Proofs.YthkphhjhgkclfaaDoor
set_option linter.unusedVariables false
set_option linter.unusedSimpArgs false
open Go.RowKit

/-- What play leaves. -/
def PlayP (w : World) (m : Nat) (l : List DeedD) (e : Ending) (w' : World) : Prop :=
  ∃ b rb vw, e = .returned (.tuple #[ptr b, ptr rb, .bool true]) ∧ Pair w.heap.size w' b rb vw (runD m (l.take 60)) ∧ Touch w w' []

set_option maxRecDepth 100000 in
set_option maxHeartbeats 2000000 in
theorem play_any (n : Int) (h0 : 0 ≤ n) (h1 : n ≤ 255) (ao : Option Addr) (cap : Nat) (l : List DeedD) (hwf : ∀ d ∈ l, 0 ≤ d.v) (w : World) (S : Sh w) (hr : DeedRow w (.slice ao l.length cap) l) (hl : l.length ≤ maxLen) :
    Calls Tryd.prog 7 #[.int .u8 n, .slice ao l.length cap] w (PlayP w (n % 8 + 1).toNat l) := by
  unfold maxLen at hl
  obtain ⟨m, hm⟩ : ∃ m : Nat, (m : Int) = n % 8 + 1 := ⟨(n % 8 + 1).toNat, by omega⟩
  have hmt : (n % 8 + 1).toNat = m := by omega
  rw [hmt]
  have hm1 : 1 ≤ m := by omega
  have hm8 : m ≤ 8 := by omega
  have hnew := tnew_ok m hm1 hm8 w
  rw [hm] at hnew
  obtain ⟨N, hN⟩ : ∃ N, N = l.length := ⟨_, rfl⟩
  have HN : Hid (N = l.length) := hN
  have HM : Hid ((m : Int) = n % 8 + 1) := hm
  have HRW : Hid _ := hr
  have HS : Hid _ := S
  have hgl : 0 < w.heap.size := S.lt
  go_enter Tryd.func7, Tryd.ntmps7
  rw [← hN] at hl ⊢
  clear hN hm hmt hr S
  go_wp2_with fail
  refine hnew.mono ?_
  rintro e w1 ⟨rfl, ho, t1, hs1⟩
  clear hnew
  go_wp2_with fail
  have hrn := rnew_ok w.heap.size m hm1 hm8 w1 t1.size
  rw [HM.out] at hrn
  refine hrn.mono ?_
  rintro e w2 ⟨vw, rfl, hro, t2, hv⟩
  clear hrn
  obtain ⟨rb, hrb⟩ : ∃ rb, rb = w1.heap.size + 1 := ⟨_, rfl⟩
  rw [← hrb] at hro
  have HP : Hid (Pair w.heap.size w2 w.heap.size rb vw (runD m (l.take 0))) :=
    ⟨ho.touch t2 (by simp), hro, good_new m hm1 hm8, Nat.le_refl _, by simp; omega, fun k hk => by have := hv k hk; simp; omega⟩
  have t12 : Touch w w2 [] := t1.trans t2 (by simp)
  clear ho hro t1 t2 hv
  rw [← hrb]
  clear hrb hs1
  go_wp2_with fail
  go_loopw [10] (fun i wr => ∃ k : Nat, i = .int .i64 k ∧ k ≤ N ∧ k ≤ 60 ∧ Pair w.heap.size wr w.heap.size rb vw (runD m (l.take k)) ∧ Touch w wr []) (fun i _ => 60 - (intOf i).toNat)
  case atStart => exact ⟨0, rfl, by omega, by omega, HP.out, t12⟩
  case round =>
    obtain ⟨k, rfl, hk, hk60, hP, t⟩ := hrel
    clear HP t12
    by_cases hlt : k < N ∧ k < 60
    · obtain ⟨hlt, hlt6⟩ := hlt
      have hlt' : (k : Int) < N := by omega
      have hlt6' : (k : Int) < 60 := by omega
      have hkl : k < l.length := by rw [← HN.out]; exact hlt
      obtain ⟨g, off, hao, hg, M0, M1, M2, M3⟩ := DeedRow.four HRW.out k hkl
      have hn := runD_next (m := m) hkl
      have hdv := hwf l[k] (List.getElem_mem hkl)
      generalize l[k] = d at *
      obtain ⟨kd, o, s, v⟩ := d
      generalize runD m (l.take k) = st at *
      simp only at hn hdv M0 M1 M2 M3
      subst hao
      have HNX : Hid _ := hn
      have hdo := do_pair hP (HS.out.touch t (by simp)) hgl ⟨kd, o, s, v⟩ hdv
      simp only [DeedD.val] at hdo
      have m0 := (t.cell (p := ⟨g, off + k * 4, none⟩) hg (by simp)).trans M0
      have m1 := (t.cell (p := ⟨g, off + k * 4 + 1, none⟩) hg (by simp)).trans M1
      have m2 := (t.cell (p := ⟨g, off + k * 4 + 2, none⟩) hg (by simp)).trans M2
      have m3 := (t.cell (p := ⟨g, off + k * 4 + 3, none⟩) hg (by simp)).trans M3
      have HF : Hid _ := hP.foot
      have HT : Hid _ := t
      clear hn hP t
      generalize deedS st.1 st.2 ⟨kd, o, s, v⟩ = st2 at *
      go_wp2_with fail
      refine hdo.mono ?_
      rintro e w7 ⟨rfl, hP7, S7, t7⟩
      clear hdo m0 m1 m2 m3
      have HP7 : Hid _ := hP7
      have HT7 : Hid (Touch w w7 []) := HT.out.trans t7 (fun x hx => .inr (HF.out x hx))
      clear hP7 S7 t7 HT HF
      go_wp2
      go_roundw
      case rel => exact ⟨k + 1, by go_num, by omega, by omega, by rw [HNX.out]; exact HP7.out, HT7.out⟩
      case measure => simp [intOf]; omega
    · have HT : Hid _ := t
      have HPE : Hid (Pair w.heap.size wr w.heap.size rb vw (runD m (l.take 60))) := by
        have e : l.take 60 = l.take k := by
          rcases Nat.lt_or_ge k N with hkN | hkN
          · rw [show k = 60 by omega]
          · have := HN.out
            rw [List.take_of_length_le (by omega), List.take_of_length_le (by omega)]
        show Pair _ _ _ _ _ (runD m (l.take 60))
        rw [e]
        exact hP
      clear hP t
      rcases Nat.lt_or_ge k N with hkN | hkN
      · have a1 : (k : Int) < N := by omega
        have a2 : ¬ (k : Int) < 60 := by omega
        go_wp2
        go_ret3
        exact ⟨_, _, _, rfl, HPE.out, HT.out⟩
      · have a1 : ¬ (k : Int) < N := by omega
        go_wp2
        go_ret3
        exact ⟨_, _, _, rfl, HPE.out, HT.out⟩

end Go.Proofs.YthkphhjhgkclfaaDoor

/-
  package rowlockref09: Found BY ITS CONTRACT.
-/
import Derived.Test.YtjacclbifeoclaaOpqTurned
import Derived.Test.YtjacclbifeoclaaHistRefAtt
namespace Go.Proofs.Ytjacclbifeoclaa
set_option linter.unusedVariables false
set_option linter.unusedSimpArgs false
open Go.RowKit Go.Maps Go.Shelf
attribute [local go_sem] Oper.semAt_some

theorem fs_first {β : Type} {f : Nat → Option β} {N k : Nat} {o : β} (hk : k < N) (h : ∀ q, q < k → f q = none) (hf : f k = some o) : (List.range N).findSome? f = some o := by
  obtain ⟨r, rfl⟩ : ∃ r, N = k + (r + 1) := ⟨N - k - 1, by omega⟩
  rw [List.range_add, fs_app, fs_none (fun x hx => h x (by simpa using hx)), fs_mapl, List.range_succ_eq_map, List.findSome?_cons]
  simp [hf]
theorem turn_len {n : Nat} {xs : List Int} {k : Nat} (h : xs.length = n) (hk : k < fac n) : (turnF n xs k).length = n := by rw [(turn_perm n xs k h hk).length_eq, h]

set_option maxRecDepth 100000 in
set_option maxHeartbeats 8000000 in
theorem rfound_any {w : World} {ve vh vc : Value} {l : List EvD} {hp com : List Int} (hr : EvRow w ve l) (hl : l.length ≤ 1000) (hwf : ∀ e ∈ l, e.Wf) (hh : VRow w vh hp) (hhl : hp.length ≤ 1000) (hhw : ∀ x ∈ hp, Wf64 x)
    (hc : IRow w vc com) (hcl : com.length ≤ 1000) (hcap : ∀ ao n cap, vc = .slice ao n cap → n ≤ cap) :
    Calls Try.prog 11 #[ve, vh, vc] w (FoundE w (foundP l hp com)) := by
  have ha1 := asked_any hr hl hwf hh hhl hhw hc hcl hcap
  have HRUN : Hid (∀ W vo o, Touch w W [] → begE l hp com = 0 → IRow W vo o → o.length ≤ 1000 → Calls Try.prog 30 #[ve, vh, vo, vc] W (RunE W (runR l com o hp 0))) := fun W vo o t h ho hol => by
    have hb := begO_of hl h
    have hk := hb.hok
    unfold heapOk at hk
    simp only [Bool.and_eq_true, List.all_eq_true] at hk
    exact run_any (SRow.keep hr t (by simp)) hl hwf hb.named (SRow.keep hh t (by simp)) hk.1 hb.hpl ho hol (SRow.keep hc t (by simp)) hcl
  obtain ⟨ao, cap, rfl⟩ := hr.form
  obtain ⟨bo, bcap, rfl⟩ := hh.form
  obtain ⟨co, ccap, rfl⟩ := hc.form
  have HAT : Hid (∀ W, Touch w W [] → Calls Try.prog 28 #[.slice ao l.length cap] W fun x w' => ∃ v, x = .returned v ∧ intOwn w' W.heap.size v (attS l) ∧ Touch W w' []) := fun W t => rattempts_any (SRow.keep hr t (by simp)) hl
  have H1 : Hid (begE l hp com ≠ 0 → foundP l hp com = (begE l hp com, [])) := foundP_one l hp com
  have H2 : Hid (begE l hp com = 0 → 6 < (attS l).length → foundP l hp com = (4, [])) := foundP_two l hp com
  have H3 : Hid (begE l hp com = 0 → ¬ 6 < (attS l).length → (∀ q, q < fac (attS l).length → (runR l com (turnF (attS l).length (attS l) q) hp 0).2.1 ≠ 0) → foundP l hp com = (5, [])) := fun hb h6 hall => by
    rw [found_turned hl hb h6, fs_none (fun q hq => if_neg (hall q (by simpa using hq)))]
  have H4 : Hid (begE l hp com = 0 → ¬ 6 < (attS l).length → ∀ k, k < fac (attS l).length → (∀ q, q < k → (runR l com (turnF (attS l).length (attS l) q) hp 0).2.1 ≠ 0) → (runR l com (turnF (attS l).length (attS l) k) hp 0).2.1 = 0 → foundP l hp com = (0, turnF (attS l).length (attS l) k)) := fun hb h6 k hk hall hz => by
    have hf := fs_first (f := fun k => if (runR l com (turnF (attS l).length (attS l) k) hp 0).2.1 = 0 then some (turnF (attS l).length (attS l) k) else none) hk (fun q hq => if_neg (hall q hq)) (if_pos hz)
    rw [found_turned hl hb h6, hf]
  obtain ⟨FR, hFR⟩ : ∃ r, r = foundP l hp com := ⟨_, rfl⟩
  rw [← hFR] at H1 H2 H3 H4 ⊢
  clear hFR hr hh hc hcap hwf hhw
  generalize l.length = NE at *
  generalize hp.length = NH at *
  generalize com.length = NC at *
  generalize begE l hp com = er at *
  by_cases her : er = 0
  · subst her
    go_enter Try.func11, Try.ntmps11
    go_wp2_with fail
    refine ha1.mono ?_
    rintro e w1 ⟨rfl, t1⟩
    clear ha1 H1
    have hat := HAT.out w1 t1
    go_wp2_with fail
    refine hat.mono ?_
    rintro e w2 ⟨v2, rfl, hown, t2⟩
    have hir := irow_of hown
    obtain ⟨a2, c2, rfl⟩ := hir.form
    have HT2 : Hid (Touch w w2 []) := t1.trans t2 (by simp)
    have HTU : Hid (∀ W, Touch w2 W [] → ∀ k, k < fac (attS l).length → (attS l).length ≤ 6 → Calls Try.prog 29 #[.slice a2 (attS l).length c2, .int .i64 k] W fun e w' => ∃ v, e = .returned v ∧ intOwn w' W.heap.size v (turnF (attS l).length (attS l) k) ∧ Touch W w' []) := fun W t k hk h6 => turned_any (SRow.keep hir t (by simp)) h6 k hk
    have HTL : Hid (∀ k, k < fac (attS l).length → (turnF (attS l).length (attS l) k).length = (attS l).length) := fun k hk => turn_len rfl hk
    clear hat hown hir t1 t2
    obtain ⟨tf, htf⟩ : ∃ tf : Nat → List Int, tf = fun k => turnF (attS l).length (attS l) k := ⟨_, rfl⟩
    have htf' : ∀ k, turnF (attS l).length (attS l) k = tf k := fun k => by rw [htf]
    simp only [htf'] at HTU HTL H3 H4
    clear htf htf'
    generalize (attS l).length = n at *
    by_cases h6 : 6 < n
    · have q6 : (6 : Int) < n := by omega
      have HR : Hid (FR = (4, [])) := H2.out (by trivial) h6
      clear H2 H3 H4
      go_wp2
      go_ret2
      exact ⟨HT2.out, .inl ⟨by rw [HR.out]; simp, by rw [HR.out], by rw [HR.out]; rfl⟩⟩
    · have q6 : ¬ (6 : Int) < n := by omega
      have H3' : Hid ((∀ q, q < fac n → (runR l com (tf q) hp 0).2.1 ≠ 0) → FR = (5, [])) := H3.out (by trivial) h6
      have H4' : Hid (∀ k, k < fac n → (∀ q, q < k → (runR l com (tf q) hp 0).2.1 ≠ 0) → (runR l com (tf k) hp 0).2.1 = 0 → FR = (0, tf k)) := H4.out (by trivial) h6
      clear H2 H3 H4
      go_wp2_with fail
      go_loopw [10, 11] (fun m i wr => ∃ j : Nat, i = .int .i64 j ∧ m = .int .i64 (fac (j - 1) : Nat) ∧ 2 ≤ j ∧ (j ≤ n + 1 ∨ j = 2) ∧ wr = w2) (fun _ i _ => n + 1 - (intOf i).toNat)
      case atStart => exact ⟨2, rfl, rfl, by omega, .inr rfl, rfl⟩
      case round =>
        obtain ⟨j, rfl, rfl, hj2, hjn, hwr⟩ := hrel
        subst wr
        by_cases hlt : j ≤ n
        · have q1 : (j : Int) ≤ n := by omega
          obtain ⟨j', rfl⟩ : ∃ j', j = j' + 1 := ⟨j - 1, by omega⟩
          have hmul : ((fac (j' + 1 - 1) : Nat) : Int) * ((j' + 1 : Nat) : Int) = ((fac (j' + 1) : Nat) : Int) := by
            rw [Nat.add_sub_cancel, ← Int.natCast_mul]
            show _ = (((j' + 1) * fac j' : Nat) : Int)
            rw [Nat.mul_comm]
          have hb := fac_le (j' + 1) (by omega)
          have HF : Hid (fac (j' + 1) = fac (j' + 1 + 1 - 1)) := rfl
          generalize fac (j' + 1) = M2 at *
          generalize fac (j' + 1 - 1) = M1 at *
          generalize j' + 1 = j at *
          go_wp2
          go_roundw
          case rel => exact ⟨j + 1, by go_num, by rw [← HF.out], by omega, by omega, by trivial⟩
          case measure => simp [intOf]; omega
        · have q1 : ¬ (j : Int) ≤ n := by omega
          have hfac : fac (j - 1) = fac n := by
            rcases hjn with h | h
            · have : j = n + 1 := by omega
              rw [this]; rfl
            · subst h
              have : n = 0 ∨ n = 1 := by omega
              rcases this with rfl | rfl <;> rfl
          rw [hfac]
          have HNF : Hid (∀ q, q < fac n → q < fac n) := fun _ h => h
          clear hfac hjn hj2 hlt
          obtain ⟨F, hF⟩ : ∃ F, F = fac n := ⟨_, rfl⟩
          have hF7 : F ≤ 720 := by rw [hF]; exact fac_le n (by omega)
          have HF : Hid (F = fac n) := hF
          rw [← hF]
          rw [← hF] at H3' H4' HTU HTL
          clear hF HNF
          go_wp2_with fail
          go_loopw [12] (fun i wr => ∃ k : Nat, i = .int .i64 k ∧ k ≤ F ∧ (∀ q, q < k → (runR l com (tf q) hp 0).2.1 ≠ 0) ∧ Touch w2 wr []) (fun i _ => F - (intOf i).toNat)
          case atStart => exact ⟨0, rfl, Nat.zero_le _, fun q hq => absurd hq (Nat.not_lt_zero _), Touch.refl _ _⟩
          case round =>
            obtain ⟨k, rfl, hk, hall, t⟩ := hrel
            have HALL : Hid (∀ q, q < k → (runR l com (tf q) hp 0).2.1 ≠ 0) := hall
            have HT : Hid (Touch w2 wr []) := t
            clear hall
            by_cases hlt : k < F
            · have h1 : (k : Int) < F := by omega
              have htu := HTU.out wr t k hlt (by omega)
              have HLN : Hid ((tf k).length = n) := HTL.out k hlt
              clear t
              go_wp2_with fail
              refine htu.mono ?_
              rintro e w3 ⟨v3, rfl, hv3, t3⟩
              have HT3 : Hid (Touch w2 w3 []) := HT.out.trans t3 (by simp)
              have HT3w : Hid (Touch w w3 []) := HT2.out.trans HT3.out (by simp)
              have hsz : w.heap.size ≤ wr.heap.size := Nat.le_trans HT2.out.size HT.out.size
              have hv3' : intOwn w3 w.heap.size v3 (tf k) := ownsRow_low hv3 hsz
              have hrn := HRUN.out w3 v3 (tf k) HT3w.out (by trivial) (irow_of hv3) (by rw [HLN.out]; omega)
              obtain ⟨a3, c3, hf3⟩ := owns_slice hv3
              subst hf3
              have HV3 : Hid (intOwn w3 w.heap.size (.slice a3 (tf k).length c3) (tf k)) := hv3'
              have HGO : Hid ((runR l com (tf k) hp 0).2.1 = 0 → FR = (0, tf k)) := fun hz => H4'.out k hlt HALL.out hz
              have HON : Hid ((runR l com (tf k) hp 0).2.1 ≠ 0 → ∀ q, q < k + 1 → (runR l com (tf q) hp 0).2.1 ≠ 0) := fun hz q hq => by
                by_cases hqk : q = k
                · rw [hqk]; exact hz
                · exact HALL.out q (by omega)
              clear htu hv3 hv3' t3
              generalize runR l com (tf k) hp 0 = RR at *
              obtain ⟨rp, re, rh⟩ := RR
              simp only at HGO HON
              generalize hNT : (tf k).length = NT at hrn HV3 HLN ⊢
              have HNT : Hid ((tf k).length = NT) := hNT
              clear hNT
              by_cases hre : re = 0
              · subst hre
                have HFR : Hid (FR = (0, tf k)) := HGO.out (by trivial)
                clear HGO HON
                go_wp2_with fail
                refine hrn.mono ?_
                rintro e w4 ⟨t4, v4, rfl, _⟩
                clear hrn
                have HV4 : Hid (intOwn w4 w.heap.size (.slice a3 NT c3) (tf k)) := ownsRow_touch HV3.out t4 (by simp)
                have HT4 : Hid (Touch w w4 []) := HT3w.out.trans t4 (by simp)
                clear t4
                go_wp2
                go_ret2
                refine ⟨HT4.out, .inr ?_⟩
                rw [HFR.out]
                refine ⟨rfl, a3, c3, ?_, ?_⟩
                · simp only [HNT.out]; rfl
                · simp only [HNT.out]; exact HV4.out
              · have hre' : (re == 0) = false := by simpa using hre
                have HX : Hid (∀ q, q < k + 1 → (runR l com (tf q) hp 0).2.1 ≠ 0) := HON.out hre
                clear HGO HON
                go_wp2_with fail
                refine hrn.mono ?_
                rintro e w4 ⟨t4, v4, rfl, _⟩
                clear hrn
                have HT4 : Hid (Touch w2 w4 []) := HT3.out.trans t4 (by simp)
                clear t4
                go_wp2
                go_roundw
                case rel => exact ⟨k + 1, by go_num, by omega, HX.out, HT4.out⟩
                case measure => simp [intOf]; omega
            · obtain rfl : k = F := by omega
              have h1 : ¬ (k : Int) < k := by omega
              have HR : Hid (FR = (5, [])) := H3'.out HALL.out
              clear t
              go_wp2
              go_ret2
              exact ⟨HT2.out.trans HT.out (by simp), .inl ⟨by rw [HR.out]; simp, by rw [HR.out], by rw [HR.out]; rfl⟩⟩
  · have her' : (er == 0) = false := by simpa using her
    have her2 : (er != 0) = true := by simp [her]
    have HR : Hid (FR = (er, [])) := H1.out her
    have HE : Hid (er ≠ 0) := her
    clear H1 H2 H3 H4
    go_enter Try.func11, Try.ntmps11
    go_wp2_with fail
    refine ha1.mono ?_
    rintro e w1 ⟨rfl, t1⟩
    clear ha1
    go_wp2
    go_ret2
    exact ⟨t1, .inl ⟨by rw [HR.out]; exact HE.out, by rw [HR.out], by rw [HR.out]; rfl⟩⟩

end Go.Proofs.Ytjacclbifeoclaa

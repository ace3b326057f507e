/-
  ManagerPatience, WALKED.
-/
import Derived.Test.YtgnfonimnlejbaaMgrLaws
namespace Go.Proofs.Ytgnfonimnlejbaa
set_option linter.unusedVariables false
set_option linter.unusedSimpArgs false
open Go.RowKit

/-- Choose waits: the ticks. -/
theorem pm_waits (k m j : Int) (hk : k = 1 ∨ k = 2) (hj : 0 ≤ j) (hw : k = 1 → j < 4) (hw2 : k = 2 → j ≤ m) : ∃ n : Int, 1 ≤ n ∧ (k = 2 → n = 1) ∧ chooseM (PM k m j false) 0 1 = ((1, n, 0), PM k m (j + 1) false) := by
  rw [pm_choose]
  rcases hk with rfl | rfl
  · have := hw rfl
    have hc : j = 0 ∨ j = 1 ∨ j = 2 ∨ j = 3 := by omega
    rcases hc with rfl | rfl | rfl | rfl
    · exact ⟨1, by decide, by decide, rfl⟩
    · exact ⟨2, by decide, by decide, rfl⟩
    · exact ⟨4, by decide, by decide, rfl⟩
    · exact ⟨8, by decide, by decide, rfl⟩
  · have := hw2 rfl
    refine ⟨1, by decide, fun _ => rfl, ?_⟩
    rw [if_neg (by simp [killsT]; omega)]
    rfl

theorem pm_kills (k m j : Int) (h1 : k = 1 → j = 4) (h2 : k = 2 → j = m + 1) (hk : k = 1 ∨ k = 2) : chooseM (PM k m j false) 0 1 = ((2, 0, 0), PM k m j false) := by
  rw [pm_choose]
  rcases hk with rfl | rfl
  · obtain rfl := h1 rfl
    rfl
  · obtain rfl := h2 rfl
    rw [if_pos (by simp [killsT]; omega)]

theorem pm_pass (k m j : Int) : onM stopT (PM k m j false) 0 = (0, PM k m 0 false) := by
  refine Prod.ext rfl ?_
  show (PM k m j false).put 0 (stopT ⟨true, false, j, 0, 1⟩) = _
  simp only [PM, MD.put, MD.mk.injEq, true_and, and_true, stopT]
  funext i
  by_cases h0 : i = 0
  · subst h0; rfl
  · simp [h0]

set_option maxRecDepth 100000 in
set_option maxHeartbeats 1600000 in
theorem mpatience_any (kb : Bool) (m : Int) (h0 : 0 ≤ m) (h1 : m ≤ 255) (w : World) : Calls Try.prog 4 #[.bool kb, .int .u8 m] w (TrueIn w) := by
  obtain ⟨k, hk⟩ : ∃ k : Int, k = if kb = true then 2 else 1 := ⟨_, rfl⟩
  obtain ⟨want, hwant⟩ : ∃ x : Int, x = if kb = true then m + 1 else 4 := ⟨_, rfl⟩
  have hk2 : k = 1 ∨ k = 2 := by rw [hk]; split <;> simp
  have hk3 : k = 1 ∨ k = 2 ∨ k = 3 := by omega
  have hkb : k = 2 ↔ kb = true := by rw [hk]; cases kb <;> simp
  have hw1 : k = 1 → want = 4 := by intro e; rw [hwant]; cases kb with | true => rw [hk] at e; simp at e | false => rfl
  have hw2 : k = 2 → want = m + 1 := by intro e; rw [hwant]; cases kb with | true => rfl | false => rw [hk] at e; simp at e
  have hwp : 0 ≤ want ∧ want ≤ 256 := by rw [hwant]; split <;> omega
  have NW := HidC.mk (mnew_ok k hk3 w)
  have hb1 := fun (W : World) (b : Nat) (hW : MObj W b (newM k)) => HidC.mk (mbegan_any b (newM k) 0 false (by simp [newM]) (by simp [newM]) W hW)
  have hb2 := fun (W : World) (b : Nat) (hW : MObj W b (QM k)) => HidC.mk (mbegan_any b (QM k) 1 false (qm_n k).1 (qm_n k).2 W hW)
  rw [qm_began] at hb1
  rw [pm_began] at hb2
  have hop : Hid (∀ (W : World) (b : Nat) (x : Int), 0 ≤ x → x < m → MObj W b (PM k x 0 false) → HidC Try.prog 16 #[.pointer (some ⟨b, 0, none⟩), .int .i64 1] W (MPost b W (0, PM k (x + 1) 0 false))) := fun W b x hx0 hx1 hW => by
    have := mopened_ok b 1 (by decide) (PM k x 0 false) rfl hx0 (show x ≤ 1000 by omega) W hW
    have e := pm_opened k x (by omega)
    have e2 : (PM k x 0 false).put 1 (openT ((PM k x 0 false).t 1)) = PM k (x + 1) 0 false := congrArg Prod.snd e
    rw [e2] at this
    exact ⟨this⟩
  have hcw : Hid (∀ (W : World) (b : Nat) (j : Int), 0 ≤ j → j < want → MObj W b (PM k m j false) → ∃ n : Int, 1 ≤ n ∧ (kb = true → n = 1) ∧ HidC Try.prog 12 #[.pointer (some ⟨b, 0, none⟩), .int .i64 0, .int .i64 1] W (CPost b W ((1, n, 0), PM k m (j + 1) false))) := fun W b j hj0 hj1 hW => by
    obtain ⟨n, hn1, hn2, e⟩ := pm_waits k m j hk2 hj0 (fun q => by have := hw1 q; omega) (fun q => by have := hw2 q; omega)
    refine ⟨n, hn1, fun q => hn2 (hkb.2 q), ?_⟩
    have := mchoose_any b 2000 (PM k m j false) 0 1 (pm_wf k m j false hk3 (by omega) (by omega)) W hW
    rw [e] at this
    exact ⟨this⟩
  have hck : ∀ (W : World) (b : Nat), MObj W b (PM k m want false) → HidC Try.prog 12 #[.pointer (some ⟨b, 0, none⟩), .int .i64 0, .int .i64 1] W (CPost b W ((2, 0, 0), PM k m want false)) := fun W b hW => by
    have := mchoose_any b 2000 (PM k m want false) 0 1 (pm_wf k m want false hk3 (by omega) (by omega)) W hW
    rw [pm_kills k m want hw1 hw2 hk2] at this
    exact ⟨this⟩
  have hps : ∀ (W : World) (b : Nat), MObj W b (PM k m want false) → HidC Try.prog 17 #[.pointer (some ⟨b, 0, none⟩), .int .i64 0] W (MPost b W (0, PM k m 0 false)) := fun W b hW => by
    have := mpassed_ok b 0 (by decide) (PM k m want false) rfl W hW
    have e2 : (PM k m want false).put 0 (stopT ((PM k m want false).t 0)) = PM k m 0 false := congrArg Prod.snd (pm_pass k m want)
    rw [e2] at this
    exact ⟨this⟩
  have htr : ∀ (W : World) (b : Nat), MObj W b (PM k m 0 false) → HidC Try.prog 18 #[.pointer (some ⟨b, 0, none⟩), .int .i64 0] W fun x w' => x = .returned (.int .i64 0) ∧ Touch W w' [] := fun W b hW => ⟨mtries_any b 0 (PM k m 0 false) W hW⟩
  clear hw1 hw2 hk2 hk3 hkb
  have HKW : Hid (k = if kb = true then 2 else 1) := hk
  have HWW : Hid (want = if kb = true then m + 1 else 4) := hwant
  clear hk hwant
  cases kb with
  | true =>
    simp only [if_true] at HKW HWW
    obtain rfl := HKW.out
    obtain rfl := HWW.out
    clear HKW HWW
    go_enter Try.func4, Try.ntmps4
    go_wp2_with fail
    refine NW.out.mono ?_
    rintro e w1 ⟨rfl, l1, t1⟩
    clear NW
    generalize hB : w.heap.size = B at *
    have hS : Hid (∀ y ∈ [B], y ∈ ([] : List Nat) ∨ w.heap.size ≤ y) := by intro y hy; simp at hy; omega
    clear hB
    go_wp2_with fail
    refine (hb1 w1 B l1).out.mono ?_
    rintro x w2 ⟨rfl, l2, t2⟩
    have HT2 : Hid (Touch w w2 []) := t1.trans t2 hS.out
    clear hb1 l1 t1 t2
    go_wp2_with fail
    refine (hb2 w2 B l2).out.mono ?_
    rintro x w3 ⟨rfl, l3, t3⟩
    have HT3 : Hid (Touch w w3 []) := HT2.out.trans t3 hS.out
    clear hb2 l2 HT2 t3
    go_wp2_with fail
    go_loopw [8] (fun i wr => ∃ (x : Nat), i = .int .i64 x ∧ (x : Int) ≤ m ∧ MObj wr B (PM 2 x 0 false) ∧ Touch w wr []) (fun i _ => (m - intOf i).toNat)
    case atStart => exact ⟨0, rfl, by omega, l3, HT3.out⟩
    case round =>
      obtain ⟨x, rfl, hx, hP, t⟩ := hrel
      have HT : Hid (Touch w wr []) := t
      clear t HT3 l3
      by_cases hlt : (x : Int) < m
      · have OP := hop.out wr B x (by omega) hlt hP
        clear hP hck hps htr
        go_wp2_with fail
        refine OP.out.mono ?_
        rintro e w4 ⟨rfl, P4, t4⟩
        have HP4 : Hid (MObj w4 B (PM 2 (x + 1) 0 false)) := P4
        have HT4 : Hid (Touch w w4 []) := HT.out.trans t4 hS.out
        clear OP P4 t4 HT
        go_wp2
        go_roundw
        case rel => exact ⟨x + 1, by go_num, by push_cast; omega, by push_cast; exact HP4.out, HT4.out⟩
        case measure => simp [intOf]; omega
      · have hxm : (x : Int) = m := by omega
        have HP : MObj wr B (PM 2 m 0 false) := by rw [← hxm]; exact hP
        have HPh : Hid _ := HP
        clear hP HP hop
        have HX : Hid ((x : Int) = m) := hxm
        clear hxm
        go_wp2_with fail
        go_loopw [9] (fun i wr => ∃ (j : Nat), i = .int .i64 j ∧ (j : Int) ≤ (m + 1) ∧ MObj wr B (PM 2 m j false) ∧ Touch w wr []) (fun i _ => ((m + 1) - intOf i).toNat)
        case atStart => exact ⟨0, rfl, by omega, HPh.out, HT.out⟩
        case round =>
          clear HT HPh
          obtain ⟨j, rfl, hj, hP, t⟩ := hrel
          have HT : Hid (Touch w wr []) := t
          clear t
          by_cases hjl : (j : Int) < (m + 1)
          · obtain ⟨n, hn1, hn2, CW⟩ := hcw.out wr B j (by omega) hjl hP
            have hn1' : ¬ n < 1 := by omega
            have hn2' : true = true → n = 1 := fun q => by first | exact hn2 q | exact hn2 trivial | cases q
            clear hP hck hps htr hn2
            go_wp2_with fail
            refine CW.out.mono ?_
            rintro e w4 ⟨rfl, P4, t4⟩
            have HP4 : Hid (MObj w4 B (PM 2 m (j + 1) false)) := P4
            have HT4 : Hid (Touch w w4 []) := HT.out.trans t4 hS.out
            clear CW P4 t4 HT
            obtain rfl := hn2' trivial
            clear hn2'
            go_wp2
            go_roundw
            case rel => exact ⟨j + 1, by go_num, by push_cast; omega, by push_cast; exact HP4.out, HT4.out⟩
            case measure => simp [intOf]; omega
          · have hjm : (j : Int) = (m + 1) := by omega
            rw [hjm] at hP
            have HX2 : Hid ((j : Int) = (m + 1)) := hjm
            clear hjm hcw
            go_wp2_with fail
            refine (hck wr B hP).out.mono ?_
            rintro e w4 ⟨rfl, P4, t4⟩
            have HT4 : Hid (Touch w w4 []) := HT.out.trans t4 hS.out
            clear hck hP HT t4
            go_wp2_with fail
            refine (mlive_any _).mono ?_
            rintro e w5 ⟨rfl, t5⟩
            have P5 := P4.touch t5 (by simp)
            have HT5 : Hid (Touch w w5 []) := HT4.out.trans t5 (by simp)
            clear P4 t5 HT4
            go_wp2_with fail
            refine (hps w5 B P5).out.mono ?_
            rintro e w6 ⟨rfl, P6, t6⟩
            have HT6 : Hid (Touch w w6 []) := HT5.out.trans t6 hS.out
            clear hps P5 HT5 t6
            go_wp2_with fail
            refine (htr w6 B P6).out.mono ?_
            rintro e w7 ⟨rfl, t7⟩
            have HT7 : Hid (Touch w w7 []) := HT6.out.trans t7 (by simp)
            clear htr P6 HT6 t7
            go_wp2
            go_ret
            exact ⟨rfl, HT7.out⟩
  | false =>
    simp only [Bool.false_eq_true, if_false] at HKW HWW
    obtain rfl := HKW.out
    obtain rfl := HWW.out
    clear HKW HWW
    go_enter Try.func4, Try.ntmps4
    go_wp2_with fail
    refine NW.out.mono ?_
    rintro e w1 ⟨rfl, l1, t1⟩
    clear NW
    generalize hB : w.heap.size = B at *
    have hS : Hid (∀ y ∈ [B], y ∈ ([] : List Nat) ∨ w.heap.size ≤ y) := by intro y hy; simp at hy; omega
    clear hB
    go_wp2_with fail
    refine (hb1 w1 B l1).out.mono ?_
    rintro x w2 ⟨rfl, l2, t2⟩
    have HT2 : Hid (Touch w w2 []) := t1.trans t2 hS.out
    clear hb1 l1 t1 t2
    go_wp2_with fail
    refine (hb2 w2 B l2).out.mono ?_
    rintro x w3 ⟨rfl, l3, t3⟩
    have HT3 : Hid (Touch w w3 []) := HT2.out.trans t3 hS.out
    clear hb2 l2 HT2 t3
    go_wp2_with fail
    go_loopw [8] (fun i wr => ∃ (x : Nat), i = .int .i64 x ∧ (x : Int) ≤ m ∧ MObj wr B (PM 1 x 0 false) ∧ Touch w wr []) (fun i _ => (m - intOf i).toNat)
    case atStart => exact ⟨0, rfl, by omega, l3, HT3.out⟩
    case round =>
      obtain ⟨x, rfl, hx, hP, t⟩ := hrel
      have HT : Hid (Touch w wr []) := t
      clear t HT3 l3
      by_cases hlt : (x : Int) < m
      · have OP := hop.out wr B x (by omega) hlt hP
        clear hP hck hps htr
        go_wp2_with fail
        refine OP.out.mono ?_
        rintro e w4 ⟨rfl, P4, t4⟩
        have HP4 : Hid (MObj w4 B (PM 1 (x + 1) 0 false)) := P4
        have HT4 : Hid (Touch w w4 []) := HT.out.trans t4 hS.out
        clear OP P4 t4 HT
        go_wp2
        go_roundw
        case rel => exact ⟨x + 1, by go_num, by push_cast; omega, by push_cast; exact HP4.out, HT4.out⟩
        case measure => simp [intOf]; omega
      · have hxm : (x : Int) = m := by omega
        have HP : MObj wr B (PM 1 m 0 false) := by rw [← hxm]; exact hP
        have HPh : Hid _ := HP
        clear hP HP hop
        have HX : Hid ((x : Int) = m) := hxm
        clear hxm
        go_wp2_with fail
        go_loopw [9] (fun i wr => ∃ (j : Nat), i = .int .i64 j ∧ (j : Int) ≤ 4 ∧ MObj wr B (PM 1 m j false) ∧ Touch w wr []) (fun i _ => (4 - intOf i).toNat)
        case atStart => exact ⟨0, rfl, by omega, HPh.out, HT.out⟩
        case round =>
          clear HT HPh
          obtain ⟨j, rfl, hj, hP, t⟩ := hrel
          have HT : Hid (Touch w wr []) := t
          clear t
          by_cases hjl : (j : Int) < 4
          · obtain ⟨n, hn1, hn2, CW⟩ := hcw.out wr B j (by omega) hjl hP
            have hn1' : ¬ n < 1 := by omega
            have hn2' : false = true → n = 1 := fun q => by first | exact hn2 q | exact hn2 trivial | cases q
            clear hP hck hps htr hn2
            go_wp2_with fail
            refine CW.out.mono ?_
            rintro e w4 ⟨rfl, P4, t4⟩
            have HP4 : Hid (MObj w4 B (PM 1 m (j + 1) false)) := P4
            have HT4 : Hid (Touch w w4 []) := HT.out.trans t4 hS.out
            clear CW P4 t4 HT
            skip
            clear hn2'
            go_wp2
            go_roundw
            case rel => exact ⟨j + 1, by go_num, by push_cast; omega, by push_cast; exact HP4.out, HT4.out⟩
            case measure => simp [intOf]; omega
          · have hjm : (j : Int) = 4 := by omega
            rw [hjm] at hP
            have HX2 : Hid ((j : Int) = 4) := hjm
            clear hjm hcw
            go_wp2_with fail
            refine (hck wr B hP).out.mono ?_
            rintro e w4 ⟨rfl, P4, t4⟩
            have HT4 : Hid (Touch w w4 []) := HT.out.trans t4 hS.out
            clear hck hP HT t4
            go_wp2_with fail
            refine (mlive_any _).mono ?_
            rintro e w5 ⟨rfl, t5⟩
            have P5 := P4.touch t5 (by simp)
            have HT5 : Hid (Touch w w5 []) := HT4.out.trans t5 (by simp)
            clear P4 t5 HT4
            go_wp2_with fail
            refine (hps w5 B P5).out.mono ?_
            rintro e w6 ⟨rfl, P6, t6⟩
            have HT6 : Hid (Touch w w6 []) := HT5.out.trans t6 hS.out
            clear hps P5 HT5 t6
            go_wp2_with fail
            refine (htr w6 B P6).out.mono ?_
            rintro e w7 ⟨rfl, t7⟩
            have HT7 : Hid (Touch w w7 []) := HT6.out.trans t7 (by simp)
            clear htr P6 HT6 t7
            go_wp2
            go_ret
            exact ⟨rfl, HT7.out⟩

end Go.Proofs.Ytgnfonimnlejbaa

/-
  NorecSame: WHAT THE ROUNDS COME TO (plain data, reckoned), AND THE LAW, WALKED.
-/
import Derived.Test.YtlfnmnchhhlhiaaNrAlone
namespace Go.Proofs.Ytlfnmnchhhlhiaa.Nr
set_option linter.unusedVariables false
set_option linter.unusedSimpArgs false
open Go.RowKit Go.Maps

def stepsE (E : Eng) (th : Int) : Nat → Eng
  | 0 => E
  | n + 1 => (stepE (stepsE E th n) th).2
def valT (t : Nat) : Int := firstL.getD t 0
def wroteE (E : Eng) (t : Nat) : Eng := (askE (stepE (askE (beginE E 1).2 1 ⟨2, t, valT t⟩).2 1).2 1 ⟨6, 0, 0⟩).2
def storedE (E : Eng) (t : Nat) : Eng := stepsE (wroteE E t) 1 10
def askedE (E : Eng) (t : Nat) : Eng := (askE (storedE E t) 0 ⟨1, t, 0⟩).2
def mI (i : Nat) : Nat := if i = 0 then 7 else 8
def Sn (t : Nat) : Nat → Eng
  | 0 => (beginE (newEng firstL) 0).2
  | i + 1 => stepsE (askedE (Sn t i) t) 0 (mI i)
def rep (t i j : Nat) : RpD := (stepE (stepsE (askedE (Sn t i) t) 0 j) 0).1
theorem s0_ans : (beginE (newEng firstL) 0).1 = (0, 0) := rfl
theorem ask_all : ∀ t, t < 5 → ∀ i, i < 5 → (askE (storedE (Sn t i) t) 0 ⟨1, t, 0⟩).1 = 0 := by decide +kernel
theorem not_all : ∀ t, t < 5 → ∀ i, i < 5 → ∀ j, j < mI i - 1 → (rep t i j).done = false := by decide +kernel
theorem end_all : ∀ t, t < 5 → ∀ i, i < 5 → (rep t i (mI i - 1)).done = true ∧ (rep t i (mI i - 1)).ended = false ∧ (rep t i (mI i - 1)).val = valT t := by decide +kernel
theorem clk_all : ∀ t, t < 5 → ∀ i, i < 6 → (Sn t i).lk.c = 2 * i := by decide +kernel
theorem val_wf : ∀ t, t < 5 → Wf64 (valT t) := by unfold Wf64; decide +kernel

theorem steps_keep {N : Nat} {E : Eng} (h : EWf N E) (th : Int) (n : Nat) (hb : N + 2 * n < 90000) : EWf (N + 2 * n) (stepsE E th n) := by
  induction n with
  | zero => exact h
  | succ n ih => exact step_keep (ih (by omega)) (by omega) th
theorem k1 {N : Nat} {E : Eng} (h : EWf N E) (hb : N + 10 < 90000) : EWf (N + 2) (beginE E 1).2 := begin_keep h (by omega) 1
theorem k2 {N : Nat} {E : Eng} (h : EWf N E) (hb : N + 10 < 90000) {t : Nat} (ht : t < 5) : EWf (N + 4) (askE (beginE E 1).2 1 ⟨2, t, valT t⟩).2 := ask_keep (k1 h hb) (by omega) 1 _ (by simp) (by simp; omega) (val_wf t ht)
theorem k3 {N : Nat} {E : Eng} (h : EWf N E) (hb : N + 10 < 90000) {t : Nat} (ht : t < 5) : EWf (N + 6) (stepE (askE (beginE E 1).2 1 ⟨2, t, valT t⟩).2 1).2 := step_keep (k2 h hb ht) (by omega) 1
theorem k4 {N : Nat} {E : Eng} (h : EWf N E) (hb : N + 10 < 90000) {t : Nat} (ht : t < 5) : EWf (N + 8) (wroteE E t) := ask_keep (k3 h hb ht) (by omega) 1 _ (by simp) (by simp) ⟨by simp, by simp⟩
theorem k5 {N : Nat} {E : Eng} (h : EWf N E) (hb : N + 100 < 90000) {t : Nat} (ht : t < 5) (k : Nat) (hk : k ≤ 10) : EWf (N + 28) (stepsE (wroteE E t) 1 k) := (steps_keep (k4 h (by omega) ht) 1 k (by omega)).up _ (by omega) (by omega)
theorem k6 {N : Nat} {E : Eng} (h : EWf N E) (hb : N + 100 < 90000) {t : Nat} (ht : t < 5) : EWf (N + 30) (askedE E t) := ask_keep (k5 h hb ht 10 (by omega)) (by omega) 0 _ (by simp) (by simp; omega) ⟨by simp, by simp⟩
theorem k7 {N : Nat} {E : Eng} (h : EWf N E) (hb : N + 100 < 90000) {t : Nat} (ht : t < 5) (k : Nat) (hk : k ≤ 10) : EWf (N + 50) (stepsE (askedE E t) 0 k) := (steps_keep (k6 h hb ht) 0 k (by omega)).up _ (by omega) (by omega)
theorem sn_keep {t : Nat} (ht : t < 5) : ∀ i, i < 100 → EWf (2 + 50 * i) (Sn t i) := by
  intro i
  induction i with
  | zero => intro _; exact begin_keep newEng_wf (by decide) 0
  | succ i ih =>
    intro hi
    have := k7 (ih (by omega)) (by omega) ht (mI i) (by unfold mI; split <;> omega)
    rwa [show 2 + 50 * i + 50 = 2 + 50 * (i + 1) by omega] at this

theorem rp_set {w : World} {b : Nat} {R : RpD} (h : w.heap[b]? = some (rpC R)) (R' : RpD) : (w.setCells b 0 (rpL R')).heap[b]? = some (rpC R') := by
  simp only [World.setCells, Nat.zero_add, Nat.reduceAdd, rpL]
  have h0 : (w.setCell ⟨b, 0, none⟩ (.bool R'.done)).heap[b]? = some (.cells #[.bool R'.done, .int .u64 R.val, .bool R.busy, .int .i64 R.own, .bool R.ended, .int .u8 R.why, .int .i64 R.err] 41 (0, 0)) := by rw [set_cell h]; rfl
  have h1 : ((w.setCell ⟨b, 0, none⟩ (.bool R'.done)).setCell ⟨b, 1, none⟩ (.int .u64 R'.val)).heap[b]? = some (.cells #[.bool R'.done, .int .u64 R'.val, .bool R.busy, .int .i64 R.own, .bool R.ended, .int .u8 R.why, .int .i64 R.err] 41 (0, 0)) := by rw [set_cell h0]; rfl
  have h2 : (((w.setCell ⟨b, 0, none⟩ (.bool R'.done)).setCell ⟨b, 1, none⟩ (.int .u64 R'.val)).setCell ⟨b, 2, none⟩ (.bool R'.busy)).heap[b]? = some (.cells #[.bool R'.done, .int .u64 R'.val, .bool R'.busy, .int .i64 R.own, .bool R.ended, .int .u8 R.why, .int .i64 R.err] 41 (0, 0)) := by rw [set_cell h1]; rfl
  have h3 : ((((w.setCell ⟨b, 0, none⟩ (.bool R'.done)).setCell ⟨b, 1, none⟩ (.int .u64 R'.val)).setCell ⟨b, 2, none⟩ (.bool R'.busy)).setCell ⟨b, 3, none⟩ (.int .i64 R'.own)).heap[b]? = some (.cells #[.bool R'.done, .int .u64 R'.val, .bool R'.busy, .int .i64 R'.own, .bool R.ended, .int .u8 R.why, .int .i64 R.err] 41 (0, 0)) := by rw [set_cell h2]; rfl
  have h4 : (((((w.setCell ⟨b, 0, none⟩ (.bool R'.done)).setCell ⟨b, 1, none⟩ (.int .u64 R'.val)).setCell ⟨b, 2, none⟩ (.bool R'.busy)).setCell ⟨b, 3, none⟩ (.int .i64 R'.own)).setCell ⟨b, 4, none⟩ (.bool R'.ended)).heap[b]? = some (.cells #[.bool R'.done, .int .u64 R'.val, .bool R'.busy, .int .i64 R'.own, .bool R'.ended, .int .u8 R.why, .int .i64 R.err] 41 (0, 0)) := by rw [set_cell h3]; rfl
  have h5 : ((((((w.setCell ⟨b, 0, none⟩ (.bool R'.done)).setCell ⟨b, 1, none⟩ (.int .u64 R'.val)).setCell ⟨b, 2, none⟩ (.bool R'.busy)).setCell ⟨b, 3, none⟩ (.int .i64 R'.own)).setCell ⟨b, 4, none⟩ (.bool R'.ended)).setCell ⟨b, 5, none⟩ (.int .u8 R'.why)).heap[b]? = some (.cells #[.bool R'.done, .int .u64 R'.val, .bool R'.busy, .int .i64 R'.own, .bool R'.ended, .int .u8 R'.why, .int .i64 R.err] 41 (0, 0)) := by rw [set_cell h4]; rfl
  have h6 : (((((((w.setCell ⟨b, 0, none⟩ (.bool R'.done)).setCell ⟨b, 1, none⟩ (.int .u64 R'.val)).setCell ⟨b, 2, none⟩ (.bool R'.busy)).setCell ⟨b, 3, none⟩ (.int .i64 R'.own)).setCell ⟨b, 4, none⟩ (.bool R'.ended)).setCell ⟨b, 5, none⟩ (.int .u8 R'.why)).setCell ⟨b, 6, none⟩ (.int .i64 R'.err)).heap[b]? = some (.cells #[.bool R'.done, .int .u64 R'.val, .bool R'.busy, .int .i64 R'.own, .bool R'.ended, .int .u8 R'.why, .int .i64 R'.err] 41 (0, 0)) := by rw [set_cell h5]; rfl
  exact h6
theorem Ow.set {w W W' : World} {eb : Nat} {E : Eng} {b : Nat} {o o' : Obj} (h : Ow w W eb E [(b, o)]) (t : Touch W W' [b]) (ho : W'.heap[b]? = some o') (hb : w.heap.size ≤ b) : Ow w W' eb E [(b, o')] := by
  obtain ⟨X, he, hE, t0, f, hR⟩ := h.ex
  have hn := (hR (b, o) (by simp)).2
  refine ⟨⟨X, he, hE.keep t (fun c x hx hs => hn ⟨c, by simp at hs; subst hs; exact hx⟩), t0.trans t (by intro x hx; simp at hx; omega), f, fun p hp => ?_⟩⟩
  rw [List.mem_singleton] at hp
  subst hp
  exact ⟨ho, hn⟩
theorem Ow.drop {w W : World} {eb : Nat} {E : Eng} {R : List (Nat × Obj)} (h : Ow w W eb E R) : Ow w W eb E [] := by
  obtain ⟨X, he, hE, t0, f, hR⟩ := h.ex
  exact ⟨⟨X, he, hE, t0, f, by simp⟩⟩
theorem ow_clock {w W : World} {eb : Nat} {E : Eng} {R : List (Nat × Obj)} (h : Ow w W eb E R) {c : Int} (hc : E.lk.c = c) :
    Calls Try.prog 12 #[ptr eb] W fun x w' => x = .returned (.int .u64 c) ∧ W = w' := by
  subst hc
  obtain ⟨X, rfl, ho, t, f, hR⟩ := h.ex
  exact clock_any ho
theorem first_cell (w : World) : Calls Try.prog 7 #[] w fun x w' => x = .returned (.slice (some ⟨w.heap.size, 0, none⟩) 5 5) ∧ (∀ t, t < 5 → w'.cell? ⟨w.heap.size, t, none⟩ = some (.int .u64 (valT t))) ∧ Touch w w' [] := by
  refine (first_any w).mono ?_
  rintro x w' ⟨rfl, o, t⟩
  refine ⟨rfl, fun k hk => ?_, t⟩
  have := (row_at o k (by simpa using hk)).1
  rw [this]
  match k, hk with
  | 0, _ => rfl
  | 1, _ => rfl
  | 2, _ => rfl
  | 3, _ => rfl
  | 4, _ => rfl

set_option maxRecDepth 100000 in
set_option maxHeartbeats 12800000 in
theorem same_any (tv ov : Int) (g0 : 0 ≤ tv) (g1 : tv ≤ 255) (q0 : 0 ≤ ov) (q1 : ov ≤ 255) (w : World) :
    Calls Try.prog 4 #[.int .u8 tv, .int .u8 ov] w fun x w' => x = .returned (.bool true) ∧ Touch w w' [] := by
  obtain ⟨t, ht⟩ : ∃ t : Nat, (t : Int) = tv % 5 := ⟨(tv % 5).toNat, by omega⟩
  have ht5 : t < 5 := by omega
  have tmod : tv.tmod 5 = (t : Int) := by rw [ht, Int.tmod_eq_emod_of_nonneg g0]
  obtain ⟨o, ho⟩ : ∃ o : Nat, (o : Int) = ov % 6 := ⟨(ov % 6).toNat, by omega⟩
  have ho6 : o < 6 := by omega
  have omod : ov.tmod 6 = (o : Int) := by rw [ho, Int.tmod_eq_emod_of_nonneg q0]
  have HT : Hid (tv % 5 = (t : Int)) := ht.symm
  have HOv : Hid (ov % 6 = (o : Int)) := ho.symm
  have ht0 : (0 : Int) ≤ t := by omega
  have ht1 : (t : Int) < 5 := by omega
  have HB := fun (W : World) (eb : Nat) (h : Ow w W eb (newEng firstL) []) => HidC.mk (ow_begin h newEng_wf 0 s0_ans (E' := Sn t 0) rfl)
  clear ht ho
  go_enter Try.func4, Try.ntmps4
  go_wp2_with fail
  refine (first_any w).mono ?_
  rintro x w1 ⟨rfl, o1, t1⟩
  have NW := HidC.mk (ow_new (R := []) t1 o1 (by decide) (by decide) first_right (by simp))
  clear o1 t1
  go_wp2_with fail
  refine NW.out.mono ?_
  rintro x w2 ⟨eb, rfl, h2, _⟩
  clear NW
  have H2 : Hid _ := h2
  clear h2
  go_wp2_with fail
  refine (nlive_any _).mono ?_
  rintro e w3 ⟨rfl, t3⟩
  have H3 : Hid _ := H2.out.fresh t3
  clear H2 t3
  go_wp2_with fail
  refine (HB _ _ H3.out).out.mono ?_
  rintro e w4 ⟨rfl, h4⟩
  have H4 : Hid _ := h4
  clear h4 HB H3
  go_wp2_with fail
  go_loopw [9] (fun i wr => ∃ (k : Nat), i = .int .i64 k ∧ k ≤ o ∧ Ow w wr eb (Sn t k) []) (fun i _ => 10 - (intOf i).toNat)
  case atStart => exact ⟨0, rfl, Nat.zero_le _, H4.out⟩
  case round =>
    obtain ⟨i, rfl, hi, hb⟩ := hrel
    clear H4
    by_cases hlt : i < o
    · have hlt' : (i : Int) < o := by omega
      have hE := sn_keep ht5 i (by omega)
      have fA := ask_all t ht5 i (by omega)
      have B1 := HidC.mk (ow_begin hb hE 1 rfl rfl)
      have A2 := fun (W : World) (h : Ow w W eb (beginE (Sn t i) 1).2 []) => HidC.mk (ow_ask h (k1 hE (by omega)) 1 ⟨2, t, valT t⟩ rfl rfl)
      have T3 := fun (W : World) (h : Ow w W eb (askE (beginE (Sn t i) 1).2 1 ⟨2, t, valT t⟩).2 []) => HidC.mk (ow_step h (k2 hE (by omega) ht5) 1 rfl rfl)
      have A4 := fun (W : World) (h : Ow w W eb (stepE (askE (beginE (Sn t i) 1).2 1 ⟨2, t, valT t⟩).2 1).2 []) => HidC.mk (ow_ask h (k3 hE (by omega) ht5) 1 ⟨6, 0, 0⟩ rfl (E' := wroteE (Sn t i) t) rfl)
      have T5 := fun (W : World) (k : Nat) (hk : k ≤ 10) (h : Ow w W eb (stepsE (wroteE (Sn t i) t) 1 k) []) => HidC.mk (ow_step h (k5 hE (by omega) ht5 k hk) 1 rfl (E' := stepsE (wroteE (Sn t i) t) 1 (k + 1)) rfl)
      have A6 := fun (W : World) (h : Ow w W eb (stepsE (wroteE (Sn t i) t) 1 10) []) => HidC.mk (ow_ask h (k5 hE (by omega) ht5 10 (by omega)) 0 ⟨1, t, 0⟩ fA (E' := askedE (Sn t i) t) rfl)
      have T7 := fun (W : World) (k : Nat) (R) (hk : k ≤ 10) (h : Ow w W eb (stepsE (askedE (Sn t i) t) 0 k) R) => HidC.mk (ow_step h (k7 hE (by omega) ht5 k hk) 0 (r := rep t i k) rfl (E' := stepsE (askedE (Sn t i) t) 0 (k + 1)) rfl)
      have HNO : Hid (∀ j, j < mI i - 1 → (rep t i j).done = false) := not_all t ht5 i (by omega)
      have HEN : Hid _ := end_all t ht5 i (by omega)
      have HNX : Hid (Sn t (i + 1) = stepsE (askedE (Sn t i) t) 0 (mI i)) := rfl
      have HM : Hid (7 ≤ mI i ∧ mI i ≤ 8) := by show 7 ≤ mI i ∧ mI i ≤ 8; unfold mI; split <;> omega
      generalize (beginE (Sn t i) 1).1 = r1 at B1
      generalize (beginE (Sn t i) 1).2 = E1 at *
      generalize (askE E1 1 ⟨2, t, valT t⟩).1 = r2 at A2
      generalize (askE E1 1 ⟨2, t, valT t⟩).2 = E2 at *
      generalize (stepE E2 1).1 = r3 at T3
      generalize (stepE E2 1).2 = E3 at *
      generalize (askE E3 1 ⟨6, 0, 0⟩).1 = r4 at A4
      generalize wroteE (Sn t i) t = E4 at *
      generalize askedE (Sn t i) t = E5 at *
      clear hE hb fA
      go_wp2_with fail
      refine B1.out.mono ?_
      rintro e w5 ⟨rfl, h5⟩
      clear B1
      go_wp2_with fail
      refine (first_cell _).mono ?_
      rintro e w6 ⟨rfl, c6, t6⟩
      have h6 := h5.fresh t6
      have d6 := c6 t ht5
      clear h5 t6 c6
      obtain ⟨vt, hvt⟩ : ∃ vt, vt = valT t := ⟨_, rfl⟩
      have HV : Hid _ := hvt
      rw [← hvt] at A2 HEN d6
      clear hvt
      go_wp2_with fail
      refine (A2 _ h6).out.mono ?_
      rintro e w7 ⟨rfl, h7⟩
      clear A2 h6 d6
      go_wp2_with fail
      refine (T3 _ h7).out.mono ?_
      rintro e w8 ⟨rfl, h8⟩
      clear T3 h7
      go_wp2_with fail
      refine (A4 _ h8).out.mono ?_
      rintro e w9 ⟨rfl, h9⟩
      clear A4 h8
      have H9 : Hid _ := h9
      clear h9
      go_wp2_with fail
      go_loopw [10] (fun i wr => ∃ (k : Nat), i = .int .i64 k ∧ k ≤ 10 ∧ Ow w wr eb (stepsE E4 1 k) []) (fun i _ => 10 - (intOf i).toNat)
      case atStart => exact ⟨0, rfl, Nat.zero_le _, H9.out⟩
      case round =>
        obtain ⟨k, rfl, hk, hb⟩ := hrel
        clear H9
        by_cases hk10 : k < 10
        · have hk' : (k : Int) < 10 := by omega
          have ST := T5 _ k hk hb
          generalize (stepE (stepsE E4 1 k) 1).1 = r5 at ST
          clear hb T5
          go_wp2_with fail
          refine ST.out.mono ?_
          rintro e w10 ⟨rfl, h10⟩
          clear ST
          have H10 : Hid _ := h10
          clear h10
          go_wp2
          go_roundw
          case rel => exact ⟨k + 1, by go_num, by omega, H10.out⟩
          case measure => simp [intOf]; omega
        · have hk' : ¬ (k : Int) < 10 := by omega
          obtain rfl : k = 10 := by omega
          have AS := A6 _ hb
          clear hb T5 A6
          go_wp2_with fail
          refine AS.out.mono ?_
          rintro e w11 ⟨rfl, h11⟩
          clear AS
          have ST := T7 _ 0 _ (by omega) h11
          clear h11
          go_wp2_with fail
          refine ST.out.mono ?_
          rintro e w12 ⟨rfl, h12⟩
          clear ST
          have hbb := h12.touch.size
          have H13 : Hid (Ow w (w12.alloc (rpC (rep t i 0))) eb (stepsE E5 0 (0 + 1)) [(w12.heap.size, rpC (rep t i 0))]) := h12.more ((Touch.refl w12 []).alloc _) (Nat.le_refl _) (heap_alloc_new w12 _)
          clear h12
          generalize rep t i = ρ at *
          go_wp2_with fail
          obtain ⟨b, hbq⟩ : ∃ b, b = w12.heap.size := ⟨_, rfl⟩
          rw [← hbq] at H13 hbb
          simp only [← hbq]
          clear hbq
          obtain ⟨m, hm⟩ : ∃ m, m = mI i := ⟨_, rfl⟩
          rw [← hm] at HNO HEN HNX HM
          clear hm
          go_loopw [12] (fun z wr => ∃ (j : Nat), z = .int .i64 j ∧ j < m ∧ Ow w wr eb (stepsE E5 0 (j + 1)) [(b, rpC (ρ j))]) (fun z _ => 20 - (intOf z).toNat)
          case atStart => exact ⟨0, rfl, by have := HM.out.1; omega, H13.out⟩
          case round =>
            obtain ⟨j, rfl, hj, hb⟩ := hrel
            clear H13
            have k9 := hb.kept (List.mem_singleton.2 rfl)
            have hm8 := HM.out.2
            have hj20 : (j : Int) < 20 := by omega
            by_cases hjm : j < m - 1
            · have hd := HNO.out j hjm
              have c0 : wr.cell? ⟨b, 0, none⟩ = some (.bool false) := by simp [World.cell?, k9, hd]
              have ST := T7 _ (j + 1) _ (by omega) hb
              clear k9 hd hb
              go_wp2_with fail
              refine ST.out.mono ?_
              rintro e w13 ⟨rfl, h13⟩
              clear ST c0
              have k13 := h13.kept (List.mem_singleton.2 rfl)
              have HTH : Hid (World.there w13 b 0 (rpL (ρ (j + 1))).toArray.size) := there_of k13 rfl
              have HS : Hid (∀ W3, W3 = w13.setCells b 0 (rpL (ρ (j + 1))).toArray.toList → Ow w W3 eb (stepsE E5 0 (j + 1 + 1)) [(b, rpC (ρ (j + 1)))]) := by
                rintro W3 rfl
                exact h13.set (setCells_touch b (rpL (ρ (j + 1))) 0 w13) (rp_set k13 _) hbb
              clear k13 h13
              go_wp2_with (refine wpList_store_mid rfl 41 _ _ rfl b 0 (rpL (ρ (j + 1))).toArray rfl rfl HTH.out Try.size_reply (rp_one _) ?_; refine wpList_name fun W3 hW3 => ?_; have H14 : Hid _ := HS.out W3 hW3; clear hW3)
              go_roundw
              case rel => exact ⟨j + 1, by go_num, by omega, H14.out⟩
              case measure => simp [intOf]; omega
            · obtain rfl : j = m - 1 := by omega
              obtain ⟨e1, e2, e3⟩ := HEN.out
              have c0 : wr.cell? ⟨b, 0, none⟩ = some (.bool true) := by simp [World.cell?, k9, e1]
              have c4 : wr.cell? ⟨b, 4, none⟩ = some (.bool false) := by simp [World.cell?, k9, e2]
              have c1 : wr.cell? ⟨b, 1, none⟩ = some (.int .u64 vt) := by simp [World.cell?, k9, e3]
              have hbl := lt_of_heap k9
              have HKK : Hid (∀ W, Touch wr.drew W [] → W.cell? ⟨b, 0, none⟩ = some (.bool true) ∧ W.cell? ⟨b, 4, none⟩ = some (.bool false) ∧ W.cell? ⟨b, 1, none⟩ = some (.int .u64 vt)) := fun W t => by
                have hc (j : Nat) := ((Touch.refl wr []).drew.trans t (by simp)).cell (p := ⟨b, j, none⟩) hbl (by simp)
                exact ⟨(hc 0).trans c0, (hc 4).trans c4, (hc 1).trans c1⟩
              have HB : Hid _ := hb
              have hm1 : m - 1 + 1 = m := by have := HM.out.1; omega
              have HM1 : Hid _ := hm1
              clear k9 e1 e2 e3 hb HNO HEN T7 hm1
              go_wp2_with fail
              refine wp_region_held_drew (S := (fun w' => w'.cell? ⟨b, 0, none⟩ = some (.bool true) ∧ w'.cell? ⟨b, 4, none⟩ = some (.bool false) ∧ w'.cell? ⟨b, 1, none⟩ = some (.int .u64 vt))) (by kernel_rfl) ⟨c0, c4, c1⟩ (fun hHeld => ?_)
              refine wpAnyH_take (i := 0) (v := (.pointer (some ⟨b, 0, none⟩))) rfl (by kernel_rfl) (by kernel_rfl) (by kernel_rfl) (fun _ _ _ h => h) (Or.inl ⟨by rfl, ?_⟩) hHeld ?_
              · intro w' hSw
                try simp only [Act.put, List.getElem_toArray, List.getElem_cons_succ, List.getElem_cons_zero, List.setIfInBounds_toArray, List.set_cons_zero, List.set_cons_succ]
                go_simp
              try simp only [Act.put, List.getElem_toArray, List.getElem_cons_succ, List.getElem_cons_zero, List.setIfInBounds_toArray, List.set_cons_zero, List.set_cons_succ]
              refine wpAnyH_take (i := 1) (v := (.bool true)) rfl (by kernel_rfl) (by kernel_rfl) (by kernel_rfl) (fun _ _ _ h => h) (Or.inl ⟨by rfl, ?_⟩) hHeld ?_
              · intro w' hSw
                try simp only [Act.put, List.getElem_toArray, List.getElem_cons_succ, List.getElem_cons_zero, List.setIfInBounds_toArray, List.set_cons_zero, List.set_cons_succ]
                obtain ⟨s0, s4, s1⟩ := hSw; go_simp
              try simp only [Act.put, List.getElem_toArray, List.getElem_cons_succ, List.getElem_cons_zero, List.setIfInBounds_toArray, List.set_cons_zero, List.set_cons_succ]
              refine wpAnyH_take (i := 2) (v := (.bool false)) rfl (by kernel_rfl) (by kernel_rfl) (by kernel_rfl) (fun _ _ _ h => h) (Or.inl ⟨by rfl, ?_⟩) hHeld ?_
              · intro w' hSw
                try simp only [Act.put, List.getElem_toArray, List.getElem_cons_succ, List.getElem_cons_zero, List.setIfInBounds_toArray, List.set_cons_zero, List.set_cons_succ]
                go_simp
              try simp only [Act.put, List.getElem_toArray, List.getElem_cons_succ, List.getElem_cons_zero, List.setIfInBounds_toArray, List.set_cons_zero, List.set_cons_succ]
              refine wpAnyH_take (i := 3) (v := (.bool false)) rfl (by kernel_rfl) (by kernel_rfl) (by kernel_rfl) (fun _ _ _ h => h) (Or.inl ⟨by rfl, ?_⟩) hHeld ?_
              · intro w' hSw
                try simp only [Act.put, List.getElem_toArray, List.getElem_cons_succ, List.getElem_cons_zero, List.setIfInBounds_toArray, List.set_cons_zero, List.set_cons_succ]
                go_simp
              try simp only [Act.put, List.getElem_toArray, List.getElem_cons_succ, List.getElem_cons_zero, List.setIfInBounds_toArray, List.set_cons_zero, List.set_cons_succ]
              refine wpAnyH_take (i := 4) (v := (.pointer (some ⟨b, 4, none⟩))) rfl (by kernel_rfl) (by kernel_rfl) (by kernel_rfl) (fun _ _ _ h => h) (Or.inl ⟨by rfl, ?_⟩) hHeld ?_
              · intro w' hSw
                try simp only [Act.put, List.getElem_toArray, List.getElem_cons_succ, List.getElem_cons_zero, List.setIfInBounds_toArray, List.set_cons_zero, List.set_cons_succ]
                go_simp
              try simp only [Act.put, List.getElem_toArray, List.getElem_cons_succ, List.getElem_cons_zero, List.setIfInBounds_toArray, List.set_cons_zero, List.set_cons_succ]
              refine wpAnyH_take (i := 5) (v := (.bool false)) rfl (by kernel_rfl) (by kernel_rfl) (by kernel_rfl) (fun _ _ _ h => h) (Or.inl ⟨by rfl, ?_⟩) hHeld ?_
              · intro w' hSw
                try simp only [Act.put, List.getElem_toArray, List.getElem_cons_succ, List.getElem_cons_zero, List.setIfInBounds_toArray, List.set_cons_zero, List.set_cons_succ]
                obtain ⟨s0, s4, s1⟩ := hSw; go_simp
              try simp only [Act.put, List.getElem_toArray, List.getElem_cons_succ, List.getElem_cons_zero, List.setIfInBounds_toArray, List.set_cons_zero, List.set_cons_succ]
              refine wpAnyH_take (i := 6) (v := (.bool false)) rfl (by kernel_rfl) (by kernel_rfl) (by kernel_rfl) (fun _ _ _ h => h) (Or.inl ⟨by rfl, ?_⟩) hHeld ?_
              · intro w' hSw
                try simp only [Act.put, List.getElem_toArray, List.getElem_cons_succ, List.getElem_cons_zero, List.setIfInBounds_toArray, List.set_cons_zero, List.set_cons_succ]
                go_simp
              try simp only [Act.put, List.getElem_toArray, List.getElem_cons_succ, List.getElem_cons_zero, List.setIfInBounds_toArray, List.set_cons_zero, List.set_cons_succ]
              refine wpAnyH_take (i := 7) (v := (.bool false)) rfl (by kernel_rfl) (by kernel_rfl) (by kernel_rfl) (fun _ _ _ h => h) (Or.inl ⟨by rfl, ?_⟩) hHeld ?_
              · intro w' hSw
                try simp only [Act.put, List.getElem_toArray, List.getElem_cons_succ, List.getElem_cons_zero, List.setIfInBounds_toArray, List.set_cons_zero, List.set_cons_succ]
                go_simp
              try simp only [Act.put, List.getElem_toArray, List.getElem_cons_succ, List.getElem_cons_zero, List.setIfInBounds_toArray, List.set_cons_zero, List.set_cons_succ]
              refine wpAnyH_take (i := 8) (v := (.pointer (some ⟨b, 1, none⟩))) rfl (by kernel_rfl) (by kernel_rfl) (by kernel_rfl) (fun _ _ _ h => h) (Or.inl ⟨by rfl, ?_⟩) hHeld ?_
              · intro w' hSw
                try simp only [Act.put, List.getElem_toArray, List.getElem_cons_succ, List.getElem_cons_zero, List.setIfInBounds_toArray, List.set_cons_zero, List.set_cons_succ]
                go_simp
              try simp only [Act.put, List.getElem_toArray, List.getElem_cons_succ, List.getElem_cons_zero, List.setIfInBounds_toArray, List.set_cons_zero, List.set_cons_succ]
              refine wpAnyH_take (i := 9) (v := (.int .u64 vt)) rfl (by kernel_rfl) (by kernel_rfl) (by kernel_rfl) (fun _ _ _ h => h) (Or.inl ⟨by rfl, ?_⟩) hHeld ?_
              · intro w' hSw
                try simp only [Act.put, List.getElem_toArray, List.getElem_cons_succ, List.getElem_cons_zero, List.setIfInBounds_toArray, List.set_cons_zero, List.set_cons_succ]
                obtain ⟨s0, s4, s1⟩ := hSw; go_simp
              try simp only [Act.put, List.getElem_toArray, List.getElem_cons_succ, List.getElem_cons_zero, List.setIfInBounds_toArray, List.set_cons_zero, List.set_cons_succ]
              refine wpAnyH_take (i := 11) (v := (.int .i64 t)) rfl (by kernel_rfl) (by kernel_rfl) (by kernel_rfl) (fun _ _ _ h => h) (Or.inl ⟨by rfl, ?_⟩) hHeld ?_
              · intro w' hSw
                try simp only [Act.put, List.getElem_toArray, List.getElem_cons_succ, List.getElem_cons_zero, List.setIfInBounds_toArray, List.set_cons_zero, List.set_cons_succ]
                go_simp
              try simp only [Act.put, List.getElem_toArray, List.getElem_cons_succ, List.getElem_cons_zero, List.setIfInBounds_toArray, List.set_cons_zero, List.set_cons_succ]
              clear hHeld
              refine wpAnyH_ready (rs := [10]) (by kernel_rfl) (by simp) (AllReadyH.cons rfl (fun K hK => ?_) AllReadyH.nil)
              rw [if_pos (by rfl)]
              go_wp2_with fail
              refine (first_cell _).mono ?_
              rintro e w15 ⟨rfl, c15, t15⟩
              have d15 : w15.cell? ⟨wr.heap.size, t, none⟩ = some (.int .u64 vt) := (by have := c15 t ht5; rw [← HV.out] at this; exact this)
              refine hK.out _ _ (HKK.out _ t15) (fun hHeld => ?_)
              clear hK
              try simp only [Act.put, List.getElem_toArray, List.getElem_cons_succ, List.getElem_cons_zero, List.setIfInBounds_toArray, List.set_cons_zero, List.set_cons_succ]
              refine wpAnyH_take (i := 12) (v := (.pointer (some ⟨wr.heap.size, t, none⟩))) rfl (by kernel_rfl) (by kernel_rfl) (by kernel_rfl) (fun _ _ _ h => h) (Or.inl ⟨by rfl, ?_⟩) hHeld ?_
              · intro w' hSw
                try simp only [Act.put, List.getElem_toArray, List.getElem_cons_succ, List.getElem_cons_zero, List.setIfInBounds_toArray, List.set_cons_zero, List.set_cons_succ]
                go_simp
              try simp only [Act.put, List.getElem_toArray, List.getElem_cons_succ, List.getElem_cons_zero, List.setIfInBounds_toArray, List.set_cons_zero, List.set_cons_succ]
              clear hHeld
              refine wpAnyH_ready (rs := [13]) (by kernel_rfl) (by simp) (AllReadyH.cons rfl (fun K hK => ?_) AllReadyH.nil)
              rw [if_pos (by rfl)]
              go_simp
              refine hK.out _ _ (HKK.out _ t15) (fun hHeld => ?_)
              clear hK
              try simp only [Act.put, List.getElem_toArray, List.getElem_cons_succ, List.getElem_cons_zero, List.setIfInBounds_toArray, List.set_cons_zero, List.set_cons_succ]
              refine wpAnyH_take (i := 14) (v := (.bool false)) rfl (by kernel_rfl) (by kernel_rfl) (by kernel_rfl) (fun _ _ _ h => h) (Or.inl ⟨by rfl, ?_⟩) hHeld ?_
              · intro w' hSw
                try simp only [Act.put, List.getElem_toArray, List.getElem_cons_succ, List.getElem_cons_zero, List.setIfInBounds_toArray, List.set_cons_zero, List.set_cons_succ]
                go_simp
              try simp only [Act.put, List.getElem_toArray, List.getElem_cons_succ, List.getElem_cons_zero, List.setIfInBounds_toArray, List.set_cons_zero, List.set_cons_succ]
              refine wpAnyH_take (i := 15) (v := (.bool false)) rfl (by kernel_rfl) (by kernel_rfl) (by kernel_rfl) (fun _ _ _ h => h) (Or.inl ⟨by rfl, ?_⟩) hHeld ?_
              · intro w' hSw
                try simp only [Act.put, List.getElem_toArray, List.getElem_cons_succ, List.getElem_cons_zero, List.setIfInBounds_toArray, List.set_cons_zero, List.set_cons_succ]
                go_simp
              try simp only [Act.put, List.getElem_toArray, List.getElem_cons_succ, List.getElem_cons_zero, List.setIfInBounds_toArray, List.set_cons_zero, List.set_cons_succ]
              clear hHeld
              refine wpAnyH_done (by kernel_rfl) ?_ _
              have H15 : Hid (Ow w w15 eb (stepsE E5 0 (m - 1 + 1)) [(b, rpC (ρ (m - 1)))]) := HB.out.fresh ((Touch.refl wr []).drew.trans t15 (by simp))
              clear HB t15 c15 d15 HKK c0 c4 c1
              go_wp2
              go_roundw
              case rel => exact ⟨i + 1, by go_num, by omega, by have := H15.out.drop; rw [HM1.out] at this; rw [HNX.out]; exact this⟩
              case measure => simp [intOf]; omega
    · have hlt' : ¬ (i : Int) < o := by omega
      obtain rfl : i = o := by omega
      have CK := HidC.mk (ow_clock hb (clk_all t ht5 i (by omega)))
      have HTT : Hid _ := hb.touch
      clear hb
      have o0 : (0 : Int) ≤ i := by omega
      have o5 : (i : Int) ≤ 5 := by omega
      by_cases hz : i = 0
      · subst hz
        clear CK
        go_wp2
        go_ret
        exact ⟨rfl, HTT.out⟩
      · have hz1 : ((i : Int) == 0) = false := by simp; omega
        go_wp2_with fail
        refine CK.out.mono ?_
        rintro e w5 ⟨rfl, rfl⟩
        clear CK
        go_wp2
        go_ret
        exact ⟨by simp, HTT.out⟩

end Go.Proofs.Ytlfnmnchhhlhiaa.Nr

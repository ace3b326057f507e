/-
  SpecLeft, WALKED.
-/
import Derived.Test.YtmncidlfikgmkaaSlPlain
import Derived.Test.YtmncidlfikgmkaaValueRefs
import Derived.Deep.QuietTactic
import Derived.BigQuiet
import Derived.Deep.RegionHeld3
namespace Go.Proofs.Ytmncidlfikgmkaa
set_option linter.unusedVariables false
set_option linter.unusedSimpArgs false
open Go.RowKit
attribute [local go_sem] Oper.semAt_some

theorem sp_one {w : World} {ao : Option Addr} {cap : Nat} {l : List Int} (h : VRow w (.slice ao l.length cap) l) (k : Nat) (hk : k < l.length) :
    ∃ g off, ao = some ⟨g, off, none⟩ ∧ g < w.heap.size ∧ w.cell? ⟨g, off + k, none⟩ = some (.int .u64 l[k]) := by
  obtain ⟨g, off, e, hlt, hc⟩ := h.at k hk
  exact ⟨g, off, e, hlt, by simpa using hc 0 (by omega)⟩
set_option maxRecDepth 100000 in
set_option maxHeartbeats 1600000 in
theorem spsame_any (ao bo : Option Addr) (ca cb : Nat) (xs : List Int) (w : World) (hn : xs.length ≤ 1000) (ha : VRow w (.slice ao xs.length ca) xs) (hb : VRow w (.slice bo xs.length cb) xs) :
    Calls Try.prog 15 #[.slice ao xs.length ca, .slice bo xs.length cb] w fun e w' => e = .returned (.bool true) ∧ Touch w w' [] := by
  have HA : Hid (VRow w (.slice ao xs.length ca) xs) := ha
  have HB : Hid (VRow w (.slice bo xs.length cb) xs) := hb
  obtain ⟨n, hN⟩ : ∃ n, n = xs.length := ⟨_, rfl⟩
  have HN : Hid (n = xs.length) := hN
  rw [← hN] at hn ⊢
  clear ha hb hN
  go_enter Try.func15, Try.ntmps15
  go_wp2_with fail
  go_loopw [5] (fun i wr => ∃ k : Nat, i = .int .i64 k ∧ k ≤ n ∧ Touch w wr []) (fun i _ => n - (intOf i).toNat)
  case atStart => exact ⟨0, rfl, Nat.zero_le _, Touch.refl _ _⟩
  case round =>
    obtain ⟨k, rfl, hk, t⟩ := hrel
    by_cases hlt : k < n
    · have h1 : (k : Int) < n := by omega
      have h0 : (0 : Int) ≤ k := by omega
      have hkl : k < xs.length := by rw [← HN.out]; exact hlt
      obtain ⟨ga, oa, rfl, hga, c1⟩ := sp_one (SRow.keep HA.out t (by simp)) k hkl
      obtain ⟨gb, ob, rfl, hgb, c2⟩ := sp_one (SRow.keep HB.out t (by simp)) k hkl
      generalize xs[k] = x at *
      go_wp2_with fail
      go_quiet (fail)
      go_wp2
      go_roundw
      case rel => exact ⟨k + 1, by go_num, by omega, t.drewN _⟩
      case measure => simp [intOf]; omega
    · go_wp2
      go_ret
      exact ⟨rfl, t⟩
theorem Try.und_arr : Try.prog.underlying 26 = some (.array 4 25) := by kernel_rfl
theorem Try.und_val : Try.prog.underlying 25 = some (.int .u64) := by kernel_rfl
set_option maxRecDepth 100000 in
theorem eq4 (a b c d : Int) (w : World) : (Op.equalIn 10000 26 (.agg #[.int .u64 a, .int .u64 b, .int .u64 c, .int .u64 d]) (.agg #[.int .u64 a, .int .u64 b, .int .u64 c, .int .u64 d])).run Try.prog w = .ok true w := by
  obtain ⟨i0, hi, hz0, hz1, hz2⟩ := info_partsV Try.info_val
  have hq : ∀ x : Int, ∀ w : World, (Op.equalIn 9999 25 (.int .u64 x) (.int .u64 x)).run Try.prog w = .ok true w := fun x w => by
    have := run_equalIn_int (P := Try.prog) w 9998 25 .u64 .u64 x x Try.und_val
    simpa using this
  show (Op.equalIn (9999 + 1) _ _ _).run _ _ = _
  rw [Op.equalIn]
  simp only [Sem.run_bind, run_underlying Try.und_arr, Result.andThen_ok, sizeOf, typeInfo, hi, run_program, hz1, Sem.run_pure]
  have hr : List.range' 0 4 = [0, 1, 2, 3] := rfl
  simp [go_sem, part, hi, hz1, sizeOf, typeInfo, hq, hr, isAgg, run_underlying Try.und_val]


theorem sl_wf {x : Int} (h : Wf64 x) : Wf64 ((ofB x.toNat : Nat) : Int) := by
  unfold ofB
  unfold Wf64 at *
  split
  · decide
  · omega
theorem RunP.num {w : World} {D : WD} {H : List Int} {am : List Bool} {n k : Nat} {e : Ending} {w' : World} (h : RunP w D H am e w') (hs : D.st.length = 0) (ho : D.out.length = 0) (hH : H.length = n) (hk : am.length = k) :
    ∃ sa sc oa oc ha hc aa ac, e = .returned (.agg (outA 1 D (.slice sa 0 sc) (.slice oa 0 oc) (.slice ha n hc) (.slice aa k ac) 0)) ∧ VRow w' (.slice ha n hc) H ∧ SRow 1 bcell w' (.slice aa k ac) am ∧ Touch w w' [] := by
  subst hH hk
  obtain ⟨sa, sc, oa, oc, ha, hc, aa, ac, e1, h1, h2, h3⟩ := h
  rw [hs, ho] at e1
  exact ⟨sa, sc, oa, oc, ha, hc, aa, ac, e1, h1, h2, h3⟩
def RunN (w : World) (D : WD) (H : List Int) (am : List Bool) (n k : Nat) (e : Ending) (w' : World) : Prop := ∃ sa sc oa oc ha hc aa ac, e = .returned (.agg (outA 1 D (.slice sa 0 sc) (.slice oa 0 oc) (.slice ha n hc) (.slice aa k ac) 0)) ∧ VRow w' (.slice ha n hc) H ∧ SRow 1 bcell w' (.slice aa k ac) am ∧ Touch w w' []
theorem set4 (u x : Int) : (leftH.set u.toNat x).length = 4 := by simp [leftH]
theorem swfH : SWf zWD leftH := ⟨by simp, by simp, by simp [leftH], fun x hx => (by cases hx), fun x hx => (by simp [leftH] at hx; rcases hx with rfl | rfl | rfl | rfl <;> (unfold Wf64; decide)), wf_zero, wf_zero, wf_zero, wf_zero⟩
theorem leftL_wf (b : Bool) (t u v x : Int) (ht : t = 0 ∨ t = 1 ∨ t = 2 ∨ t = 3) (hu : u = 0 ∨ u = 1 ∨ u = 2 ∨ u = 3) (hv : Wf64 v) (hx : Wf64 x) : ∀ i ∈ leftL b t u v x, i.Wf := by
  intro i hi
  simp only [leftL, List.mem_cons, List.not_mem_nil, or_false] at hi
  rcases hi with rfl | rfl | rfl | rfl | rfl | rfl | rfl | rfl | rfl | rfl | rfl
  all_goals first
    | exact ⟨by simp only; omega, by simp only; omega, hv⟩
    | exact ⟨by simp only; omega, by simp only; omega, hx⟩
    | exact ⟨by simp only; omega, by simp only; omega, wf_zero⟩
    | (cases b <;> exact ⟨by simp [leftI], by show _ ≤ t ∧ t ≤ _; omega, wf_zero⟩)
theorem leftM_wf (u x : Int) (hu : u = 0 ∨ u = 1 ∨ u = 2 ∨ u = 3) (hx : Wf64 x) : ∀ i ∈ leftM u x, i.Wf := by
  intro i hi
  simp only [leftM, List.mem_cons, List.not_mem_nil, or_false] at hi
  rcases hi with rfl | rfl | rfl | rfl | rfl
  all_goals first
    | exact ⟨by simp only; omega, by simp only; omega, hx⟩
    | exact ⟨by simp only; omega, by simp only; omega, wf_zero⟩

set_option maxRecDepth 100000 in
set_option maxHeartbeats 4000000 in
theorem specleft_any {w : World} (a b p q : Int) (c : Bool) (ha : 0 ≤ a ∧ a ≤ 255) (hb : 0 ≤ b ∧ b ≤ 255) (hp : Wf64 p) (hq : Wf64 q) :
    Calls Try.prog 5 #[.agg #[.int .u8 a, .int .u8 b], .agg #[.int .u64 p, .int .u64 q], .bool c] w fun e w' => e = .returned (.bool true) ∧ Touch w w' [] := by
  obtain ⟨t, ht, hta⟩ : ∃ t : Int, (t = 0 ∨ t = 1 ∨ t = 2 ∨ t = 3) ∧ a.tmod 4 = t := ⟨a % 4, by omega, by rw [Int.tmod_eq_emod_of_nonneg (by omega)]⟩
  obtain ⟨u, hu, hub⟩ : ∃ u : Int, (u = 0 ∨ u = 1 ∨ u = 2 ∨ u = 3) ∧ b.tmod 4 = u := ⟨b % 4, by omega, by rw [Int.tmod_eq_emod_of_nonneg (by omega)]⟩
  have hwa : IntKind.i64.wrap a = a := by rw [IntKind.wrap_i64]; omega
  have hwb : IntKind.i64.wrap b = b := by rw [IntKind.wrap_i64]; omega
  have hwt : IntKind.i64.wrap t = t := by rw [IntKind.wrap_i64]; omega
  have hwu : IntKind.i64.wrap u = u := by rw [IntKind.wrap_i64]; omega
  obtain ⟨v, hv⟩ : ∃ v : Int, v = ((ofB p.toNat : Nat) : Int) := ⟨_, rfl⟩
  obtain ⟨x, hx⟩ : ∃ x : Int, x = ((ofB q.toNat : Nat) : Int) := ⟨_, rfl⟩
  have hrv : rightB v = true := by rw [hv]; unfold rightB; rw [Int.toNat_natCast, ofB_idem]; simp
  have hrx : rightB x = true := by rw [hx]; unfold rightB; rw [Int.toNat_natCast, ofB_idem]; simp
  have HCP : ∀ W, Calls Try.prog 16 #[.int .u64 p] W (fun e w' => e = .returned (.int .u64 v) ∧ w' = W) := fun W => by rw [hv]; exact (rcanon_any p hp W).mono (by rintro e w' ⟨rfl, rfl⟩; exact ⟨rfl, rfl⟩)
  have HCQ : ∀ W, Calls Try.prog 16 #[.int .u64 q] W (fun e w' => e = .returned (.int .u64 x) ∧ w' = W) := fun W => by rw [hx]; exact (rcanon_any q hq W).mono (by rintro e w' ⟨rfl, rfl⟩; exact ⟨rfl, rfl⟩)
  have HC1 : Hid _ := HCP
  have HC2 : Hid _ := HCQ
  have T0 : Hid (Touch w ((w.alloc (.cells #[.int .u8 a, .int .u8 b] 45)).alloc (.cells #[.int .u64 p, .int .u64 q] 46)) []) := ((Touch.refl w []).alloc _).alloc _
  have y0 : ((w.alloc (.cells #[.int .u8 a, .int .u8 b] 45)).alloc (.cells #[.int .u64 p, .int .u64 q] 46)).cell? ⟨w.heap.size, 0, none⟩ = some (.int .u8 a) := by simp [go_sem]
  have y1 : ((w.alloc (.cells #[.int .u8 a, .int .u8 b] 45)).alloc (.cells #[.int .u64 p, .int .u64 q] 46)).cell? ⟨w.heap.size, 1, none⟩ = some (.int .u8 b) := by simp [go_sem]
  have y2 : ((w.alloc (.cells #[.int .u8 a, .int .u8 b] 45)).alloc (.cells #[.int .u64 p, .int .u64 q] 46)).cell? ⟨w.heap.size + 1, 0, none⟩ = some (.int .u64 p) := by simp [go_sem]
  have y3 : ((w.alloc (.cells #[.int .u8 a, .int .u8 b] 45)).alloc (.cells #[.int .u64 p, .int .u64 q] 46)).cell? ⟨w.heap.size + 1, 1, none⟩ = some (.int .u64 q) := by simp [go_sem]
  have HWF : Hid (Wf64 v ∧ Wf64 x) := ⟨by rw [hv]; exact sl_wf hp, by rw [hx]; exact sl_wf hq⟩
  clear HCP HCQ hv hx hp hq
  go_enter Try.func5, Try.ntmps5
  go_wp2_with fail
  generalize ((w.alloc (.cells #[.int .u8 a, .int .u8 b] 45)).alloc (.cells #[.int .u64 p, .int .u64 q] 46)) = Q at *
  go_quiet (fail)
  go_wp2_with fail
  have z2 : (Q.drewN nq).cell? ⟨w.heap.size + 1, 0, none⟩ = some (.int .u64 p) := by simpa using y2
  have z3 : (Q.drewN nq).cell? ⟨w.heap.size + 1, 1, none⟩ = some (.int .u64 q) := by simpa using y3
  have T1 : Hid (Touch w (Q.drewN nq) []) := T0.out.drewN _
  clear y0 y1 y2 y3 T0
  generalize (Q.drewN nq) = Q2 at *
  go_quiet ((go_at_call 16; first | exact Calls.quiet_of_same (HC1.out _) | exact Calls.quiet_of_same (HC2.out _)))
  have T2 : Hid (Touch w (Q2.drewN nq) []) := T1.out.drewN _
  clear z2 z3 T1 HC1 HC2
  generalize (Q2.drewN nq) = Q3 at *
  have HTU : Hid ((t = 0 ∨ t = 1 ∨ t = 2 ∨ t = 3) ∧ (u = 0 ∨ u = 1 ∨ u = 2 ∨ u = 3)) := ⟨ht, hu⟩
  have HRR : Hid (rightB v = true ∧ rightB x = true) := ⟨hrv, hrx⟩
  clear ht hu hrv hrx
  cases c with
  | false =>
    have hl1 : InsRow ((Q3.alloc (.cells #[.int .u8 5, .int .i64 t, .int .u64 0] 50)).alloc (.cells #[.int .u8 21, .int .i64 9, .int .u64 0, .int .u8 23, .int .i64 5, .int .u64 0, .int .u8 1, .int .i64 0, .int .u64 v, .int .u8 5, .int .i64 t, .int .u64 0, .int .u8 26, .int .i64 0, .int .u64 0, .int .u8 24, .int .i64 8, .int .u64 0, .int .u8 1, .int .i64 0, .int .u64 x, .int .u8 5, .int .i64 u, .int .u64 0, .int .u8 25, .int .i64 0, .int .u64 0, .int .u8 22, .int .i64 0, .int .u64 0, .int .u8 28, .int .i64 0, .int .u64 0] 50)) (.slice (some ⟨Q3.heap.size + 1, 0, none⟩) 11 11) (leftL false t u v x) := by
      have := slit (w := (Q3.alloc (.cells #[.int .u8 5, .int .i64 t, .int .u64 0] 50))) (leftL false t u v x) (by simp [leftL])
      rw [World.size_alloc] at this
      exact this
    have hm1 : InsRow (((Q3.alloc (.cells #[.int .u8 5, .int .i64 t, .int .u64 0] 50)).alloc (.cells #[.int .u8 21, .int .i64 9, .int .u64 0, .int .u8 23, .int .i64 5, .int .u64 0, .int .u8 1, .int .i64 0, .int .u64 v, .int .u8 5, .int .i64 t, .int .u64 0, .int .u8 26, .int .i64 0, .int .u64 0, .int .u8 24, .int .i64 8, .int .u64 0, .int .u8 1, .int .i64 0, .int .u64 x, .int .u8 5, .int .i64 u, .int .u64 0, .int .u8 25, .int .i64 0, .int .u64 0, .int .u8 22, .int .i64 0, .int .u64 0, .int .u8 28, .int .i64 0, .int .u64 0] 50)).alloc (.cells #[.int .u8 21, .int .i64 3, .int .u64 0, .int .u8 1, .int .i64 0, .int .u64 x, .int .u8 5, .int .i64 u, .int .u64 0, .int .u8 22, .int .i64 0, .int .u64 0, .int .u8 28, .int .i64 0, .int .u64 0] 50)) (.slice (some ⟨Q3.heap.size + 1 + 1, 0, none⟩) 5 5) (leftM u x) := by
      have := slit (w := ((Q3.alloc (.cells #[.int .u8 5, .int .i64 t, .int .u64 0] 50)).alloc (.cells #[.int .u8 21, .int .i64 9, .int .u64 0, .int .u8 23, .int .i64 5, .int .u64 0, .int .u8 1, .int .i64 0, .int .u64 v, .int .u8 5, .int .i64 t, .int .u64 0, .int .u8 26, .int .i64 0, .int .u64 0, .int .u8 24, .int .i64 8, .int .u64 0, .int .u8 1, .int .i64 0, .int .u64 x, .int .u8 5, .int .i64 u, .int .u64 0, .int .u8 25, .int .i64 0, .int .u64 0, .int .u8 22, .int .i64 0, .int .u64 0, .int .u8 28, .int .i64 0, .int .u64 0] 50))) (leftM u x) (by simp [leftM])
      rw [World.size_alloc, World.size_alloc] at this
      exact this
    have hh1 : VRow ((((Q3.alloc (.cells #[.int .u8 5, .int .i64 t, .int .u64 0] 50)).alloc (.cells #[.int .u8 21, .int .i64 9, .int .u64 0, .int .u8 23, .int .i64 5, .int .u64 0, .int .u8 1, .int .i64 0, .int .u64 v, .int .u8 5, .int .i64 t, .int .u64 0, .int .u8 26, .int .i64 0, .int .u64 0, .int .u8 24, .int .i64 8, .int .u64 0, .int .u8 1, .int .i64 0, .int .u64 x, .int .u8 5, .int .i64 u, .int .u64 0, .int .u8 25, .int .i64 0, .int .u64 0, .int .u8 22, .int .i64 0, .int .u64 0, .int .u8 28, .int .i64 0, .int .u64 0] 50)).alloc (.cells #[.int .u8 21, .int .i64 3, .int .u64 0, .int .u8 1, .int .i64 0, .int .u64 x, .int .u8 5, .int .i64 u, .int .u64 0, .int .u8 22, .int .i64 0, .int .u64 0, .int .u8 28, .int .i64 0, .int .u64 0] 50)).alloc (.cells #[.int .u64 0, .int .u64 4607182418800017408, .int .u64 9221120237041090560, .int .u64 9223372036854775808] 25)) (.slice (some ⟨Q3.heap.size + 1 + 1 + 1, 0, none⟩) 4 4) leftH := by
      have := vlit (w := (((Q3.alloc (.cells #[.int .u8 5, .int .i64 t, .int .u64 0] 50)).alloc (.cells #[.int .u8 21, .int .i64 9, .int .u64 0, .int .u8 23, .int .i64 5, .int .u64 0, .int .u8 1, .int .i64 0, .int .u64 v, .int .u8 5, .int .i64 t, .int .u64 0, .int .u8 26, .int .i64 0, .int .u64 0, .int .u8 24, .int .i64 8, .int .u64 0, .int .u8 1, .int .i64 0, .int .u64 x, .int .u8 5, .int .i64 u, .int .u64 0, .int .u8 25, .int .i64 0, .int .u64 0, .int .u8 22, .int .i64 0, .int .u64 0, .int .u8 28, .int .i64 0, .int .u64 0] 50)).alloc (.cells #[.int .u8 21, .int .i64 3, .int .u64 0, .int .u8 1, .int .i64 0, .int .u64 x, .int .u8 5, .int .i64 u, .int .u64 0, .int .u8 22, .int .i64 0, .int .u64 0, .int .u8 28, .int .i64 0, .int .u64 0] 50))) leftH (by simp [leftH])
      rw [World.size_alloc, World.size_alloc, World.size_alloc] at this
      exact this
    have hl4 : InsRow ((((Q3.alloc (.cells #[.int .u8 5, .int .i64 t, .int .u64 0] 50)).alloc (.cells #[.int .u8 21, .int .i64 9, .int .u64 0, .int .u8 23, .int .i64 5, .int .u64 0, .int .u8 1, .int .i64 0, .int .u64 v, .int .u8 5, .int .i64 t, .int .u64 0, .int .u8 26, .int .i64 0, .int .u64 0, .int .u8 24, .int .i64 8, .int .u64 0, .int .u8 1, .int .i64 0, .int .u64 x, .int .u8 5, .int .i64 u, .int .u64 0, .int .u8 25, .int .i64 0, .int .u64 0, .int .u8 22, .int .i64 0, .int .u64 0, .int .u8 28, .int .i64 0, .int .u64 0] 50)).alloc (.cells #[.int .u8 21, .int .i64 3, .int .u64 0, .int .u8 1, .int .i64 0, .int .u64 x, .int .u8 5, .int .i64 u, .int .u64 0, .int .u8 22, .int .i64 0, .int .u64 0, .int .u8 28, .int .i64 0, .int .u64 0] 50)).alloc (.cells #[.int .u64 0, .int .u64 4607182418800017408, .int .u64 9221120237041090560, .int .u64 9223372036854775808] 25)) (.slice (some ⟨Q3.heap.size + 1, 0, none⟩) 11 11) (leftL false t u v x) := SRow.keep hl1 (((Touch.refl _ []).alloc _).alloc _) (by simp)
    have hm4 : InsRow ((((Q3.alloc (.cells #[.int .u8 5, .int .i64 t, .int .u64 0] 50)).alloc (.cells #[.int .u8 21, .int .i64 9, .int .u64 0, .int .u8 23, .int .i64 5, .int .u64 0, .int .u8 1, .int .i64 0, .int .u64 v, .int .u8 5, .int .i64 t, .int .u64 0, .int .u8 26, .int .i64 0, .int .u64 0, .int .u8 24, .int .i64 8, .int .u64 0, .int .u8 1, .int .i64 0, .int .u64 x, .int .u8 5, .int .i64 u, .int .u64 0, .int .u8 25, .int .i64 0, .int .u64 0, .int .u8 22, .int .i64 0, .int .u64 0, .int .u8 28, .int .i64 0, .int .u64 0] 50)).alloc (.cells #[.int .u8 21, .int .i64 3, .int .u64 0, .int .u8 1, .int .i64 0, .int .u64 x, .int .u8 5, .int .i64 u, .int .u64 0, .int .u8 22, .int .i64 0, .int .u64 0, .int .u8 28, .int .i64 0, .int .u64 0] 50)).alloc (.cells #[.int .u64 0, .int .u64 4607182418800017408, .int .u64 9221120237041090560, .int .u64 9223372036854775808] 25)) (.slice (some ⟨Q3.heap.size + 1 + 1, 0, none⟩) 5 5) (leftM u x) := SRow.keep hm1 ((Touch.refl _ []).alloc _) (by simp)
    have HR1 : Hid (∀ W, Touch ((((Q3.alloc (.cells #[.int .u8 5, .int .i64 t, .int .u64 0] 50)).alloc (.cells #[.int .u8 21, .int .i64 9, .int .u64 0, .int .u8 23, .int .i64 5, .int .u64 0, .int .u8 1, .int .i64 0, .int .u64 v, .int .u8 5, .int .i64 t, .int .u64 0, .int .u8 26, .int .i64 0, .int .u64 0, .int .u8 24, .int .i64 8, .int .u64 0, .int .u8 1, .int .i64 0, .int .u64 x, .int .u8 5, .int .i64 u, .int .u64 0, .int .u8 25, .int .i64 0, .int .u64 0, .int .u8 22, .int .i64 0, .int .u64 0, .int .u8 28, .int .i64 0, .int .u64 0] 50)).alloc (.cells #[.int .u8 21, .int .i64 3, .int .u64 0, .int .u8 1, .int .i64 0, .int .u64 x, .int .u8 5, .int .i64 u, .int .u64 0, .int .u8 22, .int .i64 0, .int .u64 0, .int .u8 28, .int .i64 0, .int .u64 0] 50)).alloc (.cells #[.int .u64 0, .int .u64 4607182418800017408, .int .u64 9221120237041090560, .int .u64 9223372036854775808] 25)) W [] → HidC Try.prog 17 #[.slice (some ⟨Q3.heap.size + 1, 0, none⟩) 11 11, .slice (some ⟨Q3.heap.size + 1 + 1 + 1, 0, none⟩) 4 4, .int .i64 100] W (RunN W ⟨10, [], 0, 0, 0, 0, [], 92⟩ (leftH.set u.toNat x) [false] 4 1)) := fun W tw => ⟨(run_two (l := leftL false t u v x) (h := leftH) (SRow.keep hh1 tw (by simp)) (SRow.keep hl4 tw (by simp)) (by simp [leftL]) (leftL_wf false t u v x HTU.out.1 HTU.out.2 HWF.out.1 HWF.out.2) swfH 100 (left_out false t u v x HTU.out.1 HTU.out.2 HRR.out.1 HRR.out.2) rfl (by kernel_rfl) (by kernel_rfl) (by simp) (by simp) (by simp)).mono fun _ _ k => k.num rfl rfl (set4 u x) rfl⟩
    have HR2 : Hid (∀ W, Touch ((((Q3.alloc (.cells #[.int .u8 5, .int .i64 t, .int .u64 0] 50)).alloc (.cells #[.int .u8 21, .int .i64 9, .int .u64 0, .int .u8 23, .int .i64 5, .int .u64 0, .int .u8 1, .int .i64 0, .int .u64 v, .int .u8 5, .int .i64 t, .int .u64 0, .int .u8 26, .int .i64 0, .int .u64 0, .int .u8 24, .int .i64 8, .int .u64 0, .int .u8 1, .int .i64 0, .int .u64 x, .int .u8 5, .int .i64 u, .int .u64 0, .int .u8 25, .int .i64 0, .int .u64 0, .int .u8 22, .int .i64 0, .int .u64 0, .int .u8 28, .int .i64 0, .int .u64 0] 50)).alloc (.cells #[.int .u8 21, .int .i64 3, .int .u64 0, .int .u8 1, .int .i64 0, .int .u64 x, .int .u8 5, .int .i64 u, .int .u64 0, .int .u8 22, .int .i64 0, .int .u64 0, .int .u8 28, .int .i64 0, .int .u64 0] 50)).alloc (.cells #[.int .u64 0, .int .u64 4607182418800017408, .int .u64 9221120237041090560, .int .u64 9223372036854775808] 25)) W [] → HidC Try.prog 17 #[.slice (some ⟨Q3.heap.size + 1 + 1, 0, none⟩) 5 5, .slice (some ⟨Q3.heap.size + 1 + 1 + 1, 0, none⟩) 4 4, .int .i64 100] W (RunN W ⟨4, [], 0, 0, 0, 0, [], 97⟩ (leftH.set u.toNat x) [] 4 0)) := fun W tw => ⟨(run_two (l := leftM u x) (h := leftH) (SRow.keep hh1 tw (by simp)) (SRow.keep hm4 tw (by simp)) (by simp [leftM]) (leftM_wf u x HTU.out.2 HWF.out.2) swfH 100 (leftM_out u x HTU.out.2 HRR.out.2) rfl (by kernel_rfl) (by kernel_rfl) (by simp) (by simp) (by simp)).mono fun _ _ k => k.num rfl rfl (set4 u x) rfl⟩
    have HLN : Hid ((leftH.set u.toNat x).length = 4) := set4 u x
    have T4 : Hid (Touch w ((((Q3.alloc (.cells #[.int .u8 5, .int .i64 t, .int .u64 0] 50)).alloc (.cells #[.int .u8 21, .int .i64 9, .int .u64 0, .int .u8 23, .int .i64 5, .int .u64 0, .int .u8 1, .int .i64 0, .int .u64 v, .int .u8 5, .int .i64 t, .int .u64 0, .int .u8 26, .int .i64 0, .int .u64 0, .int .u8 24, .int .i64 8, .int .u64 0, .int .u8 1, .int .i64 0, .int .u64 x, .int .u8 5, .int .i64 u, .int .u64 0, .int .u8 25, .int .i64 0, .int .u64 0, .int .u8 22, .int .i64 0, .int .u64 0, .int .u8 28, .int .i64 0, .int .u64 0] 50)).alloc (.cells #[.int .u8 21, .int .i64 3, .int .u64 0, .int .u8 1, .int .i64 0, .int .u64 x, .int .u8 5, .int .i64 u, .int .u64 0, .int .u8 22, .int .i64 0, .int .u64 0, .int .u8 28, .int .i64 0, .int .u64 0] 50)).alloc (.cells #[.int .u64 0, .int .u64 4607182418800017408, .int .u64 9221120237041090560, .int .u64 9223372036854775808] 25)) []) := (((T2.out.alloc _).alloc _).alloc _).alloc _
    clear hl1 hm1 hh1 hl4 hm4 HTU HWF HRR T2
    generalize leftH.set u.toNat x = HX at *
    go_wp2_with fail
    generalize ((((Q3.alloc (.cells #[.int .u8 5, .int .i64 t, .int .u64 0] 50)).alloc (.cells #[.int .u8 21, .int .i64 9, .int .u64 0, .int .u8 23, .int .i64 5, .int .u64 0, .int .u8 1, .int .i64 0, .int .u64 v, .int .u8 5, .int .i64 t, .int .u64 0, .int .u8 26, .int .i64 0, .int .u64 0, .int .u8 24, .int .i64 8, .int .u64 0, .int .u8 1, .int .i64 0, .int .u64 x, .int .u8 5, .int .i64 u, .int .u64 0, .int .u8 25, .int .i64 0, .int .u64 0, .int .u8 22, .int .i64 0, .int .u64 0, .int .u8 28, .int .i64 0, .int .u64 0] 50)).alloc (.cells #[.int .u8 21, .int .i64 3, .int .u64 0, .int .u8 1, .int .i64 0, .int .u64 x, .int .u8 5, .int .i64 u, .int .u64 0, .int .u8 22, .int .i64 0, .int .u64 0, .int .u8 28, .int .i64 0, .int .u64 0] 50)).alloc (.cells #[.int .u64 0, .int .u64 4607182418800017408, .int .u64 9221120237041090560, .int .u64 9223372036854775808] 25)) = Q4 at *
    refine (HR1.out _ (Touch.refl _ _)).out.mono ?_
    rintro e w1 ⟨sa, sc, oa, oc, ha, hc, aa, ac, rfl, rh, ra, t1⟩
    have HRH : Hid _ := rh
    have HRA : Hid _ := ra
    have HT1 : Hid _ := t1
    clear rh ra t1 HR1
    go_wp2_with fail
    refine (HR2.out _ HT1.out).out.mono ?_
    rintro e w2 ⟨sa', sc', oa', oc', ha', hc', aa', ac', rfl, rh', ra', t2⟩
    have HRH2 : Hid _ := rh'
    have HT2 : Hid (Touch Q4 w2 []) := HT1.out.trans t2 (by simp)
    have HRHa : Hid _ := SRow.keep HRH.out t2 (by simp)
    have HRAa : Hid _ := SRow.keep HRA.out t2 (by simp)
    clear rh' ra' t2 HR2 HRH HRA HT1
    have hza : OutB ((w2.alloc (.cells (outA 0 zWD (.slice none 0 0) (.slice none 0 0) (.slice none 0 0) (.slice none 0 0) 0) 41)).alloc (.cells (outA 0 zWD (.slice none 0 0) (.slice none 0 0) (.slice none 0 0) (.slice none 0 0) 0) 41)) w2.heap.size (outA 0 zWD (.slice none 0 0) (.slice none 0 0) (.slice none 0 0) (.slice none 0 0) 0) := OutB.touch ⟨heap_alloc_new w2 _⟩ ((Touch.refl _ []).alloc _) (by simp)
    have hzb : OutB ((w2.alloc (.cells (outA 0 zWD (.slice none 0 0) (.slice none 0 0) (.slice none 0 0) (.slice none 0 0) 0) 41)).alloc (.cells (outA 0 zWD (.slice none 0 0) (.slice none 0 0) (.slice none 0 0) (.slice none 0 0) 0) 41)) (w2.heap.size + 1) (outA 0 zWD (.slice none 0 0) (.slice none 0 0) (.slice none 0 0) (.slice none 0 0) 0) := ⟨by have := heap_alloc_new (w2.alloc (.cells (outA 0 zWD (.slice none 0 0) (.slice none 0 0) (.slice none 0 0) (.slice none 0 0) 0) 41)) (.cells (outA 0 zWD (.slice none 0 0) (.slice none 0 0) (.slice none 0 0) (.slice none 0 0) 0) 41); simpa using this⟩
    have HTHa : Hid _ := out_there hza
    have HMID : Hid (∀ W3, W3 = ((w2.alloc (.cells (outA 0 zWD (.slice none 0 0) (.slice none 0 0) (.slice none 0 0) (.slice none 0 0) 0) 41)).alloc (.cells (outA 0 zWD (.slice none 0 0) (.slice none 0 0) (.slice none 0 0) (.slice none 0 0) 0) 41)).setCells w2.heap.size 0 (outA 1 ⟨10, [], 0, 0, 0, 0, [], 92⟩ (.slice sa 0 sc) (.slice oa 0 oc) (.slice ha 4 hc) (.slice aa 1 ac) 0).toList → W3.there (w2.heap.size + 1) 0 11 ∧ ∀ W4, W4 = W3.setCells (w2.heap.size + 1) 0 (outA 1 ⟨4, [], 0, 0, 0, 0, [], 97⟩ (.slice sa' 0 sc') (.slice oa' 0 oc') (.slice ha' 4 hc') (.slice aa' 0 ac') 0).toList → OutB W4 w2.heap.size (outA 1 ⟨10, [], 0, 0, 0, 0, [], 92⟩ (.slice sa 0 sc) (.slice oa 0 oc) (.slice ha 4 hc) (.slice aa 1 ac) 0) ∧ OutB W4 (w2.heap.size + 1) (outA 1 ⟨4, [], 0, 0, 0, 0, [], 97⟩ (.slice sa' 0 sc') (.slice oa' 0 oc') (.slice ha' 4 hc') (.slice aa' 0 ac') 0) ∧ Touch w2 W4 []) := fun W3 hW3 => by
      obtain ⟨g1, g2⟩ := out_sets hza 1 ⟨10, [], 0, 0, 0, 0, [], 92⟩ (.slice sa 0 sc) (.slice oa 0 oc) (.slice ha 4 hc) (.slice aa 1 ac) 0 W3 hW3
      have hb3 := hzb.touch g2 (by simp)
      refine ⟨out_there hb3, fun W4 hW4 => ?_⟩
      obtain ⟨k1, k2⟩ := out_sets hb3 1 ⟨4, [], 0, 0, 0, 0, [], 97⟩ (.slice sa' 0 sc') (.slice oa' 0 oc') (.slice ha' 4 hc') (.slice aa' 0 ac') 0 W4 hW4
      exact ⟨g1.touch k2 (by simp), k1, ((((Touch.refl w2 []).alloc _).alloc _).trans g2 (fun z hz => .inr (by simp at hz; omega))).trans k2 (fun z hz => .inr (by simp at hz; omega))⟩
    clear hza hzb
    go_wp2_with (first
      | (refine wpList_store_mid rfl 41 _ _ rfl w2.heap.size 0 (outA 1 ⟨10, [], 0, 0, 0, 0, [], 92⟩ (.slice sa 0 sc) (.slice oa 0 oc) (.slice ha 4 hc) (.slice aa 1 ac) 0) rfl rfl HTHa.out Try.size_out (out_one _ _ _ _ _ _ _ _ _ _ _ _ _ _ _) ?_; refine wpList_nameS fun W3 hW3 => ?_; obtain ⟨e1, e2⟩ := HMID.out W3 hW3; have HTHb : Hid _ := e1; have HE : Hid _ := e2; clear hW3 e1 e2 HMID HTHa)
      | (refine wpList_store_mid rfl 41 _ _ rfl (w2.heap.size + 1) 0 (outA 1 ⟨4, [], 0, 0, 0, 0, [], 97⟩ (.slice sa' 0 sc') (.slice oa' 0 oc') (.slice ha' 4 hc') (.slice aa' 0 ac') 0) rfl rfl HTHb.out Try.size_out (out_one _ _ _ _ _ _ _ _ _ _ _ _ _ _ _) ?_; refine wpList_nameS fun W4 hW4 => ?_; have H4 : Hid _ := HE.out W4 hW4; clear hW4 HE HTHb))
    refine (splive_any _).mono ?_
    rintro e w5 ⟨rfl, t5⟩
    obtain ⟨e1, e2, e3⟩ := H4.out
    have oa5 := e1.touch t5 (by simp)
    have ob5 := e2.touch t5 (by simp)
    have t25 : Touch w2 w5 [] := e3.trans t5 (by simp)
    have HSM : Hid (HidC Try.prog 15 #[.slice ha 4 hc, .slice ha' 4 hc'] w5 fun e w' => e = .returned (.bool true) ∧ Touch w5 w' []) := ⟨by
      have h := spsame_any ha ha' hc hc' HX w5 (by have := HLN.out; omega) (by rw [HLN.out]; exact SRow.keep HRHa.out t25 (by simp)) (by rw [HLN.out]; exact SRow.keep HRH2.out t25 (by simp))
      rw [HLN.out] at h
      exact h⟩
    have OA5 : Hid _ := oa5
    have OB5 : Hid _ := ob5
    have RA5 : Hid _ := SRow.keep HRAa.out t25 (by simp)
    have T5 : Hid (Touch w w5 []) := (T4.out.trans HT2.out (by simp)).trans t25 (by simp)
    have a0 := oa5.cell 0
    have a8 := oa5.cell 8
    have b0 := ob5.cell 0
    have b8 := ob5.cell 8
    simp only [outA, List.getElem?_toArray, List.getElem?_cons_zero, List.getElem?_cons_succ] at a0 a8 b0 b8
    clear H4 t5 e1 e2 e3 t25 HRHa HRH2 HRAa T4 HT2 oa5 ob5
    go_wp2_with fail
    refine HSM.out.out.mono ?_
    rintro e w6 ⟨rfl, t6⟩
    have oa6 := OA5.out.touch t6 (by simp)
    have ob6 := OB5.out.touch t6 (by simp)
    obtain ⟨g, q', hg, c6⟩ := brow1 (SRow.keep RA5.out t6 (by simp))
    subst hg
    have T6 : Hid _ := T5.out.trans t6 (by simp)
    have heq := eq4 0 0 0 0
    have k3 := oa6.cell 3
    have k4 := oa6.cell 4
    have k5 := oa6.cell 5
    have k6 := oa6.cell 6
    have k9 := oa6.cell 9
    have m3 := ob6.cell 3
    have m4 := ob6.cell 4
    have m5 := ob6.cell 5
    have m6 := ob6.cell 6
    simp only [outA, List.getElem?_toArray, List.getElem?_cons_zero, List.getElem?_cons_succ] at k3 k4 k5 k6 k9 m3 m4 m5 m6
    clear a0 a8 b0 b8 HSM OA5 OB5 RA5 T5 t6 oa6 ob6
    go_wp2
    go_ret
    exact ⟨rfl, T6.out⟩
  | true =>
    have hl1 : InsRow ((Q3.alloc (.cells #[.int .u8 3, .int .i64 t, .int .u64 0] 50)).alloc (.cells #[.int .u8 21, .int .i64 9, .int .u64 0, .int .u8 23, .int .i64 5, .int .u64 0, .int .u8 1, .int .i64 0, .int .u64 v, .int .u8 3, .int .i64 t, .int .u64 0, .int .u8 26, .int .i64 0, .int .u64 0, .int .u8 24, .int .i64 8, .int .u64 0, .int .u8 1, .int .i64 0, .int .u64 x, .int .u8 5, .int .i64 u, .int .u64 0, .int .u8 25, .int .i64 0, .int .u64 0, .int .u8 22, .int .i64 0, .int .u64 0, .int .u8 28, .int .i64 0, .int .u64 0] 50)) (.slice (some ⟨Q3.heap.size + 1, 0, none⟩) 11 11) (leftL true t u v x) := by
      have := slit (w := (Q3.alloc (.cells #[.int .u8 3, .int .i64 t, .int .u64 0] 50))) (leftL true t u v x) (by simp [leftL])
      rw [World.size_alloc] at this
      exact this
    have hm1 : InsRow (((Q3.alloc (.cells #[.int .u8 3, .int .i64 t, .int .u64 0] 50)).alloc (.cells #[.int .u8 21, .int .i64 9, .int .u64 0, .int .u8 23, .int .i64 5, .int .u64 0, .int .u8 1, .int .i64 0, .int .u64 v, .int .u8 3, .int .i64 t, .int .u64 0, .int .u8 26, .int .i64 0, .int .u64 0, .int .u8 24, .int .i64 8, .int .u64 0, .int .u8 1, .int .i64 0, .int .u64 x, .int .u8 5, .int .i64 u, .int .u64 0, .int .u8 25, .int .i64 0, .int .u64 0, .int .u8 22, .int .i64 0, .int .u64 0, .int .u8 28, .int .i64 0, .int .u64 0] 50)).alloc (.cells #[.int .u8 21, .int .i64 3, .int .u64 0, .int .u8 1, .int .i64 0, .int .u64 x, .int .u8 5, .int .i64 u, .int .u64 0, .int .u8 22, .int .i64 0, .int .u64 0, .int .u8 28, .int .i64 0, .int .u64 0] 50)) (.slice (some ⟨Q3.heap.size + 1 + 1, 0, none⟩) 5 5) (leftM u x) := by
      have := slit (w := ((Q3.alloc (.cells #[.int .u8 3, .int .i64 t, .int .u64 0] 50)).alloc (.cells #[.int .u8 21, .int .i64 9, .int .u64 0, .int .u8 23, .int .i64 5, .int .u64 0, .int .u8 1, .int .i64 0, .int .u64 v, .int .u8 3, .int .i64 t, .int .u64 0, .int .u8 26, .int .i64 0, .int .u64 0, .int .u8 24, .int .i64 8, .int .u64 0, .int .u8 1, .int .i64 0, .int .u64 x, .int .u8 5, .int .i64 u, .int .u64 0, .int .u8 25, .int .i64 0, .int .u64 0, .int .u8 22, .int .i64 0, .int .u64 0, .int .u8 28, .int .i64 0, .int .u64 0] 50))) (leftM u x) (by simp [leftM])
      rw [World.size_alloc, World.size_alloc] at this
      exact this
    have hh1 : VRow ((((Q3.alloc (.cells #[.int .u8 3, .int .i64 t, .int .u64 0] 50)).alloc (.cells #[.int .u8 21, .int .i64 9, .int .u64 0, .int .u8 23, .int .i64 5, .int .u64 0, .int .u8 1, .int .i64 0, .int .u64 v, .int .u8 3, .int .i64 t, .int .u64 0, .int .u8 26, .int .i64 0, .int .u64 0, .int .u8 24, .int .i64 8, .int .u64 0, .int .u8 1, .int .i64 0, .int .u64 x, .int .u8 5, .int .i64 u, .int .u64 0, .int .u8 25, .int .i64 0, .int .u64 0, .int .u8 22, .int .i64 0, .int .u64 0, .int .u8 28, .int .i64 0, .int .u64 0] 50)).alloc (.cells #[.int .u8 21, .int .i64 3, .int .u64 0, .int .u8 1, .int .i64 0, .int .u64 x, .int .u8 5, .int .i64 u, .int .u64 0, .int .u8 22, .int .i64 0, .int .u64 0, .int .u8 28, .int .i64 0, .int .u64 0] 50)).alloc (.cells #[.int .u64 0, .int .u64 4607182418800017408, .int .u64 9221120237041090560, .int .u64 9223372036854775808] 25)) (.slice (some ⟨Q3.heap.size + 1 + 1 + 1, 0, none⟩) 4 4) leftH := by
      have := vlit (w := (((Q3.alloc (.cells #[.int .u8 3, .int .i64 t, .int .u64 0] 50)).alloc (.cells #[.int .u8 21, .int .i64 9, .int .u64 0, .int .u8 23, .int .i64 5, .int .u64 0, .int .u8 1, .int .i64 0, .int .u64 v, .int .u8 3, .int .i64 t, .int .u64 0, .int .u8 26, .int .i64 0, .int .u64 0, .int .u8 24, .int .i64 8, .int .u64 0, .int .u8 1, .int .i64 0, .int .u64 x, .int .u8 5, .int .i64 u, .int .u64 0, .int .u8 25, .int .i64 0, .int .u64 0, .int .u8 22, .int .i64 0, .int .u64 0, .int .u8 28, .int .i64 0, .int .u64 0] 50)).alloc (.cells #[.int .u8 21, .int .i64 3, .int .u64 0, .int .u8 1, .int .i64 0, .int .u64 x, .int .u8 5, .int .i64 u, .int .u64 0, .int .u8 22, .int .i64 0, .int .u64 0, .int .u8 28, .int .i64 0, .int .u64 0] 50))) leftH (by simp [leftH])
      rw [World.size_alloc, World.size_alloc, World.size_alloc] at this
      exact this
    have hl4 : InsRow ((((Q3.alloc (.cells #[.int .u8 3, .int .i64 t, .int .u64 0] 50)).alloc (.cells #[.int .u8 21, .int .i64 9, .int .u64 0, .int .u8 23, .int .i64 5, .int .u64 0, .int .u8 1, .int .i64 0, .int .u64 v, .int .u8 3, .int .i64 t, .int .u64 0, .int .u8 26, .int .i64 0, .int .u64 0, .int .u8 24, .int .i64 8, .int .u64 0, .int .u8 1, .int .i64 0, .int .u64 x, .int .u8 5, .int .i64 u, .int .u64 0, .int .u8 25, .int .i64 0, .int .u64 0, .int .u8 22, .int .i64 0, .int .u64 0, .int .u8 28, .int .i64 0, .int .u64 0] 50)).alloc (.cells #[.int .u8 21, .int .i64 3, .int .u64 0, .int .u8 1, .int .i64 0, .int .u64 x, .int .u8 5, .int .i64 u, .int .u64 0, .int .u8 22, .int .i64 0, .int .u64 0, .int .u8 28, .int .i64 0, .int .u64 0] 50)).alloc (.cells #[.int .u64 0, .int .u64 4607182418800017408, .int .u64 9221120237041090560, .int .u64 9223372036854775808] 25)) (.slice (some ⟨Q3.heap.size + 1, 0, none⟩) 11 11) (leftL true t u v x) := SRow.keep hl1 (((Touch.refl _ []).alloc _).alloc _) (by simp)
    have hm4 : InsRow ((((Q3.alloc (.cells #[.int .u8 3, .int .i64 t, .int .u64 0] 50)).alloc (.cells #[.int .u8 21, .int .i64 9, .int .u64 0, .int .u8 23, .int .i64 5, .int .u64 0, .int .u8 1, .int .i64 0, .int .u64 v, .int .u8 3, .int .i64 t, .int .u64 0, .int .u8 26, .int .i64 0, .int .u64 0, .int .u8 24, .int .i64 8, .int .u64 0, .int .u8 1, .int .i64 0, .int .u64 x, .int .u8 5, .int .i64 u, .int .u64 0, .int .u8 25, .int .i64 0, .int .u64 0, .int .u8 22, .int .i64 0, .int .u64 0, .int .u8 28, .int .i64 0, .int .u64 0] 50)).alloc (.cells #[.int .u8 21, .int .i64 3, .int .u64 0, .int .u8 1, .int .i64 0, .int .u64 x, .int .u8 5, .int .i64 u, .int .u64 0, .int .u8 22, .int .i64 0, .int .u64 0, .int .u8 28, .int .i64 0, .int .u64 0] 50)).alloc (.cells #[.int .u64 0, .int .u64 4607182418800017408, .int .u64 9221120237041090560, .int .u64 9223372036854775808] 25)) (.slice (some ⟨Q3.heap.size + 1 + 1, 0, none⟩) 5 5) (leftM u x) := SRow.keep hm1 ((Touch.refl _ []).alloc _) (by simp)
    have HR1 : Hid (∀ W, Touch ((((Q3.alloc (.cells #[.int .u8 3, .int .i64 t, .int .u64 0] 50)).alloc (.cells #[.int .u8 21, .int .i64 9, .int .u64 0, .int .u8 23, .int .i64 5, .int .u64 0, .int .u8 1, .int .i64 0, .int .u64 v, .int .u8 3, .int .i64 t, .int .u64 0, .int .u8 26, .int .i64 0, .int .u64 0, .int .u8 24, .int .i64 8, .int .u64 0, .int .u8 1, .int .i64 0, .int .u64 x, .int .u8 5, .int .i64 u, .int .u64 0, .int .u8 25, .int .i64 0, .int .u64 0, .int .u8 22, .int .i64 0, .int .u64 0, .int .u8 28, .int .i64 0, .int .u64 0] 50)).alloc (.cells #[.int .u8 21, .int .i64 3, .int .u64 0, .int .u8 1, .int .i64 0, .int .u64 x, .int .u8 5, .int .i64 u, .int .u64 0, .int .u8 22, .int .i64 0, .int .u64 0, .int .u8 28, .int .i64 0, .int .u64 0] 50)).alloc (.cells #[.int .u64 0, .int .u64 4607182418800017408, .int .u64 9221120237041090560, .int .u64 9223372036854775808] 25)) W [] → HidC Try.prog 17 #[.slice (some ⟨Q3.heap.size + 1, 0, none⟩) 11 11, .slice (some ⟨Q3.heap.size + 1 + 1 + 1, 0, none⟩) 4 4, .int .i64 100] W (RunN W ⟨10, [], 0, 0, 0, 0, [], 92⟩ (leftH.set u.toNat x) [false] 4 1)) := fun W tw => ⟨(run_two (l := leftL true t u v x) (h := leftH) (SRow.keep hh1 tw (by simp)) (SRow.keep hl4 tw (by simp)) (by simp [leftL]) (leftL_wf true t u v x HTU.out.1 HTU.out.2 HWF.out.1 HWF.out.2) swfH 100 (left_out true t u v x HTU.out.1 HTU.out.2 HRR.out.1 HRR.out.2) rfl (by kernel_rfl) (by kernel_rfl) (by simp) (by simp) (by simp)).mono fun _ _ k => k.num rfl rfl (set4 u x) rfl⟩
    have HR2 : Hid (∀ W, Touch ((((Q3.alloc (.cells #[.int .u8 3, .int .i64 t, .int .u64 0] 50)).alloc (.cells #[.int .u8 21, .int .i64 9, .int .u64 0, .int .u8 23, .int .i64 5, .int .u64 0, .int .u8 1, .int .i64 0, .int .u64 v, .int .u8 3, .int .i64 t, .int .u64 0, .int .u8 26, .int .i64 0, .int .u64 0, .int .u8 24, .int .i64 8, .int .u64 0, .int .u8 1, .int .i64 0, .int .u64 x, .int .u8 5, .int .i64 u, .int .u64 0, .int .u8 25, .int .i64 0, .int .u64 0, .int .u8 22, .int .i64 0, .int .u64 0, .int .u8 28, .int .i64 0, .int .u64 0] 50)).alloc (.cells #[.int .u8 21, .int .i64 3, .int .u64 0, .int .u8 1, .int .i64 0, .int .u64 x, .int .u8 5, .int .i64 u, .int .u64 0, .int .u8 22, .int .i64 0, .int .u64 0, .int .u8 28, .int .i64 0, .int .u64 0] 50)).alloc (.cells #[.int .u64 0, .int .u64 4607182418800017408, .int .u64 9221120237041090560, .int .u64 9223372036854775808] 25)) W [] → HidC Try.prog 17 #[.slice (some ⟨Q3.heap.size + 1 + 1, 0, none⟩) 5 5, .slice (some ⟨Q3.heap.size + 1 + 1 + 1, 0, none⟩) 4 4, .int .i64 100] W (RunN W ⟨4, [], 0, 0, 0, 0, [], 97⟩ (leftH.set u.toNat x) [] 4 0)) := fun W tw => ⟨(run_two (l := leftM u x) (h := leftH) (SRow.keep hh1 tw (by simp)) (SRow.keep hm4 tw (by simp)) (by simp [leftM]) (leftM_wf u x HTU.out.2 HWF.out.2) swfH 100 (leftM_out u x HTU.out.2 HRR.out.2) rfl (by kernel_rfl) (by kernel_rfl) (by simp) (by simp) (by simp)).mono fun _ _ k => k.num rfl rfl (set4 u x) rfl⟩
    have HLN : Hid ((leftH.set u.toNat x).length = 4) := set4 u x
    have T4 : Hid (Touch w ((((Q3.alloc (.cells #[.int .u8 3, .int .i64 t, .int .u64 0] 50)).alloc (.cells #[.int .u8 21, .int .i64 9, .int .u64 0, .int .u8 23, .int .i64 5, .int .u64 0, .int .u8 1, .int .i64 0, .int .u64 v, .int .u8 3, .int .i64 t, .int .u64 0, .int .u8 26, .int .i64 0, .int .u64 0, .int .u8 24, .int .i64 8, .int .u64 0, .int .u8 1, .int .i64 0, .int .u64 x, .int .u8 5, .int .i64 u, .int .u64 0, .int .u8 25, .int .i64 0, .int .u64 0, .int .u8 22, .int .i64 0, .int .u64 0, .int .u8 28, .int .i64 0, .int .u64 0] 50)).alloc (.cells #[.int .u8 21, .int .i64 3, .int .u64 0, .int .u8 1, .int .i64 0, .int .u64 x, .int .u8 5, .int .i64 u, .int .u64 0, .int .u8 22, .int .i64 0, .int .u64 0, .int .u8 28, .int .i64 0, .int .u64 0] 50)).alloc (.cells #[.int .u64 0, .int .u64 4607182418800017408, .int .u64 9221120237041090560, .int .u64 9223372036854775808] 25)) []) := (((T2.out.alloc _).alloc _).alloc _).alloc _
    clear hl1 hm1 hh1 hl4 hm4 HTU HWF HRR T2
    generalize leftH.set u.toNat x = HX at *
    go_wp2_with fail
    generalize ((((Q3.alloc (.cells #[.int .u8 3, .int .i64 t, .int .u64 0] 50)).alloc (.cells #[.int .u8 21, .int .i64 9, .int .u64 0, .int .u8 23, .int .i64 5, .int .u64 0, .int .u8 1, .int .i64 0, .int .u64 v, .int .u8 3, .int .i64 t, .int .u64 0, .int .u8 26, .int .i64 0, .int .u64 0, .int .u8 24, .int .i64 8, .int .u64 0, .int .u8 1, .int .i64 0, .int .u64 x, .int .u8 5, .int .i64 u, .int .u64 0, .int .u8 25, .int .i64 0, .int .u64 0, .int .u8 22, .int .i64 0, .int .u64 0, .int .u8 28, .int .i64 0, .int .u64 0] 50)).alloc (.cells #[.int .u8 21, .int .i64 3, .int .u64 0, .int .u8 1, .int .i64 0, .int .u64 x, .int .u8 5, .int .i64 u, .int .u64 0, .int .u8 22, .int .i64 0, .int .u64 0, .int .u8 28, .int .i64 0, .int .u64 0] 50)).alloc (.cells #[.int .u64 0, .int .u64 4607182418800017408, .int .u64 9221120237041090560, .int .u64 9223372036854775808] 25)) = Q4 at *
    refine (HR1.out _ (Touch.refl _ _)).out.mono ?_
    rintro e w1 ⟨sa, sc, oa, oc, ha, hc, aa, ac, rfl, rh, ra, t1⟩
    have HRH : Hid _ := rh
    have HRA : Hid _ := ra
    have HT1 : Hid _ := t1
    clear rh ra t1 HR1
    go_wp2_with fail
    refine (HR2.out _ HT1.out).out.mono ?_
    rintro e w2 ⟨sa', sc', oa', oc', ha', hc', aa', ac', rfl, rh', ra', t2⟩
    have HRH2 : Hid _ := rh'
    have HT2 : Hid (Touch Q4 w2 []) := HT1.out.trans t2 (by simp)
    have HRHa : Hid _ := SRow.keep HRH.out t2 (by simp)
    have HRAa : Hid _ := SRow.keep HRA.out t2 (by simp)
    clear rh' ra' t2 HR2 HRH HRA HT1
    have hza : OutB ((w2.alloc (.cells (outA 0 zWD (.slice none 0 0) (.slice none 0 0) (.slice none 0 0) (.slice none 0 0) 0) 41)).alloc (.cells (outA 0 zWD (.slice none 0 0) (.slice none 0 0) (.slice none 0 0) (.slice none 0 0) 0) 41)) w2.heap.size (outA 0 zWD (.slice none 0 0) (.slice none 0 0) (.slice none 0 0) (.slice none 0 0) 0) := OutB.touch ⟨heap_alloc_new w2 _⟩ ((Touch.refl _ []).alloc _) (by simp)
    have hzb : OutB ((w2.alloc (.cells (outA 0 zWD (.slice none 0 0) (.slice none 0 0) (.slice none 0 0) (.slice none 0 0) 0) 41)).alloc (.cells (outA 0 zWD (.slice none 0 0) (.slice none 0 0) (.slice none 0 0) (.slice none 0 0) 0) 41)) (w2.heap.size + 1) (outA 0 zWD (.slice none 0 0) (.slice none 0 0) (.slice none 0 0) (.slice none 0 0) 0) := ⟨by have := heap_alloc_new (w2.alloc (.cells (outA 0 zWD (.slice none 0 0) (.slice none 0 0) (.slice none 0 0) (.slice none 0 0) 0) 41)) (.cells (outA 0 zWD (.slice none 0 0) (.slice none 0 0) (.slice none 0 0) (.slice none 0 0) 0) 41); simpa using this⟩
    have HTHa : Hid _ := out_there hza
    have HMID : Hid (∀ W3, W3 = ((w2.alloc (.cells (outA 0 zWD (.slice none 0 0) (.slice none 0 0) (.slice none 0 0) (.slice none 0 0) 0) 41)).alloc (.cells (outA 0 zWD (.slice none 0 0) (.slice none 0 0) (.slice none 0 0) (.slice none 0 0) 0) 41)).setCells w2.heap.size 0 (outA 1 ⟨10, [], 0, 0, 0, 0, [], 92⟩ (.slice sa 0 sc) (.slice oa 0 oc) (.slice ha 4 hc) (.slice aa 1 ac) 0).toList → W3.there (w2.heap.size + 1) 0 11 ∧ ∀ W4, W4 = W3.setCells (w2.heap.size + 1) 0 (outA 1 ⟨4, [], 0, 0, 0, 0, [], 97⟩ (.slice sa' 0 sc') (.slice oa' 0 oc') (.slice ha' 4 hc') (.slice aa' 0 ac') 0).toList → OutB W4 w2.heap.size (outA 1 ⟨10, [], 0, 0, 0, 0, [], 92⟩ (.slice sa 0 sc) (.slice oa 0 oc) (.slice ha 4 hc) (.slice aa 1 ac) 0) ∧ OutB W4 (w2.heap.size + 1) (outA 1 ⟨4, [], 0, 0, 0, 0, [], 97⟩ (.slice sa' 0 sc') (.slice oa' 0 oc') (.slice ha' 4 hc') (.slice aa' 0 ac') 0) ∧ Touch w2 W4 []) := fun W3 hW3 => by
      obtain ⟨g1, g2⟩ := out_sets hza 1 ⟨10, [], 0, 0, 0, 0, [], 92⟩ (.slice sa 0 sc) (.slice oa 0 oc) (.slice ha 4 hc) (.slice aa 1 ac) 0 W3 hW3
      have hb3 := hzb.touch g2 (by simp)
      refine ⟨out_there hb3, fun W4 hW4 => ?_⟩
      obtain ⟨k1, k2⟩ := out_sets hb3 1 ⟨4, [], 0, 0, 0, 0, [], 97⟩ (.slice sa' 0 sc') (.slice oa' 0 oc') (.slice ha' 4 hc') (.slice aa' 0 ac') 0 W4 hW4
      exact ⟨g1.touch k2 (by simp), k1, ((((Touch.refl w2 []).alloc _).alloc _).trans g2 (fun z hz => .inr (by simp at hz; omega))).trans k2 (fun z hz => .inr (by simp at hz; omega))⟩
    clear hza hzb
    go_wp2_with (first
      | (refine wpList_store_mid rfl 41 _ _ rfl w2.heap.size 0 (outA 1 ⟨10, [], 0, 0, 0, 0, [], 92⟩ (.slice sa 0 sc) (.slice oa 0 oc) (.slice ha 4 hc) (.slice aa 1 ac) 0) rfl rfl HTHa.out Try.size_out (out_one _ _ _ _ _ _ _ _ _ _ _ _ _ _ _) ?_; refine wpList_nameS fun W3 hW3 => ?_; obtain ⟨e1, e2⟩ := HMID.out W3 hW3; have HTHb : Hid _ := e1; have HE : Hid _ := e2; clear hW3 e1 e2 HMID HTHa)
      | (refine wpList_store_mid rfl 41 _ _ rfl (w2.heap.size + 1) 0 (outA 1 ⟨4, [], 0, 0, 0, 0, [], 97⟩ (.slice sa' 0 sc') (.slice oa' 0 oc') (.slice ha' 4 hc') (.slice aa' 0 ac') 0) rfl rfl HTHb.out Try.size_out (out_one _ _ _ _ _ _ _ _ _ _ _ _ _ _ _) ?_; refine wpList_nameS fun W4 hW4 => ?_; have H4 : Hid _ := HE.out W4 hW4; clear hW4 HE HTHb))
    refine (splive_any _).mono ?_
    rintro e w5 ⟨rfl, t5⟩
    obtain ⟨e1, e2, e3⟩ := H4.out
    have oa5 := e1.touch t5 (by simp)
    have ob5 := e2.touch t5 (by simp)
    have t25 : Touch w2 w5 [] := e3.trans t5 (by simp)
    have HSM : Hid (HidC Try.prog 15 #[.slice ha 4 hc, .slice ha' 4 hc'] w5 fun e w' => e = .returned (.bool true) ∧ Touch w5 w' []) := ⟨by
      have h := spsame_any ha ha' hc hc' HX w5 (by have := HLN.out; omega) (by rw [HLN.out]; exact SRow.keep HRHa.out t25 (by simp)) (by rw [HLN.out]; exact SRow.keep HRH2.out t25 (by simp))
      rw [HLN.out] at h
      exact h⟩
    have OA5 : Hid _ := oa5
    have OB5 : Hid _ := ob5
    have RA5 : Hid _ := SRow.keep HRAa.out t25 (by simp)
    have T5 : Hid (Touch w w5 []) := (T4.out.trans HT2.out (by simp)).trans t25 (by simp)
    have a0 := oa5.cell 0
    have a8 := oa5.cell 8
    have b0 := ob5.cell 0
    have b8 := ob5.cell 8
    simp only [outA, List.getElem?_toArray, List.getElem?_cons_zero, List.getElem?_cons_succ] at a0 a8 b0 b8
    clear H4 t5 e1 e2 e3 t25 HRHa HRH2 HRAa T4 HT2 oa5 ob5
    go_wp2_with fail
    refine HSM.out.out.mono ?_
    rintro e w6 ⟨rfl, t6⟩
    have oa6 := OA5.out.touch t6 (by simp)
    have ob6 := OB5.out.touch t6 (by simp)
    obtain ⟨g, q', hg, c6⟩ := brow1 (SRow.keep RA5.out t6 (by simp))
    subst hg
    have T6 : Hid _ := T5.out.trans t6 (by simp)
    have heq := eq4 0 0 0 0
    have k3 := oa6.cell 3
    have k4 := oa6.cell 4
    have k5 := oa6.cell 5
    have k6 := oa6.cell 6
    have k9 := oa6.cell 9
    have m3 := ob6.cell 3
    have m4 := ob6.cell 4
    have m5 := ob6.cell 5
    have m6 := ob6.cell 6
    simp only [outA, List.getElem?_toArray, List.getElem?_cons_zero, List.getElem?_cons_succ] at k3 k4 k5 k6 k9 m3 m4 m5 m6
    clear a0 a8 b0 b8 HSM OA5 OB5 RA5 T5 t6 oa6 ob6
    go_wp2
    go_ret
    exact ⟨rfl, T6.out⟩

end Go.Proofs.Ytmncidlfikgmkaa

/-
  SpecLeft, WALKED.
-/
import Derived.Test.YtlndbligbpfdpaaSlPlain
import Derived.Test.YtlndbligbpfdpaaValueRefs
import Derived.Deep.QuietTactic
import Derived.BigQuiet
import Derived.Deep.RegionHeld3
namespace Go.Proofs.Ytlndbligbpfdpaa
set_option linter.unusedVariables false
set_option linter.unusedSimpArgs false
open Go.RowKit
attribute [local go_sem] Oper.semAt_some

theorem sp_one {w : World} {ao : Option Addr} {cap : Nat} {l : List Int} (h : VRow w (.slice ao l.length cap) l) (k : Nat) (hk : k < l.length) :
    ∃ g off, ao = some ⟨g, off, none⟩ ∧ g < w.heap.size ∧ w.cell? ⟨g, off + k, none⟩ = some (.int .u64 l[k]) := by
  obtain ⟨g, off, e, hlt, hc⟩ := h.at k hk
  exact ⟨g, off, e, hlt, by simpa using hc 0 (by omega)⟩
set_option maxRecDepth 100000 in
set_option maxHeartbeats 1600000 in
theorem spsame_any (ao bo : Option Addr) (ca cb : Nat) (xs : List Int) (w : World) (hn : xs.length ≤ 1000) (ha : VRow w (.slice ao xs.length ca) xs) (hb : VRow w (.slice bo xs.length cb) xs) :
    Calls Try.prog 16 #[.slice ao xs.length ca, .slice bo xs.length cb] w fun e w' => e = .returned (.bool true) ∧ Touch w w' [] := by
  have HA : Hid (VRow w (.slice ao xs.length ca) xs) := ha
  have HB : Hid (VRow w (.slice bo xs.length cb) xs) := hb
  obtain ⟨n, hN⟩ : ∃ n, n = xs.length := ⟨_, rfl⟩
  have HN : Hid (n = xs.length) := hN
  rw [← hN] at hn ⊢
  clear ha hb hN
  go_enter Try.func16, Try.ntmps16
  go_wp2_with fail
  go_loopw [5] (fun i wr => ∃ k : Nat, i = .int .i64 k ∧ k ≤ n ∧ Touch w wr []) (fun i _ => n - (intOf i).toNat)
  case atStart => exact ⟨0, rfl, Nat.zero_le _, Touch.refl _ _⟩
  case round =>
    obtain ⟨k, rfl, hk, t⟩ := hrel
    by_cases hlt : k < n
    · have h1 : (k : Int) < n := by omega
      have h0 : (0 : Int) ≤ k := by omega
      have hkl : k < xs.length := by rw [← HN.out]; exact hlt
      obtain ⟨ga, oa, rfl, hga, c1⟩ := sp_one (SRow.keep HA.out t (by simp)) k hkl
      obtain ⟨gb, ob, rfl, hgb, c2⟩ := sp_one (SRow.keep HB.out t (by simp)) k hkl
      generalize xs[k] = x at *
      go_wp2_with fail
      go_quiet (fail)
      go_wp2
      go_roundw
      case rel => exact ⟨k + 1, by go_num, by omega, t.drewN _⟩
      case measure => simp [intOf]; omega
    · go_wp2
      go_ret
      exact ⟨rfl, t⟩
theorem Try.und_arr : Try.prog.underlying 26 = some (.array 4 25) := by kernel_rfl
theorem Try.und_val : Try.prog.underlying 25 = some (.int .u64) := by kernel_rfl
set_option maxRecDepth 100000 in
theorem eq4 (a b c d : Int) (w : World) : (Op.equalIn 10000 26 (.agg #[.int .u64 a, .int .u64 b, .int .u64 c, .int .u64 d]) (.agg #[.int .u64 a, .int .u64 b, .int .u64 c, .int .u64 d])).run Try.prog w = .ok true w := by
  obtain ⟨i0, hi, hz0, hz1, hz2⟩ := info_partsE Try.info_val
  have hq : ∀ x : Int, ∀ w : World, (Op.equalIn 9999 25 (.int .u64 x) (.int .u64 x)).run Try.prog w = .ok true w := fun x w => by
    have := run_equalIn_int (P := Try.prog) w 9998 25 .u64 .u64 x x Try.und_val
    simpa using this
  show (Op.equalIn (9999 + 1) _ _ _).run _ _ = _
  rw [Op.equalIn]
  simp only [Sem.run_bind, run_underlying Try.und_arr, Result.andThen_ok, sizeOf, typeInfo, hi, run_program, hz1, Sem.run_pure]
  have hr : List.range' 0 4 = [0, 1, 2, 3] := rfl
  simp [go_sem, part, hi, hz1, sizeOf, typeInfo, hq, hr, isAgg, run_underlying Try.und_val]


theorem sl_wf {x : Int} (h : Wf64 x) : Wf64 ((ofB x.toNat : Nat) : Int) := by
  unfold ofB
  unfold Wf64 at *
  split
  · decide
  · omega
theorem RunP.num {w : World} {D : WD} {H : List Int} {am : List Bool} {n k : Nat} {e : Ending} {w' : World} (h : RunP w D H am e w') (hs : D.st.length = 0) (ho : D.out.length = 0) (hH : H.length = n) (hk : am.length = k) :
    ∃ sa sc oa oc ha hc aa ac, e = .returned (.agg (outA 1 D (.slice sa 0 sc) (.slice oa 0 oc) (.slice ha n hc) (.slice aa k ac) 0)) ∧ VRow w' (.slice ha n hc) H ∧ SRow 1 bcell w' (.slice aa k ac) am ∧ Touch w w' [] := by
  subst hH hk
  obtain ⟨sa, sc, oa, oc, ha, hc, aa, ac, e1, h1, h2, h3⟩ := h
  rw [hs, ho] at e1
  exact ⟨sa, sc, oa, oc, ha, hc, aa, ac, e1, h1, h2, h3⟩
def RunN (w : World) (D : WD) (H : List Int) (am : List Bool) (n k : Nat) (e : Ending) (w' : World) : Prop := ∃ sa sc oa oc ha hc aa ac, e = .returned (.agg (outA 1 D (.slice sa 0 sc) (.slice oa 0 oc) (.slice ha n hc) (.slice aa k ac) 0)) ∧ VRow w' (.slice ha n hc) H ∧ SRow 1 bcell w' (.slice aa k ac) am ∧ Touch w w' []
theorem set4 (u x : Int) : (leftH.set u.toNat x).length = 4 := by simp [leftH]
theorem swfH : SWf zWD leftH := ⟨by simp, by simp, by simp [leftH], fun x hx => (by cases hx), fun x hx => (by simp [leftH] at hx; rcases hx with rfl | rfl | rfl | rfl <;> (unfold Wf64; decide)), wf_zero, wf_zero, wf_zero, wf_zero⟩
theorem leftL_wf (b : Bool) (t u v x : Int) (ht : t = 0 ∨ t = 1 ∨ t = 2 ∨ t = 3) (hu : u = 0 ∨ u = 1 ∨ u = 2 ∨ u = 3) (hv : Wf64 v) (hx : Wf64 x) : ∀ i ∈ leftL b t u v x, i.Wf := by
  intro i hi
  simp only [leftL, List.mem_cons, List.not_mem_nil, or_false] at hi
  rcases hi with rfl | rfl | rfl | rfl | rfl | rfl | rfl | rfl | rfl | rfl | rfl
  all_goals first
    | exact ⟨by simp only; omega, by simp only; omega, hv⟩
    | exact ⟨by simp only; omega, by simp only; omega, hx⟩
    | exact ⟨by simp only; omega, by simp only; omega, wf_zero⟩
    | (cases b <;> exact ⟨by simp [leftI], by show _ ≤ t ∧ t ≤ _; omega, wf_zero⟩)
theorem leftM_wf (u x : Int) (hu : u = 0 ∨ u = 1 ∨ u = 2 ∨ u = 3) (hx : Wf64 x) : ∀ i ∈ leftM u x, i.Wf := by
  intro i hi
  simp only [leftM, List.mem_cons, List.not_mem_nil, or_false] at hi
  rcases hi with rfl | rfl | rfl | rfl | rfl
  all_goals first
    | exact ⟨by simp only; omega, by simp only; omega, hx⟩
    | exact ⟨by simp only; omega, by simp only; omega, wf_zero⟩

end Go.Proofs.Ytlndbligbpfdpaa

/-
  live OF THE STATEMENTS OF PACKAGE reads, AND WHAT THE DOCUMENT CALLS BROKEN.
-/
import Derived.Test.YtbiinldodhkkbaaReadsPlay
namespace Go.Proofs.Ytbiinldodhkkbaa
set_option linter.unusedVariables false
set_option linter.unusedSimpArgs false
open Go.RowKit Go.Maps

def ent1 : EntD := ⟨2, 4607182418800017408, 7⟩
theorem wf_ent1 : ent1.Wf := ⟨by decide, ⟨by decide, by decide⟩, ⟨by decide, by decide⟩⟩
theorem wf_ent2 : EntD.Wf ⟨2, 0, 0⟩ := ⟨by decide, ⟨by decide, by decide⟩, ⟨by decide, by decide⟩⟩
theorem add_ent1 : addE [] ent1 = (0, [ent1]) := by kernel_rfl
theorem add_ent2 : addE [ent1] ⟨2, 0, 0⟩ = (0, [ent1]) := by kernel_rfl
theorem broken_ent1 : brokenE [0, 0, 4607182418800017408] [ent1] = (0, false) := by decide +kernel
theorem broken_ent2 : brokenE [] [ent1] = (2, true) := by decide +kernel

theorem valRow_nil (w : World) : ValRow w (.slice none ([] : List Int).length 0) [] := ⟨none, 0, rfl, fun h => absurd rfl h⟩

set_option maxRecDepth 100000 in
set_option maxHeartbeats 1600000 in
theorem elive_any (w : World) : Calls Try.prog 8 #[] w fun x w' => x = .returned (.bool true) ∧ Touch w w' [] := by
  have hg1 : getT [ent1] 2 = some ent1 := by kernel_rfl
  have hh1 : hasT [ent1] 2 = true := by decide +kernel
  have hn1 : newE [ent1] = 7 := by decide +kernel
  go_enter Try.func8, Try.ntmps8
  go_wp2_with fail
  refine (rdnew_any w).mono ?_
  rintro e w1 ⟨b, m, rfl, s1, t1⟩
  have ha := add_any s1 t1.size ent1 wf_ent1
  rw [add_ent1] at ha
  go_wp2_with fail
  refine ha.mono ?_
  rintro e w2 ⟨vl2, rfl, s2, t2, f2⟩
  have ht2 : Touch w w2 [] := t1.trans t2 (fun q hq => .inr (s1.foot_lt q hq).1)
  clear ha
  have hb := add_any s2 ht2.size ⟨2, 0, 0⟩ wf_ent2
  simp only at hb
  rw [add_ent2] at hb
  go_wp2_with fail
  refine hb.mono ?_
  rintro e w3 ⟨vl3, rfl, s3, t3, f3⟩
  have ht3 : Touch w w3 [] := ht2.trans t3 (fun q hq => .inr (s2.foot_lt q hq).1)
  clear hb t1 t2 t3 f2 f3 s1 s2 ht2
  simp only at s3
  have hc := get_any s3 2 (by decide)
  rw [hg1, hh1] at hc
  change Calls _ _ _ w3 fun x w' => x = .returned (.tuple #[.agg #[.int .i64 2, .int .u64 4607182418800017408, .int .u64 7], .bool true]) ∧ Touch w3 w' [] at hc
  go_wp2_with fail
  refine hc.mono ?_
  rintro e w4 ⟨rfl, t4⟩
  clear hc
  have s4 := s3.keep t4 (by simp)
  have ht4 := ht3.trans t4 (by simp)
  clear t4 s3 ht3
  go_wp2_with fail
  have ta : Touch w4 (w4.alloc (.cells #[.int .i64 2, .int .u64 4607182418800017408, .int .u64 7] 41)) [] := (Touch.refl w4 []).alloc _
  have hd := newest_any (s4.keep ta (by simp))
  rw [hn1] at hd
  refine hd.mono ?_
  rintro e w5 ⟨rfl, t5⟩
  clear hd
  have s5 := (s4.keep ta (by simp)).keep t5 (by simp)
  have ht5 := (ht4.trans ta (by simp)).trans t5 (by simp)
  clear t5 ta s4 ht4
  go_wp2_with fail
  have tb : Touch w5 (w5.alloc (.cells #[.int .u64 0, .int .u64 0, .int .u64 4607182418800017408] 39)) [] := (Touch.refl w5 []).alloc _
  have hv := valid_any (s5.keep tb (by simp)) (some ⟨w5.heap.size, 0, none⟩) 3 [0, 0, 4607182418800017408] (by
    refine ⟨_, 3, rfl, fun _ => ⟨w5.heap.size, 0, rfl, by simp, fun k hk j hj => ?_⟩⟩
    have hj0 : j = 0 := by omega
    subst hj0
    simp only [World.cell?, heap_alloc_new]
    have h3 : k = 0 ∨ k = 1 ∨ k = 2 := by simp at hk; omega
    rcases h3 with rfl | rfl | rfl <;> rfl) (by decide)
  rw [broken_ent1] at hv
  refine hv.mono ?_
  rintro e w6 ⟨rfl, t6⟩
  clear hv
  have s6 := (s5.keep tb (by simp)).keep t6 (by simp)
  have ht6 := (ht5.trans tb (by simp)).trans t6 (by simp)
  clear t6 tb s5 ht5
  have hv2 := valid_any s6 none 0 [] (valRow_nil w6) (by decide)
  rw [broken_ent2] at hv2
  go_wp2_with fail
  refine hv2.mono ?_
  rintro e w7 ⟨rfl, t7⟩
  clear hv2
  go_wp2
  go_ret
  exact ⟨rfl, ht6.trans t7 (by simp)⟩


end Go.Proofs.Ytbiinldodhkkbaa

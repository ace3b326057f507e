/-
  WaitsNone, WALKED.
-/
import Derived.Test.YteffdibdnoppjaaWtLive
namespace Go.Proofs.Yteffdibdnoppjaa
set_option linter.unusedVariables false
set_option linter.unusedSimpArgs false
open Go.RowKit Go.Maps
attribute [local go_sem] Oper.semAt_some

theorem nreg_any (th : Int) (ao : Option Addr) (n c : Nat) (w : World) : Calls Try.prog 10 #[.pointer none, .int .i64 th, .slice ao n c] w fun e w' => e = .returned (.int .i64 1) ∧ w = w' := by
  go_enter Try.func10, Try.ntmps10
  go_wp2
  go_ret
  exact ⟨rfl, rfl⟩
theorem nsleep_any (th : Int) (w : World) : Calls Try.prog 12 #[.pointer none, .int .i64 th] w fun e w' => e = .returned (.int .i64 1) ∧ w = w' := by
  go_enter Try.func12, Try.ntmps12
  go_wp2
  go_ret
  exact ⟨rfl, rfl⟩
theorem ncancel_any (th : Int) (w : World) : Calls Try.prog 13 #[.pointer none, .int .i64 th] w fun e w' => e = .returned (.int .i64 1) ∧ w = w' := by
  go_enter Try.func13, Try.ntmps13
  go_wp2
  go_ret
  exact ⟨rfl, rfl⟩
theorem nfor_any (s : Int) (w : World) : Calls Try.prog 32 #[.pointer none, .int .u32 s] w fun e w' => e = .returned (.slice none 0 0) ∧ w = w' := by
  go_enter Try.func32, Try.ntmps32
  go_wp2
  go_ret
  exact ⟨rfl, rfl⟩
theorem nof_any (th : Int) (w : World) : Calls Try.prog 16 #[.pointer none, .int .i64 th] w fun e w' => e = .returned (.slice none 0 0) ∧ w = w' := by
  go_enter Try.func16, Try.ntmps16
  go_wp2
  go_ret
  exact ⟨rfl, rfl⟩
theorem nasleep_any (th : Int) (w : World) : Calls Try.prog 17 #[.pointer none, .int .i64 th] w fun e w' => e = .returned (.bool false) ∧ w = w' := by
  go_enter Try.func17, Try.ntmps17
  go_wp2
  go_ret
  exact ⟨rfl, rfl⟩
theorem nwaiting_any (w : World) : Calls Try.prog 18 #[.pointer none] w fun e w' => e = .returned (.slice none 0 0) ∧ w = w' := by
  go_enter Try.func18, Try.ntmps18
  go_wp2
  go_ret
  exact ⟨rfl, rfl⟩
theorem nfork_any (w : World) : Calls Try.prog 19 #[.pointer none] w fun e w' => e = .returned (.pointer none) ∧ w = w' := by
  go_enter Try.func19, Try.ntmps19
  go_wp2
  go_ret
  exact ⟨rfl, rfl⟩
set_option maxRecDepth 100000 in
theorem nwake_any {w : World} {v : Value} {tv : List Int} (hr : IRow w v tv) (hl : tv.length ≤ 1000) : Calls Try.prog 14 #[.pointer none, v] w fun e w' => e = .returned (.slice none 0 0) ∧ w = w' := by
  have hset : HidC _ _ _ _ _ := ⟨setOf_any hr hl⟩
  obtain ⟨ao, cap, rfl⟩ := hr.shape
  have hfor := fun w => nfor_any (setP tv : Int) w
  have HF : Hid _ := hfor
  generalize (setP tv : Int) = s at *
  clear hr hfor
  generalize tv.length = N at *
  go_enter Try.func14, Try.ntmps14
  go_wp2_with fail
  refine hset.out.mono ?_
  rintro e w1 ⟨rfl, rfl⟩
  clear hset
  go_wp2_with fail
  refine (HF.out w).mono ?_
  rintro e w1 ⟨rfl, rfl⟩
  go_wp2_with fail
  go_loopw [14] (fun i wr => i = .int .i64 0 ∧ wr = w) (fun i _ => 0)
  case atStart => exact ⟨rfl, rfl⟩
  case round =>
    obtain ⟨rfl, rfl⟩ := hrel
    go_wp2
    go_ret
    exact ⟨rfl, rfl⟩
set_option maxRecDepth 100000 in
theorem nat_any (t : Int) (w : World) : Calls Try.prog 15 #[.pointer none, .int .i64 t] w fun e w' => e = .returned (.slice none 0 0) ∧ Touch w w' [] := by
  have hset : HidC _ _ _ _ _ := ⟨setOf_any (one_new w t) (by simp)⟩
  have HF : Hid (∀ w, Calls Try.prog 32 #[.pointer none, .int .u32 (setP [t] : Int)] w fun e w' => e = .returned (.slice none 0 0) ∧ w = w') := fun w => nfor_any (setP [t] : Int) w
  have HT : Hid (Touch w (w.alloc (.cells #[.int .i64 t] 3)) []) := (Touch.refl w []).alloc _
  generalize (setP [t] : Int) = s at *
  go_enter Try.func15, Try.ntmps15
  go_wp2_with fail
  refine hset.out.mono ?_
  rintro e w1 ⟨rfl, rfl⟩
  clear hset
  go_wp2_with fail
  refine (HF.out _).mono ?_
  rintro e w1 ⟨rfl, rfl⟩
  go_wp2
  go_ret
  exact ⟨rfl, HT.out⟩

set_option maxRecDepth 100000 in
set_option maxHeartbeats 2000000 in
theorem wnone_any (k th t : Int) {ao : Option Addr} {cap : Nat} {l : List Int} (w : World) (hr : IRow w (.slice ao l.length cap) l) (hc : l.length ≤ cap) (hl : l.length ≤ maxLen) :
    Calls Try.prog 3 #[.agg #[.int .i64 k, .int .i64 th, .slice ao l.length cap], .int .i64 t] w fun e w' => e = .returned (.bool true) ∧ Touch w w' [] := by
  obtain ⟨N, hN⟩ : ∃ N, N = l.length := ⟨_, rfl⟩
  have HFEW : Hid (∀ W, Touch w W [] → HidC Try.prog 11 #[.slice ao N cap] W fun e w' => ∃ a c, ∃ v, e = .returned (.slice a (l.take 20).length c) ∧ v = .slice a (l.take 20).length c ∧ IRow W v (l.take 20) ∧ W = w') := fun W T => ⟨by
    rw [hN]
    refine (few_any (SRow.keep hr T (by simp)) hc hl).mono ?_
    rintro e w2 ⟨v, rfl, hv, rfl⟩
    obtain ⟨a, c, e⟩ := hv.shape
    exact ⟨a, c, v, by rw [e], e, hv, rfl⟩⟩
  have HWK : Hid (∀ (W : World) (v : Value), IRow W v (l.take 20) → HidC Try.prog 14 #[.pointer none, v] W fun e w' => e = .returned (.slice none 0 0) ∧ W = w') := fun W v hv => ⟨nwake_any hv (by rw [List.length_take]; omega)⟩
  rw [← hN]
  clear hr hc hl hN
  generalize l.take 20 = l2 at *
  have hlive : HidC _ _ _ _ _ := ⟨live_any (w.alloc (.cells #[.int .i64 k, .int .i64 th, .slice ao N cap] 24)).drew⟩
  have hb0 : (w.alloc (.cells #[.int .i64 k, .int .i64 th, .slice ao N cap] 24)).heap[w.heap.size]? = some (.cells #[.int .i64 k, .int .i64 th, .slice ao N cap] 24 (0, 0)) := heap_alloc_new w _
  have hlt : w.heap.size < (w.alloc (.cells #[.int .i64 k, .int .i64 th, .slice ao N cap] 24)).drew.heap.size := by simp [World.drew]
  have D0 : (w.alloc (.cells #[.int .i64 k, .int .i64 th, .slice ao N cap] 24)).drew.cell? ⟨w.heap.size, 1, none⟩ = some (.int .i64 th) ∧ (w.alloc (.cells #[.int .i64 k, .int .i64 th, .slice ao N cap] 24)).drew.cell? ⟨w.heap.size, 2, none⟩ = some (.slice ao N cap) := by
    have hb1 : (w.alloc (.cells #[.int .i64 k, .int .i64 th, .slice ao N cap] 24)).drew.heap[w.heap.size]? = _ := hb0
    exact ⟨by unfold World.cell?; rw [hb1]; rfl, by unfold World.cell?; rw [hb1]; rfl⟩
  have HK : Hid (∀ W, Touch (w.alloc (.cells #[.int .i64 k, .int .i64 th, .slice ao N cap] 24)).drew W [] → W.cell? ⟨w.heap.size, 1, none⟩ = some (.int .i64 th) ∧ W.cell? ⟨w.heap.size, 2, none⟩ = some (.slice ao N cap)) := fun W T => ⟨(T.cell (p := ⟨w.heap.size, 1, none⟩) hlt (by simp)).trans D0.1, (T.cell (p := ⟨w.heap.size, 2, none⟩) hlt (by simp)).trans D0.2⟩
  have HT0 : Hid (Touch w (w.alloc (.cells #[.int .i64 k, .int .i64 th, .slice ao N cap] 24)).drew []) := ((Touch.refl w []).alloc _).drew
  clear hb0 hlt
  go_enter Try.func3, Try.ntmps3
  go_wp2_with fail
  simp only [List.append_eq, List.cons_append, List.nil_append]
  go_region_held3 (fun w' => w'.cell? ⟨w.heap.size, 1, none⟩ = some (.int .i64 th) ∧ w'.cell? ⟨w.heap.size, 2, none⟩ = some (.slice ao N cap)) (first | exact D0 | exact D1 | exact D2) (first
    | (go_at_call 9; refine hlive.out.mono ?_; rintro e w1 ⟨rfl, t1⟩; have D1 := HK.out w1 t1; have T1 : Touch w w1 [] := HT0.out.trans t1 (by simp))
    | (go_at_call 11; refine (HFEW.out _ T1).out.mono ?_; rintro e w2 ⟨a2, c2, v2, rfl, e2, hv2, rfl⟩)
    | (go_at_call 10; refine (nreg_any _ _ _ _ _).mono ?_; rintro e w2 ⟨rfl, rfl⟩)
    | (go_at_call 12; refine (nsleep_any _ _).mono ?_; rintro e w2 ⟨rfl, rfl⟩)
    | (go_at_call 13; refine (ncancel_any _ _).mono ?_; rintro e w2 ⟨rfl, rfl⟩)
    | (go_at_call 14; rw [e2] at hv2; refine (HWK.out _ _ hv2).out.mono ?_; rintro e w2 ⟨rfl, rfl⟩)
    | (go_at_call 15; refine (nat_any _ _).mono ?_; rintro e w2 ⟨rfl, t2⟩; have D2 := HK.out w2 (t1.trans t2 (by simp)); have T2 : Touch w w2 [] := T1.trans t2 (by simp))
    | (go_at_call 16; refine (nof_any _ _).mono ?_; rintro e w3 ⟨rfl, rfl⟩)
    | (go_at_call 17; refine (nasleep_any _ _).mono ?_; rintro e w3 ⟨rfl, rfl⟩)
    | (go_at_call 18; refine (nwaiting_any _).mono ?_; rintro e w3 ⟨rfl, rfl⟩)
    | (go_at_call 19; refine (nfork_any _).mono ?_; rintro e w3 ⟨rfl, rfl⟩))
  go_wp2
  go_ret
  exact ⟨rfl, T2⟩

end Go.Proofs.Yteffdibdnoppjaa

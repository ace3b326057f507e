/-
  package waits: Cancel, At, Waiting, Fork BY THEIR CONTRACTS.
-/
import Derived.Test.YteffdibdnoppjaaWtWake
import Derived.Shelf.SlMaps.Clone
namespace Go.Proofs.Yteffdibdnoppjaa
set_option linter.unusedVariables false
set_option linter.unusedSimpArgs false
open Go.RowKit Go.Maps Go.Shelf
attribute [local go_sem] Oper.semAt_some

def cancelE (L : List WD) (th : Int) : Int × List WD :=
  if noTh th then (2, L) else if (findW L th).isSome then (0, outP L (fun t => t == th)) else (5, L)

set_option maxRecDepth 100000 in
set_option maxHeartbeats 1000000 in
theorem cancel_any {w : World} {b k : Nat} {F : List Nat} {L : List WD} (h : WAt w b F k L) (th : Int) (h64 : W64 th) :
    Calls Try.prog 13 #[ptr b, .int .i64 th] w fun e w' => e = .returned (.int .i64 (cancelE L th).1) ∧ WPost w b k F (cancelE L th).2 w' := by
  have HST : Hid _ := h.stay (Touch.refl w [])
  have HH : Hid _ := h
  have hnt : HidC _ _ _ _ _ := ⟨nothread_any th w⟩
  cases h1 : noTh th with
  | true =>
    have e1 : cancelE L th = (2, L) := by unfold cancelE; rw [if_pos h1]
    rw [e1]
    rw [h1] at hnt
    clear h1 e1 h
    go_enter Try.func13, Try.ntmps13
    go_wp2_with fail
    refine hnt.out.mono ?_
    rintro e w1 ⟨rfl, rfl⟩
    clear hnt
    go_wp2
    go_ret
    exact ⟨rfl, HST.out⟩
  | false =>
    rw [h1] at hnt
    obtain ⟨mb, vo, n, rfl, ho, hn⟩ := h
    obtain ⟨c0, c1, f1⟩ := ho.cells
    have hlk := ho.map.lookOk Try.underlying57 (Try.zero_wait _) h64
    rw [mapW_get] at hlk
    have hms : (mapW L th).isSome = (findW L th).isSome := by unfold mapW; rw [Option.isSome_map]
    rw [hms] at hlk
    generalize hof : (ofP L th : Int) = o1 at hlk
    generalize slP L th = o2 at hlk
    have T1 : Touch w (w.alloc (.cells #[.int .u32 o1, .bool o2] 55)) [] := (Touch.refl w []).alloc _
    cases h4 : (findW L th).isSome with
    | false =>
      have e1 : cancelE L th = (5, L) := by unfold cancelE; rw [if_neg (by rw [h1]; simp), if_neg (by rw [h4]; simp)]
      rw [e1]
      rw [h4] at hlk
      have HS2 : Hid _ := WAt.stay HH.out T1
      clear h1 h4 e1 hms hof ho T1
      go_enter Try.func13, Try.ntmps13
      go_wp2_with fail
      refine hnt.out.mono ?_
      rintro e w1 ⟨rfl, rfl⟩
      clear hnt
      go_wp2
      go_ret
      exact ⟨rfl, HS2.out⟩
    | true =>
      have e1 : cancelE L th = (0, outP L (fun t => t == th)) := by unfold cancelE; rw [if_neg (by rw [h1]; simp), if_pos h4]
      rw [e1]
      rw [h4] at hlk
      have hrm : HidC _ _ _ _ _ := ⟨remove_any (WAt.touch HH.out T1 (by simp)) th h64⟩
      have HT1 : Hid _ := T1
      clear h1 h4 e1 hms hof ho T1
      go_enter Try.func13, Try.ntmps13
      go_wp2_with fail
      refine hnt.out.mono ?_
      rintro e w1 ⟨rfl, rfl⟩
      clear hnt
      go_wp2_with fail
      refine hrm.out.mono ?_
      rintro e w2 ⟨rfl, h2, t2⟩
      have H2 : Hid _ := h2
      have HT2 : Hid _ := (HT1.out.mono (by simp)).trans t2 (fun x hx => .inl hx)
      clear hrm h2 t2
      go_wp2
      go_ret
      exact ⟨rfl, _, WAt.mono H2.out (Nat.le_succ _), HT2.out, fun x hx => .inl hx⟩

set_option maxRecDepth 100000 in
set_option maxHeartbeats 1000000 in
theorem at_any {w : World} {b k : Nat} {F : List Nat} {L : List WD} (h : WAt w b F k L) (t : Int) :
    Calls Try.prog 15 #[ptr b, .int .i64 t] w (IntsPost w (forP L (setP [t]))) := by
  have T1 : Touch w (w.alloc (.cells #[.int .i64 t] 3)) [] := (Touch.refl w []).alloc _
  have hset : HidC _ _ _ _ _ := ⟨setOf_any (one_new w t) (by simp)⟩
  have hfor : HidC _ _ _ _ _ := ⟨forAny_any (h.touch T1 (by simp)) (setP [t]) (setP_lt _)⟩
  have HT1 : Hid _ := T1
  generalize setP [t] = s at *
  clear T1 h
  go_enter Try.func15, Try.ntmps15
  go_wp2_with fail
  refine hset.out.mono ?_
  rintro e w1 ⟨rfl, rfl⟩
  clear hset
  go_wp2_with fail
  refine hfor.out.mono ?_
  rintro e w1 ⟨u, rfl, hu, t1⟩
  have HU : Hid _ := int_lower hu (Nat.le_trans HT1.out.size (Nat.le_refl _))
  have HT2 : Hid _ := HT1.out.trans t1 (by simp)
  obtain ⟨au, cu, rfl⟩ := owns_slice hu
  clear hfor hu t1
  go_wp2
  go_ret
  exact ⟨_, rfl, HU.out, HT2.out⟩

theorem eqNilInt (w : World) (a : Option Addr) (n c : Nat) : (binOp .eql 22 (.slice a n c) (.slice none 0 0)).run Try.prog w = .ok (.bool a.isNone) w := Lib.run_eql_slice_nil w _ _ a n c 0 0 Try.underlying22

theorem empty_row' (w : World) (e : TypeId) (n : Nat) : (w.alloc (.cells #[] e)).ownsRow w.heap.size e n (.slice (some ⟨w.heap.size, 0, none⟩) 0 0) 0 [] :=
  ⟨by simp, .inr ⟨w.heap.size, 0, #[], rfl, Nat.le_refl _, heap_alloc_new w _, Nat.le_refl _, Nat.zero_le _, by simp, by simp⟩⟩

set_option maxRecDepth 100000 in
set_option maxHeartbeats 1000000 in
theorem clone_any {w : World} {B : Nat} {v : Value} {l : List Int} (h : intOwn w B v l) (hl : l.length ≤ 1000) : Calls Try.prog 34 #[v] w (IntsPost w l) := by
  have hq := eqNilInt
  obtain ⟨ao, cap, rfl⟩ := owns_slice h
  cases ao with
  | none =>
    have hl0 : l = [] := by
      obtain ⟨ao, cap', e, hc⟩ := int_form h
      cases l with
      | nil => rfl
      | cons x l =>
        obtain ⟨g, e2, _⟩ := hc 0 (by simp)
        simp only [Value.slice.injEq] at e
        rw [e2] at e
        simp at e
    subst hl0
    clear h
    simp only [List.length_nil]
    go_enter Try.func34, Try.ntmps34
    go_wp2
    go_ret
    exact ⟨_, rfl, World.ownsRow_nil _ _ _ _, Touch.refl _ _⟩
  | some a =>
    obtain ⟨i0, hi, hz0, hz1, hz2⟩ := info_parts' Try.info_int
    have hr : IRow (w.alloc (.cells #[] 3)) (.slice (some a) l.length cap) l := SRow.keep (irow_of h) ((Touch.refl w []).alloc _) (by simp)
    obtain ⟨v', w', h1, h2, h3, h4⟩ := run_app (P := Try.prog) (cells := icell) 22 22 3 i0 _ 1 8 Try.underlying22 hi hz0 hz1 hz2 rfl (by decide) (fun _ => rfl) (by simp [icell, Value.oneCell']) (empty_row' w 3 1) hr (by omega) (by decide) (by simp)
    have h2' : intOwn w' w.heap.size v' l := by
      show w'.ownsRow _ _ _ _ _ _
      rw [flat_one] at h2
      simpa using h2
    have HT : Hid (Touch w w' []) := ((Touch.refl w []).alloc _).grown h3 (fun g hg => by simp [Value.ownBlock] at hg; exact .inr (by omega))
    obtain ⟨ao', cap', rfl⟩ := owns_slice h2'
    have HO : Hid _ := h2'
    clear h h2 h3 h4 h2' hr
    generalize hN : l.length = N at h1 hl ⊢
    go_enter Try.func34, Try.ntmps34
    go_wp2_with (at_builtin; refine Lib.wpList_append_run _ rfl _ _ _ _ rfl _ _ rfl rfl _ _ h1 ?_)
    go_wp2
    go_ret
    refine ⟨_, rfl, ?_, HT.out⟩
    show intOwn w' w.heap.size (.slice ao' N cap') l
    rw [← hN]
    exact HO.out

set_option maxRecDepth 100000 in
theorem waiting_any {w : World} {b k : Nat} {F : List Nat} {L : List WD} (h : WAt w b F k L) : Calls Try.prog 18 #[ptr b] w (IntsPost w (L.map WD.th)) := by
  obtain ⟨mb, vo, n, rfl, ho, hn⟩ := h
  obtain ⟨c0, c1, f1⟩ := ho.cells
  have hln := ho.wf.len
  have hcl : HidC _ _ _ _ _ := ⟨clone_any ho.ord (by rw [List.length_map]; omega)⟩
  obtain ⟨ao, cap, rfl⟩ := owns_slice ho.ord
  generalize hN : (L.map WD.th).length = N at hcl c1
  clear ho c0 f1
  go_enter Try.func18, Try.ntmps18
  go_wp2_with fail
  refine hcl.out.mono ?_
  rintro e w1 ⟨u, rfl, hu, t1⟩
  have HU : Hid _ := hu
  have HT : Hid _ := t1
  obtain ⟨au, cu, rfl⟩ := owns_slice hu
  clear hcl hu t1 c1
  go_wp2
  go_ret
  refine ⟨_, rfl, ?_, HT.out⟩
  show intOwn w1 w.heap.size (.slice au N cu) (L.map WD.th)
  rw [← hN]
  exact HU.out

theorem mclone_any {w : World} {m n : Nat} {F : Int → Option Value} (h : MapF w m n F) : Calls Try.prog 35 #[.map (some m)] w fun e w' => e = .returned (.map (some w.heap.size)) ∧ MapF w' w.heap.size n F ∧ Touch w w' [] := by
  obtain ⟨D, ⟨es, clock, hb, rest⟩, hm, hF⟩ := h
  have hq := fun w => run_eql_map_nil_sl (P := Try.prog) w 57 _ _ (some m) Try.underlying57
  go_enter Try.func35, Try.ntmps35
  go_wp2
  rw [run_callFunc_extern Try.func48 (by kernel_rfl) (by kernel_rfl) (by kernel_rfl) (e := Extern.MapsClone.clone) (by kernel_rfl), run_maps_clone_sl w 57 hb]
  simp only [Result.andThen]
  rw [Oper.upon_value]
  go_wp2
  rw [run_typeAssert_map_sl _ 57 20 _ _ _ Try.underlying57]
  simp only [Result.andThen]
  rw [Oper.upon_value]
  go_wp2
  go_ret
  exact ⟨rfl, ⟨D, ⟨es, clock, (MapKept.heap_alloc w _).1, rest⟩, hm, hF⟩, (Touch.refl w []).alloc _⟩

set_option maxRecDepth 100000 in
set_option maxHeartbeats 1000000 in
theorem fork_any {w : World} {b k : Nat} {F : List Nat} {L : List WD} (h : WAt w b F k L) : Calls Try.prog 19 #[ptr b] w fun e w' => ∃ b' F', e = .returned (ptr b') ∧ WAt w' b' F' k L ∧ Touch w w' [] ∧ ∀ x ∈ F', w.heap.size ≤ x := by
  obtain ⟨mb, vo, n, rfl, ho, hn⟩ := h
  obtain ⟨c0, c1, f1⟩ := ho.cells
  have hln := ho.wf.len
  have hbl := lt_of_heap ho.st
  have hmc : HidC _ _ _ _ _ := ⟨mclone_any (ho.map.touch (Touch.refl w []).drew (by simp))⟩
  have hcl : ∀ W, Touch w W [] → HidC _ _ _ W _ := fun W T => ⟨clone_any (ownsRow_touch ho.ord T (by simp)) (by rw [List.length_map]; omega)⟩
  have hkeep : ∀ W, Touch w W [] → W.cell? ⟨b, 0, none⟩ = some (.map (some mb)) ∧ W.cell? ⟨b, 1, none⟩ = some vo := fun W T => ⟨(T.cell (p := ⟨b, 0, none⟩) hbl (by simp)).trans c0, (T.cell (p := ⟨b, 1, none⟩) hbl (by simp)).trans c1⟩
  have HWF : Hid _ := ho.wf
  obtain ⟨ao, cap, rfl⟩ := owns_slice ho.ord
  generalize hN : (L.map WD.th).length = N at hcl c1 hkeep
  have m0 := hkeep _ ((Touch.refl w []).drew)
  have HK : Hid _ := hkeep
  clear ho f1 hkeep
  go_enter Try.func19, Try.ntmps19
  go_wp2_with fail
  go_region_held3 (fun w' => w'.cell? ⟨b, 0, none⟩ = some (.map (some mb)) ∧ w'.cell? ⟨b, 1, none⟩ = some (.slice ao N cap)) (first | exact m0 | exact k3 | exact k4 | exact HK.out _ (T2.alloc _)) (first | (go_at_call 35; refine hmc.out.mono ?_; rintro e w3 ⟨rfl, hm3, t3⟩; have T1 : Touch w w3 [] := (Touch.refl w []).drew.trans t3 (by simp); have k3 := HK.out _ T1) | (go_at_call 34; refine (hcl _ T1).out.mono ?_; rintro e w4 ⟨u, rfl, hu, t4⟩; obtain ⟨au, cu, rfl⟩ := owns_slice hu; have T2 : Touch w w4 [] := T1.trans t4 (by simp); have k4 := HK.out _ T2))
  have HM3 : Hid _ := hm3
  have HT2 : Hid _ := T2
  have HU : Hid _ := hu
  have HT4 : Hid _ := t4
  have hsz3 : w.heap.size < w3.heap.size := MapF.lt hm3
  have hsz4 := t4.size
  clear hm3 hu t3 t4 T1 T2 k3 k4 hmc hcl m0
  go_wp2
  go_ret
  have hu : intOwn w4 w3.heap.size (.slice au N cu) (L.map WD.th) := by rw [← hN]; exact HU.out
  have hm3 : MapF w3 w.heap.size n (mapW L) := HM3.out
  have ta : Touch w4 (w4.alloc (.cells #[.map (some w.heap.size), .slice au N cu] 59)) [] := (Touch.refl w4 []).alloc _
  refine ⟨_, _, rfl, ⟨w.heap.size, .slice au N cu, n, rfl, ⟨heap_alloc_new w4 _, (hm3.touch HT4.out (by simp)).touch ta (by simp), ownsRow_touch (int_lower hu (Nat.zero_le _)) ta (by simp), by omega, ?_, HWF.out⟩, hn⟩, HT2.out.trans ta (by simp), ?_⟩
  · intro g hg
    have := int_lt hu g hg
    exact ⟨by omega, by omega⟩
  · intro x hx
    simp only [List.mem_cons] at hx
    rcases hx with rfl | rfl | hx
    · omega
    · exact Nat.le_refl _
    · have := int_lt hu x (by simpa using hx)
      omega

end Go.Proofs.Yteffdibdnoppjaa

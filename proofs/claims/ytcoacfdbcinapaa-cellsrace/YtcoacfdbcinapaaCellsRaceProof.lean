/-
  CellsRace is proved: for every ops (the first 60 of them are played), every cell (of three) and whatever both swap: of two that swap the same word for another one just the first can; the arguments read behind the call as before. No condition.
-/
import Derived.Test.YtcoacfdbcinapaaCellsPlaysProof
import Derived.OpenShut
namespace Go.Proofs.Ytcoacfdbcinapaa
set_option linter.unusedVariables false
set_option linter.unusedSimpArgs false
open Go.ChangeShapes Go.WideShapes Go.ChangeAt Go.RowKit Go.Joins Go.Deep

theorem cas_hit (ws : List Int) (lg : List DoneD) (j : Nat) (x t : Int) (hj : j < ws.length) (hx : ws.getD j 0 = x) :
    doStep ws lg ⟨3, j, x, t⟩ = (⟨⟨3, j, x, t⟩, x, true⟩, 0, ws.set j t, lg ++ [⟨⟨3, j, x, t⟩, x, true⟩]) := by
  have e : outc ⟨3, j, x, t⟩ x = (t, true, 0) := by simp [outc]
  unfold doStep
  rw [if_pos (by simp; omega)]
  simp only [Int.toNat_natCast, hx, e, if_true]

theorem cas_miss (ws : List Int) (lg : List DoneD) (j : Nat) (x y t : Int) (hj : j < ws.length) (hx : ws.getD j 0 = y) (hne : y ≠ x) :
    doStep ws lg ⟨3, j, x, t⟩ = (⟨⟨3, j, x, t⟩, y, false⟩, 0, ws.set j y, lg ++ [⟨⟨3, j, x, t⟩, y, false⟩]) := by
  have e : outc ⟨3, j, x, t⟩ y = (y, false, 0) := by simp [outc, hne]
  unfold doStep
  rw [if_pos (by simp; omega)]
  simp only [Int.toNat_natCast, hx, e, if_true]

theorem getD_set (ws : List Int) (j : Nat) (t : Int) (hj : j < ws.length) : (ws.set j t).getD j 0 = t := by
  rw [List.getD_eq_getElem?_getD, List.getElem?_set_self hj]; rfl

theorem word_known {B b : Nat} {w : World} {vw vl : Value} {ws : List Int} {lg : List DoneD} (h : CObj 69 B w b vw vl ws lg) (hn : ws.length ≤ 32) (j : Nat) (hj : j < ws.length) (x : Int) (hx : ws.getD j 0 = x) :
    Calls Try.prog 21 #[.pointer (some ⟨b, 0, none⟩), .int .i64 j] w fun e w' => e = .returned (.tuple #[.int .u64 x, .int .i64 0]) ∧ w = w' := by
  have := word_at h hn j
  rw [if_pos (by omega), if_pos (by omega), Int.toNat_natCast, hx] at this
  exact this

set_option maxRecDepth 100000 in
set_option maxHeartbeats 3200000 in
theorem race_any (c : Int) (h0 : 0 ≤ c) (h1 : c ≤ 255) (t0 t1 : Int) (ht0 : 0 ≤ t0 ∧ t0 < 18446744073709551616) (ht1 : 0 ≤ t1 ∧ t1 < 18446744073709551616) (ao : Option Addr) (len cap : Nat) (l : List OpD) (hwf : ∀ o ∈ l, o.Wf) (w : World) (hr : OpRow w (.slice ao len cap) l) (hl : l.length ≤ maxLen) :
    Calls Try.prog 6 #[.slice ao len cap, .int .u8 c, .agg #[.int .u64 t0, .int .u64 t1]] w fun e w' => e = .returned (.bool true) ∧ Below w.heap.size w w' := by
  have hp := fun o => play_any 2 (by omega) (by omega) _ l hwf (w.alloc o) (hr.keep ((Touch.refl w []).alloc o) (by simp)) hl
  have hb := runOps_bounds (List.replicate 3 0) [] (l.take 60)
  simp only [List.length_replicate, List.length_nil, List.length_take] at hb
  have e3 : ((2 : Int) % 5 + 1).toNat = 3 := by decide
  rw [e3] at hp
  unfold PlayPost at hp
  generalize hS : runOps (List.replicate 3 0) [] (l.take 60) = S at *
  obtain ⟨ws, lg⟩ := S
  simp only at hp hb
  obtain ⟨j, hj⟩ : ∃ j : Nat, (j : Int) = c % 3 := ⟨(c % 3).toNat, by omega⟩
  have hj3 : j < 3 := by omega
  have hws : ws.length = 3 := hb.1
  have hlg : lg.length ≤ 60 := by omega
  have HJ : Hid ((j : Int) = c % 3) := hj
  obtain ⟨x, hx⟩ : ∃ x, ws.getD j 0 = x := ⟨_, rfl⟩
  have HX : Hid (ws.getD j 0 = x) := hx
  clear hr hl hwf hb hS e3 hj hx
  go_enter Try.func6, Try.ntmps6
  go_wp2_with fail
  refine (hp _).mono ?_
  rintro e w1 ⟨bc, vwc, vlc, br, vwr, vlr, rfl, hB, t1'⟩
  clear hp
  have hT1 := (t1'.block w.heap.size (by simp) (by simp)).trans (heap_alloc_new w _)
  go_wp2_with fail
  refine (live_any _).mono ?_
  rintro e w2 ⟨rfl, b2⟩
  have hs1 := t1'.size
  simp only [World.size_alloc] at hs1
  have hT2 := (b2.block w.heap.size (by omega)).trans hT1
  have hc2 := (hB.touch (Touch.of_below b2 [])).c
  have t02 : Touch w w2 [] := (((Touch.refl w []).alloc _).trans t1' (by simp)).trans (Touch.of_below b2 []) (by simp)
  have hs2 := b2.size
  clear hB t1' b2 hT1
  have hwx := hc2.wds.getD j
  rw [HX.out] at hwx
  simp only [World.size_alloc] at hc2
  have hw2 := word_known hc2 (by omega) j (by omega) x HX.out
  rw [HJ.out] at hw2
  have HC2 : Hid _ := hc2
  have HT2 : Hid _ := t02
  obtain ⟨p0, p1, _, _⟩ := cells_two hT2
  go_wp2_with fail
  refine hw2.mono ?_
  rintro e w2' ⟨rfl, rfl⟩
  clear hw2
  have hd1 := do_at HC2.out (by omega) 3 j x t0 ⟨by dsimp only; omega, by dsimp only; omega, by dsimp only; omega, by dsimp only; omega, hwx.1, hwx.2, ht0.1, ht0.2⟩ (by omega) (by omega) (cas_hit ws lg j x t0 (by omega) HX.out)
  rw [HJ.out] at hd1
  go_wp2_with fail
  refine hd1.mono ?_
  rintro e w3 ⟨vw3, vl3, rfl, hc3, t3, ft3⟩
  clear hd1
  have hs3 := t3.size
  have hT3 := (t3.block w.heap.size (by omega) (fun hq => by have := (HC2.out.foot_lt _ hq).1; omega)).trans hT2
  have t03 : Touch w w3 [] := HT2.out.trans t3 (fun q hq => .inr (by have := (HC2.out.foot_lt q hq).1; omega))
  obtain ⟨r0, r1, _, _⟩ := cells_two hT3
  have s0 := cell_alloc r0
  have s1 := cell_alloc r1
  rw [← HJ.out] at hc3
  clear p0 p1 hT2 t3 ft3
  have hset : (ws.set j t0).length = 3 := by rw [List.length_set]; exact hws
  have hg0 := getD_set ws j t0 (by omega)
  -- the second swap: by whether the first one changed the word
  by_cases hxt : t0 = x
  · have hd2 := fun o => do_at (hc3.keep ((Touch.refl w3 []).alloc o) (by simp)) (by simp; omega) 3 j x t1 ⟨by dsimp only; omega, by dsimp only; omega, by dsimp only; omega, by dsimp only; omega, hwx.1, hwx.2, ht1.1, ht1.2⟩ (by omega) (by simp; omega) (cas_hit (ws.set j t0) _ j x t1 (by omega) (by rw [hg0]; exact hxt))
    rw [HJ.out] at hd2
    have hxt' : (t0 == x) = true := by simpa using hxt
    have HC3 : Hid _ := hc3
    have HT3 : Hid _ := t03
    have HXT : Hid _ := hxt
    clear hc3 t03 hxt r0 r1
    go_wp2_with fail
    refine (hd2 _).mono ?_
    rintro e w4 ⟨vw4, vl4, rfl, hc4, t4, ft4⟩
    clear hd2
    have hs4 := t4.size
    simp only [World.size_alloc] at hs4
    have hT4 := (t4.block w.heap.size (by simp; omega) (fun hq => by have := (HC3.out.foot_lt _ hq).1; omega)).trans ((Below.heap_alloc w3 _ _ (by omega)).trans hT3)
    have hD1 := (t4.block w3.heap.size (by simp) (fun hq => by have := (HC3.out.foot_lt _ hq).2; omega)).trans (heap_alloc_new w3 _)
    have t04 : Touch w w4 [] := (HT3.out.alloc _).trans t4 (fun q hq => .inr (by have := (HC3.out.foot_lt q hq).1; omega))
    rw [← HJ.out] at hc4
    have hw5 := fun o => word_known (hc4.keep ((Touch.refl w4 []).alloc o) (by simp)) (by rw [List.length_set]; omega) j (by rw [List.length_set]; omega) t1 (getD_set _ j t1 (by omega))
    rw [HJ.out] at hw5
    obtain ⟨r0, r1, _, _⟩ := cells_two hT4
    have u0 := cell_alloc r0
    have u1 := cell_alloc r1
    obtain ⟨⟨d0, d1, d2, d3, d4, d5⟩, _⟩ := cells_done hD1
    have z4 := cell_alloc d4
    have z5 := cell_alloc d5
    have HT4 : Hid _ := t04
    clear hc4 t4 ft4 t04 hT3 hT4 hD1 d0 d1 d2 d3 d4 d5 r0 r1 s0 s1
    go_wp2_with fail
    refine (hw5 _).mono ?_
    rintro e w5 ⟨rfl, rfl⟩
    clear hw5
    go_wp2
    all_goals
      go_ret
      exact ⟨by simp, (HT4.out.alloc _).below (Nat.le_refl _) (by simp)⟩
  · have hd2 := fun o => do_at (hc3.keep ((Touch.refl w3 []).alloc o) (by simp)) (by simp; omega) 3 j x t1 ⟨by dsimp only; omega, by dsimp only; omega, by dsimp only; omega, by dsimp only; omega, hwx.1, hwx.2, ht1.1, ht1.2⟩ (by omega) (by simp; omega) (cas_miss (ws.set j t0) _ j x t0 t1 (by omega) hg0 hxt)
    rw [HJ.out] at hd2
    have hxt' : (t0 == x) = false := by simpa using hxt
    have HC3 : Hid _ := hc3
    have HT3 : Hid _ := t03
    clear hc3 t03 r0 r1
    go_wp2_with fail
    refine (hd2 _).mono ?_
    rintro e w4 ⟨vw4, vl4, rfl, hc4, t4, ft4⟩
    clear hd2
    have hs4 := t4.size
    simp only [World.size_alloc] at hs4
    have hT4 := (t4.block w.heap.size (by simp; omega) (fun hq => by have := (HC3.out.foot_lt _ hq).1; omega)).trans ((Below.heap_alloc w3 _ _ (by omega)).trans hT3)
    have hD1 := (t4.block w3.heap.size (by simp) (fun hq => by have := (HC3.out.foot_lt _ hq).2; omega)).trans (heap_alloc_new w3 _)
    have t04 : Touch w w4 [] := (HT3.out.alloc _).trans t4 (fun q hq => .inr (by have := (HC3.out.foot_lt q hq).1; omega))
    rw [← HJ.out] at hc4
    have hw5 := fun o => word_known (hc4.keep ((Touch.refl w4 []).alloc o) (by simp)) (by rw [List.length_set]; omega) j (by rw [List.length_set]; omega) t0 (getD_set _ j t0 (by omega))
    rw [HJ.out] at hw5
    obtain ⟨r0, r1, _, _⟩ := cells_two hT4
    have u0 := cell_alloc r0
    have u1 := cell_alloc r1
    obtain ⟨⟨d0, d1, d2, d3, d4, d5⟩, _⟩ := cells_done hD1
    have z4 := cell_alloc d4
    have z5 := cell_alloc d5
    have HT4 : Hid _ := t04
    clear hc4 t4 ft4 t04 hT3 hT4 hD1 d0 d1 d2 d3 d4 d5 r0 r1 s0 s1 hxt
    go_wp2_with fail
    refine (hw5 _).mono ?_
    rintro e w5 ⟨rfl, rfl⟩
    clear hw5
    go_wp2
    all_goals
      go_ret
      exact ⟨by simp, (HT4.out.alloc _).below (Nat.le_refl _) (by simp)⟩

theorem Try.cells_pair : Try.prog.cellsOf 44 = 2 := by kernel_rfl

/-- Two words by value that came in. -/
theorem pair_of_trod {H : Type} {enc : TypeId × Value → H} {W : World} {base : Nat} {v : Value} {d : DataW H} {p : List MemPlace} (hv : Value.okWide Try.prog W .any base 44 v) (h : DataW.Trod enc Try.prog W 0 (fun _ => true) true 44 v d p) :
    ∃ x y : Int, v = .agg #[.int .u64 x, .int .u64 y] ∧ (0 ≤ x ∧ x < 18446744073709551616) ∧ (0 ≤ y ∧ y < 18446744073709551616) := by
  have hv' := hv
  simp only [Value.okWide, Try.underlying44] at hv'
  obtain ⟨cs, rfl, hsz, _⟩ := hv'
  rw [Try.cells_pair] at hsz
  obtain ⟨fuel, hf⟩ := h
  obtain ⟨xs, m, _, _, _, hxl, hx⟩ := DataW.trod_array Try.underlying44 hf
  obtain ⟨cl⟩ := cs
  match cl, hsz with
  | [c0, c1], _ =>
    have x0 := hx 0 (by omega)
    have x1 := hx 1 (by omega)
    match xs, hxl with
    | [y0, y1], _ =>
      simp only [Value.cells, Try.cells_u64, List.drop_zero, Nat.zero_mul, Nat.one_mul, List.drop_succ_cons, List.take_succ_cons, List.take_zero, List.getElem?_cons_zero, List.getElem?_cons_succ] at x0 x1
      obtain ⟨a, e0, _, wa⟩ := DataW.trod_int Try.underlying43 x0
      obtain ⟨b, e1, _, wb⟩ := DataW.trod_int Try.underlying43 x1
      simp at e0 e1
      subst e0 e1
      exact ⟨a, b, rfl, wf_u64 wa, wf_u64 wb⟩

set_option maxRecDepth 100000 in
theorem cellsRace_lifted (os : Os) (started : os.Started) (H : Type) (enc : TypeId × Value → H) :
    ReturnsInHanded {} Try.checked os 6 .any (Rows.cellsRaceSpec.pre6 enc Try.prog Try.f6 Rows.cellsRaceRow.domain false) (Rows.cellsRaceSpec.post enc Try.prog Try.f6 false true false false) := by
  refine returnsInHanded_of_change (C := Try.checked) Try.own started (by kernel_rfl) Try.func6
    (ChangeSpec.witness6 (enc := enc) (C := Try.checked) false ⟨#[], #[.slice none 0 0, .int .u8 0, .agg #[.int .u64 0, .int .u64 0]], []⟩ 8 (by kernel_rfl) (by kernel_rfl) (by kernel_rfl) (by kernel_rfl)) ?_
  intro W base args ds gs before hval0 hW hcnd _
  have hval : ∀ (j : Nat) t v, Try.f6.params[j]? = some t → args[j]? = some v → Value.okWide Try.prog W .any base t v := hval0
  have hW' := hW
  obtain ⟨p, q, hA0, hV, rfl, hfz, hnd⟩ := hW
  have hA : DataW.TrodAll enc Try.prog W 0 (fun _ => true) true Try.f6.params.toList args.toList ds p := hA0
  rw [Try.params6] at hA hval
  obtain ⟨v0, vs0, d0, ds0, p0, q0, hargs, rfl, rfl, h0, r0⟩ := trodAll_cons hA
  obtain ⟨v1, vs1, d1, ds1, p1, q1, rfl, rfl, rfl, h1, r1⟩ := trodAll_cons r0
  obtain ⟨v2, vs2, d2, ds2, p2, q2, rfl, rfl, rfl, h2, r2⟩ := trodAll_cons r1
  obtain ⟨rfl, rfl, rfl⟩ := trodAll_nil r2
  obtain rfl : args = #[v0, v1, v2] := by cases args; simp_all
  obtain ⟨rfl, rfl⟩ := trodVars_none hV
  have lt0 : ∀ x ∈ p0, x.block < W.heap.size := by obtain ⟨m, hm⟩ := h0; exact DataW.trod_lt m _ _ _ hm
  have lt1 : ∀ x ∈ p1, x.block < W.heap.size := by obtain ⟨m, hm⟩ := h1; exact DataW.trod_lt m _ _ _ hm
  have lt2 : ∀ x ∈ p2, x.block < W.heap.size := by obtain ⟨m, hm⟩ := h2; exact DataW.trod_lt m _ _ _ hm
  obtain ⟨n, e1, _, _, wn⟩ := open_int Try.underlying5 (hval 1 5 v1 rfl rfl) h1
  subst e1
  obtain ⟨ao, len, cap, e2⟩ := okWide_slice Try.underlying22 (hval 0 22 v0 rfl rfl)
  subst e2
  obtain ⟨t0, t1, e3, ht0, ht1⟩ := pair_of_trod (hval 2 44 v2 rfl rfl) h2
  subst e3
  obtain ⟨l, hr, hwf, hl⟩ := ops_of_trod h0
  have hn := wf_u8 wn
  refine (race_any n hn.1 hn.2 t0 t1 ht0 ht1 ao len cap l hwf W hr hl).mono fun e W' ⟨he, bel⟩ => ?_
  subst he
  exact ⟨_, rfl, _, _, _, [], _, [], hW', trodAll_mk1 (shut_bool Try.underlying4 _), (trodAll_cons_mk (Below.trod Try.laidOut (by kernel_rfl) (of_decide_eq_true (by kernel_rfl)) h0 bel lt0) (trodAll_cons_mk (Below.trod Try.laidOut (by kernel_rfl) (of_decide_eq_true (by kernel_rfl)) h1 bel lt1) (trodAll_cons_mk (Below.trod Try.laidOut (by kernel_rfl) (of_decide_eq_true (by kernel_rfl)) h2 bel lt2) trodAll_mk0))), rfl, bel.frame _, fun h => by cases h⟩

theorem cellsRace_holds : Rows.CellsRaceSaid :=
  OpenClaim.holds_of_wide 6 Try.f6 rfl rfl rfl rfl rfl rfl rfl ⟨rfl, rfl, rfl, rfl, rfl⟩ rfl rfl rfl rfl rfl (by kernel_rfl) Try.func6 (by kernel_rfl)
    (of_decide_eq_true (by kernel_rfl)) (by unfold Func.isWrapper; first | (rw [if_pos (by decide +kernel)]; kernel_rfl) | (rw [if_neg (by decide +kernel)]; exact ⟨rfl, rfl⟩))
    (fun os started H enc _ => cellsRace_lifted os started H enc)

end Go.Proofs.Ytcoacfdbcinapaa

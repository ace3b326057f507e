/-
  CellsPlays is proved: for every number of cells (taken to 1 to 5) and every ops (the first 60 of them are played) the cells and the document's own cells tell the same behind each op and at the end; the arguments read behind the call as before. No condition.
-/
import Derived.Test.YtcoacfdbcinapaaCellsSame2
import Derived.Test.YtcoacfdbcinapaaCellsOpen
namespace Go.Proofs.Ytcoacfdbcinapaa
set_option linter.unusedVariables false
set_option linter.unusedSimpArgs false
open Go.ChangeShapes Go.WideShapes Go.ChangeAt Go.RowKit Go.Joins Go.Deep

theorem runOps_bounds (ws : List Int) (lg : List DoneD) (l : List OpD) : (runOps ws lg l).1.length = ws.length ∧ (runOps ws lg l).2.length ≤ lg.length + l.length := by
  induction l generalizing ws lg with
  | nil => simp [runOps]
  | cons o l ih =>
    have h1 := doStep_length ws lg o
    have h2 := doStep_log_length ws lg o
    have h3 := ih (doStep ws lg o).2.2.1 (doStep ws lg o).2.2.2
    simp only [runOps, List.length_cons]
    omega

set_option maxRecDepth 100000 in
set_option maxHeartbeats 1600000 in
theorem plays_any (n : Int) (h0 : 0 ≤ n) (h1 : n ≤ 255) (ao : Option Addr) (len cap : Nat) (l : List OpD) (hwf : ∀ o ∈ l, o.Wf) (w : World) (hr : OpRow w (.slice ao len cap) l) (hl : l.length ≤ maxLen) :
    Calls Try.prog 3 #[.int .u8 n, .slice ao len cap] w fun e w' => e = .returned (.bool true) ∧ Below w.heap.size w w' := by
  have hp := play_any n h0 h1 _ l hwf w hr hl
  have hb := runOps_bounds (List.replicate (n % 5 + 1).toNat 0) [] (l.take 60)
  simp only [List.length_replicate, List.length_nil, List.length_take] at hb
  clear hr hl hwf
  go_enter Try.func3, Try.ntmps3
  go_wp2_with fail
  refine hp.mono ?_
  rintro e w1 ⟨bc, vwc, vlc, br, vwr, vlr, rfl, hB, t1⟩
  clear hp
  go_wp2_with fail
  refine (live_any _).mono ?_
  rintro e w2 ⟨rfl, b2⟩
  go_wp2_with fail
  refine (same_eq (hB.touch (Touch.of_below b2 [])) (by omega) (by omega)).mono ?_
  rintro e w3 ⟨rfl, t3⟩
  have bel : Below w.heap.size w w3 := ((t1.trans (Touch.of_below b2 []) (by simp)).trans t3 (by simp)).below (Nat.le_refl _) (by simp)
  clear hB t1 b2 t3 hb
  go_wp2
  go_ret
  exact ⟨rfl, bel⟩

set_option maxRecDepth 100000 in
theorem cellsPlays_lifted (os : Os) (started : os.Started) (H : Type) (enc : TypeId × Value → H) :
    ReturnsInHanded {} Try.checked os 3 .any (Rows.cellsPlaysSpec.pre6 enc Try.prog Try.f3 Rows.cellsPlaysRow.domain false) (Rows.cellsPlaysSpec.post enc Try.prog Try.f3 false true false false) := by
  refine returnsInHanded_of_change (C := Try.checked) Try.own started (by kernel_rfl) Try.func3
    (ChangeSpec.witness6 (enc := enc) (C := Try.checked) false ⟨#[], #[.int .u8 0, .slice none 0 0], []⟩ 8 (by kernel_rfl) (by kernel_rfl) (by kernel_rfl) (by kernel_rfl)) ?_
  intro W base args ds gs before hval0 hW hcnd _
  have hval : ∀ (j : Nat) t v, Try.f3.params[j]? = some t → args[j]? = some v → Value.okWide Try.prog W .any base t v := hval0
  have hW' := hW
  obtain ⟨p, q, hA0, hV, rfl, hfz, hnd⟩ := hW
  have hA : DataW.TrodAll enc Try.prog W 0 (fun _ => true) true Try.f3.params.toList args.toList ds p := hA0
  rw [Try.params3] at hA hval
  obtain ⟨v0, vs0, d0, ds0, p0, q0, hargs, rfl, rfl, h0, r0⟩ := trodAll_cons hA
  obtain ⟨v1, vs1, d1, ds1, p1, q1, rfl, rfl, rfl, h1, r1⟩ := trodAll_cons r0
  obtain ⟨rfl, rfl, rfl⟩ := trodAll_nil r1
  obtain rfl : args = #[v0, v1] := by cases args; simp_all
  obtain ⟨rfl, rfl⟩ := trodVars_none hV
  have lt0 : ∀ x ∈ p0, x.block < W.heap.size := by obtain ⟨m, hm⟩ := h0; exact DataW.trod_lt m _ _ _ hm
  have lt1 : ∀ x ∈ p1, x.block < W.heap.size := by obtain ⟨m, hm⟩ := h1; exact DataW.trod_lt m _ _ _ hm
  obtain ⟨n, e1, _, _, wn⟩ := open_int Try.underlying5 (hval 0 5 v0 rfl rfl) h0
  subst e1
  obtain ⟨ao, len, cap, e2⟩ := okWide_slice Try.underlying22 (hval 1 22 v1 rfl rfl)
  subst e2
  obtain ⟨l, hr, hwf, hl⟩ := ops_of_trod h1
  have hn := wf_u8 wn
  refine (plays_any n hn.1 hn.2 ao len cap l hwf W hr hl).mono fun e W' ⟨he, bel⟩ => ?_
  subst he
  exact ⟨_, rfl, _, _, _, [], _, [], hW', trodAll_mk1 (shut_bool Try.underlying4 _), (trodAll_cons_mk (Below.trod Try.laidOut (by kernel_rfl) (of_decide_eq_true (by kernel_rfl)) h0 bel lt0) (trodAll_cons_mk (Below.trod Try.laidOut (by kernel_rfl) (of_decide_eq_true (by kernel_rfl)) h1 bel lt1) trodAll_mk0)), rfl, bel.frame _, fun h => by cases h⟩

theorem cellsPlays_holds : Rows.CellsPlaysSaid :=
  OpenClaim.holds_of_wide 3 Try.f3 rfl rfl rfl rfl rfl rfl rfl ⟨rfl, rfl, rfl, rfl, rfl⟩ rfl rfl rfl rfl rfl (by kernel_rfl) Try.func3 (by kernel_rfl)
    (of_decide_eq_true (by kernel_rfl)) (by unfold Func.isWrapper; first | (rw [if_pos (by decide +kernel)]; kernel_rfl) | (rw [if_neg (by decide +kernel)]; exact ⟨rfl, rfl⟩))
    (fun os started H enc _ => cellsPlays_lifted os started H enc)

end Go.Proofs.Ytcoacfdbcinapaa

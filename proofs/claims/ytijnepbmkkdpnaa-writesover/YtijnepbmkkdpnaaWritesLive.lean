/-
  WHAT MUST BE WHATEVER IS ASKED (live of package writes' statements), AND A nil LOG, WALKED.
-/
import Derived.Test.YtijnepbmkkdpnaaWritesAll
namespace Go.Proofs.Ytijnepbmkkdpnaa
set_option linter.unusedVariables false
set_option linter.unusedSimpArgs false
open Go.RowKit Go.Maps Go.Shelf

/-- A law's answer. -/
def TrueN (w : World) (e : Ending) (w' : World) : Prop := e = .returned (.bool true) ∧ Touch w w' []

theorem live1 : putS [f0] 1 5 = (0, [fput f0 1 5]) := by decide +kernel
theorem live2 : pushS [fput f0 1 5] = (0, [f0, fput f0 1 5]) := by decide +kernel
theorem live3 : putS [f0, fput f0 1 5] 1 6 = (0, [fput f0 1 6, fput f0 1 5]) := by decide +kernel
theorem live4 : getF [fput f0 1 6, fput f0 1 5] 1 = some 6 := by decide +kernel
theorem live5 : dropS [fput f0 1 6, fput f0 1 5] = (0, [fput f0 1 5]) := by decide +kernel
theorem live6 : getF [fput f0 1 5] 1 = some 5 := by decide +kernel
theorem live7 : dropS [fput f0 1 5] = (8, [fput f0 1 5]) := by decide +kernel

/-- A new one's blocks: nothing that lay is touched by what becomes of it. -/
theorem OpPost.fresh {B : Nat} {w0 w w' : World} {b : Nat} {ch : List (Nat × Nat)} {res : Int × List Fr} {e : Ending} (h : OpPost B w b ch res e w') (t : Touch w0 w []) (hf : ∀ x ∈ pfoot b ch, w0.heap.size ≤ x) :
    ∃ ch', e = .returned (.int .i64 res.1) ∧ PLog B w' b ch' res.2 ∧ Touch w0 w' [] ∧ ∀ x ∈ pfoot b ch', w0.heap.size ≤ x := by
  obtain ⟨ch', he, hl, ht, hx⟩ := h
  exact ⟨ch', he, hl, t.trans ht (fun x hx => .inr (hf x hx)), fun x hx' => (hx x hx').elim (hf x) (fun h => Nat.le_trans t.size h)⟩

set_option maxRecDepth 100000 in
set_option maxHeartbeats 1600000 in
theorem live_any (w : World) : Calls Try.prog 7 #[] w (TrueN w) := by
  go_enter Try.func7, Try.ntmps7
  go_wp2_with fail
  refine (new_any w).mono ?_
  rintro e w1 ⟨b, c1, rfl, h1, t1⟩
  have x1 : ∀ x ∈ pfoot b c1, w.heap.size ≤ x := fun x hx => (h1.foot_lt x hx).1
  have o1 := put_any h1 1 5 (by decide) (by unfold Wf64; decide)
  rw [live1] at o1
  clear h1
  go_wp2_with fail
  refine o1.mono ?_
  intro e w2 hp
  obtain ⟨c2, rfl, h2, t2, x2⟩ := hp.fresh t1 x1
  have o2 := push_any h2
  simp only [live2] at o2
  clear o1 hp h2 t1 x1
  go_wp2_with fail
  refine o2.mono ?_
  intro e w3 hp
  obtain ⟨c3, rfl, h3, t3, x3⟩ := hp.fresh t2 x2
  have o3 := put_any h3 1 6 (by decide) (by unfold Wf64; decide)
  simp only [live3] at o3
  clear o2 hp h3 t2 x2
  go_wp2_with fail
  refine o3.mono ?_
  intro e w4 hp
  obtain ⟨c4, rfl, h4, t4, x4⟩ := hp.fresh t3 x3
  have o4 := get_any h4 1 (by decide)
  simp only [live4, Option.getD_some, Option.isSome_some] at o4
  have H4 : Hid _ := h4
  clear o3 hp h4 t3 x3
  go_wp2_with fail
  refine o4.mono ?_
  rintro e w5 ⟨rfl, s5⟩
  have h5 := H4.out.touch s5
  have t5 := t4.trans s5 (by simp)
  have o5 := drop_any h5
  simp only [live5] at o5
  clear o4 H4 h5 t4 s5
  go_wp2_with fail
  refine o5.mono ?_
  intro e w6 hp
  obtain ⟨c6, rfl, h6, t6, x6⟩ := hp.fresh t5 x4
  have o6 := get_any h6 1 (by decide)
  simp only [live6, Option.getD_some, Option.isSome_some] at o6
  have H6 : Hid _ := h6
  clear o5 hp h6 t5 x4
  go_wp2_with fail
  refine o6.mono ?_
  rintro e w7 ⟨rfl, s7⟩
  have h7 := H6.out.touch s7
  have t7 := t6.trans s7 (by simp)
  have o7 := drop_any h7
  simp only [live7] at o7
  clear o6 H6 h7 t6 s7
  go_wp2_with fail
  refine o7.mono ?_
  intro e w8 hp
  obtain ⟨c8, rfl, h8, t8, x8⟩ := hp.fresh t7 x6
  clear o7 hp h8 t7 x6 x8
  go_wp2
  go_ret
  exact ⟨by simp, t8⟩

end Go.Proofs.Ytijnepbmkkdpnaa

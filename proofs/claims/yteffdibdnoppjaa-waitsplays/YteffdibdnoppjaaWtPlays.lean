/-
  WaitsPlays, WALKED.
-/
import Derived.Test.YteffdibdnoppjaaWtPlay
namespace Go.Proofs.Yteffdibdnoppjaa
set_option linter.unusedVariables false
set_option linter.unusedSimpArgs false
open Go.RowKit Go.Maps

set_option maxRecDepth 100000 in
theorem wplays_any (ao : Option Addr) (cap : Nat) (ds : List DeedW) (w : World) (hr : DeedWRow w (.slice ao ds.length cap) ds) (hwf : ∀ d ∈ ds, d.Wf w) (hl : ds.length ≤ maxLen) :
    Calls Try.prog 7 #[.slice ao ds.length cap] w fun e w' => e = .returned (.bool true) ∧ Touch w w' [] := by
  have hp : HidC _ _ _ _ _ := ⟨play_any hr hwf hl⟩
  clear hr hwf hl
  generalize runW [] (ds.take 60) = L at *
  generalize ds.length = N at *
  go_enter Try.func7, Try.ntmps7
  go_wp2_with fail
  refine hp.out.mono ?_
  rintro e w1 ⟨b, F, r, G, rfl, h1⟩
  clear hp
  have HP : Hid _ := h1
  clear h1
  go_wp2_with fail
  refine (live_any w1).mono ?_
  rintro e w2 ⟨rfl, t2⟩
  have hs : HidC _ _ _ _ _ := ⟨same_any (HP.out.keep t2)⟩
  have HT : Hid (Touch w w2 []) := HP.out.t.trans t2 (by simp)
  clear t2
  go_wp2_with fail
  refine hs.out.mono ?_
  rintro e w3 ⟨rfl, t3⟩
  have HT3 : Hid _ := HT.out.trans t3 (by simp)
  clear hs t3
  go_wp2
  go_ret
  exact ⟨rfl, HT3.out⟩

end Go.Proofs.Yteffdibdnoppjaa

/-
  StripesPlays walked: deeds on both tables, which then tell the same.
-/
import Derived.Test.YthkphhjhgkclfaaDoorStripesSame2
import Derived.Test.YthkphhjhgkclfaaDoorStripesPlayAny
namespace Go.Proofs.YthkphhjhgkclfaaDoor
set_option linter.unusedVariables false
set_option linter.unusedSimpArgs false
open Go.RowKit

set_option maxRecDepth 100000 in
set_option maxHeartbeats 1000000 in
theorem plays_any (n : Int) (h0 : 0 ≤ n) (h1 : n ≤ 255) (ao : Option Addr) (cap : Nat) (l : List DeedD) (hwf : ∀ d ∈ l, 0 ≤ d.v) (w : World) (S : Sh w) (hr : DeedRow w (.slice ao l.length cap) l) (hl : l.length ≤ maxLen) :
    Calls Tryd.prog 3 #[.int .u8 n, .slice ao l.length cap] w fun e w' => e = .returned (.bool true) ∧ Touch w w' [] := by
  have hp := play_any n h0 h1 ao cap l hwf w S hr hl
  have HS : Hid _ := S
  generalize l.length = N at *
  clear hr S
  go_enter Tryd.func3, Tryd.ntmps3
  go_wp2_with fail
  refine hp.mono ?_
  rintro e w1 ⟨b, rb, vw, rfl, hP, t1⟩
  clear hp
  have hlv := slive_any w1 (HS.out.touch t1 (by simp))
  have HP : Hid _ := hP
  clear hP
  go_wp2_with fail
  refine hlv.mono ?_
  rintro e w2 ⟨rfl, t2'⟩
  have t2 : Touch w w2 [] := t1.trans t2' (by simp)
  have hs := same_pair (HP.out.keep t2') (HS.out.touch t2 (by simp))
  clear hlv t1 t2'
  go_wp2_with fail
  refine hs.mono ?_
  rintro e w3 ⟨rfl, t3'⟩
  have t3 : Touch w w3 [] := t2.trans t3' (by simp)
  clear hs t2 t3'
  go_wp2
  go_ret
  exact ⟨by simp, t3⟩

end Go.Proofs.YthkphhjhgkclfaaDoor

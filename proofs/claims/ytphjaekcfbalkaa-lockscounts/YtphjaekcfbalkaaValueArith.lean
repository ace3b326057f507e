/-
  '+', '-', '*', '/' OF VALUES, BY CONTRACT: what is invalid is api.NaN, whatever bits the tape gives.
-/
import Derived.Test.YtphjaekcfbalkaaValueInt
namespace Go.Proofs.Ytphjaekcfbalkaa
set_option linter.unusedVariables false
set_option linter.unusedSimpArgs false
open Go.RowKit

theorem nan_frac (s f : Nat) (hs : s ≤ 1) (h0 : 0 < f) (h1 : f < 4503599627370496) : nanB (s * 9223372036854775808 + 9218868437227405312 + f) = true := by
  have e1 : Ieee.double.signWeight = 9223372036854775808 := by decide +kernel
  have e2 : Ieee.double.infRung = 9218868437227405312 := by decide +kernel
  have hr : ∃ a b, Ieee.double.read (s * 9223372036854775808 + 9218868437227405312 + f) = .nan a b := by
    have e3 : Ieee.double.binade = 4503599627370496 := by decide +kernel
    have hg : (s * 9223372036854775808 + 9218868437227405312 + f) % 9223372036854775808 = 9218868437227405312 + f := by omega
    unfold Ieee.Format.read
    simp only [e1, e2, e3, hg]
    rw [if_neg (by omega), if_neg (by omega), if_neg (by omega)]
    exact ⟨_, _, rfl⟩
  obtain ⟨a, b, hr⟩ := hr
  unfold nanB Ieee.Format.order
  have hr' : FloatKind.f64.format.read (s * 9223372036854775808 + 9218868437227405312 + f) = .nan a b := hr
  rw [hr']
  rfl

/-- What '+', '-', '*', '/' come to. -/
def arithB (op : BinOp) (x y : Nat) : Nat := match floatBits op .f64 x y with | some r => ofB r | none => 9221120237041090560

theorem arith_none (op : BinOp) (t : TypeId) (x y : Nat) (ho : op = .add ∨ op = .sub ∨ op = .mul ∨ op = .quo) (h : floatBits op .f64 x y = none) (w : World) :
    ∃ r : Nat, nanB r = true ∧ (binOp op t (.float .f64 x) (.float .f64 y)).run Try.prog w = .ok (.float .f64 r) w.drew := by
  refine ⟨(w.tape w.drawn (.nanBits .f64 x y) % 2) * 2 ^ 63 + 0x7ff0000000000000 + 1 + (w.tape w.drawn (.nanBits .f64 x y) / 2) % (2 ^ 52 - 1), ?_, ?_⟩
  · have := nan_frac (w.tape w.drawn (.nanBits .f64 x y) % 2) (1 + (w.tape w.drawn (.nanBits .f64 x y) / 2) % (2 ^ 52 - 1)) (by omega) (by omega) (by omega)
    rw [← Nat.add_assoc] at this
    exact this
  · rcases ho with rfl | rfl | rfl | rfl
    all_goals
      unfold floatBits at h
      simp only at h
      simp [binOp, Op.floatArith, h, run_choose_drew, Question.forced, Question.cut]

end Go.Proofs.Ytphjaekcfbalkaa

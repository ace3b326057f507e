/-
  A WORLD IN WHICH OTHER BLOCKS ARE AS THEY WERE. No walk.
-/
import Derived.Test.YtjbbjbbkembknaaRows
import Derived.WalkKit
import Derived.WalkSpells
import Derived.WalkLawsBesides
import Derived.Laws.Externs
import Derived.StillTactics
import Derived.OwnWalk
import Derived.Laws.Pointers
import Derived.Deep.QuietTactic
import Derived.Deep.RegionHeld3
import Derived.BigQuiet
import Derived.Outline
import Derived.Laws.Bits64
import Derived.Defers
import Derived.Recover
import Derived.Laws.FloatArith
import Derived.ProofKit
import Derived.Lib.SmallJoins
import Derived.Deep.Slices
import Derived.ChangeOld
import Derived.Maps.AppendAt
import Derived.Deep.AppendLies
import Derived.Laws.OwnMore
import Derived.Lib.AppendZeros
namespace Go.Proofs.Ytjbbjbbkembknaa
set_option linter.unusedVariables false
set_option linter.unusedSimpArgs false
open Go.RowKit

/-! ### Memory -/
/-- w' is w but for the blocks of S, and new ones. -/
structure Touch (w w' : World) (S : List Nat) : Prop where
  os : w'.os = w.os
  tape : w'.tape = w.tape
  output : w'.output = w.output
  size : w.heap.size ≤ w'.heap.size
  block : ∀ k, k < w.heap.size → k ∉ S → w'.heap[k]? = w.heap[k]?

theorem Touch.refl (w : World) (S : List Nat) : Touch w w S := ⟨rfl, rfl, rfl, Nat.le_refl _, fun _ _ _ => rfl⟩

theorem Touch.trans {a b c : World} {S R : List Nat} (h : Touch a b S) (k : Touch b c R) (hR : ∀ x ∈ R, x ∈ S ∨ a.heap.size ≤ x) : Touch a c S :=
  ⟨k.os.trans h.os, k.tape.trans h.tape, k.output.trans h.output, Nat.le_trans h.size k.size, fun i hi hs =>
    (k.block i (Nat.lt_of_lt_of_le hi h.size) (fun hr => by rcases hR i hr with h1 | h1; exact hs h1; omega)).trans (h.block i hi hs)⟩

theorem Touch.mono {a b : World} {S R : List Nat} (h : Touch a b S) (hS : ∀ x ∈ S, x ∈ R) : Touch a b R :=
  ⟨h.os, h.tape, h.output, h.size, fun k hk hr => h.block k hk (fun hs => hr (hS k hs))⟩

theorem Touch.below {w w' : World} {S : List Nat} (h : Touch w w' S) {B : Nat} (hB : B ≤ w.heap.size) (hS : ∀ x ∈ S, B ≤ x) : Below B w w' :=
  ⟨h.os, h.tape, h.output, h.size, fun k hk => h.block k (by omega) (fun hs => by have := hS k hs; omega)⟩

theorem Touch.of_below {w w' : World} (h : Below w.heap.size w w') (S : List Nat) : Touch w w' S :=
  ⟨h.os, h.tape, h.output, h.size, fun k hk _ => h.block k hk⟩

theorem Touch.drew {a w : World} {S : List Nat} (h : Touch a w S) : Touch a w.drew S := ⟨h.os, h.tape, h.output, h.size, h.block⟩

theorem Touch.drewN {a w : World} {S : List Nat} (h : Touch a w S) (n : Nat) : Touch a (w.drewN n) S := ⟨h.os, h.tape, h.output, h.size, h.block⟩

theorem Touch.alloc {a w : World} {S : List Nat} (h : Touch a w S) (o : Obj) : Touch a (w.alloc o) S :=
  h.trans (R := []) ⟨rfl, rfl, rfl, by simp, fun k hk _ => Below.heap_alloc _ _ _ hk⟩ (by simp)

theorem Touch.setCell {a w : World} {S : List Nat} (h : Touch a w S) {p : Addr} (hp : p.block ∈ S ∨ a.heap.size ≤ p.block) (u : Value) : Touch a (w.setCell p u) S :=
  h.trans (R := [p.block]) ⟨rfl, rfl, rfl, by simp [World.setCell], fun k _ hk => Below.heap_setCell _ _ _ _ (by simpa using hk)⟩ (by simpa using hp)

theorem Touch.grown {a w w' : World} {S : List Nat} {row : Option Nat} (h : Touch a w S) (hg : w.grownBy w' row) (hr : ∀ k, row = some k → k ∈ S ∨ a.heap.size ≤ k) : Touch a w' S :=
  h.trans (R := row.toList) ⟨hg.os, hg.tape, hg.output, hg.size, fun k hk hne => hg.block k hk (fun e => hne (by simp [← e]))⟩ (by intro x hx; exact hr x (by simpa using hx))

theorem Touch.cell {w w' : World} {S : List Nat} (h : Touch w w' S) {p : Addr} (hp : p.block < w.heap.size) (hS : p.block ∉ S) : w'.cell? p = w.cell? p := World.cell?_of_block (w := w) (h.block _ hp hS)
theorem Touch.frozen {w w' : World} {S : List Nat} (h : Touch w w' S) {p : Addr} (hp : p.block < w.heap.size) (hS : p.block ∉ S) : w'.frozen? p = w.frozen? p := World.frozen?_of_block (w := w) (h.block _ hp hS)

theorem lt_of_heap {w : World} {b : Nat} {o : Obj} (h : w.heap[b]? = some o) : b < w.heap.size := (Array.getElem?_eq_some_iff.1 h).1

theorem ownsRow_touch {w w' : World} {B : Nat} {e : TypeId} {size : Nat} {v : Value} {n : Nat} {xs : List Value} {S : List Nat} (h : w.ownsRow B e size v n xs) (t : Touch w w' S) (hS : ∀ k, v.ownBlock = some k → k ∉ S) : w'.ownsRow B e size v n xs := by
  refine ⟨h.1, ?_⟩
  rcases h.2 with hn | ⟨g, cap, cur, rfl, hb, hgg, rest⟩
  · exact .inl hn
  · exact .inr ⟨g, cap, cur, rfl, hb, (t.block g (lt_of_heap hgg) (hS g rfl)).trans hgg, rest⟩

/-- The world under a name. -/
theorem wp_name {P : Program} {c : Code} {Q : Exit → Act → World → Prop} {a : Act} {w : World} (h : ∀ W, W = w → c.wp P Q a W) : c.wp P Q a w := h w rfl

end Go.Proofs.Ytjbbjbbkembknaa
/-
  package value's small calls BY THEIR CONTRACTS: IsNaN, Of, Canon, Float, Negative, Less: each answers what a plain function on bits says, and leaves the world as it was.
-/
namespace Go.Proofs.Ytjbbjbbkembknaa
set_option linter.unusedVariables false
set_option linter.unusedSimpArgs false
open Go.RowKit

/-- Is it no number? -/
def nanB (b : Nat) : Bool := FloatKind.f64.format.order b b != some .eq
/-- The bits that Of answers. -/
def ofB (b : Nat) : Nat := if nanB b then 9221120237041090560 else b

theorem frombits_run (n : Int) (w : World) : (callFunc 50 #[.int .u64 n]).run Try.prog w = .ok (.value (.float .f64 n.toNat)) w := by
  rw [run_callFunc_extern Try.func50 (by kernel_rfl) (by kernel_rfl) (by kernel_rfl) (e := Extern.MathFloatBits.float64frombits) (by kernel_rfl)]
  rfl

theorem tobits_run (b : Nat) (w : World) : (callFunc 38 #[.float .f64 b]).run Try.prog w = .ok (.value (.int .u64 b)) w := by
  rw [run_callFunc_extern Try.func38 (by kernel_rfl) (by kernel_rfl) (by kernel_rfl) (e := Extern.MathFloatBits.float64bits) (by kernel_rfl)]
  rfl

theorem isNaN_any (b : Nat) (w : World) : Calls Try.prog 66 #[.float .f64 b] w fun e w' => e = .returned (.bool (nanB b)) ∧ w = w' := by
  unfold nanB
  go_enter Try.func66, Try.ntmps66
  go_wp2
  go_ret
  exact ⟨rfl, rfl⟩

theorem of_any (b : Nat) (w : World) : Calls Try.prog 63 #[.float .f64 b] w fun e w' => e = .returned (.int .u64 (ofB b)) ∧ w = w' := by
  have ht := tobits_run b
  unfold ofB
  cases hn : nanB b with
  | true =>
    have hc := isNaN_any b
    rw [hn] at hc
    go_enter Try.func63, Try.ntmps63
    go_wp2_with fail
    refine (hc _).mono ?_
    rintro e w1 ⟨rfl, rfl⟩
    clear hc hn
    go_wp2
    go_ret
    exact ⟨rfl, rfl⟩
  | false =>
    have hc := isNaN_any b
    rw [hn] at hc
    go_enter Try.func63, Try.ntmps63
    go_wp2_with fail
    refine (hc _).mono ?_
    rintro e w1 ⟨rfl, rfl⟩
    clear hc hn
    go_wp2
    go_ret
    exact ⟨rfl, rfl⟩

end Go.Proofs.Ytjbbjbbkembknaa
/-
  Negative, Less, ClassOf, Neg BY THEIR CONTRACTS.
-/
namespace Go.Proofs.Ytjbbjbbkembknaa
set_option linter.unusedVariables false
set_option linter.unusedSimpArgs false
open Go.RowKit

/-- Is the sign set? -/
def negB (b : Nat) : Bool := bits .and .u64 (b : Int) 9223372036854775808 != 0
/-- Does x come ahead of y? -/
def lessB (x y : Nat) : Bool :=
  if nanB x then false else if nanB y then true else if FloatKind.f64.format.order x y == some .eq then negB x && !negB y else FloatKind.f64.format.order x y == some .lt

/-- A right value's class, as its number. -/
def classB (x : Nat) : Int :=
  if nanB x then 3 else if (FloatKind.f64.format.order (bits BinOp.andNot IntKind.u64 (x : Int) 9223372036854775808).toNat 9218868437227405311 == some Ordering.gt) then 2 else if (FloatKind.f64.format.order x 0 == some Ordering.eq) then 0 else 1

theorem classB_nan (x : Nat) (h : nanB x = true) : classB x = 3 := by simp [classB, h]
theorem classB_num (x : Nat) (h : nanB x = false) : classB x ≠ 3 := by
  unfold classB; rw [h]; simp only [Bool.false_eq_true, if_false]; split
  · decide
  · split <;> decide

/-! ### Plain facts on the order of bits -/
theorem ofB_idem (b : Nat) : ofB (ofB b) = ofB b := by
  unfold ofB
  cases h : nanB b with
  | true => simp only [if_true]; decide +kernel
  | false => simp [h]

theorem cmp_swap (a b : Int) : compare b a = (compare a b).swap := by
  simp only [compare, compareOfLessAndEq]
  rcases Int.lt_trichotomy a b with h | h | h
  · rw [if_neg (by omega), if_neg (by omega), if_pos h]; rfl
  · subst h; simp
  · rw [if_pos h, if_neg (by omega), if_neg (by omega)]; rfl

theorem datum_swap (a b : Ieee.Datum) : b.order a = (a.order b).map Ordering.swap := by
  cases a with
  | nan s t => cases b <;> simp [Ieee.Datum.order]
  | infinity s =>
    cases b with
    | nan _ _ => simp [Ieee.Datum.order]
    | infinity t => cases s <;> cases t <;> rfl
    | number t n j => cases s <;> rfl
  | number s m i =>
    cases b with
    | nan _ _ => simp [Ieee.Datum.order]
    | infinity t => cases t <;> rfl
    | number t n j =>
      simp only [Ieee.Datum.order, Option.map_some, Option.some.injEq]
      rw [Int.min_comm j i]
      exact cmp_swap _ _

theorem order_swap (x y : Nat) : FloatKind.f64.format.order y x = (FloatKind.f64.format.order x y).map Ordering.swap := datum_swap _ _

theorem less_asym (x y : Nat) (h : lessB x y = true) : lessB y x = false := by
  unfold lessB at h ⊢
  rw [order_swap x y]
  cases hx : nanB x with
  | true => simp [hx] at h
  | false =>
    cases hy : nanB y with
    | true => simp
    | false =>
      simp only [hx, hy] at h ⊢
      cases ho : FloatKind.f64.format.order x y with
      | none => rw [ho] at h; simp at h
      | some o =>
        rw [ho] at h
        cases o with
        | lt => rfl
        | gt => simp at h
        | eq =>
          simp at h
          simp [h.1, h.2]

/-- Whatever is a number comes ahead of what is none. -/
theorem less_nan (x y : Nat) (hx : nanB x = false) (hy : nanB y = true) : lessB x y = true := by simp [lessB, hx, hy]

theorem read_inf (x : Nat) (hlt : x < 18446744073709551616) (h : Ieee.double.read x = .infinity true) : x = 18442240474082181120 := by
  unfold Ieee.Format.read at h
  simp only at h
  split at h
  · cases h
  · split at h
    · cases h
    · split at h
      · rename_i h3
        have e1 : Ieee.double.signWeight = 9223372036854775808 := by decide +kernel
        have e2 : Ieee.double.infRung = 9218868437227405312 := by decide +kernel
        rw [e1, e2] at h3
        rw [e1] at h
        simp only [Ieee.Datum.infinity.injEq, beq_iff_eq] at h
        omega
      · cases h

/-- The infinite one below 0 comes ahead of all others. -/
theorem inf_first (x : Nat) (hlt : x < 18446744073709551616) (hne : x ≠ 18442240474082181120) : lessB 18442240474082181120 x = true := by
  unfold lessB
  rw [show nanB 18442240474082181120 = false by decide +kernel]
  cases hx : nanB x with
  | true => simp
  | false =>
    have hr : FloatKind.f64.format.read 18442240474082181120 = .infinity true := by decide +kernel
    have ho : FloatKind.f64.format.order 18442240474082181120 x = some .lt := by
      unfold Ieee.Format.order
      rw [hr]
      have hx' : nanB x = false := hx
      unfold nanB Ieee.Format.order at hx'
      cases hd : FloatKind.f64.format.read x with
      | nan s t => rw [hd] at hx'; simp [Ieee.Datum.order] at hx'
      | number s m i => rfl
      | infinity s =>
        cases s with
        | false => rfl
        | true => exact absurd (read_inf x hlt hd) hne
    rw [ho]
    rfl

theorem zero_first : lessB 9223372036854775808 0 = true := by decide +kernel

theorem ofB_lt (b : Nat) (h : b < 18446744073709551616) : ofB b < 18446744073709551616 := by
  unfold ofB; split <;> omega

end Go.Proofs.Ytjbbjbbkembknaa
/-
  THE ORDER OF FLOATS IS THE ORDER OF A WHOLE NUMBER MADE OF THEIR BITS. No walk.
-/
namespace Go.Proofs.Ytjbbjbbkembknaa
set_option linter.unusedVariables false
set_option linter.unusedSimpArgs false
open Go.RowKit

/-- The place of a float among those of its sign; its size, in units of the least one. -/
def rungB (x : Nat) : Nat := x % 9223372036854775808
def isNeg (x : Nat) : Bool := x / 9223372036854775808 % 2 == 1
def magB (r : Nat) : Nat := if r < 4503599627370496 then r else (4503599627370496 + r % 4503599627370496) * 2 ^ (r / 4503599627370496 - 1)
def sgn (s : Bool) (n : Nat) : Int := if s then -(n : Int) else n

theorem magB_step (r : Nat) : magB r < magB (r + 1) := by
  unfold magB
  by_cases h1 : r + 1 < 4503599627370496
  · rw [if_pos (by omega), if_pos h1]; omega
  · by_cases h2 : r < 4503599627370496
    · obtain rfl : r = 4503599627370495 := by omega
      rw [if_pos h2, if_neg h1]
      decide
    · rw [if_neg h2, if_neg h1]
      by_cases h3 : r % 4503599627370496 = 4503599627370495
      · have e1 : (r + 1) % 4503599627370496 = 0 := by omega
        have e2 : (r + 1) / 4503599627370496 = r / 4503599627370496 + 1 := by omega
        have e3 : r / 4503599627370496 + 1 - 1 = (r / 4503599627370496 - 1) + 1 := by omega
        rw [e1, e2, e3, h3, Nat.pow_succ]
        have hp : 0 < (2 : Nat) ^ (r / 4503599627370496 - 1) := Nat.pow_pos (by omega)
        generalize (2 : Nat) ^ (r / 4503599627370496 - 1) = p at *
        omega
      · have e1 : (r + 1) % 4503599627370496 = r % 4503599627370496 + 1 := by omega
        have e2 : (r + 1) / 4503599627370496 = r / 4503599627370496 := by omega
        rw [e1, e2]
        exact Nat.mul_lt_mul_of_pos_right (by omega) (Nat.pow_pos (by omega))

theorem magB_mono {r s : Nat} (h : r < s) : magB r < magB s := by
  induction s with
  | zero => omega
  | succ s ih =>
    rcases Nat.lt_or_ge r s with h1 | h1
    · exact Nat.lt_trans (ih h1) (magB_step s)
    · obtain rfl : r = s := by omega
      exact magB_step r

theorem magB_lt {r s : Nat} : magB r < magB s ↔ r < s := by
  constructor
  · intro h
    rcases Nat.lt_trichotomy r s with h1 | h1 | h1
    · exact h1
    · subst h1; omega
    · have := magB_mono h1; omega
  · exact magB_mono
theorem magB_eq {r s : Nat} : magB r = magB s ↔ r = s := by
  constructor
  · intro h
    rcases Nat.lt_trichotomy r s with h1 | h1 | h1
    · have := magB_mono h1; omega
    · exact h1
    · have := magB_mono h1; omega
  · intro h; rw [h]
theorem magB_zero {r : Nat} : magB r = 0 ↔ r = 0 := by
  have : magB 0 = 0 := rfl
  rw [← this]
  conv => lhs; rw [this, ← this]
  exact magB_eq

theorem cmp_congr {a b c d : Int} (h1 : a < b ↔ c < d) (h2 : a = b ↔ c = d) : compare a b = compare c d := by
  simp only [compare, compareOfLessAndEq]
  by_cases h : a < b
  · rw [if_pos h, if_pos (h1.1 h)]
  · rw [if_neg h, if_neg (fun k => h (h1.2 k))]
    by_cases e : a = b
    · rw [if_pos e, if_pos (h2.1 e)]
    · rw [if_neg e, if_neg (fun k => e (h2.2 k))]

theorem cmp_scale (u v : Int) (p : Nat) (hp : 0 < p) : compare (u * p) (v * p) = compare u v := by
  have hp' : (0 : Int) < p := by omega
  refine cmp_congr ⟨fun h => ?_, fun h => Int.mul_lt_mul_of_pos_right h hp'⟩ ⟨fun h => ?_, fun h => by rw [h]⟩
  · exact Int.lt_of_mul_lt_mul_right h (Int.le_of_lt hp')
  · exact Int.eq_of_mul_eq_mul_right (by omega) h

theorem magB_cmp (r s : Nat) (a b : Bool) : compare (sgn a (magB r)) (sgn b (magB s)) = compare (sgn a r) (sgn b s) := by
  have h1 := @magB_lt r s
  have h2 := @magB_lt s r
  have h3 := @magB_eq r s
  have h4 := @magB_zero r
  have h5 := @magB_zero s
  unfold sgn
  generalize magB r = m at *
  generalize magB s = n at *
  cases a <;> cases b <;> simp only [Bool.false_eq_true, if_false, if_true] <;> refine cmp_congr ?_ ?_ <;> omega

theorem signed_sgn (s : Bool) (m k : Nat) : Ieee.signed s m k = sgn s (m * 2 ^ k) := by
  unfold Ieee.signed sgn
  rw [Nat.shiftLeft_eq]

theorem sgn_mul (s : Bool) (m p : Nat) : sgn s (m * p) = sgn s m * p := by
  unfold sgn
  cases s <;> simp [Int.neg_mul]

/-- Two numbers of one grid. -/
theorem order_grid (s t : Bool) (m n a b : Nat) (lp : Int) : Ieee.Datum.order (.number s m (lp + a)) (.number t n (lp + b)) = some (compare (sgn s (m * 2 ^ a)) (sgn t (n * 2 ^ b))) := by
  simp only [Ieee.Datum.order, Option.some.injEq]
  rw [signed_sgn, signed_sgn]
  have e0 : min (lp + (a : Int)) (lp + b) = lp + (min a b : Nat) := by omega
  rw [e0]
  have ea : (lp + (a : Int) - (lp + (min a b : Nat))).toNat = a - min a b := by omega
  have eb : (lp + (b : Int) - (lp + (min a b : Nat))).toNat = b - min a b := by omega
  rw [ea, eb]
  have ha : m * 2 ^ a = m * 2 ^ (a - min a b) * 2 ^ min a b := by rw [Nat.mul_assoc, ← Nat.pow_add]; congr 2; omega
  have hb : n * 2 ^ b = n * 2 ^ (b - min a b) * 2 ^ min a b := by rw [Nat.mul_assoc, ← Nat.pow_add]; congr 2; omega
  rw [ha, hb, sgn_mul s (m * 2 ^ (a - min a b)), sgn_mul t (n * 2 ^ (b - min a b))]
  exact (cmp_scale _ _ _ (Nat.pow_pos (by omega))).symm

/-- How bits read. -/
theorem read_is (x : Nat) : (rungB x < 9218868437227405312 ∧ ∃ m a : Nat, Ieee.double.read x = .number (isNeg x) m (Ieee.double.leastPlace + a) ∧ m * 2 ^ a = magB (rungB x)) ∨ (rungB x = 9218868437227405312 ∧ Ieee.double.read x = .infinity (isNeg x)) ∨ (9218868437227405312 < rungB x ∧ Ieee.double.read x = .nan (isNeg x) (rungB x - 9218868437227405312)) := by
  have e1 : Ieee.double.signWeight = 9223372036854775808 := by decide +kernel
  have e2 : Ieee.double.infRung = 9218868437227405312 := by decide +kernel
  have e3 : Ieee.double.binade = 4503599627370496 := by decide +kernel
  unfold Ieee.Format.read rungB isNeg magB
  simp only [e1, e2, e3]
  generalize x % 9223372036854775808 = r
  generalize (x / 9223372036854775808 % 2 == 1) = s
  by_cases h1 : r < 4503599627370496
  · left
    rw [if_pos h1, if_pos h1]
    exact ⟨by omega, r, 0, by simp, by simp⟩
  · rw [if_neg h1, if_neg h1]
    by_cases h2 : r < 9218868437227405312
    · left
      rw [if_pos h2]
      exact ⟨h2, _, _, rfl, rfl⟩
    · right
      rw [if_neg h2]
      by_cases h3 : r = 9218868437227405312
      · left; rw [if_pos h3]; exact ⟨h3, rfl⟩
      · right; rw [if_neg h3]; exact ⟨by omega, rfl⟩

theorem cmp_lt {a b : Int} (h : a < b) : compare a b = .lt := by simp only [compare, compareOfLessAndEq]; rw [if_pos h]
theorem cmp_gt {a b : Int} (h : b < a) : compare a b = .gt := by simp only [compare, compareOfLessAndEq]; rw [if_neg (by omega), if_neg (by omega)]

/-- THE ORDER OF FLOATS. -/
theorem order_key (x y : Nat) (hx : rungB x ≤ 9218868437227405312) (hy : rungB y ≤ 9218868437227405312) : FloatKind.f64.format.order x y = some (compare (sgn (isNeg x) (rungB x)) (sgn (isNeg y) (rungB y))) := by
  show (Ieee.double.read x).order (Ieee.double.read y) = _
  rcases read_is x with ⟨h1, m, a, e1, g1⟩ | ⟨h1, e1⟩ | ⟨h1, _⟩
  · rcases read_is y with ⟨h2, n, b, e2, g2⟩ | ⟨h2, e2⟩ | ⟨h2, _⟩
    · rw [e1, e2, order_grid, g1, g2, magB_cmp]
    · rw [e1, e2]
      generalize rungB x = r at *
      rw [h2]
      cases isNeg x <;> cases isNeg y <;> simp only [Ieee.Datum.order, sgn, Bool.false_eq_true, if_false, if_true, Option.some.injEq] <;> first | exact (cmp_lt (by omega)).symm | exact (cmp_gt (by omega)).symm
    · omega
  · rcases read_is y with ⟨h2, n, b, e2, g2⟩ | ⟨h2, e2⟩ | ⟨h2, _⟩
    · rw [e1, e2]
      generalize rungB y = r at *
      rw [h1]
      cases isNeg x <;> cases isNeg y <;> simp only [Ieee.Datum.order, sgn, Bool.false_eq_true, if_false, if_true, Option.some.injEq] <;> first | exact (cmp_lt (by omega)).symm | exact (cmp_gt (by omega)).symm
    · rw [e1, e2, h1, h2]
      cases isNeg x <;> cases isNeg y <;> decide
    · omega
  · omega

theorem nanB_rung (x : Nat) : nanB x = decide (9218868437227405312 < rungB x) := by
  unfold nanB
  by_cases h : 9218868437227405312 < rungB x
  · rcases read_is x with ⟨h1, _⟩ | ⟨h1, _⟩ | ⟨h1, e1⟩
    · omega
    · omega
    · have : FloatKind.f64.format.order x x = (Ieee.double.read x).order (Ieee.double.read x) := rfl
      rw [this, e1, decide_eq_true h]
      rfl
  · rw [order_key x x (by omega) (by omega), decide_eq_false h]
    simp [compare, compareOfLessAndEq]

end Go.Proofs.Ytjbbjbbkembknaa
/-
  tried OF PACKAGE value, BY ITS CONTRACT, where the work comes back.
-/
namespace Go.Proofs.Ytjbbjbbkembknaa
set_option linter.unusedVariables false
set_option linter.unusedSimpArgs false
open Go.RowKit

theorem catchV_idle (p : Addr) (w : World) (x : Bool) (hc : w.cell? p = some (.bool x)) (hz : w.frozen? p = false) :
    CallsD Try.prog 65 #[.pointer (some p)] .returning w fun e u' w' => e = .returned (.tuple #[]) ∧ u' = .returning ∧ w' = w.setCell p (.bool true) := by
  refine callsD_of_wpS Try.func65 rfl fun c₀ cs hu => ?_
  apply wpS_region
  simp [wpOpsS, go_sem, recoverD, hu, Try.ntmps65, Exit.thenS]
  simp [wpOpsS, go_sem, hc, hz, bodyPostS, results, Try.results65]
  cases c₀
  simp_all

set_option maxRecDepth 100000 in
theorem triedV_ok (k : Nat) (cap : Array Value) (v : Int) (w : World) (hen : ∀ w1, (callFunc k cap).run Try.prog w1 = .ok (.enter k cap) w1) (hw : ∀ w1, Touch w w1 [] → Calls Try.prog k cap w1 fun e w' => e = .returned (.int .u64 v) ∧ Touch w1 w' []) :
    Calls Try.prog 60 #[.func (.func k) #[] cap] w fun e w' => e = .returned (.tuple #[.int .u64 v, .bool true]) ∧ Touch w w' [] := by
  have hmf : ∀ (fn : Fn) (first cap : Array Value) (w : World), (Instr.makeFunc fn first cap).run Try.prog w = .ok (.func fn first cap) w := fun _ _ _ _ => rfl
  go_enter_defers Try.func60, Try.ntmps60
  go_wp2_with fail
  refine (hw _ ((Touch.refl w []).alloc _)).mono ?_
  rintro e w1 ⟨rfl, t1⟩
  have c0 : w1.cell? ⟨w.heap.size, 0, none⟩ = some (.bool false) := (t1.cell (p := ⟨w.heap.size, 0, none⟩) (by simp) (by simp)).trans (by simp [go_sem])
  have f0 : w1.frozen? ⟨w.heap.size, 0, none⟩ = false := (t1.frozen (p := ⟨w.heap.size, 0, none⟩) (by simp) (by simp)).trans (by simp [go_sem])
  have HT : Hid (Touch w w1 []) := ((Touch.refl w []).alloc _).trans t1 (by simp)
  clear t1 hw
  go_wp2
  have c1 : (w1.setCell ⟨w.heap.size, 0, none⟩ (.bool true)).cell? ⟨w.heap.size, 0, none⟩ = some (.bool true) := World.cell?_setCell_same _ _ _ c0
  have f1 : (w1.setCell ⟨w.heap.size, 0, none⟩ (.bool true)).frozen? ⟨w.heap.size, 0, none⟩ = false := by simp [f0]
  have HT1 : Hid (Touch w (w1.setCell ⟨w.heap.size, 0, none⟩ (.bool true)) []) := HT.out.setCell (.inr (Nat.le_refl _)) _
  generalize w1.setCell ⟨w.heap.size, 0, none⟩ (.bool true) = w2 at *
  clear c0 f0 HT
  refine leaves_cons (f := 65) (args := #[.pointer (some ⟨w.heap.size, 0, none⟩)]) (by simp) (by simp [go_sem]) ?_
  refine (catchV_idle ⟨w.heap.size, 0, none⟩ w2 true c1 f1).mono ?_
  rintro e u' w'' ⟨rfl, rfl, rfl⟩
  have c2 : (w2.setCell ⟨w.heap.size, 0, none⟩ (.bool true)).cell? ⟨w.heap.size, 0, none⟩ = some (.bool true) := World.cell?_setCell_same _ _ _ c1
  have HT2 : Hid (Touch w (w2.setCell ⟨w.heap.size, 0, none⟩ (.bool true)) []) := HT1.out.setCell (.inr (Nat.le_refl _)) _
  generalize w2.setCell ⟨w.heap.size, 0, none⟩ (.bool true) = w3 at *
  simp [Leaves, settle, results, Try.results60, go_sem, c2]
  exact HT2.out

end Go.Proofs.Ytjbbjbbkembknaa
/-
  Int and Whole of package value, where they can be.
-/
namespace Go.Proofs.Ytjbbjbbkembknaa
set_option linter.unusedVariables false
set_option linter.unusedSimpArgs false
open Go.RowKit

theorem need_ok (w : World) : Calls Try.prog 62 #[.bool true] w fun e w' => e = .returned (.tuple #[]) ∧ w = w' := by
  go_enter Try.func62, Try.ntmps62
  go_wp2
  go_end0
  exact ⟨rfl, rfl⟩

set_option maxRecDepth 100000 in
theorem int1_ok (p : Nat) (n : Int) (h0 : -9007199254740992 ≤ n) (h1 : n ≤ 9007199254740992) (w : World) (hc : w.cell? ⟨p, 0, none⟩ = some (.int .i64 n)) :
    Calls Try.prog 61 #[.pointer (some ⟨p, 0, none⟩)] w fun e w' => e = .returned (.int .u64 (ofB (floatOfInt .f64 n))) ∧ Touch w w' [] := by
  go_enter Try.func61, Try.ntmps61
  go_wp2_with fail
  refine (need_ok w).mono ?_
  rintro e w1 ⟨rfl, rfl⟩
  go_wp2_with fail
  refine (of_any _ w).mono ?_
  rintro e w1 ⟨rfl, rfl⟩
  go_wp2
  go_ret
  exact ⟨rfl, Touch.refl _ _⟩

theorem enter_of {k : Nat} {cap : Array Value} {fn : Func} (hf : Try.prog.funcs[k]? = some fn) (hn : (fn.name == "runtime.NumGoroutine") = false) (hb : fn.body.isNone = false) (w : World) : (callFunc k cap).run Try.prog w = .ok (.enter k cap) w := by
  simp only [callFunc, Sem.run_bind, run_program, Result.andThen_ok, hf, hn, hb, Bool.false_eq_true, if_false, Sem.run_pure]

/-- Int, of what is not too far from 0. -/
theorem int_ok (n : Int) (h0 : -9007199254740992 ≤ n) (h1 : n ≤ 9007199254740992) (w : World) :
    Calls Try.prog 49 #[.int .i64 n] w fun e w' => e = .returned (.tuple #[.int .u64 (ofB (floatOfInt .f64 n)), .bool true]) ∧ Touch w w' [] := by
  have hmf : ∀ (fn : Fn) (first cap : Array Value) (w : World), (Instr.makeFunc fn first cap).run Try.prog w = .ok (.func fn first cap) w := fun _ _ _ _ => rfl
  have hc := triedV_ok 61 #[.pointer (some ⟨w.heap.size, 0, none⟩)] (ofB (floatOfInt .f64 n)) (w.alloc (.cells #[.int .i64 n] 3)) (enter_of Try.func61 (by kernel_rfl) (by kernel_rfl))
    (fun w1 t => int1_ok w.heap.size n h0 h1 w1 ((t.cell (p := ⟨w.heap.size, 0, none⟩) (by simp) (by simp)).trans (by simp [go_sem])))
  generalize ofB (floatOfInt .f64 n) = x at *
  go_enter Try.func49, Try.ntmps49
  go_wp2_with fail
  refine hc.mono ?_
  rintro e w1 ⟨rfl, t1⟩
  clear hc
  go_wp2
  go_ret2
  exact ⟨rfl, ((Touch.refl w []).alloc _).trans t1 (by simp)⟩

/-- A float64 without its sign; its whole part. -/
def absB (x : Nat) : Nat := (bits .andNot .u64 (x : Int) 9223372036854775808).toNat
def truncB (x : Nat) : Nat := FloatKind.f64.encode ((FloatKind.f64.decode x).integral .zero)

/-- What makes a value a whole number that is not too far from 0. -/
structure WholeB (n i : Int) : Prop where
  ei : floatToIntVal .f64 (ofB n.toNat) .i64 = some i
  x : ∀ s t, FloatKind.f64.decode (ofB n.toNat) ≠ .nan s t
  A : (FloatKind.f64.format.order (absB (ofB n.toNat)) 4845873199050653696 == some Ordering.lt || FloatKind.f64.format.order (absB (ofB n.toNat)) 4845873199050653696 == some Ordering.eq) = true
  T : (FloatKind.f64.format.order (truncB (ofB n.toNat)) (ofB n.toNat) == some Ordering.eq) = true

theorem whole_m3 : ofB (floatOfInt .f64 (-3)) = 13837309855095848960 := by decide +kernel
theorem wholeB_m3 : WholeB (ofB (floatOfInt .f64 (-3)) : Nat) (-3) := by
  rw [whole_m3]
  refine ⟨by decide +kernel, ?_, by decide +kernel, by decide +kernel⟩
  have e : FloatKind.f64.decode (ofB (((13837309855095848960 : Nat) : Int)).toNat) = FloatKind.f64.decode 13837309855095848960 := by decide +kernel
  intro s t h
  have : ∀ s t, FloatKind.f64.decode 13837309855095848960 ≠ .nan s t := by
    intro s t h
    have h2 : (match FloatKind.f64.decode 13837309855095848960 with | .nan _ _ => true | _ => false) = false := by decide +kernel
    rw [h] at h2
    cases h2
  exact this s t (e ▸ h)

end Go.Proofs.Ytjbbjbbkembknaa
/-
  '+', '-', '*', '/' OF VALUES, BY CONTRACT: what is invalid is api.NaN, whatever bits the tape gives.
-/
namespace Go.Proofs.Ytjbbjbbkembknaa
set_option linter.unusedVariables false
set_option linter.unusedSimpArgs false
open Go.RowKit

theorem nan_frac (s f : Nat) (hs : s ≤ 1) (h0 : 0 < f) (h1 : f < 4503599627370496) : nanB (s * 9223372036854775808 + 9218868437227405312 + f) = true := by
  have e1 : Ieee.double.signWeight = 9223372036854775808 := by decide +kernel
  have e2 : Ieee.double.infRung = 9218868437227405312 := by decide +kernel
  have hr : ∃ a b, Ieee.double.read (s * 9223372036854775808 + 9218868437227405312 + f) = .nan a b := by
    have e3 : Ieee.double.binade = 4503599627370496 := by decide +kernel
    have hg : (s * 9223372036854775808 + 9218868437227405312 + f) % 9223372036854775808 = 9218868437227405312 + f := by omega
    unfold Ieee.Format.read
    simp only [e1, e2, e3, hg]
    rw [if_neg (by omega), if_neg (by omega), if_neg (by omega)]
    exact ⟨_, _, rfl⟩
  obtain ⟨a, b, hr⟩ := hr
  unfold nanB Ieee.Format.order
  have hr' : FloatKind.f64.format.read (s * 9223372036854775808 + 9218868437227405312 + f) = .nan a b := hr
  rw [hr']
  rfl

/-- What '+', '-', '*', '/' come to. -/
def arithB (op : BinOp) (x y : Nat) : Nat := match floatBits op .f64 x y with | some r => ofB r | none => 9221120237041090560

theorem arith_none (op : BinOp) (t : TypeId) (x y : Nat) (ho : op = .add ∨ op = .sub ∨ op = .mul ∨ op = .quo) (h : floatBits op .f64 x y = none) (w : World) :
    ∃ r : Nat, nanB r = true ∧ (binOp op t (.float .f64 x) (.float .f64 y)).run Try.prog w = .ok (.float .f64 r) w.drew := by
  refine ⟨(w.tape w.drawn (.nanBits .f64 x y) % 2) * 2 ^ 63 + 0x7ff0000000000000 + 1 + (w.tape w.drawn (.nanBits .f64 x y) / 2) % (2 ^ 52 - 1), ?_, ?_⟩
  · have := nan_frac (w.tape w.drawn (.nanBits .f64 x y) % 2) (1 + (w.tape w.drawn (.nanBits .f64 x y) / 2) % (2 ^ 52 - 1)) (by omega) (by omega) (by omega)
    rw [← Nat.add_assoc] at this
    exact this
  · rcases ho with rfl | rfl | rfl | rfl
    all_goals
      unfold floatBits at h
      simp only at h
      simp [binOp, Op.floatArith, h, run_choose_drew, Question.forced, Question.cut]

end Go.Proofs.Ytjbbjbbkembknaa
/-
  SIGNS AND BITS OF VALUES, AS PLAIN DATA. No walk.
-/
namespace Go.Proofs.Ytjbbjbbkembknaa
set_option linter.unusedVariables false
set_option linter.unusedSimpArgs false
open Go.RowKit

theorem isNeg_is (x : Nat) (h : x < 18446744073709551616) : isNeg x = decide (9223372036854775808 ≤ x) := by
  unfold isNeg
  by_cases h1 : 9223372036854775808 ≤ x
  · have : x / 9223372036854775808 % 2 = 1 := by omega
    rw [this, decide_eq_true h1]; rfl
  · have : x / 9223372036854775808 % 2 = 0 := by omega
    rw [this, decide_eq_false h1]; rfl
theorem rungB_is (x : Nat) (h : x < 18446744073709551616) : rungB x = if 9223372036854775808 ≤ x then x - 9223372036854775808 else x := by
  unfold rungB
  split <;> omega

theorem negB_is (x : Nat) (h : x < 18446744073709551616) : negB x = decide (9223372036854775808 ≤ x) := by
  unfold negB
  have e : bits .and .u64 (x : Int) 9223372036854775808 = ((x &&& 9223372036854775808 : Nat) : Int) := u64_and_nat x 9223372036854775808 h (by omega)
  rw [e]
  have e2 : (9223372036854775808 : Nat) = 2 ^ 63 := rfl
  rw [e2]
  have h1 : (x &&& 2 ^ 63) % 2 ^ 63 = 0 := by rw [Nat.and_mod_two_pow]; simp
  have h2 : (x &&& 2 ^ 63) / 2 ^ 63 = (x / 2 ^ 63) &&& 1 := by rw [Nat.and_div_two_pow]
  have h3 : (x &&& 2 ^ 63) = 2 ^ 63 * ((x &&& 2 ^ 63) / 2 ^ 63) + (x &&& 2 ^ 63) % 2 ^ 63 := (Nat.div_add_mod _ _).symm
  rw [h1, h2] at h3
  rw [h3]
  by_cases hx : 2 ^ 63 ≤ x
  · have : x / 2 ^ 63 = 1 := by omega
    rw [this, decide_eq_true hx]; decide
  · have : x / 2 ^ 63 = 0 := by omega
    rw [this, decide_eq_false hx]; decide

theorem absB_is (x : Nat) (h : x < 18446744073709551616) : absB x = rungB x := by
  unfold absB rungB
  have e : bits .andNot .u64 (x : Int) 9223372036854775808 = ((x &&& (18446744073709551615 - 9223372036854775808) : Nat) : Int) := u64_andNot_nat x 9223372036854775808 h (by omega)
  rw [e, Int.toNat_natCast]
  have e2 : (18446744073709551615 - 9223372036854775808 : Nat) = 2 ^ 63 - 1 := rfl
  rw [e2, Nat.and_two_pow_sub_one_eq_mod]

theorem negFloat_is (x : Nat) (h : x < 18446744073709551616) : Op.negFloat .f64 x = if 9223372036854775808 ≤ x then x - 9223372036854775808 else x + 9223372036854775808 := by
  have e : Op.negFloat .f64 x = x ^^^ 2 ^ 63 := rfl
  rw [e]
  have h1 : (x ^^^ 2 ^ 63) % 2 ^ 63 = x % 2 ^ 63 := by first | (rw [Nat.xor_mod_two_pow, Nat.mod_self, Nat.xor_zero]; done) | (rw [Nat.xor_mod_two_pow]; simp)
  have h2 : (x ^^^ 2 ^ 63) / 2 ^ 63 = (x / 2 ^ 63) ^^^ 1 := by first | (rw [Nat.xor_div_two_pow]; done) | (rw [Nat.xor_div_two_pow]; simp)
  have h3 : (x ^^^ 2 ^ 63) = 2 ^ 63 * ((x ^^^ 2 ^ 63) / 2 ^ 63) + (x ^^^ 2 ^ 63) % 2 ^ 63 := (Nat.div_add_mod _ _).symm
  rw [h1, h2] at h3
  by_cases hx : 9223372036854775808 ≤ x
  · have : x / 2 ^ 63 = 1 := by omega
    rw [if_pos hx, h3, this]
    have : (1 ^^^ 1 : Nat) = 0 := rfl
    rw [this]
    omega
  · have : x / 2 ^ 63 = 0 := by omega
    rw [if_neg hx, h3, this]
    have : (0 ^^^ 1 : Nat) = 1 := rfl
    rw [this]
    omega

/-- The right bits: those of a number, or just one of those that are none. -/
theorem ofB_cases (x : Nat) (h : x < 18446744073709551616) : (rungB x ≤ 9218868437227405312 ∧ ofB x = x) ∨ (9218868437227405312 < rungB x ∧ ofB x = 9221120237041090560) := by
  unfold ofB
  rw [nanB_rung]
  by_cases h1 : 9218868437227405312 < rungB x
  · right; rw [decide_eq_true h1]; exact ⟨h1, rfl⟩
  · left; rw [decide_eq_false h1]; exact ⟨by omega, rfl⟩

/-- The number by which values are in order. -/
def keyB (x : Nat) : Int := if 9223372036854775808 ≤ x then -((x - 9223372036854775808 : Nat) : Int) - 1 else x

theorem keyB_inj {x y : Nat} (hx : x < 18446744073709551616) (hy : y < 18446744073709551616) (h : keyB x = keyB y) : x = y := by
  unfold keyB at h
  split at h <;> split at h <;> omega

/-- Right bits. -/
structure Rt (x : Nat) : Prop where
  lt : x < 18446744073709551616
  r : rungB x ≤ 9218868437227405312 ∨ x = 9221120237041090560

theorem rt_of (x : Nat) (h : x < 18446744073709551616) : Rt (ofB x) := by
  rcases ofB_cases x h with ⟨h1, e⟩ | ⟨h1, e⟩
  · rw [e]; exact ⟨h, .inl h1⟩
  · rw [e]; exact ⟨by omega, .inr rfl⟩

theorem Rt.nan {x : Nat} (h : Rt x) : nanB x = decide (x = 9221120237041090560) := by
  rw [nanB_rung]
  rcases h.r with h1 | h1
  · rw [decide_eq_false (by omega)]
    symm
    apply decide_eq_false
    intro e
    rw [e] at h1
    revert h1
    decide
  · subst h1; decide

theorem less_of_cmp (A B : Int) (p c : Bool) (h : c = true ↔ A < B ∨ (A = B ∧ p = true)) : (if (some (compare A B) == some Ordering.eq) then p else (some (compare A B) == some Ordering.lt)) = c := by
  rcases Int.lt_trichotomy A B with h1 | h1 | h1
  · rw [cmp_lt h1]
    have : c = true := h.2 (.inl h1)
    rw [this]; rfl
  · have e : compare A B = .eq := by subst h1; simp [compare, compareOfLessAndEq]
    rw [e]
    have : c = p := by
      cases hp : p with
      | true => exact h.2 (.inr ⟨h1, hp⟩)
      | false =>
        cases hc : c with
        | false => rfl
        | true =>
          rcases h.1 hc with h2 | ⟨_, h2⟩
          · omega
          · rw [hp] at h2; cases h2
    rw [this]; rfl
  · rw [cmp_gt h1]
    have : c = false := by
      cases hc : c with
      | false => rfl
      | true =>
        rcases h.1 hc with h2 | ⟨h2, _⟩ <;> omega
    rw [this]; rfl

theorem lessB_key {x y : Nat} (hx : Rt x) (hy : Rt y) : lessB x y = decide (keyB x < keyB y) := by
  have e0 : rungB 9221120237041090560 = 9221120237041090560 := by decide
  unfold lessB
  rw [hx.nan, hy.nan]
  by_cases h1 : x = 9221120237041090560
  · subst h1
    rw [if_pos (by decide)]
    symm
    apply decide_eq_false
    have := hy.lt
    have hr := rungB_is y hy.lt
    rcases hy.r with h | h
    · unfold keyB
      rw [if_neg (by omega)]
      split at hr
      · rw [if_pos ‹_›]; omega
      · rw [if_neg ‹_›]; omega
    · rw [h]; omega
  · rw [if_neg (by simpa using h1)]
    have hxr : rungB x ≤ 9218868437227405312 := hx.r.resolve_right h1
    have hrx := rungB_is x hx.lt
    by_cases h2 : y = 9221120237041090560
    · subst h2
      rw [if_pos (by decide)]
      symm
      apply decide_eq_true
      unfold keyB
      rw [if_neg (show ¬ 9223372036854775808 ≤ 9221120237041090560 by omega)]
      split at hrx
      · rw [if_pos ‹_›]; omega
      · rw [if_neg ‹_›]; omega
    · rw [if_neg (by simpa using h2)]
      have hyr : rungB y ≤ 9218868437227405312 := hy.r.resolve_right h2
      have hry := rungB_is y hy.lt
      rw [order_key x y hxr hyr, negB_is x hx.lt, negB_is y hy.lt, isNeg_is x hx.lt, isNeg_is y hy.lt, hrx, hry]
      have lx := hx.lt
      have ly := hy.lt
      unfold keyB sgn
      by_cases a : 9223372036854775808 ≤ x <;> by_cases b : 9223372036854775808 ≤ y
      all_goals
        simp only [a, b, decide_true, decide_false, if_true, if_false, Bool.false_eq_true]
        refine less_of_cmp _ _ _ _ ?_
        simp only [decide_eq_true_eq, Bool.and_true, Bool.and_false, Bool.not_true, Bool.not_false, Bool.false_eq_true, and_false, or_false, and_true, Bool.true_and, Bool.false_and]
        try omega

theorem rt_nan : Rt 9221120237041090560 := ⟨by omega, .inr rfl⟩

/-- The document's order. -/
def refLess (x y : Nat) : Bool := if x = 9221120237041090560 then false else if y = 9221120237041090560 then true else if x = 9223372036854775808 ∧ y = 0 then true else FloatKind.f64.format.order x y == some .lt

theorem refLess_eq {x y : Nat} (hx : Rt x) (hy : Rt y) : refLess x y = lessB x y := by
  unfold refLess lessB
  rw [hx.nan, hy.nan]
  by_cases h1 : x = 9221120237041090560
  · simp only [h1, decide_true, if_true]
  · by_cases h2 : y = 9221120237041090560
    · simp only [h1, h2, decide_true, decide_false, if_true, if_false, Bool.false_eq_true]
    · simp only [h1, h2, decide_false, if_false, Bool.false_eq_true]
      have hxr : rungB x ≤ 9218868437227405312 := hx.r.resolve_right h1
      have hyr : rungB y ≤ 9218868437227405312 := hy.r.resolve_right h2
      have hrx := rungB_is x hx.lt
      have hry := rungB_is y hy.lt
      have lx := hx.lt
      have ly := hy.lt
      rw [order_key x y hxr hyr, negB_is x hx.lt, negB_is y hy.lt, isNeg_is x hx.lt, isNeg_is y hy.lt, hrx, hry]
      symm
      refine less_of_cmp _ _ _ _ ?_
      by_cases h3 : x = 9223372036854775808 ∧ y = 0
      · rw [if_pos h3]
        obtain ⟨rfl, rfl⟩ := h3
        decide
      · rw [if_neg h3]
        have hcl : ∀ A B : Int, ((some (compare A B) == some Ordering.lt) = true) ↔ A < B := by
          intro A B
          rcases Int.lt_trichotomy A B with h | h | h
          · rw [cmp_lt h]; simp [h]
          · subst h; simp [compare, compareOfLessAndEq]
          · rw [cmp_gt h]; simp; omega
        rw [hcl]
        unfold sgn
        by_cases a : 9223372036854775808 ≤ x <;> by_cases b : 9223372036854775808 ≤ y
        all_goals
          simp only [a, b, decide_true, decide_false, if_true, if_false, Bool.false_eq_true, Bool.and_true, Bool.and_false, Bool.not_true, Bool.not_false, and_false, or_false, and_true, Bool.true_and, Bool.false_and]
          try omega

/-- The document's class. -/
def refClass (x : Nat) : Int := if nanB x then 3 else if (FloatKind.f64.format.order x 0 == some .eq) then 0 else if (FloatKind.f64.format.order x 9218868437227405311 == some .gt || FloatKind.f64.format.order x 18442240474082181119 == some .lt) then 2 else 1

theorem cmp_is_eq (A B : Int) : (some (compare A B) == some Ordering.eq) = decide (A = B) := by
  rcases Int.lt_trichotomy A B with h | h | h
  · rw [cmp_lt h, decide_eq_false (by omega)]; rfl
  · subst h; simp [compare, compareOfLessAndEq]
  · rw [cmp_gt h, decide_eq_false (by omega)]; rfl
theorem cmp_is_gt (A B : Int) : (some (compare A B) == some Ordering.gt) = decide (B < A) := by
  rcases Int.lt_trichotomy A B with h | h | h
  · rw [cmp_lt h, decide_eq_false (by omega)]; rfl
  · subst h; simp [compare, compareOfLessAndEq]
  · rw [cmp_gt h, decide_eq_true h]; rfl
theorem cmp_is_lt (A B : Int) : (some (compare A B) == some Ordering.lt) = decide (A < B) := by
  rcases Int.lt_trichotomy A B with h | h | h
  · rw [cmp_lt h, decide_eq_true h]; rfl
  · subst h; simp [compare, compareOfLessAndEq]
  · rw [cmp_gt h, decide_eq_false (by omega)]; rfl

theorem refClass_eq {x : Nat} (hx : Rt x) : refClass x = classB x := by
  unfold refClass classB
  cases hn : nanB x with
  | true => rfl
  | false =>
    simp only [Bool.false_eq_true, if_false]
    rw [hx.nan] at hn
    have h1 : x ≠ 9221120237041090560 := by simpa using hn
    have hxr : rungB x ≤ 9218868437227405312 := hx.r.resolve_right h1
    have hrx := rungB_is x hx.lt
    have lx := hx.lt
    have ha : (bits BinOp.andNot IntKind.u64 (x : Int) 9223372036854775808).toNat = rungB x := absB_is x hx.lt
    have hrr : rungB (rungB x) = rungB x := by unfold rungB; omega
    have hrl : rungB x < 9223372036854775808 := by unfold rungB; omega
    rw [ha, order_key x 0 hxr (by decide), order_key x 9218868437227405311 hxr (by decide), order_key x 18442240474082181119 hxr (by decide), order_key (rungB x) 9218868437227405311 (by omega) (by decide)]
    rw [cmp_is_eq, cmp_is_gt, cmp_is_gt, cmp_is_lt, hrr, isNeg_is x lx, isNeg_is (rungB x) (by omega)]
    have e1 : sgn (isNeg 0) (rungB 0) = 0 := by decide
    have e2 : sgn (isNeg 9218868437227405311) (rungB 9218868437227405311) = 9218868437227405311 := by decide
    have e3 : sgn (isNeg 18442240474082181119) (rungB 18442240474082181119) = -9218868437227405311 := by decide
    rw [e1, e2, e3, decide_eq_false (show ¬ 9223372036854775808 ≤ rungB x by omega)]
    generalize rungB x = r at *
    unfold sgn
    simp only [Bool.false_eq_true, if_false]
    by_cases a : 9223372036854775808 ≤ x
    · simp only [a, decide_true, if_true]
      by_cases b : 9218868437227405311 < r
      · have c1 : ¬ (-(r : Int) = 0) := by omega
        have c2 : -(r : Int) < -9218868437227405311 := by omega
        have c3 : (9218868437227405311 : Int) < r := by omega
        simp [c1, c2, c3]
      · have c2 : ¬ -(r : Int) < -9218868437227405311 := by omega
        have c3 : ¬ (9218868437227405311 : Int) < r := by omega
        have c4 : ¬ (9218868437227405311 : Int) < -(r : Int) := by omega
        simp [c2, c3, c4]
    · simp only [a, decide_false, Bool.false_eq_true, if_false]
      by_cases b : 9218868437227405311 < r
      · have c1 : ¬ ((r : Int) = 0) := by omega
        have c3 : (9218868437227405311 : Int) < r := by omega
        have c5 : ¬ r = 0 := by omega
        simp [c1, c3, c5]
      · have c2 : ¬ (r : Int) < -9218868437227405311 := by omega
        have c3 : ¬ (9218868437227405311 : Int) < r := by omega
        simp [c2, c3]

/-- The other sign, and none, of right bits. -/
theorem neg_of {x : Nat} (hx : Rt x) : ofB (Op.negFloat .f64 x) = if x = 9221120237041090560 then 9221120237041090560 else if 9223372036854775808 ≤ x then x - 9223372036854775808 else x + 9223372036854775808 := by
  have lx := hx.lt
  by_cases h1 : x = 9221120237041090560
  · subst h1; rw [if_pos rfl]; decide +kernel
  · rw [if_neg h1, ← negFloat_is x lx]
    have hxr : rungB x ≤ 9218868437227405312 := hx.r.resolve_right h1
    have e := negFloat_is x lx
    have hl : Op.negFloat .f64 x < 18446744073709551616 := by rw [e]; split <;> omega
    have hr : rungB (Op.negFloat .f64 x) = rungB x := by
      unfold rungB
      rw [e]
      split <;> omega
    rcases ofB_cases _ hl with ⟨_, h2⟩ | ⟨h2, _⟩
    · exact h2
    · omega

theorem abs_of {x : Nat} (hx : Rt x) : ofB (absB x) = if x = 9221120237041090560 then 9221120237041090560 else rungB x := by
  have lx := hx.lt
  by_cases h1 : x = 9221120237041090560
  · subst h1; rw [if_pos rfl]; decide +kernel
  · rw [if_neg h1, absB_is x lx]
    have hxr : rungB x ≤ 9218868437227405312 := hx.r.resolve_right h1
    have hrr : rungB (rungB x) = rungB x := by unfold rungB; omega
    rcases ofB_cases (rungB x) (by omega) with ⟨_, h2⟩ | ⟨h2, _⟩
    · exact h2
    · omega

end Go.Proofs.Ytjbbjbbkembknaa
/-
  THE DOCUMENT's VALUES BY THEIR CONTRACTS: each answers as package value does.
-/
namespace Go.Proofs.Ytjbbjbbkembknaa
set_option linter.unusedVariables false
set_option linter.unusedSimpArgs false
open Go.RowKit

/-- A value, as its bits. -/
def Wf64 (n : Int) : Prop := 0 ≤ n ∧ n < 18446744073709551616
theorem Wf64.lt {n : Int} (h : Wf64 n) : n.toNat < 18446744073709551616 := by unfold Wf64 at h; omega
theorem Wf64.rt {n : Int} (h : Wf64 n) : Rt (ofB n.toNat) := rt_of _ h.lt
theorem wf_ofB {n : Int} (h : Wf64 n) : Wf64 (ofB n.toNat) := by have := h.rt.lt; unfold Wf64; omega
theorem ofB_ofB (n : Int) : ofB (((ofB n.toNat : Nat) : Int)).toNat = ofB n.toNat := by rw [Int.toNat_natCast, ofB_idem]

theorem beq_eq_decide (a b : Int) : (a == b) = decide (a = b) := by
  by_cases h : a = b <;> simp [h]

/-- Is it right? -/
def rightB (n : Int) : Bool := decide (((ofB n.toNat : Nat) : Int) = n)

theorem rightB_is {n : Int} (h : Wf64 n) : rightB n = (!nanB n.toNat || n == 9221120237041090560) := by
  unfold rightB ofB
  unfold Wf64 at h
  cases hn : nanB n.toNat with
  | true =>
    simp only [if_true, Bool.not_true, Bool.false_or]
    by_cases e : n = 9221120237041090560
    · subst e; decide
    · rw [decide_eq_false (by omega)]; simp [e]
  | false =>
    simp only [Bool.false_eq_true, if_false, Bool.not_false, Bool.true_or]
    exact decide_eq_true (by omega)

theorem rright_any (n : Int) (h : Wf64 n) (w : World) : Calls Try.prog 35 #[.int .u64 n] w fun e w' => e = .returned (.bool (rightB n)) ∧ w = w' := by
  have hf := frombits_run n
  rw [rightB_is h]
  unfold nanB
  generalize hq : (FloatKind.f64.format.order n.toNat n.toNat == some Ordering.eq) = q
  have hq' : (!(FloatKind.f64.format.order n.toNat n.toNat != some Ordering.eq)) = q := by rw [← hq]; simp [bne]
  rw [hq']
  clear hq'
  cases q with
  | true =>
    go_enter Try.func35, Try.ntmps35
    go_wp2
    go_ret
    exact ⟨by simp, rfl⟩
  | false =>
    go_enter Try.func35, Try.ntmps35
    go_wp2
    go_ret
    exact ⟨by simp, rfl⟩

theorem rcanon_any (n : Int) (h : Wf64 n) (w : World) : Calls Try.prog 36 #[.int .u64 n] w fun e w' => e = .returned (.int .u64 (ofB n.toNat)) ∧ w = w' := by
  have hr := rright_any n h w
  cases hq : rightB n with
  | true =>
    have e : ((ofB n.toNat : Nat) : Int) = n := by unfold rightB at hq; exact of_decide_eq_true hq
    rw [hq] at hr
    rw [e]
    clear hq e h
    go_enter Try.func36, Try.ntmps36
    go_wp2_with fail
    refine hr.mono ?_
    rintro e w1 ⟨rfl, rfl⟩
    clear hr
    go_wp2
    go_ret
    exact ⟨by simp, rfl⟩
  | false =>
    have e : ofB n.toNat = 9221120237041090560 := by
      have := rightB_is h
      rw [hq] at this
      unfold ofB
      cases hn : nanB n.toNat with
      | true => rfl
      | false => rw [hn] at this; simp at this
    rw [hq] at hr
    rw [e]
    clear hq e h
    go_enter Try.func36, Try.ntmps36
    go_wp2_with fail
    refine hr.mono ?_
    rintro e w1 ⟨rfl, rfl⟩
    clear hr
    go_wp2
    go_ret
    exact ⟨by simp, rfl⟩

theorem rof_any (b : Nat) (w : World) : Calls Try.prog 18 #[.float .f64 b] w fun e w' => e = .returned (.int .u64 (ofB b)) ∧ w = w' := by
  have ht := tobits_run b
  unfold ofB nanB
  generalize hq : (FloatKind.f64.format.order b b == some Ordering.eq) = q
  have hq' : (FloatKind.f64.format.order b b != some Ordering.eq) = !q := by rw [← hq]; rfl
  rw [hq']
  cases q with
  | true =>
    go_enter Try.func18, Try.ntmps18
    go_wp2
    go_ret
    exact ⟨by simp, rfl⟩
  | false =>
    go_enter Try.func18, Try.ntmps18
    go_wp2
    go_ret
    exact ⟨by simp, rfl⟩

theorem rfloat_any (n : Int) (h : Wf64 n) (w : World) : Calls Try.prog 37 #[.int .u64 n] w fun e w' => e = .returned (.float .f64 (ofB n.toNat)) ∧ w = w' := by
  have hc := rcanon_any n h w
  have hf := frombits_run (ofB n.toNat)
  rw [Int.toNat_natCast] at hf
  generalize ofB n.toNat = x at *
  clear h
  go_enter Try.func37, Try.ntmps37
  go_wp2_with fail
  refine hc.mono ?_
  rintro e w1 ⟨rfl, rfl⟩
  clear hc
  go_wp2
  go_ret
  exact ⟨by simp, rfl⟩

theorem radd_any (a b : Int) (ha : Wf64 a) (hb : Wf64 b) (w : World) : Calls Try.prog 53 #[.int .u64 a, .int .u64 b] w fun e w' => e = .returned (.int .u64 (arithB .add (ofB a.toNat) (ofB b.toNat))) ∧ Touch w w' [] := by
  unfold arithB
  have hcv : ∀ (r : Nat) (w : World), (convert 65 65 (.float .f64 r)).run Try.prog w = .ok (.float .f64 r) w := fun r w => run_convert_float_float w _ _ .f64 .f64 r r (by rw [Try.underlying65]; rfl) Try.underlying65 rfl
  have hfa := fun w => rfloat_any a ha w
  have hfb := fun w => rfloat_any b hb w
  generalize ofB a.toNat = x at *
  generalize ofB b.toNat = y at *
  cases hq : floatBits .add .f64 x y with
  | some r =>
    have hop : ∀ w : World, (binOp .add 65 (.float .f64 x) (.float .f64 y)).run Try.prog w = .ok (.float .f64 r) w := fun w => run_float_arith w .add _ .f64 x y r hq
    clear hq
    go_enter Try.func53, Try.ntmps53
    go_wp2_with fail
    refine (hfa w).mono ?_
    rintro e w1 ⟨rfl, rfl⟩
    go_wp2_with fail
    refine (hfb w).mono ?_
    rintro e w1 ⟨rfl, rfl⟩
    go_wp2_with fail
    refine (rof_any r w).mono ?_
    rintro e w1 ⟨rfl, rfl⟩
    go_wp2
    go_ret
    exact ⟨rfl, Touch.refl _ _⟩
  | none =>
    obtain ⟨r, hr, hop⟩ : ∃ r : Nat, nanB r = true ∧ (binOp .add 65 (.float .f64 x) (.float .f64 y)).run Try.prog w = .ok (.float .f64 r) w.drew := arith_none .add 65 x y (by simp) hq w
    have ho := rof_any r w.drew
    have e : ofB r = 9221120237041090560 := by unfold ofB; rw [if_pos hr]
    rw [e] at ho
    clear hq hr e
    go_enter Try.func53, Try.ntmps53
    go_wp2_with fail
    refine (hfa w).mono ?_
    rintro e w1 ⟨rfl, rfl⟩
    go_wp2_with fail
    refine (hfb w).mono ?_
    rintro e w1 ⟨rfl, rfl⟩
    go_wp2_with fail
    refine ho.mono ?_
    rintro e w1 ⟨rfl, rfl⟩
    go_wp2
    go_ret
    exact ⟨rfl, (Touch.refl w []).drew⟩

theorem rsub_any (a b : Int) (ha : Wf64 a) (hb : Wf64 b) (w : World) : Calls Try.prog 54 #[.int .u64 a, .int .u64 b] w fun e w' => e = .returned (.int .u64 (arithB .sub (ofB a.toNat) (ofB b.toNat))) ∧ Touch w w' [] := by
  unfold arithB
  have hcv : ∀ (r : Nat) (w : World), (convert 65 65 (.float .f64 r)).run Try.prog w = .ok (.float .f64 r) w := fun r w => run_convert_float_float w _ _ .f64 .f64 r r (by rw [Try.underlying65]; rfl) Try.underlying65 rfl
  have hfa := fun w => rfloat_any a ha w
  have hfb := fun w => rfloat_any b hb w
  generalize ofB a.toNat = x at *
  generalize ofB b.toNat = y at *
  cases hq : floatBits .sub .f64 x y with
  | some r =>
    have hop : ∀ w : World, (binOp .sub 65 (.float .f64 x) (.float .f64 y)).run Try.prog w = .ok (.float .f64 r) w := fun w => run_float_arith w .sub _ .f64 x y r hq
    clear hq
    go_enter Try.func54, Try.ntmps54
    go_wp2_with fail
    refine (hfa w).mono ?_
    rintro e w1 ⟨rfl, rfl⟩
    go_wp2_with fail
    refine (hfb w).mono ?_
    rintro e w1 ⟨rfl, rfl⟩
    go_wp2_with fail
    refine (rof_any r w).mono ?_
    rintro e w1 ⟨rfl, rfl⟩
    go_wp2
    go_ret
    exact ⟨rfl, Touch.refl _ _⟩
  | none =>
    obtain ⟨r, hr, hop⟩ : ∃ r : Nat, nanB r = true ∧ (binOp .sub 65 (.float .f64 x) (.float .f64 y)).run Try.prog w = .ok (.float .f64 r) w.drew := arith_none .sub 65 x y (by simp) hq w
    have ho := rof_any r w.drew
    have e : ofB r = 9221120237041090560 := by unfold ofB; rw [if_pos hr]
    rw [e] at ho
    clear hq hr e
    go_enter Try.func54, Try.ntmps54
    go_wp2_with fail
    refine (hfa w).mono ?_
    rintro e w1 ⟨rfl, rfl⟩
    go_wp2_with fail
    refine (hfb w).mono ?_
    rintro e w1 ⟨rfl, rfl⟩
    go_wp2_with fail
    refine ho.mono ?_
    rintro e w1 ⟨rfl, rfl⟩
    go_wp2
    go_ret
    exact ⟨rfl, (Touch.refl w []).drew⟩

theorem rmul_any (a b : Int) (ha : Wf64 a) (hb : Wf64 b) (w : World) : Calls Try.prog 55 #[.int .u64 a, .int .u64 b] w fun e w' => e = .returned (.int .u64 (arithB .mul (ofB a.toNat) (ofB b.toNat))) ∧ Touch w w' [] := by
  unfold arithB
  have hcv : ∀ (r : Nat) (w : World), (convert 65 65 (.float .f64 r)).run Try.prog w = .ok (.float .f64 r) w := fun r w => run_convert_float_float w _ _ .f64 .f64 r r (by rw [Try.underlying65]; rfl) Try.underlying65 rfl
  have hfa := fun w => rfloat_any a ha w
  have hfb := fun w => rfloat_any b hb w
  generalize ofB a.toNat = x at *
  generalize ofB b.toNat = y at *
  cases hq : floatBits .mul .f64 x y with
  | some r =>
    have hop : ∀ w : World, (binOp .mul 65 (.float .f64 x) (.float .f64 y)).run Try.prog w = .ok (.float .f64 r) w := fun w => run_float_arith w .mul _ .f64 x y r hq
    clear hq
    go_enter Try.func55, Try.ntmps55
    go_wp2_with fail
    refine (hfa w).mono ?_
    rintro e w1 ⟨rfl, rfl⟩
    go_wp2_with fail
    refine (hfb w).mono ?_
    rintro e w1 ⟨rfl, rfl⟩
    go_wp2_with fail
    refine (rof_any r w).mono ?_
    rintro e w1 ⟨rfl, rfl⟩
    go_wp2
    go_ret
    exact ⟨rfl, Touch.refl _ _⟩
  | none =>
    obtain ⟨r, hr, hop⟩ : ∃ r : Nat, nanB r = true ∧ (binOp .mul 65 (.float .f64 x) (.float .f64 y)).run Try.prog w = .ok (.float .f64 r) w.drew := arith_none .mul 65 x y (by simp) hq w
    have ho := rof_any r w.drew
    have e : ofB r = 9221120237041090560 := by unfold ofB; rw [if_pos hr]
    rw [e] at ho
    clear hq hr e
    go_enter Try.func55, Try.ntmps55
    go_wp2_with fail
    refine (hfa w).mono ?_
    rintro e w1 ⟨rfl, rfl⟩
    go_wp2_with fail
    refine (hfb w).mono ?_
    rintro e w1 ⟨rfl, rfl⟩
    go_wp2_with fail
    refine ho.mono ?_
    rintro e w1 ⟨rfl, rfl⟩
    go_wp2
    go_ret
    exact ⟨rfl, (Touch.refl w []).drew⟩

theorem rdiv_any (a b : Int) (ha : Wf64 a) (hb : Wf64 b) (w : World) : Calls Try.prog 56 #[.int .u64 a, .int .u64 b] w fun e w' => e = .returned (.int .u64 (arithB .quo (ofB a.toNat) (ofB b.toNat))) ∧ Touch w w' [] := by
  unfold arithB
  have hcv : ∀ (r : Nat) (w : World), (convert 65 65 (.float .f64 r)).run Try.prog w = .ok (.float .f64 r) w := fun r w => run_convert_float_float w _ _ .f64 .f64 r r (by rw [Try.underlying65]; rfl) Try.underlying65 rfl
  have hfa := fun w => rfloat_any a ha w
  have hfb := fun w => rfloat_any b hb w
  generalize ofB a.toNat = x at *
  generalize ofB b.toNat = y at *
  cases hq : floatBits .quo .f64 x y with
  | some r =>
    have hop : ∀ w : World, (binOp .quo 65 (.float .f64 x) (.float .f64 y)).run Try.prog w = .ok (.float .f64 r) w := fun w => run_float_arith w .quo _ .f64 x y r hq
    clear hq
    go_enter Try.func56, Try.ntmps56
    go_wp2_with fail
    refine (hfa w).mono ?_
    rintro e w1 ⟨rfl, rfl⟩
    go_wp2_with fail
    refine (hfb w).mono ?_
    rintro e w1 ⟨rfl, rfl⟩
    go_wp2_with fail
    refine (rof_any r w).mono ?_
    rintro e w1 ⟨rfl, rfl⟩
    go_wp2
    go_ret
    exact ⟨rfl, Touch.refl _ _⟩
  | none =>
    obtain ⟨r, hr, hop⟩ : ∃ r : Nat, nanB r = true ∧ (binOp .quo 65 (.float .f64 x) (.float .f64 y)).run Try.prog w = .ok (.float .f64 r) w.drew := arith_none .quo 65 x y (by simp) hq w
    have ho := rof_any r w.drew
    have e : ofB r = 9221120237041090560 := by unfold ofB; rw [if_pos hr]
    rw [e] at ho
    clear hq hr e
    go_enter Try.func56, Try.ntmps56
    go_wp2_with fail
    refine (hfa w).mono ?_
    rintro e w1 ⟨rfl, rfl⟩
    go_wp2_with fail
    refine (hfb w).mono ?_
    rintro e w1 ⟨rfl, rfl⟩
    go_wp2_with fail
    refine ho.mono ?_
    rintro e w1 ⟨rfl, rfl⟩
    go_wp2
    go_ret
    exact ⟨rfl, (Touch.refl w []).drew⟩

end Go.Proofs.Ytjbbjbbkembknaa
/-
  WHAT READS ASK OF VALUES, BY THEIR CONTRACTS, in a seat that has the texts on package value: those.
-/
namespace Go.Proofs.Ytjbbjbbkembknaa
end Go.Proofs.Ytjbbjbbkembknaa
/-
  package code: AN INSTRUCTION; Uses, highest, width, Right BY THEIR CONTRACTS.
-/
namespace Go.Proofs.Ytjbbjbbkembknaa
set_option linter.unusedVariables false
set_option linter.unusedSimpArgs false
open Go.RowKit
attribute [local go_sem] Oper.semAt_some

/-- A contract, hidden. -/
structure HidC (P : Program) (f : Nat) (a : Array Value) (w : World) (Q : Ending → World → Prop) : Prop where
  out : Calls P f a w Q

/-- An instruction: its operation, its Arg, its Val. -/
structure InsD where
  op : Int
  arg : Int
  val : Int
abbrev InsD.v (i : InsD) : Value := .agg #[.int .u8 i.op, .int .i64 i.arg, .int .u64 i.val]
def InsD.cells (i : InsD) : List Value := [.int .u8 i.op, .int .i64 i.arg, .int .u64 i.val]
structure InsD.Wf (i : InsD) : Prop where
  op : 0 ≤ i.op ∧ i.op ≤ 255
  arg : -9223372036854775808 ≤ i.arg ∧ i.arg ≤ 9223372036854775807
  val : Wf64 i.val

/-- Which have an Arg; which a Val. -/
def argP (o : Int) : Bool := decide (o = 2 ∨ o = 3 ∨ o = 4 ∨ o = 5 ∨ o = 6 ∨ o = 7 ∨ o = 19 ∨ o = 20 ∨ o = 21 ∨ o = 23 ∨ o = 24)
def valP (o : Int) : Bool := decide (o = 1)
theorem op_cases (o : Int) : o = 1 ∨ o = 2 ∨ o = 3 ∨ o = 4 ∨ o = 5 ∨ o = 6 ∨ o = 7 ∨ o = 19 ∨ o = 20 ∨ o = 21 ∨ o = 23 ∨ o = 24 ∨ (o ≠ 1 ∧ o ≠ 2 ∧ o ≠ 3 ∧ o ≠ 4 ∧ o ≠ 5 ∧ o ≠ 6 ∧ o ≠ 7 ∧ o ≠ 19 ∧ o ≠ 20 ∧ o ≠ 21 ∧ o ≠ 23 ∧ o ≠ 24) := by omega

def highP (o : Int) : Int := if o = 2 ∨ o = 3 then 3 else if o = 4 ∨ o = 5 ∨ o = 6 ∨ o = 7 then 11 else 63
def widthP (o : Int) : Nat := 1 + (if argP o then 1 else 0) + (if valP o then 8 else 0)

/-- Is an instruction right? -/
def rightI (i : InsD) : Bool := decide (i.op ≤ 28) && (argP i.op || i.arg == 0) && (valP i.op || i.val == 0) && decide (0 ≤ i.arg) && decide (i.arg ≤ highP i.op) && rightB i.val

end Go.Proofs.Ytjbbjbbkembknaa
/-
  package code: Right BY ITS CONTRACT.
-/
namespace Go.Proofs.Ytjbbjbbkembknaa
set_option linter.unusedVariables false
set_option linter.unusedSimpArgs false
open Go.RowKit
attribute [local go_sem] Oper.semAt_some

end Go.Proofs.Ytjbbjbbkembknaa
/-
  SLICES OF STRUCTS THAT CAN BE READ, and an untied proof's facts on the program.
-/
namespace Go.Proofs.Ytjbbjbbkembknaa
set_option linter.unusedVariables false
set_option linter.unusedSimpArgs false
open Go.ChangeShapes Go.WideShapes Go.ChangeAt Go.RowKit Go.Joins Go.Deep

/-- A slice of structs of n cells each, that can be read. -/
def SRow {α : Type} (n : Nat) (cells : α → List Value) (w : World) (v : Value) (l : List α) : Prop :=
  ∃ ao cap, v = .slice ao l.length cap ∧ (l ≠ [] → ∃ g off, ao = some ⟨g, off, none⟩ ∧ g < w.heap.size ∧ ∀ k (hk : k < l.length), ∀ j, j < n → w.cell? ⟨g, off + k * n + j, none⟩ = (cells l[k])[j]?)

theorem SRow.at {α : Type} {n : Nat} {cells : α → List Value} {w : World} {ao : Option Addr} {cap : Nat} {l : List α} (h : SRow n cells w (.slice ao l.length cap) l) (k : Nat) (hk : k < l.length) :
    ∃ g off, ao = some ⟨g, off, none⟩ ∧ g < w.heap.size ∧ ∀ j, j < n → w.cell? ⟨g, off + k * n + j, none⟩ = (cells l[k])[j]? := by
  obtain ⟨ao', cap', e, h1⟩ := h
  simp only [Value.slice.injEq, true_and] at e
  obtain ⟨rfl, rfl⟩ := e
  obtain ⟨g, off, rfl, hlt, hc⟩ := h1 (by intro e; rw [e] at hk; simp at hk)
  exact ⟨g, off, rfl, hlt, hc k hk⟩

theorem SRow.keep {α : Type} {n : Nat} {cells : α → List Value} {w w' : World} {v : Value} {l : List α} {S : List Nat} (h : SRow n cells w v l) (t : Touch w w' S) (hS : ∀ k ∈ S, w.heap.size ≤ k) : SRow n cells w' v l := by
  obtain ⟨ao, cap, e, h1⟩ := h
  refine ⟨ao, cap, e, fun hn => ?_⟩
  obtain ⟨g, off, rfl, hlt, hc⟩ := h1 hn
  have hne : g ∉ S := fun hs => by have := hS _ hs; omega
  exact ⟨g, off, rfl, Nat.lt_of_lt_of_le hlt t.size, fun k hk j hj => (t.cell (p := ⟨g, _, none⟩) hlt hne).trans (hc k hk j hj)⟩

/-- A slice of structs that came in. -/
theorem rows_of_trod {α : Type} {H : Type} {enc : TypeId × Value → H} {W : World} {n : Nat} {cells : α → List Value} {Wf : α → Prop} {T E : TypeId} (zero : α) (hn : 0 < n) (hlen : ∀ o, (cells o).length = n)
    (hu : Try.prog.underlying T = some (.slice E)) (hE : Try.prog.cellsOf E = n)
    (el : ∀ {w : World} {base : Nat} {spare : Nat → Bool} {held : Bool} {fuel : Nat} {cs : List Value} {x : DataW H × List MemPlace}, DataW.trod enc Try.prog w base spare held fuel E cs = some x → ∃ o, Wf o ∧ cs = cells o)
    {ao : Option Addr} {len cap : Nat} {d : DataW H} {p : List MemPlace} (h : DataW.Trod enc Try.prog W 0 (fun _ => true) true T (.slice ao len cap) d p) :
    ∃ l : List α, SRow n cells W (.slice ao len cap) l ∧ (∀ o ∈ l, Wf o) ∧ l.length ≤ maxLen := by
  obtain ⟨fuel, hf⟩ := h
  rcases open_slice hu hf with ⟨hcs, _⟩ | ⟨a, len', cap', m, n', D, Pl, hcs, _, hl, hm, hmm, _, hx⟩
  · simp [Value.cells] at hcs
    obtain ⟨rfl, rfl, rfl⟩ := hcs
    exact ⟨[], ⟨none, 0, rfl, fun hn => absurd rfl hn⟩, by simp, by simp⟩
  · simp [Value.cells] at hcs
    obtain ⟨rfl, rfl, rfl⟩ := hcs
    simp only [if_true] at hmm
    have hel : ∀ i, i < len → ∃ o : α, Wf o ∧ ∀ j, j < n → W.cell? (a.add (i * n + j)) = (cells o)[j]? := fun i hi => by
      obtain ⟨cs', h1, h2⟩ := hx i (by omega)
      obtain ⟨o, ho, rfl⟩ := el h2
      rw [hE] at h1
      obtain ⟨_, _, h3⟩ := World.cells?_some h1
      exact ⟨o, ho, fun j hj => by rw [← add_add]; exact h3 j hj⟩
    obtain ⟨f, hf⟩ : ∃ f : Nat → α, ∀ i, i < len → Wf (f i) ∧ ∀ j, j < n → W.cell? (a.add (i * n + j)) = (cells (f i))[j]? := by
      classical
      refine ⟨fun i => if hi : i < len then Classical.choose (hel i hi) else zero, fun i hi => ?_⟩
      simp only [dif_pos hi]
      exact Classical.choose_spec (hel i hi)
    refine ⟨(List.range len).map f, ⟨some a, cap, by simp, fun hnn => ?_⟩, ?_, by simp; omega⟩
    · have hpos : 0 < len := by
        rcases Nat.eq_zero_or_pos len with h0 | h0
        · subst h0; simp at hnn
        · exact h0
      have hc0 := (hf 0 hpos).2 0 hn
      have hl0 : 0 < (cells (f 0)).length := by rw [hlen]; exact hn
      have hc0' : W.cell? (a.add 0) = some (cells (f 0))[0] := by
        rw [show 0 * n + 0 = 0 by omega] at hc0
        rw [hc0]
        exact List.getElem?_eq_getElem hl0
      have hsp := World.cell?_spot hc0'
      obtain ⟨g, off, spot⟩ := a
      have : spot = none := by simpa [Addr.add] using hsp
      subst this
      have hlt := World.block_lt_of_cell? W _ hc0'
      refine ⟨g, off, rfl, by simpa [Addr.add] using hlt, fun k hk j hj => ?_⟩
      simp only [List.length_map, List.length_range] at hk
      simp only [List.getElem_map, List.getElem_range]
      have q := (hf k hk).2 j hj
      rw [Addr.add_lit] at q
      simp only [← Nat.add_assoc] at q
      exact q
    · intro o ho
      simp only [List.mem_map, List.mem_range] at ho
      obtain ⟨i, hi, rfl⟩ := ho
      exact (hf i hi).1

theorem wf_u8 {x : Int} (h : (Lit.int .u8 x).wf = true) : 0 ≤ x ∧ x ≤ 255 := by
  simp [Lit.wf, IntKind.min, IntKind.max, IntKind.signed, IntKind.bits] at h; omega
theorem wf_u64 {x : Int} (h : (Lit.int .u64 x).wf = true) : 0 ≤ x ∧ x < 18446744073709551616 := by
  simp [Lit.wf, IntKind.min, IntKind.max, IntKind.signed, IntKind.bits] at h; omega
theorem wf_i64 {x : Int} (h : (Lit.int .i64 x).wf = true) : -9223372036854775808 ≤ x ∧ x ≤ 9223372036854775807 := by
  simp [Lit.wf, IntKind.min, IntKind.max, IntKind.signed, IntKind.bits] at h; omega

theorem Try.cells_int : Try.prog.cellsOf 3 = 1 := by kernel_rfl
theorem Try.cells_u64 : Try.prog.cellsOf 24 = 1 := by kernel_rfl

end Go.Proofs.Ytjbbjbbkembknaa
/-
  append OF A WHOLE SLICE TO A ROW OF THE CALL's OWN. No walk.
-/
namespace Go.Proofs.Ytjbbjbbkembknaa
set_option linter.unusedVariables false
set_option linter.unusedSimpArgs false
open Go.RowKit

/-- append OF A WHOLE SLICE (nil or not) TO A ROW OF THE CALL's OWN THAT IS NOT nil: the value written out, and where it lies. -/
theorem run_append_src {P : Program} (w : World) (t ty e : TypeId) (base : Nat) (i : TypeInfo) (z : Value) (size bytes : Nat) (ht : P.underlying t = some (.slice e)) (hi : P.info? e = some i) (hz : i.zero = some z)
    (hsize : i.size = size) (hby : i.bytes = bytes) (hzs : z.cells.size = size) (hsz : 0 < size)
    (g0 n c0 : Nat) (xs : List Value) (hown : w.ownsRow base e size (.slice (some ⟨g0, 0, none⟩) n c0) n xs)
    (v2 : Value) (base2 m : Nat) (news : List Value) (hsrc : w.ownsRow base2 e size v2 m news) (h1 : ∀ u ∈ news, u.oneCell' = true)
    (h63 : n + m ≤ maxLen) (hbytes : (n + m) * bytes ≤ 140737488355328) (hbase : base ≤ w.heap.size) :
    ∃ g cap w', (Builtin.append_ #[t, t] ty #[.slice (some ⟨g0, 0, none⟩) n c0, v2]).run P w = .ok (.slice (some ⟨g, 0, none⟩) (n + m) cap) w' ∧
      w'.ownsRow base e size (.slice (some ⟨g, 0, none⟩) (n + m) cap) (n + m) (xs ++ news) ∧ w.grownBy w' (some g0) ∧ (g = g0 ∨ g = w.heap.size) ∧ g < w'.heap.size := by
  rcases hsrc.2 with ⟨rfl, h0⟩ | ⟨g2, cap2, cur2, rfl, _⟩
  · subst h0
    have hx : news = [] := List.eq_nil_of_length_eq_zero (by simpa using hsrc.1)
    subst hx
    have hrun := run_append_owned_none (P := P) (w := w) base t ty e i size ht hi _ n xs hown
    refine ⟨g0, c0, w, hrun, by simpa using hown, ⟨rfl, rfl, rfl, Nat.le_refl _, fun _ _ _ => rfl⟩, .inl rfl, ?_⟩
    exact (hown.lt g0 rfl).2
  · obtain ⟨v', w', hr, h2, h3, h4, h5⟩ := run_append_own_at (P := P) w base t ty e i z size bytes ht hi hz hsize hby hzs hsz _ n xs hown ⟨g2, 0, none⟩ m cap2 news hsrc.1 (hsrc.cells (g := g2) rfl) h1 h63 hbytes hbase
    have hne : v' ≠ .slice none 0 0 := fun e => by have := h4.1 e; simp at this
    rcases h2.2 with ⟨e, _⟩ | ⟨g, cap, cur, rfl, _, hg, _⟩
    · exact absurd e hne
    · refine ⟨g, cap, w', hr, h2, h3, ?_, lt_of_heap hg⟩
      rcases h5 with h5 | h5
      · left; simpa [Value.ownBlock] using h5
      · right; simpa [Value.ownBlock] using h5

theorem wp_append_src {P : Program} {w : World} {o : Oper} {a : Act} {K : Act → World → Prop} {Q : Exit → Act → World → Prop} (s x : Operand) (t : TypeId)
    (ho : o.op = .call { callee := .builtin .append, args := #[s, x], argTypes := #[t, t] })
    (base : Nat) (e : TypeId) (i : TypeInfo) (z : Value) (size bytes : Nat) (ht : P.underlying t = some (.slice e)) (hi : P.info? e = some i) (hz : i.zero = some z)
    (hsize : i.size = size) (hby : i.bytes = bytes) (hzs : z.cells.size = size) (hsz : 0 < size)
    (g0 n c0 : Nat) (xs : List Value) (hs : a.eval s = .slice (some ⟨g0, 0, none⟩) n c0) (hown : w.ownsRow base e size (.slice (some ⟨g0, 0, none⟩) n c0) n xs)
    (v2 : Value) (base2 m : Nat) (news : List Value) (hx : a.eval x = v2) (hsrc : w.ownsRow base2 e size v2 m news) (h1 : ∀ u ∈ news, u.oneCell' = true)
    (h63 : n + m ≤ maxLen) (hbytes : (n + m) * bytes ≤ 140737488355328) (hbase : base ≤ w.heap.size)
    (h : ∀ g cap w', w'.ownsRow base e size (.slice (some ⟨g, 0, none⟩) (n + m) cap) (n + m) (xs ++ news) → w.grownBy w' (some g0) → (g = g0 ∨ g = w.heap.size) → g < w'.heap.size → K (a.put o.dst (.slice (some ⟨g, 0, none⟩) (n + m) cap)) w') : o.wp P a w K Q := by
  obtain ⟨g, cap, w', hr, h2, h3, h4, h5⟩ := run_append_src (P := P) w t o.type e base i z size bytes ht hi hz hsize hby hzs hsz g0 n c0 xs hown v2 base2 m news hsrc h1 h63 hbytes hbase
  unfold Oper.wp execOp
  simp only [ho, resolve, invoke, builtin, Sem.run_bind, Sem.run_pure, Result.andThen_ok, List.map_toArray, List.map_cons, List.map_nil, hs, hx, hr]
  exact h g cap w' h2 h3 h4 h5

theorem wpList_append_src {P : Program} {w : World} {ops : Array Oper} {rest : List Oper} {o : Oper} {a : Act} {Q : Exit → Act → World → Prop} (hgd : o.guard = none) (s x : Operand) (t : TypeId)
    (ho : o.op = .call { callee := .builtin .append, args := #[s, x], argTypes := #[t, t] })
    (base : Nat) (e : TypeId) (i : TypeInfo) (z : Value) (size bytes : Nat) (ht : P.underlying t = some (.slice e)) (hi : P.info? e = some i) (hz : i.zero = some z)
    (hsize : i.size = size) (hby : i.bytes = bytes) (hzs : z.cells.size = size) (hsz : 0 < size)
    (g0 n c0 : Nat) (xs : List Value) (hs : a.eval s = .slice (some ⟨g0, 0, none⟩) n c0) (hown : w.ownsRow base e size (.slice (some ⟨g0, 0, none⟩) n c0) n xs)
    (v2 : Value) (base2 m : Nat) (news : List Value) (hx : a.eval x = v2) (hsrc : w.ownsRow base2 e size v2 m news) (h1 : ∀ u ∈ news, u.oneCell' = true)
    (h63 : n + m ≤ maxLen) (hbytes : (n + m) * bytes ≤ 140737488355328) (hbase : base ≤ w.heap.size)
    (h : ∀ g cap w', w'.ownsRow base e size (.slice (some ⟨g, 0, none⟩) (n + m) cap) (n + m) (xs ++ news) → w.grownBy w' (some g0) → (g = g0 ∨ g = w.heap.size) → g < w'.heap.size → wpList P ops Q rest (a.put o.dst (.slice (some ⟨g, 0, none⟩) (n + m) cap)) w') : wpList P ops Q (o :: rest) a w :=
  wpList_plain hgd fun _ hK => wp_append_src s x t ho base e i z size bytes ht hi hz hsize hby hzs hsz g0 n c0 xs hs hown v2 base2 m news hx hsrc h1 h63 hbytes hbase fun g cap w' h2 h3 h4 h5 => hK _ _ (h g cap w' h2 h3 h4 h5)

theorem step_append_src {P : Program} {w : World} {ops : Array Oper} {o : Oper} {a : Act} {K : Act → World → Prop} {Q : Exit → Act → World → Prop} {E : Prop} (hgd : o.guard = none) (s x : Operand) (t : TypeId)
    (ho : o.op = .call { callee := .builtin .append, args := #[s, x], argTypes := #[t, t] })
    (base : Nat) (e : TypeId) (i : TypeInfo) (z : Value) (size bytes : Nat) (ht : P.underlying t = some (.slice e)) (hi : P.info? e = some i) (hz : i.zero = some z)
    (hsize : i.size = size) (hby : i.bytes = bytes) (hzs : z.cells.size = size) (hsz : 0 < size)
    (g0 n c0 : Nat) (xs : List Value) (hs : a.eval s = .slice (some ⟨g0, 0, none⟩) n c0) (hown : w.ownsRow base e size (.slice (some ⟨g0, 0, none⟩) n c0) n xs)
    (v2 : Value) (base2 m : Nat) (news : List Value) (hx : a.eval x = v2) (hsrc : w.ownsRow base2 e size v2 m news) (h1 : ∀ u ∈ news, u.oneCell' = true)
    (h63 : n + m ≤ maxLen) (hbytes : (n + m) * bytes ≤ 140737488355328) (hbase : base ≤ w.heap.size)
    (h : ∀ g cap w', w'.ownsRow base e size (.slice (some ⟨g, 0, none⟩) (n + m) cap) (n + m) (xs ++ news) → w.grownBy w' (some g0) → (g = g0 ∨ g = w.heap.size) → g < w'.heap.size → K (a.put o.dst (.slice (some ⟨g, 0, none⟩) (n + m) cap)) w') :
    if Region.wanted o (yielded ops a.tmps) = true then Oper.wp P o a w K Q else E := by
  have hw : Region.wanted o (yielded ops a.tmps) = true := by simp [Region.wanted, hgd]
  rw [if_pos hw]
  exact wp_append_src s x t ho base e i z size bytes ht hi hz hsize hby hzs hsz g0 n c0 xs hs hown v2 base2 m news hx hsrc h1 h63 hbytes hbase h

theorem empty_row (w : World) (E size : Nat) : (w.alloc (.cells #[] E)).ownsRow w.heap.size E size (.slice (some ⟨w.heap.size, 0, none⟩) 0 0) 0 [] := World.ownsRow_made w #[] 0 (Nat.le_refl _) (by decide) (by simp)

end Go.Proofs.Ytjbbjbbkembknaa
/-
  append OF A SLICE THAT CAN BE READ TO A ROW OF ONE's OWN. No walk.
-/
namespace Go.Proofs.Ytjbbjbbkembknaa
set_option linter.unusedVariables false
set_option linter.unusedSimpArgs false
open Go.RowKit

theorem flat_len {α : Type} {cells : α → List Value} {n : Nat} (hc : ∀ x, (cells x).length = n) (l : List α) : (l.flatMap cells).length = l.length * n := by
  induction l with
  | nil => simp
  | cons x l ih => simp [List.flatMap_cons, hc, ih, Nat.add_mul]; omega
theorem flat_at {α : Type} {cells : α → List Value} {n : Nat} (hc : ∀ x, (cells x).length = n) (l : List α) : ∀ (k : Nat) (hk : k < l.length) (j : Nat), j < n → (l.flatMap cells)[k * n + j]? = (cells l[k])[j]? := by
  induction l with
  | nil => intro k hk; simp at hk
  | cons x l ih =>
    intro k hk j hj
    cases k with
    | zero => simp [List.flatMap_cons, List.getElem?_append_left, hc, hj]
    | succ k =>
      rw [List.flatMap_cons, List.getElem?_append_right (by rw [hc]; have : n ≤ (k + 1) * n := Nat.le_mul_of_pos_left n (by omega); omega), hc]
      have : (k + 1) * n + j - n = k * n + j := by rw [Nat.add_mul]; omega
      rw [this]
      simpa using ih k (by simpa using hk) j hj

/-- append of a slice that can be read to a row of one's own. -/
theorem run_app {P : Program} {α : Type} {cells : α → List Value} {w : World} (t ty e : TypeId) (i : TypeInfo) (z : Value) (size bytes : Nat) (ht : P.underlying t = some (.slice e)) (hi : P.info? e = some i) (hz : i.zero = some z)
    (hsize : i.size = size) (hby : i.bytes = bytes) (hzs : z.cells.size = size) (hsz : 0 < size) (hc : ∀ x, (cells x).length = size) (h1 : ∀ x, ∀ u ∈ cells x, u.oneCell' = true)
    {B n : Nat} {v : Value} {xs : List Value} (hown : w.ownsRow B e size v n xs) {ao : Option Addr} {cap : Nat} {l : List α} (hr : SRow size cells w (.slice ao l.length cap) l)
    (hb : (n + l.length) * bytes ≤ 140737488355328) (hbp : 0 < bytes) (hB : B ≤ w.heap.size) :
    ∃ v' w', (Builtin.append_ #[t, t] ty #[v, .slice ao l.length cap]).run P w = .ok v' w' ∧ w'.ownsRow B e size v' (n + l.length) (xs ++ l.flatMap cells) ∧ w.grownBy w' v.ownBlock ∧ (v'.ownBlock = v.ownBlock ∨ v'.ownBlock = some w.heap.size) := by
  have h63 : n + l.length ≤ maxLen := by
    unfold maxLen
    have : (n + l.length) * 1 ≤ (n + l.length) * bytes := Nat.mul_le_mul_left _ hbp
    omega
  cases ao with
  | none =>
    have hl0 : l = [] := by
      rcases l with _ | ⟨x, l⟩
      · rfl
      · obtain ⟨g, off, e, _⟩ := hr.at 0 (by simp); cases e
    subst hl0
    refine ⟨v, w, ?_, by simpa using hown, ⟨rfl, rfl, rfl, Nat.le_refl _, fun _ _ _ => rfl⟩, .inl rfl⟩
    rcases hown.2 with ⟨rfl, rfl⟩ | ⟨g, cap, cur, rfl, _, _, hnc, _⟩
    · simp [Builtin.append_, run_underlying ht, sizeOf, typeInfo, hi, Builtin.lenOf, Builtin.firstCells]
    · simp [Builtin.append_, run_underlying ht, sizeOf, typeInfo, hi, Builtin.lenOf, Builtin.firstCells, hnc, storeCells]
  | some a =>
    have hn : ∀ j u, (l.flatMap cells)[j]? = some u → w.cell? (a.add j) = some u := by
      intro j u hu
      have hj : j < l.length * size := by
        have := (List.getElem?_eq_some_iff.1 hu).1
        rwa [flat_len hc] at this
      have hk : j / size < l.length := Nat.div_lt_of_lt_mul (by rw [Nat.mul_comm]; exact hj)
      have hj2 : j % size < size := Nat.mod_lt _ hsz
      obtain ⟨g, off, e, _, hcc⟩ := hr.at (j / size) hk
      cases e
      have hjj : j = j / size * size + j % size := by rw [Nat.mul_comm]; exact (Nat.div_add_mod j size).symm
      have h2 := flat_at hc l (j / size) hk (j % size) hj2
      rw [← hjj, hu] at h2
      have h3 := hcc (j % size) hj2
      rw [Nat.add_assoc, ← hjj, ← h2] at h3
      rw [Addr.add_lit]
      exact h3
    obtain ⟨v', w', h1', h2, h3, h4, h5⟩ := run_append_own_at (P := P) w B t ty e i z size bytes ht hi hz hsize hby hzs hsz v n xs hown a l.length cap (l.flatMap cells) (flat_len hc l) hn
      (fun u hu => by obtain ⟨x, _, hx⟩ := List.mem_flatMap.1 hu; exact h1 x u hx) h63 hb hB
    exact ⟨v', w', h1', h2, h3, h5⟩

theorem flat_one {k : IntKind} (l : List Int) : l.flatMap (fun x : Int => [Value.int k x]) = l.map (Value.int k) := by
  induction l with
  | nil => rfl
  | cons x l ih => simp [List.flatMap_cons, ih]
theorem owns_slice {w : World} {B : Nat} {e : TypeId} {size : Nat} {v : Value} {n : Nat} {xs : List Value} (h : w.ownsRow B e size v n xs) : ∃ ao cap, v = .slice ao n cap := by
  rcases h.2 with ⟨rfl, rfl⟩ | ⟨g, cap, cur, rfl, _⟩
  · exact ⟨none, 0, rfl⟩
  · exact ⟨_, cap, rfl⟩
/-- A row of one's own can be read. -/
theorem srow_of {α : Type} {cells : α → List Value} {n : Nat} (hc : ∀ x, (cells x).length = n) {w : World} {B : Nat} {e : TypeId} {v : Value} {l : List α} (h : w.ownsRow B e n v l.length (l.flatMap cells)) : SRow n cells w v l := by
  rcases h.2 with ⟨rfl, h0⟩ | ⟨g, cap, cur, rfl, hb, hg, _⟩
  · have : l = [] := List.eq_nil_of_length_eq_zero h0
    subst this
    exact ⟨none, 0, rfl, fun h => absurd rfl h⟩
  · refine ⟨_, cap, rfl, fun _ => ⟨g, 0, rfl, lt_of_heap hg, fun k hk j hj => ?_⟩⟩
    have hkn : k * n + j < l.length * n := by
      have : (k + 1) * n ≤ l.length * n := Nat.mul_le_mul_right _ hk
      rw [Nat.add_mul] at this
      omega
    have h2 := flat_at hc l k hk j hj
    have hlt : k * n + j < (l.flatMap cells).length := by rw [flat_len hc]; exact hkn
    rw [← h2, List.getElem?_eq_getElem hlt]
    have := h.cells (g := g) rfl (k * n + j) _ (List.getElem?_eq_getElem hlt)
    rw [Addr.add_lit] at this
    rw [Nat.zero_add]
    simpa using this
theorem SRow.form {α : Type} {n : Nat} {cells : α → List Value} {w : World} {v : Value} {l : List α} (h : SRow n cells w v l) : ∃ ao cap, v = .slice ao l.length cap := by
  obtain ⟨ao, cap, e, _⟩ := h
  exact ⟨ao, cap, e⟩
/-- The block in which a row lies. -/
theorem SRow.keepB {α : Type} {n : Nat} {cells : α → List Value} {w w' : World} {v : Value} {l : List α} {S : List Nat} (h : SRow n cells w v l) (t : Touch w w' S) (hS : l ≠ [] → ∀ g, v.ownBlock = some g → g ∉ S) : SRow n cells w' v l := by
  obtain ⟨ao, cap, rfl, h1⟩ := h
  refine ⟨ao, cap, rfl, fun hn => ?_⟩
  obtain ⟨g, off, rfl, hlt, hc⟩ := h1 hn
  exact ⟨g, off, rfl, Nat.lt_of_lt_of_le hlt t.size, fun k hk j hj => (t.cell (p := ⟨g, _, none⟩) hlt (hS hn g rfl)).trans (hc k hk j hj)⟩
theorem SRow.block {α : Type} {n : Nat} {cells : α → List Value} {w : World} {v : Value} {l : List α} (h : SRow n cells w v l) (hl : l ≠ []) (g : Nat) (hg : v.ownBlock = some g) : g < w.heap.size := by
  obtain ⟨ao, cap, rfl, h1⟩ := h
  obtain ⟨g', off, rfl, hlt, _⟩ := h1 hl
  simp [Value.ownBlock] at hg
  omega

end Go.Proofs.Ytjbbjbbkembknaa
/-
  package spec: A WALK AS IT LIES; need, isPlace, burn, target, hangsOnState, truth BY THEIR CONTRACTS.
-/
namespace Go.Proofs.Ytjbbjbbkembknaa
set_option linter.unusedVariables false
set_option linter.unusedSimpArgs false
open Go.RowKit
attribute [local go_sem] Oper.semAt_some

/-- How far a thread is: its place, the stack, four locals, what it put out; the fuel that is left. -/
structure WD where
  pc : Int
  st : List Int
  l0 : Int
  l1 : Int
  l2 : Int
  l3 : Int
  out : List Int
  fuel : Int

/-- A block that begins with a walk: vs, vo, vp: the stack, what was put out, the program, as slices; tl: what stands behind. -/
structure WObj (w : World) (b : Nat) (T : TypeId) (tl : List Value) (vs vo vp : Value) (D : WD) : Prop where
  st : w.heap[b]? = some (.cells ⟨.int .i64 D.pc :: vs :: .int .u64 D.l0 :: .int .u64 D.l1 :: .int .u64 D.l2 :: .int .u64 D.l3 :: vo :: vp :: .int .i64 D.fuel :: tl⟩ T (0, 0))
theorem WObj.touch {w w' : World} {b : Nat} {T : TypeId} {tl : List Value} {vs vo vp : Value} {D : WD} {S : List Nat} (h : WObj w b T tl vs vo vp D) (t : Touch w w' S) (hS : b ∉ S) : WObj w' b T tl vs vo vp D := ⟨(t.block b (lt_of_heap h.st) hS).trans h.st⟩
theorem WObj.lt {w : World} {b : Nat} {T : TypeId} {tl : List Value} {vs vo vp : Value} {D : WD} (h : WObj w b T tl vs vo vp D) : b < w.heap.size := lt_of_heap h.st
theorem WObj.fr {w : World} {b : Nat} {T : TypeId} {tl : List Value} {vs vo vp : Value} {D : WD} (h : WObj w b T tl vs vo vp D) (j : Nat) : w.frozen? ⟨b, j, none⟩ = false := by unfold World.frozen?; rw [h.st]; simp
/-- What the cells of a walk hold. -/
structure WCells (w : World) (b : Nat) (vs vo vp : Value) (D : WD) : Prop where
  c0 : w.cell? ⟨b, 0, none⟩ = some (.int .i64 D.pc)
  c1 : w.cell? ⟨b, 1, none⟩ = some vs
  c2 : w.cell? ⟨b, 2, none⟩ = some (.int .u64 D.l0)
  c3 : w.cell? ⟨b, 3, none⟩ = some (.int .u64 D.l1)
  c4 : w.cell? ⟨b, 4, none⟩ = some (.int .u64 D.l2)
  c5 : w.cell? ⟨b, 5, none⟩ = some (.int .u64 D.l3)
  c6 : w.cell? ⟨b, 6, none⟩ = some vo
  c7 : w.cell? ⟨b, 7, none⟩ = some vp
  c8 : w.cell? ⟨b, 8, none⟩ = some (.int .i64 D.fuel)
theorem WObj.cells {w : World} {b : Nat} {T : TypeId} {tl : List Value} {vs vo vp : Value} {D : WD} (h : WObj w b T tl vs vo vp D) : WCells w b vs vo vp D := by
  constructor <;> (unfold World.cell?; rw [h.st]; rfl)
theorem WObj.set0 {w : World} {b : Nat} {T : TypeId} {tl : List Value} {vs vo vp : Value} {D : WD} (h : WObj w b T tl vs vo vp D) (x : Int) : WObj (w.setCell ⟨b, 0, none⟩ (.int .i64 x)) b T tl vs vo vp { D with pc := x } := ⟨by rw [heap_setCell_same _ _ _ _ _ _ h.st]; simp⟩
theorem WObj.set1 {w : World} {b : Nat} {T : TypeId} {tl : List Value} {vs vo vp : Value} {D : WD} (h : WObj w b T tl vs vo vp D) (v : Value) (l : List Int) : WObj (w.setCell ⟨b, 1, none⟩ v) b T tl v vo vp { D with st := l } := ⟨by rw [heap_setCell_same _ _ _ _ _ _ h.st]; simp⟩
theorem WObj.set6 {w : World} {b : Nat} {T : TypeId} {tl : List Value} {vs vo vp : Value} {D : WD} (h : WObj w b T tl vs vo vp D) (v : Value) (l : List Int) : WObj (w.setCell ⟨b, 6, none⟩ v) b T tl vs v vp { D with out := l } := ⟨by rw [heap_setCell_same _ _ _ _ _ _ h.st]; simp⟩
theorem WObj.set8 {w : World} {b : Nat} {T : TypeId} {tl : List Value} {vs vo vp : Value} {D : WD} (h : WObj w b T tl vs vo vp D) (x : Int) : WObj (w.setCell ⟨b, 8, none⟩ (.int .i64 x)) b T tl vs vo vp { D with fuel := x } := ⟨by rw [heap_setCell_same _ _ _ _ _ _ h.st]; simp⟩

/-- Is there an instruction at its place? -/
def placeP (pc : Int) (n : Nat) : Bool := decide (0 ≤ pc) && decide (pc < (n : Int))
/-- Does an operation hang on the State alone? -/
def plainO (o : Int) : Bool := !decide (o = 4 ∨ o = 5 ∨ o = 6 ∨ o = 7 ∨ o = 26 ∨ o = 28 ∨ o = 21 ∨ o = 22 ∨ o = 23 ∨ o = 24 ∨ o = 25)
/-- One, or 0. -/
def oneV (x : Bool) : Int := if x then 4607182418800017408 else 0
end Go.Proofs.Ytjbbjbbkembknaa
/-
  package spec: standsAt, here BY THEIR CONTRACTS.
-/
namespace Go.Proofs.Ytjbbjbbkembknaa
set_option linter.unusedVariables false
set_option linter.unusedSimpArgs false
open Go.RowKit
attribute [local go_sem] Oper.semAt_some

theorem WObj.drewN {w : World} {b : Nat} {T : TypeId} {tl : List Value} {vs vo vp : Value} {D : WD} (h : WObj w b T tl vs vo vp D) (q : Nat) : WObj (w.drewN q) b T tl vs vo vp D := h.touch ((Touch.refl w []).drewN q) (by simp)
abbrev InsRow := SRow 3 InsD.cells
/-- The program's instruction at a place. -/
theorem ins_cells {w : World} {ao : Option Addr} {cap : Nat} {l : List InsD} (h : InsRow w (.slice ao l.length cap) l) (k : Nat) (hk : k < l.length) :
    ∃ g off, ao = some ⟨g, off, none⟩ ∧ g < w.heap.size ∧ w.cell? ⟨g, off + k * 3, none⟩ = some (.int .u8 l[k].op) ∧ w.cell? ⟨g, off + k * 3 + 1, none⟩ = some (.int .i64 l[k].arg) ∧ w.cell? ⟨g, off + k * 3 + 2, none⟩ = some (.int .u64 l[k].val) := by
  obtain ⟨g, off, e, hg, hc⟩ := h.at k hk
  exact ⟨g, off, e, hg, hc 0 (by omega), hc 1 (by omega), hc 2 (by omega)⟩

/-- The operation at a place; -1: none. -/
def opAtW (l : List InsD) (pc : Int) : Int := if placeP pc l.length then (l.getD pc.toNat ⟨0, 0, 0⟩).op else -1

end Go.Proofs.Ytjbbjbbkembknaa
/-
  AN INSTRUCTION IN A BLOCK OF ITS OWN. No walk.
-/
namespace Go.Proofs.Ytjbbjbbkembknaa
set_option linter.unusedVariables false
set_option linter.unusedSimpArgs false
open Go.RowKit

/-- An instruction in a block of its own. -/
structure BoxI (W : World) (p : Nat) (o a v : Int) : Prop where
  st : W.heap[p]? = some (.cells #[.int .u8 o, .int .i64 a, .int .u64 v] 58 (0, 0))
theorem BoxI.touch {W W' : World} {p : Nat} {o a v : Int} {S : List Nat} (h : BoxI W p o a v) (t : Touch W W' S) (hS : p ∉ S) : BoxI W' p o a v := ⟨(t.block p (lt_of_heap h.st) hS).trans h.st⟩
theorem BoxI.cells {W : World} {p : Nat} {o a v : Int} (h : BoxI W p o a v) : W.cell? ⟨p, 0, none⟩ = some (.int .u8 o) ∧ W.cell? ⟨p, 1, none⟩ = some (.int .i64 a) ∧ W.cell? ⟨p, 2, none⟩ = some (.int .u64 v) :=
  ⟨by unfold World.cell?; rw [h.st]; rfl, by unfold World.cell?; rw [h.st]; rfl, by unfold World.cell?; rw [h.st]; rfl⟩
theorem BoxI.fr {W : World} {p : Nat} {o a v : Int} (h : BoxI W p o a v) (j : Nat) : W.frozen? ⟨p, j, none⟩ = false := by unfold World.frozen?; rw [h.st]; simp
theorem BoxI.set1 {W : World} {p : Nat} {o a v : Int} (h : BoxI W p o a v) (x : Int) : BoxI (W.setCell ⟨p, 1, none⟩ (.int .i64 x)) p o x v := ⟨heap_setCell_same _ _ _ _ _ _ h.st⟩
theorem BoxI.set2 {W : World} {p : Nat} {o a v : Int} (h : BoxI W p o a v) (x : Int) : BoxI (W.setCell ⟨p, 2, none⟩ (.int .u64 x)) p o a x := ⟨heap_setCell_same _ _ _ _ _ _ h.st⟩
theorem BoxI.set0 {W : World} {p : Nat} {o a v : Int} (h : BoxI W p o a v) (x : Int) : BoxI (W.setCell ⟨p, 0, none⟩ (.int .u8 x)) p x a v := ⟨heap_setCell_same _ _ _ _ _ _ h.st⟩
theorem BoxI.lt {W : World} {p : Nat} {o a v : Int} (h : BoxI W p o a v) : p < W.heap.size := lt_of_heap h.st
theorem BoxI.new (w : World) (o a v : Int) : BoxI (w.alloc (.cells #[.int .u8 o, .int .i64 a, .int .u64 v] 58)) w.heap.size o a v := ⟨heap_alloc_new w _⟩

end Go.Proofs.Ytjbbjbbkembknaa
/-
  package spec: here BY ITS CONTRACT.
-/
namespace Go.Proofs.Ytjbbjbbkembknaa
set_option linter.unusedVariables false
set_option linter.unusedSimpArgs false
open Go.RowKit
attribute [local go_sem] Oper.semAt_some

/-- The instruction at a place, if there is one, and it is right. -/
def hereP (l : List InsD) (pc : Int) : Option InsD := if placeP pc l.length then (if rightI (l.getD pc.toNat ⟨0, 0, 0⟩) then some (l.getD pc.toNat ⟨0, 0, 0⟩) else none) else none

theorem res_cell {fn : Func} {p : Tmp} {ty : TypeId} (h : fn.results = #[.cell p ty]) (tmps : Array Value) (P : Program) (w : World) :
    (results fn tmps).run P w = ((asAddr (tmps.getD p undef)).run P w).andThen fun a w₁ => (loadVar ty a).run P w₁ := by
  simp only [results, h]
  simp [Sem.run_bind, Result.andThen]

end Go.Proofs.Ytjbbjbbkembknaa
/-
  CLASSES, SIGNS AND ORDER OF VALUES, of both sides, BY THEIR CONTRACTS.
-/
namespace Go.Proofs.Ytjbbjbbkembknaa
set_option linter.unusedVariables false
set_option linter.unusedSimpArgs false
open Go.RowKit

theorem rclass_any (n : Int) (h : Wf64 n) (w : World) : Calls Try.prog 52 #[.int .u64 n] w fun e w' => e = .returned (.int .u8 (classB (ofB n.toNat))) ∧ w = w' := by
  rw [← refClass_eq h.rt]
  have hf := rfloat_any n h w
  generalize ofB n.toNat = x at *
  clear h
  unfold refClass nanB
  generalize hq : (FloatKind.f64.format.order x x == some Ordering.eq) = q
  have hq' : (FloatKind.f64.format.order x x != some Ordering.eq) = !q := by rw [← hq]; rfl
  rw [hq']
  generalize hc1 : (FloatKind.f64.format.order x 0 == some Ordering.eq) = c1
  generalize hc2 : (FloatKind.f64.format.order x 9218868437227405311 == some Ordering.gt) = c2
  generalize hc3 : (FloatKind.f64.format.order x 18442240474082181119 == some Ordering.lt) = c3
  cases q <;> cases c1 <;> cases c2 <;> cases c3
  all_goals
    go_enter Try.func52, Try.ntmps52
    go_wp2_with fail
    refine hf.mono ?_
    rintro e w1 ⟨rfl, rfl⟩
    clear hf
    go_wp2
    go_ret
    exact ⟨by simp, rfl⟩

theorem classB_3 (x : Nat) : (classB x == 3) = nanB x := by
  cases h : nanB x with
  | true => rw [classB_nan x h]; rfl
  | false => simpa using classB_num x h

theorem negB_ofB {n : Int} (h : Wf64 n) : negB (ofB n.toNat) = (!(classB (ofB n.toNat) == 3) && decide (9223372036854775808 ≤ n)) := by
  rw [classB_3, negB_is _ h.rt.lt, h.rt.nan]
  unfold Wf64 at h
  rcases ofB_cases n.toNat (by omega) with ⟨h1, e⟩ | ⟨h1, e⟩
  · rw [e]
    have hne : ¬ n.toNat = 9221120237041090560 := by
      intro e2
      rw [e2] at h1
      revert h1
      decide
    rw [decide_eq_false hne]
    simp only [Bool.not_false, Bool.true_and]
    congr 1
    apply propext
    omega
  · rw [e]; simp

theorem rnegative_any (n : Int) (h : Wf64 n) (w : World) : Calls Try.prog 64 #[.int .u64 n] w fun e w' => e = .returned (.bool (negB (ofB n.toNat))) ∧ w = w' := by
  rw [negB_ofB h]
  have hc := rclass_any n h w
  generalize classB (ofB n.toNat) = c at *
  generalize hq : (c == 3) = q
  have hq' : (c != 3) = !q := by rw [← hq]; rfl
  clear h
  cases q
  all_goals
    go_enter Try.func64, Try.ntmps64
    go_wp2_with fail
    refine hc.mono ?_
    rintro e w1 ⟨rfl, rfl⟩
    clear hc
    go_wp2
    go_ret
    exact ⟨by simp, rfl⟩

/-- The other sign. -/
def negV (x : Nat) : Int := if classB x == 3 then 9221120237041090560 else if negB x then (x : Int) - 9223372036854775808 else (x : Int) + 9223372036854775808

theorem negV_is {x : Nat} (h : Rt x) : ((ofB (Op.negFloat .f64 x) : Nat) : Int) = negV x := by
  unfold negV
  rw [neg_of h, classB_3, h.nan, negB_is x h.lt]
  have := h.lt
  by_cases h1 : x = 9221120237041090560
  · simp [h1]
  · by_cases h2 : 9223372036854775808 ≤ x
    · simp only [h1, h2, if_false, if_true, decide_false, decide_true, Bool.false_eq_true]; omega
    · simp only [h1, h2, if_false, decide_false, Bool.false_eq_true]; omega

theorem rneg_any (n : Int) (h : Wf64 n) (w : World) : Calls Try.prog 57 #[.int .u64 n] w fun e w' => e = .returned (.int .u64 (negV (ofB n.toNat))) ∧ w = w' := by
  have hc := rclass_any n h w
  have hn := rnegative_any n h w
  have hw : Wf64 n := h
  unfold negV
  unfold Wf64 at h
  cases hq : (classB (ofB n.toNat) == 3) with
  | true =>
    have e : classB (ofB n.toNat) = 3 := by simpa using hq
    rw [e] at hc
    clear hq e hn hw
    go_enter Try.func57, Try.ntmps57
    go_wp2_with fail
    refine hc.mono ?_
    rintro e w1 ⟨rfl, rfl⟩
    clear hc
    go_wp2
    go_ret
    exact ⟨by simp, rfl⟩
  | false =>
    have hnan : nanB (ofB n.toNat) = false := by rw [← classB_3]; exact hq
    have hx : ofB n.toNat = n.toNat := by
      rcases ofB_cases n.toNat (by omega) with ⟨_, e⟩ | ⟨_, e⟩
      · exact e
      · have h3 : nanB 9221120237041090560 = true := by decide +kernel
        rw [e, h3] at hnan
        cases hnan
    have hxi : ((ofB n.toNat : Nat) : Int) = n := by rw [hx]; omega
    rw [hxi]
    have hb := negB_is (ofB n.toNat) hw.rt.lt
    have hbd : (9223372036854775808 ≤ ofB n.toNat) ↔ 9223372036854775808 ≤ n := by rw [hx]; omega
    generalize hg : classB (ofB n.toNat) = c at *
    generalize negB (ofB n.toNat) = g at *
    clear hg hx hxi hnan hw
    cases g with
    | true =>
      have h9 : 9223372036854775808 ≤ n := hbd.1 (of_decide_eq_true hb.symm)
      clear hb hbd
      go_enter Try.func57, Try.ntmps57
      go_wp2_with fail
      refine hc.mono ?_
      rintro e w1 ⟨rfl, rfl⟩
      clear hc
      go_wp2_with fail
      refine hn.mono ?_
      rintro e w1 ⟨rfl, rfl⟩
      clear hn
      go_wp2
      go_ret
      exact ⟨by simp, rfl⟩
    | false =>
      have h9 : ¬ 9223372036854775808 ≤ n := fun k => of_decide_eq_false hb.symm (hbd.2 k)
      clear hb hbd
      go_enter Try.func57, Try.ntmps57
      go_wp2_with fail
      refine hc.mono ?_
      rintro e w1 ⟨rfl, rfl⟩
      clear hc
      go_wp2_with fail
      refine hn.mono ?_
      rintro e w1 ⟨rfl, rfl⟩
      clear hn
      go_wp2
      go_ret
      exact ⟨by simp, rfl⟩

/-- Without its sign. -/
def absV (x : Nat) : Int := if negB x then negV x else x
theorem absV_is {x : Nat} (h : Rt x) : ((ofB (absB x) : Nat) : Int) = absV x := by
  unfold absV negV
  rw [abs_of h, classB_3, h.nan, negB_is x h.lt, rungB_is x h.lt]
  have := h.lt
  by_cases h1 : x = 9221120237041090560
  · simp [h1]
  · by_cases h2 : 9223372036854775808 ≤ x
    · simp only [h1, h2, if_false, if_true, decide_false, decide_true, Bool.false_eq_true]; omega
    · simp only [h1, h2, if_false, decide_false, Bool.false_eq_true]

theorem rless_any (a b : Int) (ha : Wf64 a) (hb : Wf64 b) (w : World) : Calls Try.prog 17 #[.int .u64 a, .int .u64 b] w fun e w' => e = .returned (.bool (lessB (ofB a.toNat) (ofB b.toNat))) ∧ w = w' := by
  rw [← refLess_eq ha.rt hb.rt]
  have ca := rcanon_any a ha w
  have cb := rcanon_any b hb w
  have fa := rfloat_any _ (wf_ofB ha) w
  have fb := rfloat_any _ (wf_ofB hb) w
  rw [ofB_ofB] at fa fb
  generalize ofB a.toNat = x at *
  generalize ofB b.toNat = y at *
  unfold refLess
  clear ha hb
  by_cases h1 : x = 9221120237041090560
  · subst h1
    clear fa fb
    go_enter Try.func17, Try.ntmps17
    go_wp2_with fail
    refine ca.mono ?_
    rintro e w1 ⟨rfl, rfl⟩
    go_wp2_with fail
    refine cb.mono ?_
    rintro e w1 ⟨rfl, rfl⟩
    clear ca cb
    go_wp2
    go_ret
    exact ⟨by simp, rfl⟩
  · have h1' : ¬ (x : Int) = 9221120237041090560 := by omega
    rw [if_neg h1]
    by_cases h2 : y = 9221120237041090560
    · subst h2
      clear fa fb
      go_enter Try.func17, Try.ntmps17
      go_wp2_with fail
      refine ca.mono ?_
      rintro e w1 ⟨rfl, rfl⟩
      go_wp2_with fail
      refine cb.mono ?_
      rintro e w1 ⟨rfl, rfl⟩
      clear ca cb
      go_wp2
      go_ret
      exact ⟨by simp, rfl⟩
    · have h2' : ¬ (y : Int) = 9221120237041090560 := by omega
      rw [if_neg h2]
      by_cases h3 : x = 9223372036854775808
      · subst h3
        by_cases h4 : y = 0
        · subst h4
          rw [if_pos ⟨rfl, rfl⟩]
          clear fa fb
          go_enter Try.func17, Try.ntmps17
          go_wp2_with fail
          refine ca.mono ?_
          rintro e w1 ⟨rfl, rfl⟩
          go_wp2_with fail
          refine cb.mono ?_
          rintro e w1 ⟨rfl, rfl⟩
          clear ca cb
          go_wp2
          go_ret
          exact ⟨by simp, rfl⟩
        · have h4' : ¬ (y : Int) = 0 := by omega
          rw [if_neg (fun k => h4 k.2)]
          go_enter Try.func17, Try.ntmps17
          go_wp2_with fail
          refine ca.mono ?_
          rintro e w1 ⟨rfl, rfl⟩
          go_wp2_with fail
          refine cb.mono ?_
          rintro e w1 ⟨rfl, rfl⟩
          clear ca cb
          go_wp2_with fail
          refine fa.mono ?_
          rintro e w1 ⟨rfl, rfl⟩
          go_wp2_with fail
          refine fb.mono ?_
          rintro e w1 ⟨rfl, rfl⟩
          clear fa fb
          go_wp2
          go_ret
          exact ⟨by simp, rfl⟩
      · have h3' : ¬ (x : Int) = 9223372036854775808 := by omega
        rw [if_neg (fun k => h3 k.1)]
        go_enter Try.func17, Try.ntmps17
        go_wp2_with fail
        refine ca.mono ?_
        rintro e w1 ⟨rfl, rfl⟩
        go_wp2_with fail
        refine cb.mono ?_
        rintro e w1 ⟨rfl, rfl⟩
        clear ca cb
        go_wp2_with fail
        refine fa.mono ?_
        rintro e w1 ⟨rfl, rfl⟩
        go_wp2_with fail
        refine fb.mono ?_
        rintro e w1 ⟨rfl, rfl⟩
        clear fa fb
        go_wp2
        go_ret
        exact ⟨by simp, rfl⟩

theorem rsame_any (a b : Int) (ha : Wf64 a) (hb : Wf64 b) (w : World) : Calls Try.prog 59 #[.int .u64 a, .int .u64 b] w fun e w' => e = .returned (.bool (((ofB a.toNat : Nat) : Int) == (ofB b.toNat : Nat))) ∧ w = w' := by
  have fa := rcanon_any a ha w
  have fb := rcanon_any b hb w
  clear ha hb
  generalize ((ofB a.toNat : Nat) : Int) = x at *
  generalize ((ofB b.toNat : Nat) : Int) = y at *
  go_enter Try.func59, Try.ntmps59
  go_wp2_with fail
  refine fa.mono ?_
  rintro e w1 ⟨rfl, rfl⟩
  go_wp2_with fail
  refine fb.mono ?_
  rintro e w1 ⟨rfl, rfl⟩
  clear fa fb
  go_wp2
  go_ret
  exact ⟨by simp, rfl⟩

def pick2 (q : Bool) (x y : Nat) : Nat := if q then x else y
def truthB (c : Int) : Bool := (c == 1) || (c == 2)
theorem classB_in (x : Nat) : classB x = 0 ∨ classB x = 1 ∨ classB x = 2 ∨ classB x = 3 := by
  unfold classB
  repeat' split
  all_goals simp

theorem rtruth_any (n : Int) (h : Wf64 n) (w : World) : Calls Try.prog 45 #[.int .u64 n] w fun e w' => e = .returned (.bool (truthB (classB (ofB n.toNat)))) ∧ w = w' := by
  have hc := rclass_any n h w
  clear h
  rcases classB_in (ofB n.toNat) with h | h | h | h
  all_goals
    rw [h] at hc ⊢
    clear h
    go_enter Try.func45, Try.ntmps45
    go_wp2_with (go_at_call 52; refine hc.mono ?_; rintro e w1 ⟨rfl, rfl⟩)
    go_ret
    exact ⟨by simp [truthB], rfl⟩





end Go.Proofs.Ytjbbjbbkembknaa

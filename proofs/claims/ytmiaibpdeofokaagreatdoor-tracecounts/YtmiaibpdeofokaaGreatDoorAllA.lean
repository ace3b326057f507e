/-
  A WORLD IN WHICH OTHER BLOCKS ARE AS THEY WERE. No walk.
-/
import Derived.Test.YtmiaibpdeofokaaGreatDoorRows
import Derived.WalkKit
import Derived.WalkSpells
import Derived.WalkLawsBesides
import Derived.Laws.Externs
import Derived.StillTactics
import Derived.OwnWalk
import Derived.Laws.Pointers
import Derived.Deep.QuietTactic
import Derived.Deep.RegionHeld3
import Derived.BigQuiet
import Derived.Outline
import Derived.Laws.Bits64
import Derived.Defers
import Derived.Recover
import Derived.Laws.FloatArith
import Derived.RangeFuncNested
import Derived.RangeFuncBound
import Derived.RangeFuncCalls
import Derived.RangeFuncLeaves
import Derived.RangeFuncBox
import Derived.Maps.AppendAt
import Derived.Shelf.Abstract
import Derived.Shelf.RegionOpen
import Derived.OwnWalkIn
import Derived.TacticsInMore
import Derived.LoopNIn
import Derived.LoopIn
import Derived.Maps.OwnSet
import Derived.Maps.OwnIn
import Derived.Maps.Ext
import Derived.Lib.SlMapMerge
import Derived.Maps.RangeWalk
import Derived.Laws.IdiomRangeMap
import Derived.ProofKit
import Derived.Lib.SmallJoins
import Derived.Deep.Slices
import Derived.ChangeOld
namespace Go.Proofs.YtmiaibpdeofokaaGreatDoor
set_option linter.unusedVariables false
set_option linter.unusedSimpArgs false
open Go.RowKit

/-! ### Memory -/
/-- w' is w but for the blocks of S, and new ones. -/
structure Touch (w w' : World) (S : List Nat) : Prop where
  os : w'.os = w.os
  tape : w'.tape = w.tape
  output : w'.output = w.output
  size : w.heap.size ≤ w'.heap.size
  block : ∀ k, k < w.heap.size → k ∉ S → w'.heap[k]? = w.heap[k]?

theorem Touch.refl (w : World) (S : List Nat) : Touch w w S := ⟨rfl, rfl, rfl, Nat.le_refl _, fun _ _ _ => rfl⟩

theorem Touch.trans {a b c : World} {S R : List Nat} (h : Touch a b S) (k : Touch b c R) (hR : ∀ x ∈ R, x ∈ S ∨ a.heap.size ≤ x) : Touch a c S :=
  ⟨k.os.trans h.os, k.tape.trans h.tape, k.output.trans h.output, Nat.le_trans h.size k.size, fun i hi hs =>
    (k.block i (Nat.lt_of_lt_of_le hi h.size) (fun hr => by rcases hR i hr with h1 | h1; exact hs h1; omega)).trans (h.block i hi hs)⟩

theorem Touch.mono {a b : World} {S R : List Nat} (h : Touch a b S) (hS : ∀ x ∈ S, x ∈ R) : Touch a b R :=
  ⟨h.os, h.tape, h.output, h.size, fun k hk hr => h.block k hk (fun hs => hr (hS k hs))⟩

theorem Touch.below {w w' : World} {S : List Nat} (h : Touch w w' S) {B : Nat} (hB : B ≤ w.heap.size) (hS : ∀ x ∈ S, B ≤ x) : Below B w w' :=
  ⟨h.os, h.tape, h.output, h.size, fun k hk => h.block k (by omega) (fun hs => by have := hS k hs; omega)⟩

theorem Touch.of_below {w w' : World} (h : Below w.heap.size w w') (S : List Nat) : Touch w w' S :=
  ⟨h.os, h.tape, h.output, h.size, fun k hk _ => h.block k hk⟩

theorem Touch.drew {a w : World} {S : List Nat} (h : Touch a w S) : Touch a w.drew S := ⟨h.os, h.tape, h.output, h.size, h.block⟩

theorem Touch.drewN {a w : World} {S : List Nat} (h : Touch a w S) (n : Nat) : Touch a (w.drewN n) S := ⟨h.os, h.tape, h.output, h.size, h.block⟩

theorem Touch.alloc {a w : World} {S : List Nat} (h : Touch a w S) (o : Obj) : Touch a (w.alloc o) S :=
  h.trans (R := []) ⟨rfl, rfl, rfl, by simp, fun k hk _ => Below.heap_alloc _ _ _ hk⟩ (by simp)

theorem Touch.setCell {a w : World} {S : List Nat} (h : Touch a w S) {p : Addr} (hp : p.block ∈ S ∨ a.heap.size ≤ p.block) (u : Value) : Touch a (w.setCell p u) S :=
  h.trans (R := [p.block]) ⟨rfl, rfl, rfl, by simp [World.setCell], fun k _ hk => Below.heap_setCell _ _ _ _ (by simpa using hk)⟩ (by simpa using hp)

theorem Touch.grown {a w w' : World} {S : List Nat} {row : Option Nat} (h : Touch a w S) (hg : w.grownBy w' row) (hr : ∀ k, row = some k → k ∈ S ∨ a.heap.size ≤ k) : Touch a w' S :=
  h.trans (R := row.toList) ⟨hg.os, hg.tape, hg.output, hg.size, fun k hk hne => hg.block k hk (fun e => hne (by simp [← e]))⟩ (by intro x hx; exact hr x (by simpa using hx))

theorem Touch.cell {w w' : World} {S : List Nat} (h : Touch w w' S) {p : Addr} (hp : p.block < w.heap.size) (hS : p.block ∉ S) : w'.cell? p = w.cell? p := World.cell?_of_block (w := w) (h.block _ hp hS)
theorem Touch.frozen {w w' : World} {S : List Nat} (h : Touch w w' S) {p : Addr} (hp : p.block < w.heap.size) (hS : p.block ∉ S) : w'.frozen? p = w.frozen? p := World.frozen?_of_block (w := w) (h.block _ hp hS)

theorem lt_of_heap {w : World} {b : Nat} {o : Obj} (h : w.heap[b]? = some o) : b < w.heap.size := (Array.getElem?_eq_some_iff.1 h).1

theorem ownsRow_touch {w w' : World} {B : Nat} {e : TypeId} {size : Nat} {v : Value} {n : Nat} {xs : List Value} {S : List Nat} (h : w.ownsRow B e size v n xs) (t : Touch w w' S) (hS : ∀ k, v.ownBlock = some k → k ∉ S) : w'.ownsRow B e size v n xs := by
  refine ⟨h.1, ?_⟩
  rcases h.2 with hn | ⟨g, cap, cur, rfl, hb, hgg, rest⟩
  · exact .inl hn
  · exact .inr ⟨g, cap, cur, rfl, hb, (t.block g (lt_of_heap hgg) (hS g rfl)).trans hgg, rest⟩

/-- The world under a name. -/
theorem wp_name {P : Program} {c : Code} {Q : Exit → Act → World → Prop} {a : Act} {w : World} (h : ∀ W, W = w → c.wp P Q a W) : c.wp P Q a w := h w rfl

end Go.Proofs.YtmiaibpdeofokaaGreatDoor
/-
  package value's small calls BY THEIR CONTRACTS: IsNaN, Of, Canon, Float, Negative, Less: each answers what a plain function on bits says, and leaves the world as it was.
-/
namespace Go.Proofs.YtmiaibpdeofokaaGreatDoor
set_option linter.unusedVariables false
set_option linter.unusedSimpArgs false
open Go.RowKit

/-- Is it no number? -/
def nanB (b : Nat) : Bool := FloatKind.f64.format.order b b != some .eq
/-- The bits that Of answers. -/
def ofB (b : Nat) : Nat := if nanB b then 9221120237041090560 else b

theorem frombits_run (n : Int) (w : World) : (callFunc 91 #[.int .u64 n]).run Tryz.prog w = .ok (.value (.float .f64 n.toNat)) w := by
  rw [run_callFunc_extern Tryz.func91 (by kernel_rfl) (by kernel_rfl) (by kernel_rfl) (e := Extern.MathFloatBits.float64frombits) (by kernel_rfl)]
  rfl

theorem tobits_run (b : Nat) (w : World) : (callFunc 132 #[.float .f64 b]).run Tryz.prog w = .ok (.value (.int .u64 b)) w := by
  rw [run_callFunc_extern Tryz.func132 (by kernel_rfl) (by kernel_rfl) (by kernel_rfl) (e := Extern.MathFloatBits.float64bits) (by kernel_rfl)]
  rfl

theorem isNaN_any (b : Nat) (w : World) : Calls Tryz.prog 131 #[.float .f64 b] w fun e w' => e = .returned (.bool (nanB b)) ∧ w = w' := by
  unfold nanB
  go_enter Tryz.func131, Tryz.ntmps131
  go_wp2
  go_ret
  exact ⟨rfl, rfl⟩

theorem of_any (b : Nat) (w : World) : Calls Tryz.prog 101 #[.float .f64 b] w fun e w' => e = .returned (.int .u64 (ofB b)) ∧ w = w' := by
  have ht := tobits_run b
  unfold ofB
  cases hn : nanB b with
  | true =>
    have hc := isNaN_any b
    rw [hn] at hc
    go_enter Tryz.func101, Tryz.ntmps101
    go_wp2_with fail
    refine (hc _).mono ?_
    rintro e w1 ⟨rfl, rfl⟩
    clear hc hn
    go_wp2
    go_ret
    exact ⟨rfl, rfl⟩
  | false =>
    have hc := isNaN_any b
    rw [hn] at hc
    go_enter Tryz.func101, Tryz.ntmps101
    go_wp2_with fail
    refine (hc _).mono ?_
    rintro e w1 ⟨rfl, rfl⟩
    clear hc hn
    go_wp2
    go_ret
    exact ⟨rfl, rfl⟩

theorem canon_any (n : Int) (w : World) : Calls Tryz.prog 76 #[.int .u64 n] w fun e w' => e = .returned (.int .u64 (ofB n.toNat)) ∧ w = w' := by
  have ht := frombits_run n
  go_enter Tryz.func76, Tryz.ntmps76
  go_wp2_with fail
  refine (of_any _ _).mono ?_
  rintro e w1 ⟨rfl, rfl⟩
  go_wp2
  go_ret
  exact ⟨rfl, rfl⟩

end Go.Proofs.YtmiaibpdeofokaaGreatDoor
/-
  Negative, Less, ClassOf, Neg BY THEIR CONTRACTS.
-/
namespace Go.Proofs.YtmiaibpdeofokaaGreatDoor
set_option linter.unusedVariables false
set_option linter.unusedSimpArgs false
open Go.RowKit

/-- Is the sign set? -/
def negB (b : Nat) : Bool := bits .and .u64 (b : Int) 9223372036854775808 != 0
/-- Does x come ahead of y? -/
def lessB (x y : Nat) : Bool :=
  if nanB x then false else if nanB y then true else if FloatKind.f64.format.order x y == some .eq then negB x && !negB y else FloatKind.f64.format.order x y == some .lt

/-- A right value's class, as its number. -/
def classB (x : Nat) : Int :=
  if nanB x then 3 else if (FloatKind.f64.format.order (bits BinOp.andNot IntKind.u64 (x : Int) 9223372036854775808).toNat 9218868437227405311 == some Ordering.gt) then 2 else if (FloatKind.f64.format.order x 0 == some Ordering.eq) then 0 else 1

theorem classB_nan (x : Nat) (h : nanB x = true) : classB x = 3 := by simp [classB, h]
theorem classB_num (x : Nat) (h : nanB x = false) : classB x ≠ 3 := by
  unfold classB; rw [h]; simp only [Bool.false_eq_true, if_false]; split
  · decide
  · split <;> decide

/-! ### Plain facts on the order of bits -/
theorem ofB_idem (b : Nat) : ofB (ofB b) = ofB b := by
  unfold ofB
  cases h : nanB b with
  | true => simp only [if_true]; decide +kernel
  | false => simp [h]

theorem cmp_swap (a b : Int) : compare b a = (compare a b).swap := by
  simp only [compare, compareOfLessAndEq]
  rcases Int.lt_trichotomy a b with h | h | h
  · rw [if_neg (by omega), if_neg (by omega), if_pos h]; rfl
  · subst h; simp
  · rw [if_pos h, if_neg (by omega), if_neg (by omega)]; rfl

theorem datum_swap (a b : Ieee.Datum) : b.order a = (a.order b).map Ordering.swap := by
  cases a with
  | nan s t => cases b <;> simp [Ieee.Datum.order]
  | infinity s =>
    cases b with
    | nan _ _ => simp [Ieee.Datum.order]
    | infinity t => cases s <;> cases t <;> rfl
    | number t n j => cases s <;> rfl
  | number s m i =>
    cases b with
    | nan _ _ => simp [Ieee.Datum.order]
    | infinity t => cases t <;> rfl
    | number t n j =>
      simp only [Ieee.Datum.order, Option.map_some, Option.some.injEq]
      rw [Int.min_comm j i]
      exact cmp_swap _ _

theorem order_swap (x y : Nat) : FloatKind.f64.format.order y x = (FloatKind.f64.format.order x y).map Ordering.swap := datum_swap _ _

theorem less_asym (x y : Nat) (h : lessB x y = true) : lessB y x = false := by
  unfold lessB at h ⊢
  rw [order_swap x y]
  cases hx : nanB x with
  | true => simp [hx] at h
  | false =>
    cases hy : nanB y with
    | true => simp
    | false =>
      simp only [hx, hy] at h ⊢
      cases ho : FloatKind.f64.format.order x y with
      | none => rw [ho] at h; simp at h
      | some o =>
        rw [ho] at h
        cases o with
        | lt => rfl
        | gt => simp at h
        | eq =>
          simp at h
          simp [h.1, h.2]

/-- Whatever is a number comes ahead of what is none. -/
theorem less_nan (x y : Nat) (hx : nanB x = false) (hy : nanB y = true) : lessB x y = true := by simp [lessB, hx, hy]

theorem read_inf (x : Nat) (hlt : x < 18446744073709551616) (h : Ieee.double.read x = .infinity true) : x = 18442240474082181120 := by
  unfold Ieee.Format.read at h
  simp only at h
  split at h
  · cases h
  · split at h
    · cases h
    · split at h
      · rename_i h3
        have e1 : Ieee.double.signWeight = 9223372036854775808 := by decide +kernel
        have e2 : Ieee.double.infRung = 9218868437227405312 := by decide +kernel
        rw [e1, e2] at h3
        rw [e1] at h
        simp only [Ieee.Datum.infinity.injEq, beq_iff_eq] at h
        omega
      · cases h

/-- The infinite one below 0 comes ahead of all others. -/
theorem inf_first (x : Nat) (hlt : x < 18446744073709551616) (hne : x ≠ 18442240474082181120) : lessB 18442240474082181120 x = true := by
  unfold lessB
  rw [show nanB 18442240474082181120 = false by decide +kernel]
  cases hx : nanB x with
  | true => simp
  | false =>
    have hr : FloatKind.f64.format.read 18442240474082181120 = .infinity true := by decide +kernel
    have ho : FloatKind.f64.format.order 18442240474082181120 x = some .lt := by
      unfold Ieee.Format.order
      rw [hr]
      have hx' : nanB x = false := hx
      unfold nanB Ieee.Format.order at hx'
      cases hd : FloatKind.f64.format.read x with
      | nan s t => rw [hd] at hx'; simp [Ieee.Datum.order] at hx'
      | number s m i => rfl
      | infinity s =>
        cases s with
        | false => rfl
        | true => exact absurd (read_inf x hlt hd) hne
    rw [ho]
    rfl

theorem zero_first : lessB 9223372036854775808 0 = true := by decide +kernel

theorem ofB_lt (b : Nat) (h : b < 18446744073709551616) : ofB b < 18446744073709551616 := by
  unfold ofB; split <;> omega

end Go.Proofs.YtmiaibpdeofokaaGreatDoor
/-
  THE ORDER OF FLOATS IS THE ORDER OF A WHOLE NUMBER MADE OF THEIR BITS. No walk.
-/
namespace Go.Proofs.YtmiaibpdeofokaaGreatDoor
set_option linter.unusedVariables false
set_option linter.unusedSimpArgs false
open Go.RowKit

/-- The place of a float among those of its sign; its size, in units of the least one. -/
def rungB (x : Nat) : Nat := x % 9223372036854775808
def isNeg (x : Nat) : Bool := x / 9223372036854775808 % 2 == 1
def magB (r : Nat) : Nat := if r < 4503599627370496 then r else (4503599627370496 + r % 4503599627370496) * 2 ^ (r / 4503599627370496 - 1)
def sgn (s : Bool) (n : Nat) : Int := if s then -(n : Int) else n

theorem magB_step (r : Nat) : magB r < magB (r + 1) := by
  unfold magB
  by_cases h1 : r + 1 < 4503599627370496
  · rw [if_pos (by omega), if_pos h1]; omega
  · by_cases h2 : r < 4503599627370496
    · obtain rfl : r = 4503599627370495 := by omega
      rw [if_pos h2, if_neg h1]
      decide
    · rw [if_neg h2, if_neg h1]
      by_cases h3 : r % 4503599627370496 = 4503599627370495
      · have e1 : (r + 1) % 4503599627370496 = 0 := by omega
        have e2 : (r + 1) / 4503599627370496 = r / 4503599627370496 + 1 := by omega
        have e3 : r / 4503599627370496 + 1 - 1 = (r / 4503599627370496 - 1) + 1 := by omega
        rw [e1, e2, e3, h3, Nat.pow_succ]
        have hp : 0 < (2 : Nat) ^ (r / 4503599627370496 - 1) := Nat.pow_pos (by omega)
        generalize (2 : Nat) ^ (r / 4503599627370496 - 1) = p at *
        omega
      · have e1 : (r + 1) % 4503599627370496 = r % 4503599627370496 + 1 := by omega
        have e2 : (r + 1) / 4503599627370496 = r / 4503599627370496 := by omega
        rw [e1, e2]
        exact Nat.mul_lt_mul_of_pos_right (by omega) (Nat.pow_pos (by omega))

theorem magB_mono {r s : Nat} (h : r < s) : magB r < magB s := by
  induction s with
  | zero => omega
  | succ s ih =>
    rcases Nat.lt_or_ge r s with h1 | h1
    · exact Nat.lt_trans (ih h1) (magB_step s)
    · obtain rfl : r = s := by omega
      exact magB_step r

theorem magB_lt {r s : Nat} : magB r < magB s ↔ r < s := by
  constructor
  · intro h
    rcases Nat.lt_trichotomy r s with h1 | h1 | h1
    · exact h1
    · subst h1; omega
    · have := magB_mono h1; omega
  · exact magB_mono
theorem magB_eq {r s : Nat} : magB r = magB s ↔ r = s := by
  constructor
  · intro h
    rcases Nat.lt_trichotomy r s with h1 | h1 | h1
    · have := magB_mono h1; omega
    · exact h1
    · have := magB_mono h1; omega
  · intro h; rw [h]
theorem magB_zero {r : Nat} : magB r = 0 ↔ r = 0 := by
  have : magB 0 = 0 := rfl
  rw [← this]
  conv => lhs; rw [this, ← this]
  exact magB_eq

theorem cmp_congr {a b c d : Int} (h1 : a < b ↔ c < d) (h2 : a = b ↔ c = d) : compare a b = compare c d := by
  simp only [compare, compareOfLessAndEq]
  by_cases h : a < b
  · rw [if_pos h, if_pos (h1.1 h)]
  · rw [if_neg h, if_neg (fun k => h (h1.2 k))]
    by_cases e : a = b
    · rw [if_pos e, if_pos (h2.1 e)]
    · rw [if_neg e, if_neg (fun k => e (h2.2 k))]

theorem cmp_scale (u v : Int) (p : Nat) (hp : 0 < p) : compare (u * p) (v * p) = compare u v := by
  have hp' : (0 : Int) < p := by omega
  refine cmp_congr ⟨fun h => ?_, fun h => Int.mul_lt_mul_of_pos_right h hp'⟩ ⟨fun h => ?_, fun h => by rw [h]⟩
  · exact Int.lt_of_mul_lt_mul_right h (Int.le_of_lt hp')
  · exact Int.eq_of_mul_eq_mul_right (by omega) h

theorem magB_cmp (r s : Nat) (a b : Bool) : compare (sgn a (magB r)) (sgn b (magB s)) = compare (sgn a r) (sgn b s) := by
  have h1 := @magB_lt r s
  have h2 := @magB_lt s r
  have h3 := @magB_eq r s
  have h4 := @magB_zero r
  have h5 := @magB_zero s
  unfold sgn
  generalize magB r = m at *
  generalize magB s = n at *
  cases a <;> cases b <;> simp only [Bool.false_eq_true, if_false, if_true] <;> refine cmp_congr ?_ ?_ <;> omega

theorem signed_sgn (s : Bool) (m k : Nat) : Ieee.signed s m k = sgn s (m * 2 ^ k) := by
  unfold Ieee.signed sgn
  rw [Nat.shiftLeft_eq]

theorem sgn_mul (s : Bool) (m p : Nat) : sgn s (m * p) = sgn s m * p := by
  unfold sgn
  cases s <;> simp [Int.neg_mul]

/-- Two numbers of one grid. -/
theorem order_grid (s t : Bool) (m n a b : Nat) (lp : Int) : Ieee.Datum.order (.number s m (lp + a)) (.number t n (lp + b)) = some (compare (sgn s (m * 2 ^ a)) (sgn t (n * 2 ^ b))) := by
  simp only [Ieee.Datum.order, Option.some.injEq]
  rw [signed_sgn, signed_sgn]
  have e0 : min (lp + (a : Int)) (lp + b) = lp + (min a b : Nat) := by omega
  rw [e0]
  have ea : (lp + (a : Int) - (lp + (min a b : Nat))).toNat = a - min a b := by omega
  have eb : (lp + (b : Int) - (lp + (min a b : Nat))).toNat = b - min a b := by omega
  rw [ea, eb]
  have ha : m * 2 ^ a = m * 2 ^ (a - min a b) * 2 ^ min a b := by rw [Nat.mul_assoc, ← Nat.pow_add]; congr 2; omega
  have hb : n * 2 ^ b = n * 2 ^ (b - min a b) * 2 ^ min a b := by rw [Nat.mul_assoc, ← Nat.pow_add]; congr 2; omega
  rw [ha, hb, sgn_mul s (m * 2 ^ (a - min a b)), sgn_mul t (n * 2 ^ (b - min a b))]
  exact (cmp_scale _ _ _ (Nat.pow_pos (by omega))).symm

/-- How bits read. -/
theorem read_is (x : Nat) : (rungB x < 9218868437227405312 ∧ ∃ m a : Nat, Ieee.double.read x = .number (isNeg x) m (Ieee.double.leastPlace + a) ∧ m * 2 ^ a = magB (rungB x)) ∨ (rungB x = 9218868437227405312 ∧ Ieee.double.read x = .infinity (isNeg x)) ∨ (9218868437227405312 < rungB x ∧ Ieee.double.read x = .nan (isNeg x) (rungB x - 9218868437227405312)) := by
  have e1 : Ieee.double.signWeight = 9223372036854775808 := by decide +kernel
  have e2 : Ieee.double.infRung = 9218868437227405312 := by decide +kernel
  have e3 : Ieee.double.binade = 4503599627370496 := by decide +kernel
  unfold Ieee.Format.read rungB isNeg magB
  simp only [e1, e2, e3]
  generalize x % 9223372036854775808 = r
  generalize (x / 9223372036854775808 % 2 == 1) = s
  by_cases h1 : r < 4503599627370496
  · left
    rw [if_pos h1, if_pos h1]
    exact ⟨by omega, r, 0, by simp, by simp⟩
  · rw [if_neg h1, if_neg h1]
    by_cases h2 : r < 9218868437227405312
    · left
      rw [if_pos h2]
      exact ⟨h2, _, _, rfl, rfl⟩
    · right
      rw [if_neg h2]
      by_cases h3 : r = 9218868437227405312
      · left; rw [if_pos h3]; exact ⟨h3, rfl⟩
      · right; rw [if_neg h3]; exact ⟨by omega, rfl⟩

theorem cmp_lt {a b : Int} (h : a < b) : compare a b = .lt := by simp only [compare, compareOfLessAndEq]; rw [if_pos h]
theorem cmp_gt {a b : Int} (h : b < a) : compare a b = .gt := by simp only [compare, compareOfLessAndEq]; rw [if_neg (by omega), if_neg (by omega)]

/-- THE ORDER OF FLOATS. -/
theorem order_key (x y : Nat) (hx : rungB x ≤ 9218868437227405312) (hy : rungB y ≤ 9218868437227405312) : FloatKind.f64.format.order x y = some (compare (sgn (isNeg x) (rungB x)) (sgn (isNeg y) (rungB y))) := by
  show (Ieee.double.read x).order (Ieee.double.read y) = _
  rcases read_is x with ⟨h1, m, a, e1, g1⟩ | ⟨h1, e1⟩ | ⟨h1, _⟩
  · rcases read_is y with ⟨h2, n, b, e2, g2⟩ | ⟨h2, e2⟩ | ⟨h2, _⟩
    · rw [e1, e2, order_grid, g1, g2, magB_cmp]
    · rw [e1, e2]
      generalize rungB x = r at *
      rw [h2]
      cases isNeg x <;> cases isNeg y <;> simp only [Ieee.Datum.order, sgn, Bool.false_eq_true, if_false, if_true, Option.some.injEq] <;> first | exact (cmp_lt (by omega)).symm | exact (cmp_gt (by omega)).symm
    · omega
  · rcases read_is y with ⟨h2, n, b, e2, g2⟩ | ⟨h2, e2⟩ | ⟨h2, _⟩
    · rw [e1, e2]
      generalize rungB y = r at *
      rw [h1]
      cases isNeg x <;> cases isNeg y <;> simp only [Ieee.Datum.order, sgn, Bool.false_eq_true, if_false, if_true, Option.some.injEq] <;> first | exact (cmp_lt (by omega)).symm | exact (cmp_gt (by omega)).symm
    · rw [e1, e2, h1, h2]
      cases isNeg x <;> cases isNeg y <;> decide
    · omega
  · omega

theorem nanB_rung (x : Nat) : nanB x = decide (9218868437227405312 < rungB x) := by
  unfold nanB
  by_cases h : 9218868437227405312 < rungB x
  · rcases read_is x with ⟨h1, _⟩ | ⟨h1, _⟩ | ⟨h1, e1⟩
    · omega
    · omega
    · have : FloatKind.f64.format.order x x = (Ieee.double.read x).order (Ieee.double.read x) := rfl
      rw [this, e1, decide_eq_true h]
      rfl
  · rw [order_key x x (by omega) (by omega), decide_eq_false h]
    simp [compare, compareOfLessAndEq]

end Go.Proofs.YtmiaibpdeofokaaGreatDoor
/-
  tried OF PACKAGE value, BY ITS CONTRACT, where the work comes back.
-/
namespace Go.Proofs.YtmiaibpdeofokaaGreatDoor
set_option linter.unusedVariables false
set_option linter.unusedSimpArgs false
open Go.RowKit

theorem catchV_idle (p : Addr) (w : World) (x : Bool) (hc : w.cell? p = some (.bool x)) (hz : w.frozen? p = false) :
    CallsD Tryz.prog 117 #[.pointer (some p)] .returning w fun e u' w' => e = .returned (.tuple #[]) ∧ u' = .returning ∧ w' = w.setCell p (.bool true) := by
  refine callsD_of_wpS Tryz.func117 rfl fun c₀ cs hu => ?_
  apply wpS_region
  simp [wpOpsS, go_sem, recoverD, hu, Tryz.ntmps117, Exit.thenS]
  simp [wpOpsS, go_sem, hc, hz, bodyPostS, results, Tryz.results117]
  cases c₀
  simp_all

set_option maxRecDepth 100000 in
theorem triedV_ok (k : Nat) (cap : Array Value) (v : Int) (w : World) (hen : ∀ w1, (callFunc k cap).run Tryz.prog w1 = .ok (.enter k cap) w1) (hw : ∀ w1, Touch w w1 [] → Calls Tryz.prog k cap w1 fun e w' => e = .returned (.int .u64 v) ∧ Touch w1 w' []) :
    Calls Tryz.prog 85 #[.func (.func k) #[] cap] w fun e w' => e = .returned (.tuple #[.int .u64 v, .bool true]) ∧ Touch w w' [] := by
  have hmf : ∀ (fn : Fn) (first cap : Array Value) (w : World), (Instr.makeFunc fn first cap).run Tryz.prog w = .ok (.func fn first cap) w := fun _ _ _ _ => rfl
  go_enter_defers Tryz.func85, Tryz.ntmps85
  go_wp2_with fail
  refine (hw _ ((Touch.refl w []).alloc _)).mono ?_
  rintro e w1 ⟨rfl, t1⟩
  have c0 : w1.cell? ⟨w.heap.size, 0, none⟩ = some (.bool false) := (t1.cell (p := ⟨w.heap.size, 0, none⟩) (by simp) (by simp)).trans (by simp [go_sem])
  have f0 : w1.frozen? ⟨w.heap.size, 0, none⟩ = false := (t1.frozen (p := ⟨w.heap.size, 0, none⟩) (by simp) (by simp)).trans (by simp [go_sem])
  have HT : Hid (Touch w w1 []) := ((Touch.refl w []).alloc _).trans t1 (by simp)
  clear t1 hw
  go_wp2
  have c1 : (w1.setCell ⟨w.heap.size, 0, none⟩ (.bool true)).cell? ⟨w.heap.size, 0, none⟩ = some (.bool true) := World.cell?_setCell_same _ _ _ c0
  have f1 : (w1.setCell ⟨w.heap.size, 0, none⟩ (.bool true)).frozen? ⟨w.heap.size, 0, none⟩ = false := by simp [f0]
  have HT1 : Hid (Touch w (w1.setCell ⟨w.heap.size, 0, none⟩ (.bool true)) []) := HT.out.setCell (.inr (Nat.le_refl _)) _
  generalize w1.setCell ⟨w.heap.size, 0, none⟩ (.bool true) = w2 at *
  clear c0 f0 HT
  refine leaves_cons (f := 117) (args := #[.pointer (some ⟨w.heap.size, 0, none⟩)]) (by simp) (by simp [go_sem]) ?_
  refine (catchV_idle ⟨w.heap.size, 0, none⟩ w2 true c1 f1).mono ?_
  rintro e u' w'' ⟨rfl, rfl, rfl⟩
  have c2 : (w2.setCell ⟨w.heap.size, 0, none⟩ (.bool true)).cell? ⟨w.heap.size, 0, none⟩ = some (.bool true) := World.cell?_setCell_same _ _ _ c1
  have HT2 : Hid (Touch w (w2.setCell ⟨w.heap.size, 0, none⟩ (.bool true)) []) := HT1.out.setCell (.inr (Nat.le_refl _)) _
  generalize w2.setCell ⟨w.heap.size, 0, none⟩ (.bool true) = w3 at *
  simp [Leaves, settle, results, Tryz.results85, go_sem, c2]
  exact HT2.out

end Go.Proofs.YtmiaibpdeofokaaGreatDoor
/-
  Int and Whole of package value, where they can be.
-/
namespace Go.Proofs.YtmiaibpdeofokaaGreatDoor
set_option linter.unusedVariables false
set_option linter.unusedSimpArgs false
open Go.RowKit

theorem need_ok (w : World) : Calls Tryz.prog 119 #[.bool true] w fun e w' => e = .returned (.tuple #[]) ∧ w = w' := by
  go_enter Tryz.func119, Tryz.ntmps119
  go_wp2
  go_end0
  exact ⟨rfl, rfl⟩

theorem enter_of {k : Nat} {cap : Array Value} {fn : Func} (hf : Tryz.prog.funcs[k]? = some fn) (hn : (fn.name == "runtime.NumGoroutine") = false) (hb : fn.body.isNone = false) (w : World) : (callFunc k cap).run Tryz.prog w = .ok (.enter k cap) w := by
  simp only [callFunc, Sem.run_bind, run_program, Result.andThen_ok, hf, hn, hb, Bool.false_eq_true, if_false, Sem.run_pure]

/-- A float64 without its sign; its whole part. -/
def absB (x : Nat) : Nat := (bits .andNot .u64 (x : Int) 9223372036854775808).toNat
def truncB (x : Nat) : Nat := FloatKind.f64.encode ((FloatKind.f64.decode x).integral .zero)

/-- What makes a value a whole number that is not too far from 0. -/
structure WholeB (n i : Int) : Prop where
  ei : floatToIntVal .f64 (ofB n.toNat) .i64 = some i
  x : ∀ s t, FloatKind.f64.decode (ofB n.toNat) ≠ .nan s t
  A : (FloatKind.f64.format.order (absB (ofB n.toNat)) 4845873199050653696 == some Ordering.lt || FloatKind.f64.format.order (absB (ofB n.toNat)) 4845873199050653696 == some Ordering.eq) = true
  T : (FloatKind.f64.format.order (truncB (ofB n.toNat)) (ofB n.toNat) == some Ordering.eq) = true

theorem whole_m3 : ofB (floatOfInt .f64 (-3)) = 13837309855095848960 := by decide +kernel
theorem wholeB_m3 : WholeB (ofB (floatOfInt .f64 (-3)) : Nat) (-3) := by
  rw [whole_m3]
  refine ⟨by decide +kernel, ?_, by decide +kernel, by decide +kernel⟩
  have e : FloatKind.f64.decode (ofB (((13837309855095848960 : Nat) : Int)).toNat) = FloatKind.f64.decode 13837309855095848960 := by decide +kernel
  intro s t h
  have : ∀ s t, FloatKind.f64.decode 13837309855095848960 ≠ .nan s t := by
    intro s t h
    have h2 : (match FloatKind.f64.decode 13837309855095848960 with | .nan _ _ => true | _ => false) = false := by decide +kernel
    rw [h] at h2
    cases h2
  exact this s t (e ▸ h)

end Go.Proofs.YtmiaibpdeofokaaGreatDoor
/-
  '+', '-', '*', '/' OF VALUES, BY CONTRACT: what is invalid is api.NaN, whatever bits the tape gives.
-/
namespace Go.Proofs.YtmiaibpdeofokaaGreatDoor
set_option linter.unusedVariables false
set_option linter.unusedSimpArgs false
open Go.RowKit

theorem nan_frac (s f : Nat) (hs : s ≤ 1) (h0 : 0 < f) (h1 : f < 4503599627370496) : nanB (s * 9223372036854775808 + 9218868437227405312 + f) = true := by
  have e1 : Ieee.double.signWeight = 9223372036854775808 := by decide +kernel
  have e2 : Ieee.double.infRung = 9218868437227405312 := by decide +kernel
  have hr : ∃ a b, Ieee.double.read (s * 9223372036854775808 + 9218868437227405312 + f) = .nan a b := by
    have e3 : Ieee.double.binade = 4503599627370496 := by decide +kernel
    have hg : (s * 9223372036854775808 + 9218868437227405312 + f) % 9223372036854775808 = 9218868437227405312 + f := by omega
    unfold Ieee.Format.read
    simp only [e1, e2, e3, hg]
    rw [if_neg (by omega), if_neg (by omega), if_neg (by omega)]
    exact ⟨_, _, rfl⟩
  obtain ⟨a, b, hr⟩ := hr
  unfold nanB Ieee.Format.order
  have hr' : FloatKind.f64.format.read (s * 9223372036854775808 + 9218868437227405312 + f) = .nan a b := hr
  rw [hr']
  rfl

/-- What '+', '-', '*', '/' come to. -/
def arithB (op : BinOp) (x y : Nat) : Nat := match floatBits op .f64 x y with | some r => ofB r | none => 9221120237041090560

theorem arith_none (op : BinOp) (t : TypeId) (x y : Nat) (ho : op = .add ∨ op = .sub ∨ op = .mul ∨ op = .quo) (h : floatBits op .f64 x y = none) (w : World) :
    ∃ r : Nat, nanB r = true ∧ (binOp op t (.float .f64 x) (.float .f64 y)).run Tryz.prog w = .ok (.float .f64 r) w.drew := by
  refine ⟨(w.tape w.drawn (.nanBits .f64 x y) % 2) * 2 ^ 63 + 0x7ff0000000000000 + 1 + (w.tape w.drawn (.nanBits .f64 x y) / 2) % (2 ^ 52 - 1), ?_, ?_⟩
  · have := nan_frac (w.tape w.drawn (.nanBits .f64 x y) % 2) (1 + (w.tape w.drawn (.nanBits .f64 x y) / 2) % (2 ^ 52 - 1)) (by omega) (by omega) (by omega)
    rw [← Nat.add_assoc] at this
    exact this
  · rcases ho with rfl | rfl | rfl | rfl
    all_goals
      unfold floatBits at h
      simp only at h
      simp [binOp, Op.floatArith, h, run_choose_drew, Question.forced, Question.cut]

end Go.Proofs.YtmiaibpdeofokaaGreatDoor
/-
  SIGNS AND BITS OF VALUES, AS PLAIN DATA. No walk.
-/
namespace Go.Proofs.YtmiaibpdeofokaaGreatDoor
set_option linter.unusedVariables false
set_option linter.unusedSimpArgs false
open Go.RowKit

theorem isNeg_is (x : Nat) (h : x < 18446744073709551616) : isNeg x = decide (9223372036854775808 ≤ x) := by
  unfold isNeg
  by_cases h1 : 9223372036854775808 ≤ x
  · have : x / 9223372036854775808 % 2 = 1 := by omega
    rw [this, decide_eq_true h1]; rfl
  · have : x / 9223372036854775808 % 2 = 0 := by omega
    rw [this, decide_eq_false h1]; rfl
theorem rungB_is (x : Nat) (h : x < 18446744073709551616) : rungB x = if 9223372036854775808 ≤ x then x - 9223372036854775808 else x := by
  unfold rungB
  split <;> omega

theorem negB_is (x : Nat) (h : x < 18446744073709551616) : negB x = decide (9223372036854775808 ≤ x) := by
  unfold negB
  have e : bits .and .u64 (x : Int) 9223372036854775808 = ((x &&& 9223372036854775808 : Nat) : Int) := u64_and_nat x 9223372036854775808 h (by omega)
  rw [e]
  have e2 : (9223372036854775808 : Nat) = 2 ^ 63 := rfl
  rw [e2]
  have h1 : (x &&& 2 ^ 63) % 2 ^ 63 = 0 := by rw [Nat.and_mod_two_pow]; simp
  have h2 : (x &&& 2 ^ 63) / 2 ^ 63 = (x / 2 ^ 63) &&& 1 := by rw [Nat.and_div_two_pow]
  have h3 : (x &&& 2 ^ 63) = 2 ^ 63 * ((x &&& 2 ^ 63) / 2 ^ 63) + (x &&& 2 ^ 63) % 2 ^ 63 := (Nat.div_add_mod _ _).symm
  rw [h1, h2] at h3
  rw [h3]
  by_cases hx : 2 ^ 63 ≤ x
  · have : x / 2 ^ 63 = 1 := by omega
    rw [this, decide_eq_true hx]; decide
  · have : x / 2 ^ 63 = 0 := by omega
    rw [this, decide_eq_false hx]; decide

theorem absB_is (x : Nat) (h : x < 18446744073709551616) : absB x = rungB x := by
  unfold absB rungB
  have e : bits .andNot .u64 (x : Int) 9223372036854775808 = ((x &&& (18446744073709551615 - 9223372036854775808) : Nat) : Int) := u64_andNot_nat x 9223372036854775808 h (by omega)
  rw [e, Int.toNat_natCast]
  have e2 : (18446744073709551615 - 9223372036854775808 : Nat) = 2 ^ 63 - 1 := rfl
  rw [e2, Nat.and_two_pow_sub_one_eq_mod]

theorem negFloat_is (x : Nat) (h : x < 18446744073709551616) : Op.negFloat .f64 x = if 9223372036854775808 ≤ x then x - 9223372036854775808 else x + 9223372036854775808 := by
  have e : Op.negFloat .f64 x = x ^^^ 2 ^ 63 := rfl
  rw [e]
  have h1 : (x ^^^ 2 ^ 63) % 2 ^ 63 = x % 2 ^ 63 := by first | (rw [Nat.xor_mod_two_pow, Nat.mod_self, Nat.xor_zero]; done) | (rw [Nat.xor_mod_two_pow]; simp)
  have h2 : (x ^^^ 2 ^ 63) / 2 ^ 63 = (x / 2 ^ 63) ^^^ 1 := by first | (rw [Nat.xor_div_two_pow]; done) | (rw [Nat.xor_div_two_pow]; simp)
  have h3 : (x ^^^ 2 ^ 63) = 2 ^ 63 * ((x ^^^ 2 ^ 63) / 2 ^ 63) + (x ^^^ 2 ^ 63) % 2 ^ 63 := (Nat.div_add_mod _ _).symm
  rw [h1, h2] at h3
  by_cases hx : 9223372036854775808 ≤ x
  · have : x / 2 ^ 63 = 1 := by omega
    rw [if_pos hx, h3, this]
    have : (1 ^^^ 1 : Nat) = 0 := rfl
    rw [this]
    omega
  · have : x / 2 ^ 63 = 0 := by omega
    rw [if_neg hx, h3, this]
    have : (0 ^^^ 1 : Nat) = 1 := rfl
    rw [this]
    omega

/-- The right bits: those of a number, or just one of those that are none. -/
theorem ofB_cases (x : Nat) (h : x < 18446744073709551616) : (rungB x ≤ 9218868437227405312 ∧ ofB x = x) ∨ (9218868437227405312 < rungB x ∧ ofB x = 9221120237041090560) := by
  unfold ofB
  rw [nanB_rung]
  by_cases h1 : 9218868437227405312 < rungB x
  · right; rw [decide_eq_true h1]; exact ⟨h1, rfl⟩
  · left; rw [decide_eq_false h1]; exact ⟨by omega, rfl⟩

/-- The number by which values are in order. -/
def keyB (x : Nat) : Int := if 9223372036854775808 ≤ x then -((x - 9223372036854775808 : Nat) : Int) - 1 else x

theorem keyB_inj {x y : Nat} (hx : x < 18446744073709551616) (hy : y < 18446744073709551616) (h : keyB x = keyB y) : x = y := by
  unfold keyB at h
  split at h <;> split at h <;> omega

/-- Right bits. -/
structure Rt (x : Nat) : Prop where
  lt : x < 18446744073709551616
  r : rungB x ≤ 9218868437227405312 ∨ x = 9221120237041090560

theorem rt_of (x : Nat) (h : x < 18446744073709551616) : Rt (ofB x) := by
  rcases ofB_cases x h with ⟨h1, e⟩ | ⟨h1, e⟩
  · rw [e]; exact ⟨h, .inl h1⟩
  · rw [e]; exact ⟨by omega, .inr rfl⟩

theorem Rt.nan {x : Nat} (h : Rt x) : nanB x = decide (x = 9221120237041090560) := by
  rw [nanB_rung]
  rcases h.r with h1 | h1
  · rw [decide_eq_false (by omega)]
    symm
    apply decide_eq_false
    intro e
    rw [e] at h1
    revert h1
    decide
  · subst h1; decide

theorem less_of_cmp (A B : Int) (p c : Bool) (h : c = true ↔ A < B ∨ (A = B ∧ p = true)) : (if (some (compare A B) == some Ordering.eq) then p else (some (compare A B) == some Ordering.lt)) = c := by
  rcases Int.lt_trichotomy A B with h1 | h1 | h1
  · rw [cmp_lt h1]
    have : c = true := h.2 (.inl h1)
    rw [this]; rfl
  · have e : compare A B = .eq := by subst h1; simp [compare, compareOfLessAndEq]
    rw [e]
    have : c = p := by
      cases hp : p with
      | true => exact h.2 (.inr ⟨h1, hp⟩)
      | false =>
        cases hc : c with
        | false => rfl
        | true =>
          rcases h.1 hc with h2 | ⟨_, h2⟩
          · omega
          · rw [hp] at h2; cases h2
    rw [this]; rfl
  · rw [cmp_gt h1]
    have : c = false := by
      cases hc : c with
      | false => rfl
      | true =>
        rcases h.1 hc with h2 | ⟨h2, _⟩ <;> omega
    rw [this]; rfl

theorem lessB_key {x y : Nat} (hx : Rt x) (hy : Rt y) : lessB x y = decide (keyB x < keyB y) := by
  have e0 : rungB 9221120237041090560 = 9221120237041090560 := by decide
  unfold lessB
  rw [hx.nan, hy.nan]
  by_cases h1 : x = 9221120237041090560
  · subst h1
    rw [if_pos (by decide)]
    symm
    apply decide_eq_false
    have := hy.lt
    have hr := rungB_is y hy.lt
    rcases hy.r with h | h
    · unfold keyB
      rw [if_neg (by omega)]
      split at hr
      · rw [if_pos ‹_›]; omega
      · rw [if_neg ‹_›]; omega
    · rw [h]; omega
  · rw [if_neg (by simpa using h1)]
    have hxr : rungB x ≤ 9218868437227405312 := hx.r.resolve_right h1
    have hrx := rungB_is x hx.lt
    by_cases h2 : y = 9221120237041090560
    · subst h2
      rw [if_pos (by decide)]
      symm
      apply decide_eq_true
      unfold keyB
      rw [if_neg (show ¬ 9223372036854775808 ≤ 9221120237041090560 by omega)]
      split at hrx
      · rw [if_pos ‹_›]; omega
      · rw [if_neg ‹_›]; omega
    · rw [if_neg (by simpa using h2)]
      have hyr : rungB y ≤ 9218868437227405312 := hy.r.resolve_right h2
      have hry := rungB_is y hy.lt
      rw [order_key x y hxr hyr, negB_is x hx.lt, negB_is y hy.lt, isNeg_is x hx.lt, isNeg_is y hy.lt, hrx, hry]
      have lx := hx.lt
      have ly := hy.lt
      unfold keyB sgn
      by_cases a : 9223372036854775808 ≤ x <;> by_cases b : 9223372036854775808 ≤ y
      all_goals
        simp only [a, b, decide_true, decide_false, if_true, if_false, Bool.false_eq_true]
        refine less_of_cmp _ _ _ _ ?_
        simp only [decide_eq_true_eq, Bool.and_true, Bool.and_false, Bool.not_true, Bool.not_false, Bool.false_eq_true, and_false, or_false, and_true, Bool.true_and, Bool.false_and]
        try omega

theorem rt_nan : Rt 9221120237041090560 := ⟨by omega, .inr rfl⟩

/-- The document's order. -/
def refLess (x y : Nat) : Bool := if x = 9221120237041090560 then false else if y = 9221120237041090560 then true else if x = 9223372036854775808 ∧ y = 0 then true else FloatKind.f64.format.order x y == some .lt

theorem refLess_eq {x y : Nat} (hx : Rt x) (hy : Rt y) : refLess x y = lessB x y := by
  unfold refLess lessB
  rw [hx.nan, hy.nan]
  by_cases h1 : x = 9221120237041090560
  · simp only [h1, decide_true, if_true]
  · by_cases h2 : y = 9221120237041090560
    · simp only [h1, h2, decide_true, decide_false, if_true, if_false, Bool.false_eq_true]
    · simp only [h1, h2, decide_false, if_false, Bool.false_eq_true]
      have hxr : rungB x ≤ 9218868437227405312 := hx.r.resolve_right h1
      have hyr : rungB y ≤ 9218868437227405312 := hy.r.resolve_right h2
      have hrx := rungB_is x hx.lt
      have hry := rungB_is y hy.lt
      have lx := hx.lt
      have ly := hy.lt
      rw [order_key x y hxr hyr, negB_is x hx.lt, negB_is y hy.lt, isNeg_is x hx.lt, isNeg_is y hy.lt, hrx, hry]
      symm
      refine less_of_cmp _ _ _ _ ?_
      by_cases h3 : x = 9223372036854775808 ∧ y = 0
      · rw [if_pos h3]
        obtain ⟨rfl, rfl⟩ := h3
        decide
      · rw [if_neg h3]
        have hcl : ∀ A B : Int, ((some (compare A B) == some Ordering.lt) = true) ↔ A < B := by
          intro A B
          rcases Int.lt_trichotomy A B with h | h | h
          · rw [cmp_lt h]; simp [h]
          · subst h; simp [compare, compareOfLessAndEq]
          · rw [cmp_gt h]; simp; omega
        rw [hcl]
        unfold sgn
        by_cases a : 9223372036854775808 ≤ x <;> by_cases b : 9223372036854775808 ≤ y
        all_goals
          simp only [a, b, decide_true, decide_false, if_true, if_false, Bool.false_eq_true, Bool.and_true, Bool.and_false, Bool.not_true, Bool.not_false, and_false, or_false, and_true, Bool.true_and, Bool.false_and]
          try omega

/-- The document's class. -/
def refClass (x : Nat) : Int := if nanB x then 3 else if (FloatKind.f64.format.order x 0 == some .eq) then 0 else if (FloatKind.f64.format.order x 9218868437227405311 == some .gt || FloatKind.f64.format.order x 18442240474082181119 == some .lt) then 2 else 1

theorem cmp_is_eq (A B : Int) : (some (compare A B) == some Ordering.eq) = decide (A = B) := by
  rcases Int.lt_trichotomy A B with h | h | h
  · rw [cmp_lt h, decide_eq_false (by omega)]; rfl
  · subst h; simp [compare, compareOfLessAndEq]
  · rw [cmp_gt h, decide_eq_false (by omega)]; rfl
theorem cmp_is_gt (A B : Int) : (some (compare A B) == some Ordering.gt) = decide (B < A) := by
  rcases Int.lt_trichotomy A B with h | h | h
  · rw [cmp_lt h, decide_eq_false (by omega)]; rfl
  · subst h; simp [compare, compareOfLessAndEq]
  · rw [cmp_gt h, decide_eq_true h]; rfl
theorem cmp_is_lt (A B : Int) : (some (compare A B) == some Ordering.lt) = decide (A < B) := by
  rcases Int.lt_trichotomy A B with h | h | h
  · rw [cmp_lt h, decide_eq_true h]; rfl
  · subst h; simp [compare, compareOfLessAndEq]
  · rw [cmp_gt h, decide_eq_false (by omega)]; rfl

theorem refClass_eq {x : Nat} (hx : Rt x) : refClass x = classB x := by
  unfold refClass classB
  cases hn : nanB x with
  | true => rfl
  | false =>
    simp only [Bool.false_eq_true, if_false]
    rw [hx.nan] at hn
    have h1 : x ≠ 9221120237041090560 := by simpa using hn
    have hxr : rungB x ≤ 9218868437227405312 := hx.r.resolve_right h1
    have hrx := rungB_is x hx.lt
    have lx := hx.lt
    have ha : (bits BinOp.andNot IntKind.u64 (x : Int) 9223372036854775808).toNat = rungB x := absB_is x hx.lt
    have hrr : rungB (rungB x) = rungB x := by unfold rungB; omega
    have hrl : rungB x < 9223372036854775808 := by unfold rungB; omega
    rw [ha, order_key x 0 hxr (by decide), order_key x 9218868437227405311 hxr (by decide), order_key x 18442240474082181119 hxr (by decide), order_key (rungB x) 9218868437227405311 (by omega) (by decide)]
    rw [cmp_is_eq, cmp_is_gt, cmp_is_gt, cmp_is_lt, hrr, isNeg_is x lx, isNeg_is (rungB x) (by omega)]
    have e1 : sgn (isNeg 0) (rungB 0) = 0 := by decide
    have e2 : sgn (isNeg 9218868437227405311) (rungB 9218868437227405311) = 9218868437227405311 := by decide
    have e3 : sgn (isNeg 18442240474082181119) (rungB 18442240474082181119) = -9218868437227405311 := by decide
    rw [e1, e2, e3, decide_eq_false (show ¬ 9223372036854775808 ≤ rungB x by omega)]
    generalize rungB x = r at *
    unfold sgn
    simp only [Bool.false_eq_true, if_false]
    by_cases a : 9223372036854775808 ≤ x
    · simp only [a, decide_true, if_true]
      by_cases b : 9218868437227405311 < r
      · have c1 : ¬ (-(r : Int) = 0) := by omega
        have c2 : -(r : Int) < -9218868437227405311 := by omega
        have c3 : (9218868437227405311 : Int) < r := by omega
        simp [c1, c2, c3]
      · have c2 : ¬ -(r : Int) < -9218868437227405311 := by omega
        have c3 : ¬ (9218868437227405311 : Int) < r := by omega
        have c4 : ¬ (9218868437227405311 : Int) < -(r : Int) := by omega
        simp [c2, c3, c4]
    · simp only [a, decide_false, Bool.false_eq_true, if_false]
      by_cases b : 9218868437227405311 < r
      · have c1 : ¬ ((r : Int) = 0) := by omega
        have c3 : (9218868437227405311 : Int) < r := by omega
        have c5 : ¬ r = 0 := by omega
        simp [c1, c3, c5]
      · have c2 : ¬ (r : Int) < -9218868437227405311 := by omega
        have c3 : ¬ (9218868437227405311 : Int) < r := by omega
        simp [c2, c3]

/-- The other sign, and none, of right bits. -/
theorem neg_of {x : Nat} (hx : Rt x) : ofB (Op.negFloat .f64 x) = if x = 9221120237041090560 then 9221120237041090560 else if 9223372036854775808 ≤ x then x - 9223372036854775808 else x + 9223372036854775808 := by
  have lx := hx.lt
  by_cases h1 : x = 9221120237041090560
  · subst h1; rw [if_pos rfl]; decide +kernel
  · rw [if_neg h1, ← negFloat_is x lx]
    have hxr : rungB x ≤ 9218868437227405312 := hx.r.resolve_right h1
    have e := negFloat_is x lx
    have hl : Op.negFloat .f64 x < 18446744073709551616 := by rw [e]; split <;> omega
    have hr : rungB (Op.negFloat .f64 x) = rungB x := by
      unfold rungB
      rw [e]
      split <;> omega
    rcases ofB_cases _ hl with ⟨_, h2⟩ | ⟨h2, _⟩
    · exact h2
    · omega

theorem abs_of {x : Nat} (hx : Rt x) : ofB (absB x) = if x = 9221120237041090560 then 9221120237041090560 else rungB x := by
  have lx := hx.lt
  by_cases h1 : x = 9221120237041090560
  · subst h1; rw [if_pos rfl]; decide +kernel
  · rw [if_neg h1, absB_is x lx]
    have hxr : rungB x ≤ 9218868437227405312 := hx.r.resolve_right h1
    have hrr : rungB (rungB x) = rungB x := by unfold rungB; omega
    rcases ofB_cases (rungB x) (by omega) with ⟨_, h2⟩ | ⟨h2, _⟩
    · exact h2
    · omega

end Go.Proofs.YtmiaibpdeofokaaGreatDoor
/-
  THE DOCUMENT's VALUES BY THEIR CONTRACTS: each answers as package value does.
-/
namespace Go.Proofs.YtmiaibpdeofokaaGreatDoor
set_option linter.unusedVariables false
set_option linter.unusedSimpArgs false
open Go.RowKit

/-- A value, as its bits. -/
def Wf64 (n : Int) : Prop := 0 ≤ n ∧ n < 18446744073709551616
theorem Wf64.lt {n : Int} (h : Wf64 n) : n.toNat < 18446744073709551616 := by unfold Wf64 at h; omega
theorem Wf64.rt {n : Int} (h : Wf64 n) : Rt (ofB n.toNat) := rt_of _ h.lt
theorem wf_ofB {n : Int} (h : Wf64 n) : Wf64 (ofB n.toNat) := by have := h.rt.lt; unfold Wf64; omega
theorem ofB_ofB (n : Int) : ofB (((ofB n.toNat : Nat) : Int)).toNat = ofB n.toNat := by rw [Int.toNat_natCast, ofB_idem]

theorem beq_eq_decide (a b : Int) : (a == b) = decide (a = b) := by
  by_cases h : a = b <;> simp [h]

/-- Is it right? -/
def rightB (n : Int) : Bool := decide (((ofB n.toNat : Nat) : Int) = n)

theorem rightB_is {n : Int} (h : Wf64 n) : rightB n = (!nanB n.toNat || n == 9221120237041090560) := by
  unfold rightB ofB
  unfold Wf64 at h
  cases hn : nanB n.toNat with
  | true =>
    simp only [if_true, Bool.not_true, Bool.false_or]
    by_cases e : n = 9221120237041090560
    · subst e; decide
    · rw [decide_eq_false (by omega)]; simp [e]
  | false =>
    simp only [Bool.false_eq_true, if_false, Bool.not_false, Bool.true_or]
    exact decide_eq_true (by omega)

theorem right_any (n : Int) (w : World) : Calls Tryz.prog 93 #[.int .u64 n] w fun e w' => e = .returned (.bool (rightB n)) ∧ w = w' := by
  have hc := canon_any n w
  unfold rightB
  generalize ofB n.toNat = x at *
  go_enter Tryz.func93, Tryz.ntmps93
  go_wp2_with fail
  refine hc.mono ?_
  rintro e w1 ⟨rfl, rfl⟩
  clear hc
  go_wp2
  go_ret
  exact ⟨by simp [beq_eq_decide], rfl⟩

theorem rright_any (n : Int) (h : Wf64 n) (w : World) : Calls Tryz.prog 60 #[.int .u64 n] w fun e w' => e = .returned (.bool (rightB n)) ∧ w = w' := by
  have hf := frombits_run n
  rw [rightB_is h]
  unfold nanB
  generalize hq : (FloatKind.f64.format.order n.toNat n.toNat == some Ordering.eq) = q
  have hq' : (!(FloatKind.f64.format.order n.toNat n.toNat != some Ordering.eq)) = q := by rw [← hq]; simp [bne]
  rw [hq']
  clear hq'
  cases q with
  | true =>
    go_enter Tryz.func60, Tryz.ntmps60
    go_wp2
    go_ret
    exact ⟨by simp, rfl⟩
  | false =>
    go_enter Tryz.func60, Tryz.ntmps60
    go_wp2
    go_ret
    exact ⟨by simp, rfl⟩

theorem rcanon_any (n : Int) (h : Wf64 n) (w : World) : Calls Tryz.prog 81 #[.int .u64 n] w fun e w' => e = .returned (.int .u64 (ofB n.toNat)) ∧ w = w' := by
  have hr := rright_any n h w
  cases hq : rightB n with
  | true =>
    have e : ((ofB n.toNat : Nat) : Int) = n := by unfold rightB at hq; exact of_decide_eq_true hq
    rw [hq] at hr
    rw [e]
    clear hq e h
    go_enter Tryz.func81, Tryz.ntmps81
    go_wp2_with fail
    refine hr.mono ?_
    rintro e w1 ⟨rfl, rfl⟩
    clear hr
    go_wp2
    go_ret
    exact ⟨by simp, rfl⟩
  | false =>
    have e : ofB n.toNat = 9221120237041090560 := by
      have := rightB_is h
      rw [hq] at this
      unfold ofB
      cases hn : nanB n.toNat with
      | true => rfl
      | false => rw [hn] at this; simp at this
    rw [hq] at hr
    rw [e]
    clear hq e h
    go_enter Tryz.func81, Tryz.ntmps81
    go_wp2_with fail
    refine hr.mono ?_
    rintro e w1 ⟨rfl, rfl⟩
    clear hr
    go_wp2
    go_ret
    exact ⟨by simp, rfl⟩

end Go.Proofs.YtmiaibpdeofokaaGreatDoor
/-
  WHAT READS ASK OF VALUES, BY THEIR CONTRACTS, in a seat that has the texts on package value: those.
-/
namespace Go.Proofs.YtmiaibpdeofokaaGreatDoor
end Go.Proofs.YtmiaibpdeofokaaGreatDoor
/-
  A loop over a function that yields, whose body may leave by one jump: what is kept between two rounds is told by how many are behind. A law of our own over the record's laws; and one cell of its own.
-/
namespace Go.Proofs.YtmiaibpdeofokaaGreatDoor
set_option linter.unusedVariables false
set_option linter.unusedSimpArgs false
open Go.RowKit Go.Shelf

theorem Touch.putObj {a w : World} {S : List Nat} (h : Touch a w S) {l : Nat} (hl : l ∈ S ∨ a.heap.size ≤ l) (o : Obj) : Touch a (w.putObj l o) S :=
  h.trans (R := [l]) ⟨rfl, rfl, rfl, by simp, fun k _ hk => World.putObj_heap_other (by simpa using hk)⟩ (by simpa using hl)

theorem keeps_of_touch {W W' : World} {S : List Nat} (t : Touch W W' S) (hS : ∀ x ∈ S, ∃ cs ty fr, W.heap[x]? = some (.cells cs ty fr)) : KeepsOthers W W' :=
  ⟨t.size, fun k o hk ho => (t.block k (lt_of_heap hk) (fun hs => by
    obtain ⟨cs, ty, fr, e⟩ := hS k hs
    rw [hk] at e
    cases e
    simp [Obj.isCells] at ho)).trans hk⟩

/-- One cell of its own. -/
abbrev One (W : World) (p : Nat) (v : Value) (t : TypeId) : Prop := W.heap[p]? = some (.cells #[v] t (0, 0))
theorem One.cell {W : World} {p : Nat} {v : Value} {t : TypeId} (h : One W p v t) : W.cell? ⟨p, 0, none⟩ = some v := by simp [World.cell?, h]
theorem One.frozen {W : World} {p : Nat} {v : Value} {t : TypeId} (h : One W p v t) : W.frozen? ⟨p, 0, none⟩ = false := by simp [World.frozen?, h]
theorem One.set {W : World} {p : Nat} {v : Value} {t : TypeId} (h : One W p v t) (u : Value) : One (W.setCell ⟨p, 0, none⟩ u) p u t := by
  unfold One at *
  simp [World.setCell, Array.getElem?_modify, h]
theorem one_new (w : World) (v : Value) (t : TypeId) : One (w.alloc (.cells #[v] t)) w.heap.size v t := heap_alloc_new w _
theorem One.alloc {W : World} {p : Nat} {v : Value} {t : TypeId} (h : One W p v t) (o : Obj) : One (W.alloc o) p v t := (heap_alloc_old _ _ (lt_of_heap h)).trans h
theorem One.touch {W W' : World} {p : Nat} {v : Value} {t : TypeId} {S : List Nat} (h : One W p v t) (T : Touch W W' S) (hS : p ∉ S) : One W' p v t := (T.block _ (lt_of_heap h) hS).trans h

theorem wpIn_name {F : Fence} {n : Nat} {P : Program} {c : Code} {Q : Exit → Act → World → Prop} {a : Act} {w : World} (h : ∀ W, W = w → c.wpIn F n P Q a W) : c.wpIn F n P Q a w := h w rfl

/-- The jump by which a body leaves: a return, or the loop's own end. -/
def jE : Option Nat → Exit | none => .ret | some i => .exit i
def jC : Option Nat → Code | none => .ret | some i => .exit i

/-- The record of the loop. -/
def recAt (fn : FuncId) (a : Act) (ps : Array Tmp) (assign body : Code) (D : Nat) (st : LoopState) (pd : Option Code) : Loop := { state := st, pending := pd, fn := fn, tmps := a.tmps, params := ps, assign := assign, body := body, defers := D }

/-- What is kept, and the loop's two blocks beside it. -/
def Kept (I : Nat → World → Prop) (r : Loop) (l D : Nat) (k : Nat) (W : World) : Prop := I k W ∧ W.heap[l]? = some (.loop r) ∧ W.heap[D]? = some (.deferred (some []))
/-- What is left. -/
def LeftX (X : World → Prop) (r : Loop) (l D : Nat) (W : World) : Prop := X W ∧ W.heap[l]? = some (.loop r) ∧ W.heap[D]? = some (.deferred (some []))

/-- What a yield comes to. -/
def YPost (J : Nat → World → Prop) (X : World → Prop) (k : Nat) (e : Ending) (W' : World) : Prop := (e = .returned (.bool true) ∧ J (k + 1) W') ∨ (e = .returned (.bool false) ∧ X W')

/-- What a body comes to. -/
def BPost (I : Nat → World → Prop) (X : World → Prop) (oid : Option Nat) (W : World) (k : Nat) (e : Exit) (_ : Act) (W' : World) : Prop := KeepsOthers W W' ∧ ((e = .normal ∧ I (k + 1) W') ∨ (e = jE oid ∧ X W'))

theorem rangeFunc_gen {P : Program} {n : Nat} {g : Operand} {ps : Array Tmp} {assign body : Code} {Q : Exit → Act → World → Prop} {a : Act} {w : World} (h1 : 1 ≤ n) {gf : Nat} {lb : Array Value}
    (hg : a.eval g = .func (.func gf) #[] lb) (eg : ∀ args w, (callFunc gf args).run P w = .ok (.enter gf args) w) (hps : ps.size = 1) (val : Nat → Value) (oid : Option Nat)
    (I : Nat → World → Prop) (X : World → Prop) (len : Nat)
    (hput : ∀ k W l o o', I k W → (l = w.heap.size ∨ l = w.heap.size + 1) → W.heap[l]? = some o → o.isCells = false → I k (W.putObj l o'))
    (hputX : ∀ W l o o', X W → (l = w.heap.size ∨ l = w.heap.size + 1) → W.heap[l]? = some o → o.isCells = false → X (W.putObj l o')) (hnew : ∀ k W o, I k W → I k (W.alloc o))
    (h0 : I 0 w) (a₁ : Nat → Act)
    (hseq : ∀ (J : Nat → World → Prop) (Y : World → Prop) (W : World), (∀ k W, J k W → I k W) → (∀ k W W', J k W → I k W' → Touch W W' [] → J k W') → J 0 W → (∀ k W, k < len → J k W → YieldAt Fence.wide (n - 1 - 1) P (w.heap.size + 1) #[val k] W (YPost J Y k)) →
      CallsIn Fence.wide (n - 1) P gf (#[.func (.yield (w.heap.size + 1)) #[] #[]] ++ lb) W fun e W' => (∃ v, e = .returned v) ∧ (J len W' ∨ Y W'))
    (hassign : ∀ (l k : Nat) (W : World) (K : Act → World → Prop), K (a₁ k) W →
      assign.wpIn (Fence.wide.inRound l) (n - 1 - 1) P (Exit.then K (fun _ _ _ => False)) { tmps := (ps.zip #[val k]).foldl (fun t (p, v) => t.setIfInBounds p v) a.tmps, defers := [] } W)
    (hbody : ∀ (l k : Nat) (W : World), k < len → I k W → body.wpIn (Fence.wide.inRound l) (n - 1 - 1) P (BPost I X oid W k) (a₁ k) W)
    (hdone : ∀ (W : World), I len W → W.heap[w.heap.size]? = some (.deferred (some [])) → Q .normal { a with defers := { target := .collected w.heap.size, args := #[] } :: a.defers } W)
    (hleft : ∀ (W : World), X W → W.heap[w.heap.size]? = some (.deferred (some [])) → (jC oid).wpIn Fence.wide n P Q { a with defers := { target := .collected w.heap.size, args := #[] } :: a.defers } W) :
    (Code.rangeFunc g ps assign body).wpIn Fence.wide n P Q a w := by
  refine wpIn_rangeFunc fun fn hfn => ?_
  obtain ⟨r0, hr0⟩ : ∃ r0, recAt fn a ps assign body w.heap.size .ready none = r0 := ⟨_, rfl⟩
  obtain ⟨rx, hrx⟩ : ∃ rx, recAt fn a ps assign body w.heap.size .done (some (jC oid)) = rx := ⟨_, rfl⟩
  have hk0 : ((w.alloc (.deferred (some []))).alloc (.loop r0)).heap[w.heap.size]? = some (.deferred (some [])) := (Below.heap_alloc _ _ _ (by simp)).trans (World.alloc_heap_new w _)
  have hl0 : ((w.alloc (.deferred (some []))).alloc (.loop r0)).heap[w.heap.size + 1]? = some (.loop r0) := by
    have := World.alloc_heap_new (w.alloc (.deferred (some []))) (.loop r0)
    rwa [World.size_alloc] at this
  have hs := hseq (Kept I r0 (w.heap.size + 1) w.heap.size) (LeftX X rx (w.heap.size + 1) w.heap.size) ((w.alloc (.deferred (some []))).alloc (.loop r0))
    (fun k W h => h.1) (fun k W W' h hi t => ⟨hi, (t.block _ (lt_of_heap h.2.1) (by simp)).trans h.2.1, (t.block _ (lt_of_heap h.2.2) (by simp)).trans h.2.2⟩) ⟨hnew _ _ _ (hnew _ _ _ h0), hl0, hk0⟩ ?_
  · refine ⟨w.heap.size + 1, [{ target := .collected w.heap.size, args := #[] }], (w.alloc (.deferred (some []))).alloc (.loop r0), { target := .fn (.func gf) lb, args := #[.func (.yield (w.heap.size + 1)) #[] #[]] }, (w.alloc (.deferred (some []))).alloc (.loop r0), gf,
      #[.func (.yield (w.heap.size + 1)) #[] #[]] ++ lb, (w.alloc (.deferred (some []))).alloc (.loop r0), ?_, ?_, ?_, ?_, fun _ => h1, ?_⟩
    · rw [← hr0]; exact run_enterLoop_outer _ _ _ _ _
    · simp only [resolve, hg]
      simp [go_sem]
    · intro f' hf'; trivial
    · simp [invoke, go_sem, eg]
    · refine hs.mono ?_
      rintro e W2 ⟨⟨v, rfl⟩, (⟨hi, hl, hd⟩ | ⟨hx, hl, hd⟩)⟩
      · have hen := run_endLoop (P := P) hl (by rw [← hr0]; simp [recAt])
        have hp : r0.pending = none := by rw [← hr0]; rfl
        rw [hp] at hen
        exact ⟨none, _, hen, hdone _ (hput _ _ _ _ _ hi (.inr rfl) hl rfl) ((World.putObj_heap_other (by omega)).trans hd)⟩
      · have hen := run_endLoop (P := P) hl (by rw [← hrx]; simp [recAt])
        have hp : rx.pending = some (jC oid) := by rw [← hrx]; rfl
        rw [hp] at hen
        exact ⟨some (jC oid), _, hen, hleft _ (hputX _ _ _ _ hx (.inr rfl) hl rfl) ((World.putObj_heap_other (by omega)).trans hd)⟩
  · rintro k W hk ⟨hi, hl, hd⟩
    have hlt : w.heap.size + 1 < W.heap.size := (Array.getElem?_eq_some_iff.1 hl).1
    have hy := run_yield (P := P) (args := #[val k]) hl (by rw [← hr0]; simp [recAt, hps])
    refine ⟨_, _, _, _, hy, roundIn_of_wpIn (by trivial) ?_⟩
    have hbe := run_beginRound (P := P) hl (by rw [← hr0]; rfl)
    subst hr0
    subst hrx
    refine hassign _ k W _ ⟨_, hbe, ?_⟩
    have hl2 : (W.putObj (w.heap.size + 1) (.loop { recAt fn a ps assign body w.heap.size .ready none with state := .busy })).heap[w.heap.size + 1]? = some (.loop { recAt fn a ps assign body w.heap.size .ready none with state := .busy }) := World.putObj_heap_same hlt
    have hd2 : (W.putObj (w.heap.size + 1) (.loop { recAt fn a ps assign body w.heap.size .ready none with state := .busy })).heap[w.heap.size]? = some (.deferred (some [])) := (World.putObj_heap_other (by omega)).trans hd
    refine wpIn_mono (hbody _ k _ hk (hput _ _ _ _ _ hi (.inr rfl) hl rfl)) ?_
    rintro e a3 W3 ⟨hko, (⟨rfl, hi3⟩ | ⟨rfl, hx3⟩)⟩
    · have hl3 := hko.same _ _ hl2 rfl
      have hd3 := hko.same _ _ hd2 rfl
      have hen := run_endRound (P := P) none hl3
      exact ⟨_, _, hen, .inl ⟨rfl, hput _ _ _ _ _ hi3 (.inr rfl) hl3 rfl, World.putObj_heap_same (Array.getElem?_eq_some_iff.1 hl3).1, (World.putObj_heap_other (by omega)).trans hd3⟩⟩
    · have hl3 := hko.same _ _ hl2 rfl
      have hd3 := hko.same _ _ hd2 rfl
      cases oid with
      | none =>
        have hen := run_endRound (P := P) (some .ret) hl3
        exact ⟨_, _, hen, .inr ⟨rfl, hputX _ _ _ _ hx3 (.inr rfl) hl3 rfl, World.putObj_heap_same (Array.getElem?_eq_some_iff.1 hl3).1, (World.putObj_heap_other (by omega)).trans hd3⟩⟩
      | some i =>
        have hen := run_endRound (P := P) (some (.exit i)) hl3
        exact ⟨_, _, hen, .inr ⟨rfl, hputX _ _ _ _ hx3 (.inr rfl) hl3 rfl, World.putObj_heap_same (Array.getElem?_eq_some_iff.1 hl3).1, (World.putObj_heap_other (by omega)).trans hd3⟩⟩

/-- .. where what is yielded is laid into a block of its own. -/
theorem rangeFunc_laid {P : Program} {n : Nat} {g : Operand} {ps : Array Tmp} {assign body : Code} {Q : Exit → Act → World → Prop} {a : Act} {w : World} (h1 : 1 ≤ n) {gf : Nat} {lb : Array Value}
    (hg : a.eval g = .func (.func gf) #[] lb) (eg : ∀ args w, (callFunc gf args).run P w = .ok (.enter gf args) w) (hps : ps.size = 1) (val : Nat → Value) (oid : Option Nat)
    (I : Nat → World → Prop) (X : World → Prop) (len : Nat)
    (hput : ∀ k W l o o', I k W → (l = w.heap.size ∨ l = w.heap.size + 1) → W.heap[l]? = some o → o.isCells = false → I k (W.putObj l o'))
    (hputX : ∀ W l o o', X W → (l = w.heap.size ∨ l = w.heap.size + 1) → W.heap[l]? = some o → o.isCells = false → X (W.putObj l o')) (hnew : ∀ k W o, I k W → I k (W.alloc o))
    (h0 : I 0 w) (a₁ : Nat → Nat → Act) (ob : Nat → Obj)
    (hseq : ∀ (J : Nat → World → Prop) (Y : World → Prop) (W : World), (∀ k W, J k W → I k W) → (∀ k W W', J k W → I k W' → Touch W W' [] → J k W') → J 0 W → (∀ k W, k < len → J k W → YieldAt Fence.wide (n - 1 - 1) P (w.heap.size + 1) #[val k] W (YPost J Y k)) →
      CallsIn Fence.wide (n - 1) P gf (#[.func (.yield (w.heap.size + 1)) #[] #[]] ++ lb) W fun e W' => (∃ v, e = .returned v) ∧ (J len W' ∨ Y W'))
    (hassign : ∀ (l k : Nat) (W : World) (K : Act → World → Prop), K (a₁ k W.heap.size) (W.alloc (ob k)) →
      assign.wpIn (Fence.wide.inRound l) (n - 1 - 1) P (Exit.then K (fun _ _ _ => False)) { tmps := (ps.zip #[val k]).foldl (fun t (p, v) => t.setIfInBounds p v) a.tmps, defers := [] } W)
    (hbody : ∀ (l k s : Nat) (W : World), k < len → I k W → W.heap[s]? = some (ob k) → w.heap.size + 2 ≤ s → body.wpIn (Fence.wide.inRound l) (n - 1 - 1) P (BPost I X oid W k) (a₁ k s) W)
    (hdone : ∀ (W : World), I len W → W.heap[w.heap.size]? = some (.deferred (some [])) → Q .normal { a with defers := { target := .collected w.heap.size, args := #[] } :: a.defers } W)
    (hleft : ∀ (W : World), X W → W.heap[w.heap.size]? = some (.deferred (some [])) → (jC oid).wpIn Fence.wide n P Q { a with defers := { target := .collected w.heap.size, args := #[] } :: a.defers } W) :
    (Code.rangeFunc g ps assign body).wpIn Fence.wide n P Q a w := by
  refine wpIn_rangeFunc fun fn hfn => ?_
  obtain ⟨r0, hr0⟩ : ∃ r0, recAt fn a ps assign body w.heap.size .ready none = r0 := ⟨_, rfl⟩
  obtain ⟨rx, hrx⟩ : ∃ rx, recAt fn a ps assign body w.heap.size .done (some (jC oid)) = rx := ⟨_, rfl⟩
  have hk0 : ((w.alloc (.deferred (some []))).alloc (.loop r0)).heap[w.heap.size]? = some (.deferred (some [])) := (Below.heap_alloc _ _ _ (by simp)).trans (World.alloc_heap_new w _)
  have hl0 : ((w.alloc (.deferred (some []))).alloc (.loop r0)).heap[w.heap.size + 1]? = some (.loop r0) := by
    have := World.alloc_heap_new (w.alloc (.deferred (some []))) (.loop r0)
    rwa [World.size_alloc] at this
  have hs := hseq (Kept I r0 (w.heap.size + 1) w.heap.size) (LeftX X rx (w.heap.size + 1) w.heap.size) ((w.alloc (.deferred (some []))).alloc (.loop r0))
    (fun k W h => h.1) (fun k W W' h hi t => ⟨hi, (t.block _ (lt_of_heap h.2.1) (by simp)).trans h.2.1, (t.block _ (lt_of_heap h.2.2) (by simp)).trans h.2.2⟩) ⟨hnew _ _ _ (hnew _ _ _ h0), hl0, hk0⟩ ?_
  · refine ⟨w.heap.size + 1, [{ target := .collected w.heap.size, args := #[] }], (w.alloc (.deferred (some []))).alloc (.loop r0), { target := .fn (.func gf) lb, args := #[.func (.yield (w.heap.size + 1)) #[] #[]] }, (w.alloc (.deferred (some []))).alloc (.loop r0), gf,
      #[.func (.yield (w.heap.size + 1)) #[] #[]] ++ lb, (w.alloc (.deferred (some []))).alloc (.loop r0), ?_, ?_, ?_, ?_, fun _ => h1, ?_⟩
    · rw [← hr0]; exact run_enterLoop_outer _ _ _ _ _
    · simp only [resolve, hg]
      simp [go_sem]
    · intro f' hf'; trivial
    · simp [invoke, go_sem, eg]
    · refine hs.mono ?_
      rintro e W2 ⟨⟨v, rfl⟩, (⟨hi, hl, hd⟩ | ⟨hx, hl, hd⟩)⟩
      · have hen := run_endLoop (P := P) hl (by rw [← hr0]; simp [recAt])
        have hp : r0.pending = none := by rw [← hr0]; rfl
        rw [hp] at hen
        exact ⟨none, _, hen, hdone _ (hput _ _ _ _ _ hi (.inr rfl) hl rfl) ((World.putObj_heap_other (by omega)).trans hd)⟩
      · have hen := run_endLoop (P := P) hl (by rw [← hrx]; simp [recAt])
        have hp : rx.pending = some (jC oid) := by rw [← hrx]; rfl
        rw [hp] at hen
        exact ⟨some (jC oid), _, hen, hleft _ (hputX _ _ _ _ hx (.inr rfl) hl rfl) ((World.putObj_heap_other (by omega)).trans hd)⟩
  · rintro k W hk ⟨hi, hl, hd⟩
    have hlt : w.heap.size + 1 < W.heap.size := (Array.getElem?_eq_some_iff.1 hl).1
    have hy := run_yield (P := P) (args := #[val k]) hl (by rw [← hr0]; simp [recAt, hps])
    refine ⟨_, _, _, _, hy, roundIn_of_wpIn (by trivial) ?_⟩
    have hla : (W.alloc (ob k)).heap[w.heap.size + 1]? = some (.loop r0) := (Below.heap_alloc _ _ _ hlt).trans hl
    have hda : (W.alloc (ob k)).heap[w.heap.size]? = some (.deferred (some [])) := (Below.heap_alloc _ _ _ (by omega)).trans hd
    have hbe := run_beginRound (P := P) hla (by rw [← hr0]; rfl)
    subst hr0
    subst hrx
    refine hassign _ k W _ ⟨_, hbe, ?_⟩
    have hl2 : ((W.alloc (ob k)).putObj (w.heap.size + 1) (.loop { recAt fn a ps assign body w.heap.size .ready none with state := .busy })).heap[w.heap.size + 1]? = some (.loop { recAt fn a ps assign body w.heap.size .ready none with state := .busy }) := World.putObj_heap_same (by rw [World.size_alloc]; omega)
    have hd2 : ((W.alloc (ob k)).putObj (w.heap.size + 1) (.loop { recAt fn a ps assign body w.heap.size .ready none with state := .busy })).heap[w.heap.size]? = some (.deferred (some [])) := (World.putObj_heap_other (by omega)).trans hda
    refine wpIn_mono (hbody _ k W.heap.size _ hk (hput _ _ _ _ _ (hnew _ _ (ob k) hi) (.inr rfl) hla rfl) ((World.putObj_heap_other (by omega)).trans (World.alloc_heap_new W _)) (by omega)) ?_
    rintro e a3 W3 ⟨hko, (⟨rfl, hi3⟩ | ⟨rfl, hx3⟩)⟩
    · have hl3 := hko.same _ _ hl2 rfl
      have hd3 := hko.same _ _ hd2 rfl
      have hen := run_endRound (P := P) none hl3
      exact ⟨_, _, hen, .inl ⟨rfl, hput _ _ _ _ _ hi3 (.inr rfl) hl3 rfl, World.putObj_heap_same (Array.getElem?_eq_some_iff.1 hl3).1, (World.putObj_heap_other (by omega)).trans hd3⟩⟩
    · have hl3 := hko.same _ _ hl2 rfl
      have hd3 := hko.same _ _ hd2 rfl
      cases oid with
      | none =>
        have hen := run_endRound (P := P) (some .ret) hl3
        exact ⟨_, _, hen, .inr ⟨rfl, hputX _ _ _ _ hx3 (.inr rfl) hl3 rfl, World.putObj_heap_same (Array.getElem?_eq_some_iff.1 hl3).1, (World.putObj_heap_other (by omega)).trans hd3⟩⟩
      | some i =>
        have hen := run_endRound (P := P) (some (.exit i)) hl3
        exact ⟨_, _, hen, .inr ⟨rfl, hputX _ _ _ _ hx3 (.inr rfl) hl3 rfl, World.putObj_heap_same (Array.getElem?_eq_some_iff.1 hl3).1, (World.putObj_heap_other (by omega)).trans hd3⟩⟩

end Go.Proofs.YtmiaibpdeofokaaGreatDoor
/-
  package writes: FRAMES AS PLAIN DATA, and the map that is one. No walk.
-/
namespace Go.Proofs.YtmiaibpdeofokaaGreatDoor
set_option linter.unusedVariables false
set_option linter.unusedSimpArgs false
open Go.RowKit Go.Maps

/-- A frame: of each of the twelve variables its value, or none. -/
abbrev Fr := List (Option Int)
def fget (f : Fr) (t : Int) : Option Int := if 0 ≤ t then f.getD t.toNat none else none
def fput (f : Fr) (t v : Int) : Fr := f.set t.toNat (some v)
/-- f above g. -/
def fover (f g : Fr) : Fr := List.zipWith Option.or f g
def fcnt (f : Fr) : Nat := (f.filter Option.isSome).length
def f0 : Fr := List.replicate 12 none
structure FrOk (f : Fr) : Prop where
  len : f.length = 12
  wf : ∀ v, some v ∈ f → Wf64 v

theorem FrOk.f0 : FrOk f0 := ⟨by simp [Go.Proofs.YtmiaibpdeofokaaGreatDoor.f0], by intro v h; simp [Go.Proofs.YtmiaibpdeofokaaGreatDoor.f0] at h⟩
theorem FrOk.put {f : Fr} (h : FrOk f) {t v : Int} (hv : Wf64 v) : FrOk (fput f t v) :=
  ⟨by simp [fput, h.len], fun u hu => by
    rcases List.mem_or_eq_of_mem_set hu with h1 | h1
    · exact h.wf u h1
    · cases h1; exact hv⟩
theorem FrOk.over {f g : Fr} (h : FrOk f) (k : FrOk g) : FrOk (fover f g) :=
  ⟨by simp [fover, h.len, k.len], fun u hu => by
    obtain ⟨i, hi, e⟩ := List.getElem_of_mem hu
    simp only [fover, List.getElem_zipWith] at e
    simp only [fover, List.length_zipWith] at hi
    cases hf : f[i] with
    | none => rw [hf] at e; exact k.wf u (by simp at e; rw [← e]; exact List.getElem_mem _)
    | some v => rw [hf] at e; simp at e; subst e; exact h.wf _ (by rw [← hf]; exact List.getElem_mem _)⟩
theorem fcnt_le {f : Fr} (h : FrOk f) : fcnt f ≤ 12 := by
  have := List.length_filter_le Option.isSome f
  rw [h.len] at this
  exact this
theorem fget_wf {f : Fr} (h : FrOk f) {t v : Int} (hg : fget f t = some v) : Wf64 v := by
  unfold fget at hg
  split at hg
  · refine h.wf v ?_
    rw [List.getD_eq_getElem?_getD] at hg
    cases hq : f[t.toNat]? with
    | none => rw [hq] at hg; cases hg
    | some o => rw [hq] at hg; simp at hg; subst hg; exact List.mem_of_getElem? hq
  · cases hg
theorem fget_range {f : Fr} (h : FrOk f) {t v : Int} (hg : fget f t = some v) : 0 ≤ t ∧ t < 12 := by
  unfold fget at hg
  split at hg
  · rename_i h0
    refine ⟨h0, ?_⟩
    rw [List.getD_eq_getElem?_getD] at hg
    cases hq : f[t.toNat]? with
    | none => rw [hq] at hg; cases hg
    | some o => have := (List.getElem?_eq_some_iff.1 hq).1; rw [h.len] at this; omega
  · cases hg
theorem fget_put {f : Fr} (h : FrOk f) {t : Int} (ht : 0 ≤ t ∧ t < 12) (v s : Int) : fget (fput f t v) s = if s = t then some v else fget f s := by
  unfold fget fput
  by_cases h0 : 0 ≤ s
  · rw [if_pos h0, if_pos h0, List.getD_eq_getElem?_getD, List.getD_eq_getElem?_getD, List.getElem?_set]
    by_cases e : s = t
    · subst e; rw [if_pos rfl, if_pos (by rw [h.len]; omega), if_pos rfl]; rfl
    · rw [if_neg (by omega), if_neg e]
  · rw [if_neg h0, if_neg h0, if_neg (by omega)]
theorem fget_over {f g : Fr} (h : FrOk f) (k : FrOk g) (s : Int) : fget (fover f g) s = (fget f s).or (fget g s) := by
  unfold fget fover
  by_cases h0 : 0 ≤ s
  · rw [if_pos h0, if_pos h0, if_pos h0, List.getD_eq_getElem?_getD, List.getD_eq_getElem?_getD, List.getD_eq_getElem?_getD, List.getElem?_zipWith]
    by_cases hs : s.toNat < 12
    · rw [List.getElem?_eq_getElem (by rw [h.len]; exact hs), List.getElem?_eq_getElem (by rw [k.len]; exact hs)]; rfl
    · rw [List.getElem?_eq_none (by rw [h.len]; omega), List.getElem?_eq_none (by rw [k.len]; omega)]; rfl
  · rw [if_neg h0, if_neg h0, if_neg h0]; rfl
theorem fget_f0 (s : Int) : fget f0 s = none := by
  unfold fget f0
  split
  · rw [List.getD_eq_getElem?_getD, List.getElem?_replicate]; split <;> rfl
  · rfl

/-- The map's entries from a place on. -/
def entsF : Nat → Fr → List (Lit × DataW Unit)
  | _, [] => []
  | k, none :: l => entsF (k + 1) l
  | k, some v :: l => (.int .i64 k, .lit (.int .u64 v)) :: entsF (k + 1) l
def frameD (f : Fr) : DataW Unit := .map (entsF 0 f)

theorem entsF_mem : ∀ (l : Fr) (k : Nat) (p), p ∈ entsF k l → ∃ i : Nat, k ≤ i ∧ p.1 = .int .i64 i
  | [], _, _, h => by simp [entsF] at h
  | none :: l, k, p, h => by obtain ⟨i, hi, e⟩ := entsF_mem l (k + 1) p h; exact ⟨i, by omega, e⟩
  | some v :: l, k, p, h => by
    simp only [entsF, List.mem_cons] at h
    rcases h with rfl | h
    · exact ⟨k, Nat.le_refl _, rfl⟩
    · obtain ⟨i, hi, e⟩ := entsF_mem l (k + 1) p h; exact ⟨i, by omega, e⟩

theorem entsF_len : ∀ (l : Fr) (k : Nat), (entsF k l).length = fcnt l
  | [], _ => rfl
  | none :: l, k => by rw [entsF, entsF_len l]; simp [fcnt]
  | some v :: l, k => by rw [entsF, List.length_cons, entsF_len l]; simp [fcnt]

theorem entsF_rises : ∀ (l : Fr) (k : Nat), (entsF k l).Pairwise (fun p q => p.1.before q.1 = true)
  | [], _ => List.Pairwise.nil
  | none :: l, k => entsF_rises l (k + 1)
  | some v :: l, k => by
    rw [entsF, List.pairwise_cons]
    refine ⟨fun p hp => ?_, entsF_rises l (k + 1)⟩
    obtain ⟨i, hi, e⟩ := entsF_mem l (k + 1) p hp
    rw [e]
    simp only [Lit.before, decide_eq_true_eq]
    omega

theorem canon_frame (f : Fr) : Canon (frameD f) := ⟨_, rfl, entsF_rises f 0, fun p hp => by
  obtain ⟨i, _, e⟩ := entsF_mem f 0 p hp
  rw [e]; trivial⟩
theorem isMap_frame (f : Fr) : IsMap (frameD f) := ⟨_, rfl⟩
theorem size_frame (f : Fr) : Maps.size (frameD f) = fcnt f := entsF_len f 0
theorem apart_frame (f : Fr) : (entsF 0 f).Pairwise (fun p q => p.1 ≠ q.1) := apart_of_rising (entsF_rises f 0)

/-- What a key says. -/
def fkey (k : Nat) (l : Fr) : Lit → Option Int
  | .int .i64 t => if (k : Int) ≤ t then l.getD (t - k).toNat none else none
  | _ => none

theorem find_ents : ∀ (l : Fr) (k : Nat) (x : Lit), (entsF k l).find? (fun p => p.1.sameKey x) = (fkey k l x).map fun v => (x, .lit (.int .u64 v))
  | [], k, x => by
    have : fkey k [] x = none := by
      unfold fkey
      split
      · split <;> simp
      · rfl
    rw [this]; rfl
  | o :: l, k, x => by
    have ih := find_ents l (k + 1) x
    have hk : x ≠ .int .i64 k → fkey k (o :: l) x = fkey (k + 1) l x := by
      intro hx
      unfold fkey
      split
      · rename_i t
        have ht : t ≠ k := fun e => hx (by rw [e])
        by_cases h1 : (k : Int) ≤ t
        · have h2 : ((k + 1 : Nat) : Int) ≤ t := by omega
          rw [if_pos h1, if_pos h2]
          have e : (t - k).toNat = (t - (k + 1 : Nat)).toNat + 1 := by omega
          rw [e, List.getD_cons_succ]
        · rw [if_neg h1, if_neg (by omega)]
      · rfl
    by_cases hx : x = .int .i64 k
    · have he : fkey k (o :: l) x = o := by
        subst hx
        unfold fkey
        simp
      have hn : fkey (k + 1) l x = none := by
        subst hx
        show (if ((k + 1 : Nat) : Int) ≤ (k : Int) then _ else none) = none
        rw [if_neg (by omega)]
      rw [he]
      cases o with
      | none => rw [entsF, ih, hn]
      | some v => rw [entsF, List.find?_cons_of_pos (by rw [hx]; exact WideAt.sameKey_self trivial), hx]; rfl
    · rw [hk hx, ← ih]
      cases o with
      | none => rw [entsF]
      | some v => rw [entsF, List.find?_cons_of_neg (by rw [sameKey_ne (Ne.symm hx)]; simp)]

theorem fkey_int (f : Fr) (t : Int) : fkey 0 f (.int .i64 t) = fget f t := by
  unfold fkey fget
  simp

theorem has_frame (f : Fr) (x : Lit) : has (frameD f) x = (fkey 0 f x).isSome := by
  unfold frameD
  rw [has_eq]
  have := find_ents f 0 x
  cases hq : fkey 0 f x with
  | none => rw [hq] at this; rw [List.any_eq_false.2 (fun p hp => by simpa using List.find?_eq_none.1 this p hp)]; rfl
  | some v => rw [hq] at this; exact List.any_eq_true.2 ⟨_, List.mem_of_find?_eq_some this, List.find?_some (p := fun (q : Lit × DataW Unit) => q.1.sameKey x) this⟩

theorem at_frame (f : Fr) (x : Lit) (z : DataW Unit) : (frameD f).atKey x z = match fkey 0 f x with | some v => .lit (.int .u64 v) | none => z := by
  unfold frameD DataW.atKey
  simp only
  rw [find_ents f 0 x]
  cases fkey 0 f x <;> rfl

theorem fkey_put_same {f : Fr} (h : FrOk f) {t : Int} (ht : 0 ≤ t ∧ t < 12) (v : Int) : fkey 0 (fput f t v) (.int .i64 t) = some v := by
  rw [fkey_int, fget_put h ht, if_pos rfl]
theorem fkey_put_other {f : Fr} (h : FrOk f) {t : Int} (ht : 0 ≤ t ∧ t < 12) (v : Int) {x : Lit} (e : x ≠ .int .i64 t) : fkey 0 (fput f t v) x = fkey 0 f x := by
  by_cases hx : ∃ s, x = .int .i64 s
  · obtain ⟨s, rfl⟩ := hx
    rw [fkey_int, fkey_int, fget_put h ht, if_neg (fun hs => e (by rw [hs]))]
  · unfold fkey
    split
    · exact absurd ⟨_, rfl⟩ hx
    · rfl

theorem fkey_over {f g : Fr} (h : FrOk f) (k : FrOk g) (x : Lit) : fkey 0 (fover f g) x = (fkey 0 f x).or (fkey 0 g x) := by
  by_cases hx : ∃ s, x = .int .i64 s
  · obtain ⟨s, rfl⟩ := hx
    rw [fkey_int, fkey_int, fkey_int, fget_over h k]
  · unfold fkey
    split
    · exact absurd ⟨_, rfl⟩ hx
    · rfl

theorem frame_put {f : Fr} (h : FrOk f) {t : Int} (ht : 0 ≤ t ∧ t < 12) (v : Int) (c : Canon ((frameD f).put (.int .i64 t) (.lit (.int .u64 v)))) :
    (frameD f).put (.int .i64 t) (.lit (.int .u64 v)) = frameD (fput f t v) := by
  refine Maps.ext c (canon_frame _) (fun x => ?_) (fun x z _ => ?_)
  · rw [has_frame]
    by_cases e : x = .int .i64 t
    · subst e; rw [has_put_same (isMap_frame f) (by trivial), fkey_put_same h ht]; rfl
    · rw [has_put_other e, has_frame, fkey_put_other h ht v e]
  · rw [at_frame]
    by_cases e : x = .int .i64 t
    · subst e; rw [atKey_put_same (isMap_frame f) (by trivial), fkey_put_same h ht]
    · rw [atKey_put_other e, at_frame, fkey_put_other h ht v e]

theorem frame_over {f g : Fr} (h : FrOk f) (k : FrOk g) (c : Canon (Lib.mergeD (frameD g) (frameD f))) : Lib.mergeD (frameD g) (frameD f) = frameD (fover f g) := by
  have kl : ∀ p ∈ entsF 0 f, WideAt.IsKeyLit p.1 := fun p hp => by obtain ⟨i, _, e⟩ := entsF_mem f 0 p hp; rw [e]; trivial
  refine Maps.ext c (canon_frame _) (fun x => ?_) (fun x z _ => ?_)
  · rw [has_frame, fkey_over h k]
    have e : has (Lib.mergeD (frameD g) (frameD f)) x = (has (frameD g) x || has (frameD f) x) := has_foldPut x (entsF 0 f) (frameD g) (isMap_frame g) kl
    rw [e, has_frame, has_frame]
    cases fkey 0 f x <;> cases fkey 0 g x <;> rfl
  · rw [at_frame, fkey_over h k]
    have e : Lib.mergeD (frameD g) (frameD f) = (entsF 0 f).foldl (fun D p => D.put p.1 p.2) (frameD g) := rfl
    rw [e, atKey_foldPut x z (entsF 0 f) (frameD g) (isMap_frame g) kl (apart_frame f), find_ents f 0 x, at_frame]
    cases fkey 0 f x <;> rfl

theorem frame_zero : frameD f0 = .map [] := rfl

/-- A block is a frame. -/
structure FrAt (w : World) (m : Nat) (f : Fr) : Prop where
  own : w.ownsMap Tryz.prog 3 (plainElem (H := Unit) Tryz.prog 48) m 12 (frameD f)
  ok : FrOk f

theorem owns_tight {w : World} {P : Program} {k : TypeId} {R : Value → Option (DataW Unit × List MemPlace)} {b n : Nat} {D : DataW Unit} (h : w.ownsMap P k R b n D) : w.ownsMap P k R b (Maps.size D) D := by
  obtain ⟨es, clock, hb, F, hs, rfl⟩ := h
  exact ⟨es, clock, hb, F, by simp [Maps.size, length_sorted], rfl⟩

theorem Tryz.keyed : Keyed Tryz.prog 3 := int_keyed Tryz.underlying3
theorem Tryz.keyI {t : Int} (h : -9223372036854775808 ≤ t ∧ t ≤ 9223372036854775807) : keyOf Tryz.prog 3 (.int .i64 t) = some (.int .i64 t) :=
  keyOf_int_mk Tryz.underlying3 (by simp [Lit.wf, IntKind.min, IntKind.max, IntKind.signed, IntKind.bits]; omega)

theorem FrAt.mk' {w : World} {m n : Nat} {f : Fr} (h : w.ownsMap Tryz.prog 3 (plainElem (H := Unit) Tryz.prog 48) m n (frameD f)) (ok : FrOk f) : FrAt w m f :=
  ⟨(owns_tight h).mono (by rw [size_frame]; exact fcnt_le ok), ok⟩

theorem FrAt.touch {w w' : World} {m : Nat} {f : Fr} {S : List Nat} (h : FrAt w m f) (t : Touch w w' S) (hS : m ∉ S) : FrAt w' m f := by
  obtain ⟨⟨es, clock, hb, rest⟩, ok⟩ := h
  exact ⟨⟨es, clock, (t.block _ (lt_of_heap hb) hS).trans hb, rest⟩, ok⟩

theorem FrAt.lt {w : World} {m : Nat} {f : Fr} (h : FrAt w m f) : m < w.heap.size := h.own.lt
theorem FrAt.isMap {w : World} {m : Nat} {f : Fr} (h : FrAt w m f) : ∃ es c, w.heap[m]? = some (.map es c) := by
  obtain ⟨⟨es, clock, hb, rest⟩, ok⟩ := h
  exact ⟨es, clock, hb⟩

/-- What a look at a frame tells. -/
theorem FrAt.look {w : World} {m : Nat} {f : Fr} (h : FrAt w m f) {t : Int} (ht : -9223372036854775808 ≤ t ∧ t ≤ 9223372036854775807) :
    (Instr.lookup 140 (.map (some m)) (.int .i64 t) true).run Tryz.prog w = .ok (.tuple #[.int .u64 ((fget f t).getD 0), .bool (fget f t).isSome]) w := by
  obtain ⟨v, ps, hrun, hv⟩ := h.own.look_ok Tryz.keyed Tryz.underlying140 (Tryz.zeroValue48 w) (plainElem_int Tryz.underlying48 (by decide)) (Tryz.keyI ht)
  obtain ⟨c, rfl, hc, _⟩ := plainElem_int_inv Tryz.underlying48 hv
  have hc := congrArg Prod.fst hc
  rw [has_frame, fkey_int] at hrun
  simp only [at_frame, fkey_int] at hc
  rw [hrun]
  cases hq : fget f t with
  | none => rw [hq] at hc; simp at hc; subst hc; rfl
  | some x => rw [hq] at hc; simp at hc; subst hc; rfl

theorem FrAt.len {w : World} {m : Nat} {f : Fr} (h : FrAt w m f) (ty : TypeId) : (Builtin.len_ #[140] ty #[.map (some m)]).run Tryz.prog w = .ok (.int .i64 (fcnt f)) w := by
  rw [h.own.len Tryz.underlying140, size_frame]

/-- One variable more. -/
theorem FrAt.store {w : World} {m : Nat} {f : Fr} (h : FrAt w m f) {t v : Int} (ht : 0 ≤ t ∧ t < 12) (hv : Wf64 v) :
    ∃ w', (Instr.mapUpdate 140 (.map (some m)) (.int .i64 t) (.int .u64 v)).run Tryz.prog w = .ok () w' ∧ FrAt w' m (fput f t v) ∧ Touch w w' [m] := by
  obtain ⟨w', hrun, ho, hg⟩ := h.own.update Tryz.keyed Tryz.underlying140 (by unfold maxLen; omega) (Tryz.keyI (t := t) (by omega)) (plainElem_int Tryz.underlying48 (a := v) (by unfold Wf64 at hv; simp [Lit.wf, IntKind.min, IntKind.max, IntKind.signed, IntKind.bits]; omega))
  refine ⟨w', hrun, FrAt.mk' (n := 13) ?_ (h.ok.put hv), ⟨hg.os, hg.tape, hg.output, hg.size, fun k hk hne => hg.block k hk (fun e => hne (by cases e; simp))⟩⟩
  · rw [← frame_put h.ok ht v (ho.canon Tryz.keyed)]
    exact ho

end Go.Proofs.YtmiaibpdeofokaaGreatDoor
/-
  package writes: WHAT A LOG IS: frames that are linked from the uppermost on; the walk down.
-/
namespace Go.Proofs.YtmiaibpdeofokaaGreatDoor
set_option linter.unusedVariables false
set_option linter.unusedSimpArgs false
open Go.RowKit Go.Maps Go.Shelf

abbrev ptr (b : Nat) : Value := .pointer (some ⟨b, 0, none⟩)
/-- The uppermost one. -/
def hp : List (Nat × Nat) → Value
  | [] => .pointer none
  | (n, _) :: _ => ptr n
abbrev nodeC (m : Nat) (below : Value) : Obj := .cells #[.map (some m), below] 142 (0, 0)

/-- Where the links lie. -/
def Nodes (w : World) (ch : List (Nat × Nat)) : Prop := ∀ k (h : k < ch.length), w.heap[ch[k].1]? = some (nodeC ch[k].2 (hp (ch.drop (k + 1))))
theorem Nodes.touch {w w' : World} {ch : List (Nat × Nat)} {S : List Nat} (h : Nodes w ch) (t : Touch w w' S) (hS : ∀ p ∈ ch, p.1 ∉ S) : Nodes w' ch :=
  fun k hk => (t.block _ (lt_of_heap (h k hk)) (hS _ (List.getElem_mem hk))).trans (h k hk)
theorem Nodes.drop {w : World} {ch : List (Nat × Nat)} (h : Nodes w ch) (j : Nat) : Nodes w (ch.drop j) := fun k hk => by
  have hk' : j + k < ch.length := by simp at hk; omega
  have := h (j + k) hk'
  simp only [List.getElem_drop, List.drop_drop]
  rw [show j + (k + 1) = j + k + 1 by omega]
  exact this

theorem hp_drop {ch : List (Nat × Nat)} {k : Nat} (h : k < ch.length) : hp (ch.drop k) = ptr ch[k].1 := by
  rw [List.drop_eq_getElem_cons h]; rfl
theorem hp_end {ch : List (Nat × Nat)} : hp (ch.drop ch.length) = .pointer none := by rw [List.drop_length]; rfl

def nodeOf : Value → Option Nat
  | .pointer (some a) => some a.block
  | _ => none
/-- How many are left. -/
def chLeft : List (Nat × Nat) → Value → Nat
  | [], _ => 0
  | (n, _) :: r, v => if nodeOf v = some n then r.length + 1 else chLeft r v
theorem nodeOf_hp (r : List (Nat × Nat)) (n : Nat) (h : n ∉ r.map Prod.fst) : nodeOf (hp r) ≠ some n := by
  cases r with
  | nil => intro e; cases e
  | cons a r => intro e; simp only [hp, nodeOf] at e; cases e; simp at h
theorem chLeft_drop : ∀ (ch : List (Nat × Nat)) (k : Nat), (ch.map Prod.fst).Nodup → chLeft ch (hp (ch.drop k)) = ch.length - k
  | [], k, _ => by simp [chLeft]
  | (n, m) :: r, 0, _ => by simp [chLeft, hp, nodeOf]
  | (n, m) :: r, k + 1, h => by
    simp only [List.map_cons, List.nodup_cons] at h
    simp only [List.drop_succ_cons, chLeft]
    rw [if_neg (nodeOf_hp _ _ (fun hm => h.1 (by
      rw [List.mem_map] at hm ⊢
      obtain ⟨p, hp, e⟩ := hm
      exact ⟨p, List.mem_of_mem_drop hp, e⟩))), chLeft_drop r k h.2]
    simp

/-- What is yielded. -/
abbrev mapAt (ch : List (Nat × Nat)) (k : Nat) : Value := .map (some (ch.getD k (0, 0)).2)

theorem hp_is (ch : List (Nat × Nat)) : ∃ p, hp ch = .pointer p := by cases ch <;> exact ⟨_, rfl⟩

theorem down_any (ch : List (Nat × Nat)) (w : World) : Calls Tryz.prog 98 #[hp ch] w fun e w' => e = .returned (.func (.func 126) #[] #[ptr w.heap.size]) ∧ w' = w.alloc (.cells #[hp ch] 138) := by
  obtain ⟨p, hp'⟩ := hp_is ch
  rw [hp']
  clear hp'
  go_enter Tryz.func98, Tryz.ntmps98
  go_wp2
  go_ret
  exact ⟨by simp, rfl⟩

set_option maxRecDepth 100000 in
set_option maxHeartbeats 1000000 in
theorem down1_in (n : Nat) (hn : 1 ≤ n) (l B0 : Nat) (ch : List (Nat × Nat)) (hnd : (ch.map Prod.fst).Nodup) (J : Nat → World → Prop) (X : World → Prop)
    (hT : ∀ k W, J k W → W.cell? ⟨B0, 0, none⟩ = some (hp ch) ∧ Nodes W ch)
    (hY : ∀ k W, k < ch.length → J k W → YieldAt Fence.wide (n - 1) Tryz.prog l #[mapAt ch k] W (YPost J X k))
    (W : World) (h0 : J 0 W) :
    CallsIn Fence.wide n Tryz.prog 126 #[.func (.yield l) #[] #[], ptr B0] W fun e W' => (∃ v, e = .returned v) ∧ (J ch.length W' ∨ X W') := by
  have HT : Hid _ := hT
  have HY : Hid _ := hY
  have HO : Hid _ := h0
  obtain ⟨c0, _⟩ := hT 0 W h0
  clear hT hY h0
  refine callsIn_of_wp Tryz.func126 rfl trivial ?_ rfl
  simp only [Tryz.ntmps126, List.size_toArray, List.length_cons, List.length_nil, Nat.reduceAdd, Nat.reduceSub, Array.replicate_succ, Array.replicate_zero, List.push_toArray, List.append_toArray, List.nil_append, List.cons_append]
  gi_wp2_with fail
  gi_loopw [3] (fun v wr => ∃ k : Nat, v = hp (ch.drop k) ∧ k ≤ ch.length ∧ J k wr) (fun v _ => chLeft ch v)
  case atStart => exact ⟨0, rfl, by omega, HO.out⟩
  case round =>
    obtain ⟨k, rfl, hk, hJ⟩ := hrel
    clear HO c0
    obtain ⟨_, hN⟩ := HT.out k wr hJ
    have HJ : Hid _ := hJ
    by_cases hlt : k < ch.length
    · have hm1 := chLeft_drop ch k hnd
      have hm2 := chLeft_drop ch (k + 1) hnd
      have hnk := hN k hlt
      rw [hp_drop hlt] at hm1 ⊢
      have d0 : wr.cell? ⟨ch[k].1, 0, none⟩ = some (mapAt ch k) := by
        simp [World.cell?, hnk, mapAt, List.getD_eq_getElem?_getD, List.getElem?_eq_getElem hlt]
      obtain ⟨fn, tmps, assign, body, hy, hR⟩ := HY.out k wr hlt hJ
      clear hN hnk hJ
      gi_wp2
      refine hR.mono ?_
      rintro e W3 (⟨rfl, hJ3⟩ | ⟨rfl, hX⟩)
      · obtain ⟨_, hN3⟩ := HT.out (k + 1) W3 hJ3
        have d1 : W3.cell? ⟨ch[k].1, 1, none⟩ = some (hp (ch.drop (k + 1))) := by
          simp [World.cell?, hN3 k hlt]
        have HJ3 : Hid _ := hJ3
        clear hJ3 hN3 hR hy
        gi_wp2
        go_roundw
        case rel => exact ⟨k + 1, rfl, by omega, HJ3.out⟩
        case measure => rw [hm1, hm2]; omega
      · have HX : Hid _ := hX
        clear hX hR hy
        gi_wp2
        refine bodyPost_ret (v := .tuple #[]) ?_ rfl ⟨⟨_, rfl⟩, .inr HX.out⟩
        simp [results, Tryz.results126]
    · obtain rfl : k = ch.length := by omega
      rw [hp_end]
      clear hN hJ
      gi_wp2
      go_end0
      exact ⟨⟨_, rfl⟩, .inl HJ.out⟩

/-- A log: frames from the uppermost on. -/
structure PLog (B : Nat) (w : World) (b : Nat) (ch : List (Nat × Nat)) (Fs : List Fr) : Prop where
  hb : B ≤ b
  hn : ∀ p ∈ ch, B ≤ p.1 ∧ B ≤ p.2
  st : w.heap[b]? = some (.cells #[hp ch] 144 (0, 0))
  nodes : Nodes w ch
  len : ch.length = Fs.length
  fr : ∀ k (h : k < ch.length) (h' : k < Fs.length), FrAt w ch[k].2 Fs[k]
  ndn : (ch.map Prod.fst).Nodup
  ndm : (ch.map Prod.snd).Nodup
  pos : 0 < ch.length
  le : ch.length ≤ 5
def pfoot (b : Nat) (ch : List (Nat × Nat)) : List Nat := b :: (ch.map Prod.fst ++ ch.map Prod.snd)

theorem PLog.keep {B : Nat} {w w' : World} {b : Nat} {ch : List (Nat × Nat)} {Fs : List Fr} {S : List Nat} (h : PLog B w b ch Fs) (t : Touch w w' S) (hS : ∀ x ∈ pfoot b ch, x ∉ S) : PLog B w' b ch Fs :=
  { h with
    st := (t.block _ (lt_of_heap h.st) (hS _ (by simp [pfoot]))).trans h.st
    nodes := h.nodes.touch t (fun p hp => hS _ (by simp only [pfoot, List.mem_cons, List.mem_append]; exact .inr (.inl (List.mem_map_of_mem hp))))
    fr := fun k hk hk' => (h.fr k hk hk').touch t (hS _ (by simp only [pfoot, List.mem_cons, List.mem_append]; exact .inr (.inr (List.mem_map_of_mem (List.getElem_mem hk))))) }
theorem PLog.foot_lt {B : Nat} {w : World} {b : Nat} {ch : List (Nat × Nat)} {Fs : List Fr} (h : PLog B w b ch Fs) : ∀ x ∈ pfoot b ch, B ≤ x ∧ x < w.heap.size := by
  intro x hx
  simp only [pfoot, List.mem_cons, List.mem_append, List.mem_map] at hx
  rcases hx with rfl | ⟨p, hp, rfl⟩ | ⟨p, hp, rfl⟩
  · exact ⟨h.hb, lt_of_heap h.st⟩
  · obtain ⟨i, hi, rfl⟩ := List.getElem_of_mem hp
    exact ⟨(h.hn _ hp).1, lt_of_heap (h.nodes i hi)⟩
  · obtain ⟨i, hi, rfl⟩ := List.getElem_of_mem hp
    exact ⟨(h.hn _ hp).2, (h.fr i hi (by rw [← h.len]; exact hi)).lt⟩
theorem PLog.cell {B : Nat} {w : World} {b : Nat} {ch : List (Nat × Nat)} {Fs : List Fr} (h : PLog B w b ch Fs) : w.cell? ⟨b, 0, none⟩ = some (hp ch) := by simp [World.cell?, h.st]
theorem PLog.frozen {B : Nat} {w : World} {b : Nat} {ch : List (Nat × Nat)} {Fs : List Fr} (h : PLog B w b ch Fs) : w.frozen? ⟨b, 0, none⟩ = false := by simp [World.frozen?, h.st]
theorem PLog.at {B : Nat} {w : World} {b : Nat} {ch : List (Nat × Nat)} {Fs : List Fr} (h : PLog B w b ch Fs) {k : Nat} (hk : k < ch.length) (hk' : k < Fs.length) : FrAt w (ch.getD k (0, 0)).2 Fs[k] := by
  have e : ch.getD k (0, 0) = ch[k] := by simp [List.getD_eq_getElem?_getD, List.getElem?_eq_getElem hk]
  rw [e]; exact h.fr k hk hk'
theorem PLog.touch {B : Nat} {w w' : World} {b : Nat} {ch : List (Nat × Nat)} {Fs : List Fr} (h : PLog B w b ch Fs) (t : Touch w w' []) : PLog B w' b ch Fs := h.keep t (by simp)

/-- What Get tells; how many values there are. -/
def getF (Fs : List Fr) (t : Int) : Option Int := Fs.findSome? fun f => fget f t
def lenF (Fs : List Fr) : Nat := (Fs.map fcnt).sum

end Go.Proofs.YtmiaibpdeofokaaGreatDoor
/-
  package writes: Depth, Len, Get BY THEIR CONTRACTS: loops over the function that yields.
-/
namespace Go.Proofs.YtmiaibpdeofokaaGreatDoor
set_option linter.unusedVariables false
set_option linter.unusedSimpArgs false
open Go.RowKit Go.Maps Go.Shelf
attribute [local go_sem] Oper.semAt_some

theorem lenF_snoc {Fs : List Fr} {k : Nat} (hk : k < Fs.length) : lenF (Fs.take (k + 1)) = lenF (Fs.take k) + fcnt Fs[k] := by
  unfold lenF
  rw [List.take_succ_eq_append_getElem hk, List.map_append, List.sum_append]
  simp
theorem lenF_le {B : Nat} {w : World} {b : Nat} {ch : List (Nat × Nat)} {Fs : List Fr} (h : PLog B w b ch Fs) (k : Nat) : lenF (Fs.take k) ≤ 60 := by
  have h5 : Fs.length ≤ 5 := by rw [← h.len]; exact h.le
  have : ∀ l : List Fr, (∀ f ∈ l, FrOk f) → lenF l ≤ 12 * l.length := by
    intro l
    induction l with
    | nil => intro _; simp [lenF]
    | cons a l ih =>
      intro hh
      have h1 := ih (fun f hf => hh f (List.mem_cons_of_mem _ hf))
      have h2 := fcnt_le (hh a (by simp))
      simp only [lenF, List.map_cons, List.sum_cons, List.length_cons] at h1 ⊢
      omega
  have h2 := this (Fs.take k) (fun f hf => by
    obtain ⟨i, hi, rfl⟩ := List.getElem_of_mem (List.mem_of_mem_take hf)
    exact (h.fr i (by rw [h.len]; exact hi) hi).ok)
  have h3 : (Fs.take k).length ≤ 5 := by rw [List.length_take]; omega
  omega

/-- What Len keeps between two rounds. -/
structure LenI (w : World) (s0 : Nat) (ch : List (Nat × Nat)) (Fs : List Fr) (k : Nat) (W : World) : Prop where
  bn : One W s0 (.int .i64 (lenF (Fs.take k) : Nat)) 3
  bc : One W (s0 + 1) (hp ch) 138
  t : Touch w W []

set_option maxRecDepth 100000 in
set_option maxHeartbeats 1000000 in
theorem len_any {B : Nat} {w : World} {b : Nat} {ch : List (Nat × Nat)} {Fs : List Fr} (h : PLog B w b ch Fs) : Calls Tryz.prog 123 #[ptr b] w fun e w' => e = .returned (.int .i64 (lenF Fs : Nat)) ∧ Touch w w' [] := by
  refine (callsIn_wide (n := 5)).1 ?_
  refine callsIn_of_wp_marks Tryz.func123 rfl trivial ?_ rfl
  simp only [Tryz.ntmps123, List.size_toArray, List.length_cons, List.length_nil, Nat.reduceAdd, Nat.reduceSub, Array.replicate_succ, Array.replicate_zero, List.push_toArray, List.append_toArray, List.nil_append, List.cons_append]
  have c0 : ∀ o, (w.alloc o).cell? ⟨b, 0, none⟩ = some (hp ch) := fun o => ((h.touch ((Touch.refl w []).alloc o)).cell)
  have HO : Hid _ := h
  clear h
  gi_wp2_with fail
  refine ⟨trivial, ?_⟩
  refine (callsIn_wide.2 (down_any ch _)).mono ?_
  rintro e w1 ⟨rfl, hw1⟩
  gi_wp2_with fail
  refine wpIn_name fun W1 hW1 => ?_
  have hsz : W1.heap.size = w.heap.size + 1 + 1 := by rw [hW1]; simp
  have HI0 : Hid (LenI w w.heap.size ch Fs 0 W1) := by
    refine ⟨?_, ?_, by rw [hW1]; exact ((Touch.refl w []).alloc _).alloc _⟩
    · rw [hW1]; exact (one_new w _ _).alloc _
    · rw [hW1]
      have := one_new (w.alloc (.cells #[.int .i64 0] 3)) (hp ch) 138
      rw [World.size_alloc] at this
      exact this
  clear hW1 hw1
  have hput : ∀ k W l o o', LenI w w.heap.size ch Fs k W → (l = W1.heap.size ∨ l = W1.heap.size + 1) → W.heap[l]? = some o → o.isCells = false → LenI w w.heap.size ch Fs k (W.putObj l o') := by
    intro k W l o1 o' hi hl _ _
    have t1 : Touch W (W.putObj l o') [l] := (Touch.refl W [l]).putObj (.inl (by simp)) o'
    exact ⟨hi.bn.touch t1 (by simp; omega), hi.bc.touch t1 (by simp; omega), hi.t.trans t1 (by intro x hx; simp at hx; exact .inr (by omega))⟩
  refine rangeFunc_gen (by omega) (gf := 126) (lb := #[ptr (w.heap.size + 1)]) rfl (enters_of Tryz.func126 (by kernel_rfl) rfl) rfl
    (mapAt ch) none (LenI w w.heap.size ch Fs) (fun _ => False) ch.length hput (fun _ _ _ _ h => h.elim) ?new HI0.out
    (fun k => { tmps := #[ptr b, undef, .int .i64 0, ptr w.heap.size, mapAt ch k, ptr b, .bool false, ptr b, ptr b, ptr b, hp ch, .func (.func 126) #[] #[ptr (w.heap.size + 1)], mapAt ch k, undef, undef, undef, undef, undef], defers := [] }) ?seq ?assign ?body ?done (fun _ h => h.elim)
  case new => exact fun k W o hi => ⟨hi.bn.alloc _, hi.bc.alloc _, hi.t.alloc _⟩
  case seq =>
    intro J Y W hJI hJT hJ0 hJY
    refine down1_in 4 (by omega) _ (w.heap.size + 1) ch HO.out.ndn J Y ?_ hJY W hJ0
    intro k W hJ
    exact ⟨(hJI k W hJ).bc.cell, (HO.out.touch (hJI k W hJ).t).nodes⟩
  case assign =>
    intro l k W K hK
    gi_wp2
    exact hK
  case body =>
    intro l k W hk hi
    have hk' : k < Fs.length := by rw [← HO.out.len]; exact hk
    have hl : ∀ ty, (Builtin.len_ #[140] ty #[mapAt ch k]).run Tryz.prog W = .ok (.int .i64 (fcnt Fs[k])) W := fun ty => ((HO.out.touch hi.t).at hk hk').len ty
    have c2 := hi.bn.cell
    have f2 := hi.bn.frozen
    have hsn := lenF_snoc hk'
    have hle := lenF_le HO.out (k + 1)
    have HI : Hid _ := hi
    generalize mapAt ch k = mv at *
    generalize fcnt Fs[k] = c at *
    clear hi
    gi_wp2
    have e3 : IntKind.i64.wrap ((lenF (Fs.take k) : Int) + (c : Int)) = ((lenF (Fs.take (k + 1)) : Nat) : Int) := by rw [hsn, IntKind.wrap_i64] <;> omega
    have e4 : ((lenF (Fs.take k) : Int) + (c : Int)) = ((lenF (Fs.take (k + 1)) : Nat) : Int) := by rw [hsn]; omega
    have h0 := HI.out
    first | rw [e3] | rw [e4]
    have t1 : Touch W (W.setCell ⟨w.heap.size, 0, none⟩ (.int .i64 ((lenF (Fs.take (k + 1)) : Nat) : Int))) [w.heap.size] := (Touch.refl _ _).setCell (.inl (by simp)) _
    exact ⟨keeps_of_touch t1 (by intro x hx; simp at hx; subst hx; exact ⟨_, _, _, h0.bn⟩), .inl ⟨rfl, h0.bn.set _, h0.bc.touch t1 (by simp), h0.t.trans t1 (by intro x hx; simp at hx; exact .inr (by omega))⟩⟩
  case done =>
    intro W hi hd
    have c2 := hi.bn.cell
    have HI : Hid _ := hi
    clear hi
    gi_wp2
    refine ⟨by simp, .inl ⟨_, _, rfl, run_takeDeferred hd, ?_⟩⟩
    refine ⟨_, results_tmp rfl _ _ _, ?_, ?_⟩
    · rw [HO.out.len, List.take_length]; rfl
    · exact HI.out.t.trans ((Touch.refl _ [W1.heap.size]).putObj (.inl (by simp)) _) (by intro x hx; simp at hx; exact .inr (by omega))

/-- What Depth keeps between two rounds. -/
structure DepI (w : World) (s0 : Nat) (ch : List (Nat × Nat)) (k : Nat) (W : World) : Prop where
  bn : One W s0 (.int .i64 (k : Nat)) 3
  bc : One W (s0 + 1) (hp ch) 138
  t : Touch w W []

set_option maxRecDepth 100000 in
set_option maxHeartbeats 1000000 in
theorem depth_any {B : Nat} {w : World} {b : Nat} {ch : List (Nat × Nat)} {Fs : List Fr} (h : PLog B w b ch Fs) : Calls Tryz.prog 71 #[ptr b] w fun e w' => e = .returned (.int .i64 ((Fs.length - 1 : Nat) : Int)) ∧ Touch w w' [] := by
  refine (callsIn_wide (n := 5)).1 ?_
  refine callsIn_of_wp_marks Tryz.func71 rfl trivial ?_ rfl
  simp only [Tryz.ntmps71, List.size_toArray, List.length_cons, List.length_nil, Nat.reduceAdd, Nat.reduceSub, Array.replicate_succ, Array.replicate_zero, List.push_toArray, List.append_toArray, List.nil_append, List.cons_append]
  have hpos := h.pos
  obtain ⟨ct, hct⟩ : ∃ ct, ct = ch.drop 1 := ⟨_, rfl⟩
  have HCT : Hid (ct = ch.drop 1) := hct
  obtain ⟨n0, hn0⟩ : ∃ n0, hp ch = ptr n0 := by
    have := hp_drop (k := 0) h.pos
    exact ⟨_, by simpa using this⟩
  have c0 : ∀ o, (w.alloc o).cell? ⟨b, 0, none⟩ = some (ptr n0) := fun o => ((h.touch ((Touch.refl w []).alloc o)).cell).trans (by rw [hn0])
  have c1 : ∀ o, (w.alloc o).cell? ⟨n0, 1, none⟩ = some (hp ct) := fun o => by
    rw [hct]
    have hN := (h.touch ((Touch.refl w []).alloc o)).nodes 0 h.pos
    have e : n0 = ch[0].1 := by
      have := hp_drop (k := 0) h.pos
      rw [List.drop_zero, hn0] at this
      simpa using this
    simp only [World.cell?, e, hN]
    rfl
  have hnd : (ct.map Prod.fst).Nodup := by rw [hct, List.map_drop]; exact List.Pairwise.drop h.ndn
  have HO : Hid _ := h
  clear h hct
  gi_wp2_with fail
  refine ⟨trivial, ?_⟩
  refine (callsIn_wide.2 (down_any ct _)).mono ?_
  rintro e w1 ⟨rfl, hw1⟩
  gi_wp2_with fail
  refine wpIn_name fun W1 hW1 => ?_
  have hsz : W1.heap.size = w.heap.size + 1 + 1 := by rw [hW1]; simp
  have HI0 : Hid (DepI w w.heap.size ct 0 W1) := by
    refine ⟨?_, ?_, by rw [hW1]; exact ((Touch.refl w []).alloc _).alloc _⟩
    · rw [hW1]; exact (one_new w _ _).alloc _
    · rw [hW1]
      have := one_new (w.alloc (.cells #[.int .i64 0] 3)) (hp ct) 138
      rw [World.size_alloc] at this
      exact this
  clear hW1 hw1
  have hput : ∀ k W l o o', DepI w w.heap.size ct k W → (l = W1.heap.size ∨ l = W1.heap.size + 1) → W.heap[l]? = some o → o.isCells = false → DepI w w.heap.size ct k (W.putObj l o') := by
    intro k W l o1 o' hi hl _ _
    have t1 : Touch W (W.putObj l o') [l] := (Touch.refl W [l]).putObj (.inl (by simp)) o'
    exact ⟨hi.bn.touch t1 (by simp; omega), hi.bc.touch t1 (by simp; omega), hi.t.trans t1 (by intro x hx; simp at hx; exact .inr (by omega))⟩
  refine rangeFunc_gen (by omega) (gf := 126) (lb := #[ptr (w.heap.size + 1)]) rfl (enters_of Tryz.func126 (by kernel_rfl) rfl) rfl
    (mapAt ct) none (DepI w w.heap.size ct) (fun _ => False) ct.length hput (fun _ _ _ _ h => h.elim) ?new HI0.out
    (fun k => { tmps := #[ptr b, undef, .int .i64 0, ptr w.heap.size, ptr b, .bool false, ptr b, ptr b, ptr b, ptr n0, ptr n0, .pointer (some ⟨n0, 1, none⟩), hp ct, .func (.func 126) #[] #[ptr (w.heap.size + 1)], mapAt ct k, undef, undef, undef], defers := [] }) ?seq ?assign ?body ?done (fun _ h => h.elim)
  case new => exact fun k W o hi => ⟨hi.bn.alloc _, hi.bc.alloc _, hi.t.alloc _⟩
  case seq =>
    intro J Y W hJI hJT hJ0 hJY
    refine down1_in 4 (by omega) _ (w.heap.size + 1) ct hnd J Y ?_ hJY W hJ0
    intro k W hJ
    exact ⟨(hJI k W hJ).bc.cell, by have := (HO.out.touch (hJI k W hJ).t).nodes.drop 1; rw [← HCT.out] at this; exact this⟩
  case assign =>
    intro l k W K hK
    gi_wp2
    simpa using hK
  case body =>
    intro l k W hk hi
    have c2 := hi.bn.cell
    have f2 := hi.bn.frozen
    have h5 := HO.out.le
    have hcl : ct.length = ch.length - 1 := by rw [HCT.out, List.length_drop]
    have HI : Hid _ := hi
    generalize mapAt ct k = mv at *
    clear hi
    gi_wp2
    have h0 := HI.out
    have e4 : (k : Int) + 1 = ((k + 1 : Nat) : Int) := by omega
    have e3 : IntKind.i64.wrap ((k : Int) + 1) = ((k + 1 : Nat) : Int) := by rw [IntKind.wrap_i64] <;> omega
    first | rw [e3] | rw [e4]
    have t1 : Touch W (W.setCell ⟨w.heap.size, 0, none⟩ (.int .i64 ((k + 1 : Nat) : Int))) [w.heap.size] := (Touch.refl _ _).setCell (.inl (by simp)) _
    exact ⟨keeps_of_touch t1 (by intro x hx; simp at hx; subst hx; exact ⟨_, _, _, h0.bn⟩), .inl ⟨rfl, h0.bn.set _, h0.bc.touch t1 (by simp), h0.t.trans t1 (by intro x hx; simp at hx; exact .inr (by omega))⟩⟩
  case done =>
    intro W hi hd
    have c2 := hi.bn.cell
    have HI : Hid _ := hi
    have hcl : ct.length = Fs.length - 1 := by rw [HCT.out, List.length_drop, HO.out.len]
    rw [hcl] at c2
    clear hi
    gi_wp2
    refine ⟨by simp, .inl ⟨_, _, rfl, run_takeDeferred hd, ?_⟩⟩
    refine ⟨_, results_tmp rfl _ _ _, ?_, ?_⟩
    · rfl
    · exact HI.out.t.trans ((Touch.refl _ [W1.heap.size]).putObj (.inl (by simp)) _) (by intro x hx; simp at hx; exact .inr (by omega))

theorem getF_hit {Fs : List Fr} {t v : Int} {k : Nat} (hk : k < Fs.length) (hno : ∀ f ∈ Fs.take k, fget f t = none) (hv : fget Fs[k] t = some v) : getF Fs t = some v := by
  unfold getF
  conv => lhs; rw [show Fs = Fs.take k ++ (Fs[k] :: Fs.drop (k + 1)) by rw [← List.drop_eq_getElem_cons hk, List.take_append_drop]]
  rw [List.findSome?_append, List.findSome?_eq_none_iff.2 hno, List.findSome?_cons, hv]
  rfl
theorem getF_none {Fs : List Fr} {t : Int} (hno : ∀ f ∈ Fs, fget f t = none) : getF Fs t = none := List.findSome?_eq_none_iff.2 hno

/-- What Get keeps between two rounds. -/
structure GetI (w : World) (s0 : Nat) (ch : List (Nat × Nat)) (Fs : List Fr) (t : Int) (v : Int) (is : Bool) (W : World) : Prop where
  bt : One W s0 (.int .i64 t) 3
  b1 : One W (s0 + 1) (.int .u64 v) 48
  b2 : One W (s0 + 1 + 1) (.bool is) 4
  bc : One W (s0 + 1 + 1 + 1) (hp ch) 138
  t : Touch w W []

theorem GetI.touch {w : World} {s0 : Nat} {ch : List (Nat × Nat)} {Fs : List Fr} {t v : Int} {is : Bool} {W W' : World} {S : List Nat} (h : GetI w s0 ch Fs t v is W) (T : Touch W W' S) (hS : ∀ x ∈ S, s0 + 4 ≤ x) (hw : w.heap.size ≤ s0) : GetI w s0 ch Fs t v is W' :=
  have n (j : Nat) (hj : j < s0 + 4) : j ∉ S := fun hh => by have := hS j hh; omega
  ⟨h.bt.touch T (n _ (by omega)), h.b1.touch T (n _ (by omega)), h.b2.touch T (n _ (by omega)), h.bc.touch T (n _ (by omega)), h.t.trans T (fun x hx => .inr (by have := hS x hx; omega))⟩

/-- The results of a Get are written. -/
theorem GetI.set {w : World} {s0 : Nat} {ch : List (Nat × Nat)} {Fs : List Fr} {t v : Int} {is : Bool} {W : World} (h : GetI w s0 ch Fs t v is W) (hw : w.heap.size ≤ s0) (v' : Int) (is' : Bool) :
    GetI w s0 ch Fs t v' is' ((W.setCell ⟨s0 + 1, 0, none⟩ (.int .u64 v')).setCell ⟨s0 + 1 + 1, 0, none⟩ (.bool is')) ∧ Touch W ((W.setCell ⟨s0 + 1, 0, none⟩ (.int .u64 v')).setCell ⟨s0 + 1 + 1, 0, none⟩ (.bool is')) [s0 + 1, s0 + 1 + 1] := by
  have t1 : Touch W (W.setCell ⟨s0 + 1, 0, none⟩ (.int .u64 v')) [s0 + 1] := (Touch.refl _ _).setCell (.inl (by simp)) _
  have t2 : Touch (W.setCell ⟨s0 + 1, 0, none⟩ (.int .u64 v')) ((W.setCell ⟨s0 + 1, 0, none⟩ (.int .u64 v')).setCell ⟨s0 + 1 + 1, 0, none⟩ (.bool is')) [s0 + 1 + 1] := (Touch.refl _ _).setCell (.inl (by simp)) _
  have t3 := (t1.mono (R := [s0 + 1, s0 + 1 + 1]) (by simp)).trans t2 (by simp)
  exact ⟨⟨h.bt.touch t3 (by simp <;> omega), (h.b1.set _).touch t2 (by simp), (h.b2.touch t1 (by simp)).set _, h.bc.touch t3 (by simp <;> omega), h.t.trans t3 (by intro x hx; simp at hx; exact .inr (by omega))⟩, t3⟩

theorem results_cell2 {fn : Func} {p q : Tmp} {ty tz : TypeId} (h : fn.results = #[.cell p ty, .cell q tz]) (tmps : Array Value) (P : Program) (w : World) :
    (results fn tmps).run P w = ((asAddr (tmps.getD p undef)).run P w).andThen fun a w₁ => ((loadVar ty a).run P w₁).andThen fun v w₂ => ((asAddr (tmps.getD q undef)).run P w₂).andThen fun b w₃ => ((loadVar tz b).run P w₃).andThen fun u w₄ => .ok (.tuple #[v, u]) w₄ := by
  simp only [results, h]
  simp [Sem.run_bind, Result.andThen]

end Go.Proofs.YtmiaibpdeofokaaGreatDoor
/-
  package writes: New, Put, Push, Drop, Merge BY THEIR CONTRACTS.
-/
namespace Go.Proofs.YtmiaibpdeofokaaGreatDoor
set_option linter.unusedVariables false
set_option linter.unusedSimpArgs false
open Go.RowKit Go.Maps Go.Shelf

def putS : List Fr → Int → Int → Int × List Fr
  | [], _, _ => (0, [])
  | f :: r, t, v => if ¬ (0 ≤ t ∧ t < 12) then (2, f :: r) else if rightB v = false then (3, f :: r) else if (fget f t).isSome = false ∧ 16 ≤ lenF (f :: r) then (4, f :: r) else (0, fput f t v :: r)
def pushS (Fs : List Fr) : Int × List Fr := if 4 ≤ Fs.length - 1 then (4, Fs) else (0, f0 :: Fs)
def dropS : List Fr → Int × List Fr
  | _ :: g :: r => (0, g :: r)
  | Fs => (8, Fs)
def mergeS : List Fr → Int × List Fr
  | f :: g :: r => (0, fover f g :: r)
  | Fs => (8, Fs)

/-- What a deed leaves. -/
def OpPost (B : Nat) (w : World) (b : Nat) (ch : List (Nat × Nat)) (res : Int × List Fr) (e : Ending) (w' : World) : Prop :=
  ∃ ch', e = .returned (.int .i64 res.1) ∧ PLog B w' b ch' res.2 ∧ Touch w w' (pfoot b ch) ∧ ∀ x ∈ pfoot b ch', x ∈ pfoot b ch ∨ w.heap.size ≤ x

theorem PLog.stays {B : Nat} {w w' : World} {b : Nat} {ch : List (Nat × Nat)} {Fs : List Fr} (h : PLog B w b ch Fs) (t : Touch w w' []) (z : Int) : OpPost B w b ch (z, Fs) (.returned (.int .i64 z)) w' :=
  ⟨ch, rfl, h.touch t, t.mono (by simp), fun x hx => .inl hx⟩

theorem OpPost.after {B : Nat} {w w1 w' : World} {b : Nat} {ch : List (Nat × Nat)} {res : Int × List Fr} {e : Ending} (h : OpPost B w1 b ch res e w') (t : Touch w w1 []) : OpPost B w b ch res e w' := by
  obtain ⟨ch', he, hl, ht, hf⟩ := h
  exact ⟨ch', he, hl, (t.mono (by simp)).trans ht (fun x hx => .inl hx), fun x hx => (hf x hx).imp id (fun h => Nat.le_trans t.size h)⟩

/-- The uppermost frame turns. -/
theorem PLog.turn {B : Nat} {w w' : World} {b n m : Nat} {ch : List (Nat × Nat)} {f f' : Fr} {Fs : List Fr} (h : PLog B w b ((n, m) :: ch) (f :: Fs)) (t : Touch w w' [m]) (hf : FrAt w' m f') : PLog B w' b ((n, m) :: ch) (f' :: Fs) := by
  have hmap := (h.fr 0 (by simp) (by simp)).isMap
  obtain ⟨es, c, hm⟩ := hmap
  simp only [List.getElem_cons_zero] at hm
  have hb : b ∉ [m] := by
    simp only [List.mem_singleton]
    rintro rfl
    rw [h.st] at hm; cases hm
  have hN : ∀ p ∈ (n, m) :: ch, p.1 ∉ [m] := by
    intro p hp
    simp only [List.mem_singleton]
    intro e
    obtain ⟨i, hi, rfl⟩ := List.getElem_of_mem hp
    have := h.nodes i hi
    rw [e, hm] at this; cases this
  refine { h with st := (t.block _ (lt_of_heap h.st) hb).trans h.st, nodes := h.nodes.touch t hN, len := by simpa using h.len, fr := ?_ }
  intro k hk hk'
  cases k with
  | zero => exact hf
  | succ k =>
    have h1 := h.fr (k + 1) hk (by simpa using hk')
    simp only [List.getElem_cons_succ] at h1 ⊢
    refine h1.touch t ?_
    have := h.ndm
    simp only [List.map_cons, List.nodup_cons] at this
    simp only [List.mem_singleton]
    intro e
    exact this.1 (by rw [List.mem_map]; exact ⟨ch[k]'(by simpa using hk), List.getElem_mem _, e⟩)

theorem PLog.two {B : Nat} {w : World} {b : Nat} {ch : List (Nat × Nat)} {Fs : List Fr} (h : PLog B w b ch Fs) : ∃ n m c f r, ch = (n, m) :: c ∧ Fs = f :: r := by
  have h1 := h.pos
  have h2 := h.len
  match ch, Fs, h1, h2 with
  | (n, m) :: c, f :: r, _, _ => exact ⟨n, m, c, f, r, rfl, rfl⟩
  | (n, m) :: c, [], _, h => simp at h
  | [], _, h, _ => simp at h

theorem PLog.node0 {B : Nat} {w : World} {b n m : Nat} {ch : List (Nat × Nat)} {Fs : List Fr} (h : PLog B w b ((n, m) :: ch) Fs) : w.cell? ⟨n, 0, none⟩ = some (.map (some m)) ∧ w.cell? ⟨n, 1, none⟩ = some (hp ch) := by
  have := h.nodes 0 (by simp)
  simp only [List.getElem_cons_zero] at this
  simp [World.cell?, this]

set_option maxRecDepth 100000 in
theorem new_any (w : World) : Calls Tryz.prog 69 #[] w fun e w' => ∃ b ch, e = .returned (ptr b) ∧ PLog w.heap.size w' b ch [f0] ∧ Touch w w' [] := by
  have hmm := @run_makeMap Tryz.prog
  go_enter Tryz.func69, Tryz.ntmps69
  go_wp2
  go_ret
  have hm : FrAt (((w.alloc (.map #[] 0)).alloc (.cells #[.map (some w.heap.size), .pointer none] 142)).alloc (.cells #[ptr (w.heap.size + 1)] 144)) w.heap.size f0 :=
    FrAt.mk' (n := 0) (((World.ownsMap_made w _ _ _).alloc _).alloc _) FrOk.f0
  have hn := heap_alloc_new (w.alloc (.map #[] 0)) (.cells #[.map (some w.heap.size), .pointer none] 142)
  have hb := heap_alloc_new ((w.alloc (.map #[] 0)).alloc (.cells #[.map (some w.heap.size), .pointer none] 142)) (.cells #[ptr (w.heap.size + 1)] 144)
  rw [World.size_alloc] at hn
  rw [World.size_alloc, World.size_alloc] at hb
  refine ⟨w.heap.size + 1 + 1, [(w.heap.size + 1, w.heap.size)], by simp, ⟨by omega, by simp, hb, ?_, rfl, ?_, by simp, by simp, by simp, by simp⟩, (((Touch.refl w []).alloc _).alloc _).alloc _⟩
  · intro k hk
    obtain rfl : k = 0 := by simpa using hk
    exact (heap_alloc_old _ _ (lt_of_heap hn)).trans hn
  · intro k hk hk'
    obtain rfl : k = 0 := by simpa using hk
    exact hm

set_option maxRecDepth 100000 in
theorem put_any {B : Nat} {w : World} {b : Nat} {ch : List (Nat × Nat)} {Fs : List Fr} (h : PLog B w b ch Fs) (t v : Int) (ht : -9223372036854775808 ≤ t ∧ t ≤ 9223372036854775807) (hv : Wf64 v) :
    Calls Tryz.prog 94 #[ptr b, .int .i64 t, .int .u64 v] w (OpPost B w b ch (putS Fs t v)) := by
  obtain ⟨n, m, c, f, r, rfl, rfl⟩ := h.two
  unfold putS
  dsimp only
  by_cases h0 : 0 ≤ t ∧ t < 12
  · rw [if_neg (fun hh => hh h0)]
    have hr := right_any v
    obtain ⟨h0, h1⟩ := h0
    cases hrv : rightB v
    · rw [if_pos rfl]
      rw [hrv] at hr
      have HS : Hid _ := h
      clear h
      go_enter Tryz.func94, Tryz.ntmps94
      go_wp2_with fail
      refine (hr _).mono ?_
      rintro e w1 ⟨rfl, rfl⟩
      clear hr
      go_wp2
      go_ret
      exact HS.out.stays (Touch.refl _ _) 3
    · rw [if_neg (by simp)]
      rw [hrv] at hr
      have c0 : w.cell? ⟨b, 0, none⟩ = some (ptr n) := h.cell
      obtain ⟨c1, _⟩ := h.node0
      have hfr : FrAt w m f := h.fr 0 (by simp) (by simp)
      have hlk := hfr.look ht
      have hln := len_any h
      have HS : Hid _ := h
      clear h hfr
      cases hq : (fget f t).isSome
      · rw [hq] at hlk
        by_cases h16 : 16 ≤ lenF (f :: r)
        · rw [if_pos ⟨rfl, h16⟩]
          have h16' : (16 : Int) ≤ (lenF (f :: r) : Nat) := by omega
          go_enter Tryz.func94, Tryz.ntmps94
          go_wp2_with fail
          refine (hr _).mono ?_
          rintro e w1 ⟨rfl, rfl⟩
          clear hr
          go_wp2_with fail
          refine hln.mono ?_
          rintro e w1 ⟨rfl, t1⟩
          clear hln
          go_wp2
          go_ret
          exact HS.out.stays t1 4
        · rw [if_neg (fun hh => h16 hh.2)]
          have h16' : ¬ (16 : Int) ≤ (lenF (f :: r) : Nat) := by omega
          go_enter Tryz.func94, Tryz.ntmps94
          go_wp2_with fail
          refine (hr _).mono ?_
          rintro e w1 ⟨rfl, rfl⟩
          clear hr
          go_wp2_with fail
          refine hln.mono ?_
          rintro e w1 ⟨rfl, t1⟩
          clear hln c0 c1
          have h1' := HS.out.touch t1
          have c0 : w1.cell? ⟨b, 0, none⟩ = some (ptr n) := h1'.cell
          obtain ⟨c1, _⟩ := h1'.node0
          obtain ⟨w2, hst, hfr2, t2⟩ := (h1'.fr 0 (by simp) (by simp)).store (t := t) ⟨h0, h1⟩ hv
          simp only [List.getElem_cons_zero] at hst hfr2 t2
          have HP : Hid _ := h1'.turn t2 hfr2
          have HT : Hid _ := t2
          clear h1' hfr2 t2
          go_wp2
          go_ret
          exact OpPost.after ⟨_, rfl, HP.out, HT.out.mono (by simp [pfoot]), fun x hx => .inl hx⟩ t1
      · rw [hq] at hlk
        rw [if_neg (fun hh => by cases hh.1)]
        obtain ⟨w2, hst, hfr2, t2⟩ := (HS.out.fr 0 (by simp) (by simp)).store (t := t) ⟨h0, h1⟩ hv
        simp only [List.getElem_cons_zero] at hst hfr2 t2
        have HP : Hid _ := HS.out.turn t2 hfr2
        have HT : Hid _ := t2
        clear hfr2 t2 hln
        go_enter Tryz.func94, Tryz.ntmps94
        go_wp2_with fail
        refine (hr _).mono ?_
        rintro e w1 ⟨rfl, rfl⟩
        clear hr
        go_wp2
        go_ret
        exact ⟨_, rfl, HP.out, HT.out.mono (by simp [pfoot]), fun x hx => .inl hx⟩
  · rw [if_pos h0]
    have HS : Hid _ := h
    clear h
    by_cases h1 : 0 ≤ t
    · have h2 : ¬ t < 12 := fun hh => h0 ⟨h1, hh⟩
      clear h0
      go_enter Tryz.func94, Tryz.ntmps94
      go_wp2
      go_ret
      exact HS.out.stays (Touch.refl _ _) 2
    · clear h0
      go_enter Tryz.func94, Tryz.ntmps94
      go_wp2
      go_ret
      exact HS.out.stays (Touch.refl _ _) 2

/-- One frame more. -/
theorem PLog.push {B : Nat} {w w' : World} {b n m : Nat} {ch : List (Nat × Nat)} {Fs : List Fr} (h : PLog B w b ch Fs) (hB : B ≤ w.heap.size) (hl : ch.length < 5) (hm : w.heap.size ≤ m) (hn : w.heap.size ≤ n) (t : Touch w w' [b])
    (hb' : w'.heap[b]? = some (.cells #[ptr n] 144 (0, 0))) (hn' : w'.heap[n]? = some (nodeC m (hp ch))) (hf : FrAt w' m f0) : PLog B w' b ((n, m) :: ch) (f0 :: Fs) := by
  have hlt := h.foot_lt
  have hin1 : ∀ p ∈ ch, p.1 ∈ pfoot b ch := fun p hp => by simp only [pfoot, List.mem_cons, List.mem_append]; exact .inr (.inl (List.mem_map_of_mem hp))
  have hin2 : ∀ p ∈ ch, p.2 ∈ pfoot b ch := fun p hp => by simp only [pfoot, List.mem_cons, List.mem_append]; exact .inr (.inr (List.mem_map_of_mem hp))
  have hb1 : ∀ p ∈ ch, p.1 ∉ [b] := by
    intro p hp
    simp only [List.mem_singleton]
    rintro e
    obtain ⟨i, hi, rfl⟩ := List.getElem_of_mem hp
    have := h.nodes i hi
    rw [e, h.st] at this
    simp [nodeC] at this
  have hb2 : ∀ p ∈ ch, p.2 ∉ [b] := by
    intro p hp
    simp only [List.mem_singleton]
    rintro e
    obtain ⟨i, hi, rfl⟩ := List.getElem_of_mem hp
    obtain ⟨es, c, hm⟩ := (h.fr i hi (by rw [← h.len]; exact hi)).isMap
    rw [e, h.st] at hm
    cases hm
  refine ⟨h.hb, ?_, hb', ?_, by simp [h.len], ?_, ?_, ?_, by simp, by simp; omega⟩
  · intro p hp
    simp only [List.mem_cons] at hp
    rcases hp with rfl | hp
    · exact ⟨by simp; omega, by simp; omega⟩
    · exact h.hn p hp
  · intro k hk
    cases k with
    | zero => exact hn'
    | succ k => exact h.nodes.touch t hb1 k (by simpa using hk)
  · intro k hk hk'
    cases k with
    | zero => exact hf
    | succ k =>
      have hk2 : k < ch.length := by simpa using hk
      exact (h.fr k hk2 (by simpa using hk')).touch t (hb2 _ (List.getElem_mem hk2))
  · simp only [List.map_cons, List.nodup_cons]
    refine ⟨fun hh => ?_, h.ndn⟩
    obtain ⟨p, hp, e⟩ := List.mem_map.1 hh
    have := (hlt _ (hin1 p hp)).2
    omega
  · simp only [List.map_cons, List.nodup_cons]
    refine ⟨fun hh => ?_, h.ndm⟩
    obtain ⟨p, hp, e⟩ := List.mem_map.1 hh
    have := (hlt _ (hin2 p hp)).2
    omega

/-- One frame less. -/
theorem PLog.pop {B : Nat} {w : World} {b n m n' m' : Nat} {ch : List (Nat × Nat)} {f : Fr} {Fs : List Fr} (h : PLog B w b ((n, m) :: (n', m') :: ch) (f :: Fs)) :
    PLog B (w.setCell ⟨b, 0, none⟩ (ptr n')) b ((n', m') :: ch) Fs ∧ Touch w (w.setCell ⟨b, 0, none⟩ (ptr n')) [b] := by
  have t : Touch w (w.setCell ⟨b, 0, none⟩ (ptr n')) [b] := (Touch.refl _ _).setCell (.inl (by simp)) _
  have hb1 : ∀ p ∈ (n', m') :: ch, p.1 ∉ [b] := by
    intro p hp
    simp only [List.mem_singleton]
    rintro e
    obtain ⟨i, hi, rfl⟩ := List.getElem_of_mem hp
    have := h.nodes (i + 1) (by simpa using hi)
    simp only [List.getElem_cons_succ] at this
    rw [e, h.st] at this
    simp [nodeC] at this
  have hb2 : ∀ p ∈ (n', m') :: ch, p.2 ∉ [b] := by
    intro p hp
    simp only [List.mem_singleton]
    rintro e
    obtain ⟨i, hi, rfl⟩ := List.getElem_of_mem hp
    have hl := h.len
    simp only [List.length_cons] at hl hi
    obtain ⟨es, c, hm⟩ := (h.fr (i + 1) (by simp; omega) (by simp; omega)).isMap
    simp only [List.getElem_cons_succ] at hm
    rw [e, h.st] at hm
    cases hm
  have hl := h.len
  have h5 := h.le
  have hndn := h.ndn
  have hndm := h.ndm
  simp only [List.length_cons] at hl h5
  rw [List.map_cons, List.nodup_cons] at hndn hndm
  refine ⟨⟨h.hb, fun p hp => h.hn p (List.mem_cons_of_mem _ hp), ?_, ?_, by simp; omega, ?_, hndn.2, hndm.2, by simp, by simp; omega⟩, t⟩
  · have := h.st
    rw [heap_setCell_same _ _ _ _ _ _ this]; rfl
  · intro k hk
    have := h.nodes (k + 1) (by simpa using hk)
    exact (t.block _ (lt_of_heap this) (hb1 _ (List.getElem_mem hk))).trans this
  · intro k hk hk'
    exact (h.fr (k + 1) (by simpa using hk) (by simpa using hk')).touch t (hb2 _ (List.getElem_mem hk))

set_option maxRecDepth 100000 in
theorem push_any {B : Nat} {w : World} {b : Nat} {ch : List (Nat × Nat)} {Fs : List Fr} (h : PLog B w b ch Fs) : Calls Tryz.prog 95 #[ptr b] w (OpPost B w b ch (pushS Fs)) := by
  have hmm := @run_makeMap Tryz.prog
  have hd := depth_any h
  have hlen := h.len
  have h5 := h.le
  have HS : Hid _ := h
  clear h
  unfold pushS
  by_cases h4 : 4 ≤ Fs.length - 1
  · rw [if_pos h4]
    have h4' : (4 : Int) ≤ ((Fs.length - 1 : Nat) : Int) := by omega
    generalize ((Fs.length - 1 : Nat) : Int) = D at *
    go_enter Tryz.func95, Tryz.ntmps95
    go_wp2_with fail
    refine hd.mono ?_
    rintro e w1 ⟨rfl, t1⟩
    clear hd
    go_wp2
    go_ret
    exact HS.out.stays t1 4
  · rw [if_neg h4]
    have h4' : ¬ (4 : Int) ≤ ((Fs.length - 1 : Nat) : Int) := by omega
    generalize ((Fs.length - 1 : Nat) : Int) = D at *
    go_enter Tryz.func95, Tryz.ntmps95
    go_wp2_with fail
    refine hd.mono ?_
    rintro e w1 ⟨rfl, t1⟩
    clear hd
    have h1 := HS.out.touch t1
    have HB : Hid _ := Nat.le_trans (Nat.le_of_lt (Nat.lt_of_le_of_lt h1.hb (lt_of_heap h1.st))) (Nat.le_refl _)
    obtain ⟨p, hp'⟩ := hp_is ch
    have c0 : ∀ o, (w1.alloc o).cell? ⟨b, 0, none⟩ = some (.pointer p) := fun o => ((h1.touch ((Touch.refl w1 []).alloc o)).cell).trans (by rw [hp'])
    have c0' := h1.cell
    rw [hp'] at c0'
    have f0' := h1.frozen
    have HP : Hid _ := hp'
    have H1 : Hid _ := h1
    have hbl : b < w1.heap.size := lt_of_heap h1.st
    clear h1 hp'
    go_wp2
    go_ret
    obtain ⟨v, hv⟩ : ∃ v, v = ptr (w1.heap.size + 1) := ⟨_, rfl⟩
    have hsz : (w1.setCell ⟨b, 0, none⟩ v).heap.size = w1.heap.size := by simp [World.setCell]
    have hm := FrAt.mk' (n := 0) ((World.ownsMap_made (w1.setCell ⟨b, 0, none⟩ v) Tryz.prog 3 (plainElem (H := Unit) Tryz.prog 48)).alloc (nodeC w1.heap.size (.pointer p))) FrOk.f0
    have hn := heap_alloc_new ((w1.setCell ⟨b, 0, none⟩ v).alloc (.map #[] 0)) (nodeC w1.heap.size (.pointer p))
    have hb : (w1.setCell ⟨b, 0, none⟩ v).heap[b]? = some (.cells #[v] 144 (0, 0)) := by rw [heap_setCell_same _ _ _ _ _ _ H1.out.st]; rfl
    have hb2 := (heap_alloc_old ((w1.setCell ⟨b, 0, none⟩ v).alloc (.map #[] 0)) (nodeC w1.heap.size (.pointer p)) (r := b) (by rw [World.size_alloc, hsz]; omega)).trans ((heap_alloc_old (w1.setCell ⟨b, 0, none⟩ v) (.map #[] 0) (r := b) (by rw [hsz]; omega)).trans hb)
    rw [World.size_alloc, hsz] at hn
    rw [hsz] at hm
    have T : Touch w1 (((w1.setCell ⟨b, 0, none⟩ v).alloc (.map #[] 0)).alloc (nodeC w1.heap.size (.pointer p))) [b] := (((Touch.refl w1 [b]).setCell (.inl (by simp)) _).alloc _).alloc _
    rw [← HP.out] at hn hm hb2 T
    subst hv
    have hL := H1.out.push (n := w1.heap.size + 1) (m := w1.heap.size) HB.out (by omega) (Nat.le_refl _) (by omega) T hb2 hn hm
    rw [HP.out] at hL T
    refine OpPost.after ⟨_, rfl, hL, T.mono (by simp [pfoot]), ?_⟩ t1
    intro x hx
    simp only [pfoot, List.map_cons, List.cons_append, List.mem_cons, List.mem_append] at hx ⊢
    rcases hx with hx | hx | hx | hx | hx
    · exact .inl (.inl hx)
    · exact .inr (by omega)
    · exact .inl (.inr (.inl hx))
    · exact .inr (by omega)
    · exact .inl (.inr (.inr hx))

/-- What pop leaves. -/
def PopPost (B : Nat) (w : World) (b : Nat) (ch : List (Nat × Nat)) (Fs : List Fr) (e : Ending) (w' : World) : Prop :=
  match ch, Fs with
  | (n, m) :: (n', m') :: c, _ :: r => e = .returned (.tuple #[.map (some m), .int .i64 0]) ∧ PLog B w' b ((n', m') :: c) r ∧ w' = w.setCell ⟨b, 0, none⟩ (ptr n')
  | _, _ => e = .returned (.tuple #[.map none, .int .i64 8]) ∧ w = w'

set_option maxRecDepth 100000 in
theorem pop_any {B : Nat} {w : World} {b : Nat} {ch : List (Nat × Nat)} {Fs : List Fr} (h : PLog B w b ch Fs) : Calls Tryz.prog 124 #[ptr b] w (PopPost B w b ch Fs) := by
  obtain ⟨n, m, c, f, r, rfl, rfl⟩ := h.two
  have c0 : w.cell? ⟨b, 0, none⟩ = some (ptr n) := h.cell
  have f0' := h.frozen
  obtain ⟨c1, c2⟩ := h.node0
  cases c with
  | nil =>
    unfold PopPost
    dsimp only
    have c2' : w.cell? ⟨n, 1, none⟩ = some (.pointer none) := c2
    clear c2 h
    go_enter Tryz.func124, Tryz.ntmps124
    go_wp2
    go_ret2
    exact ⟨rfl, rfl⟩
  | cons p c =>
    obtain ⟨n', m'⟩ := p
    unfold PopPost
    dsimp only
    have c2' : w.cell? ⟨n, 1, none⟩ = some (ptr n') := c2
    obtain ⟨hp1, t1⟩ := h.pop
    have HP : Hid _ := hp1
    clear c2 h hp1 t1
    go_enter Tryz.func124, Tryz.ntmps124
    go_wp2
    go_ret2
    exact ⟨rfl, HP.out, rfl⟩

theorem pfoot_pop {b n m n' m' : Nat} {c : List (Nat × Nat)} : ∀ x ∈ pfoot b ((n', m') :: c), x ∈ pfoot b ((n, m) :: (n', m') :: c) := by
  intro x hx
  simp only [pfoot, List.map_cons, List.cons_append, List.mem_cons, List.mem_append] at hx ⊢
  rcases hx with hx | hx | hx | hx | hx
  · exact .inl hx
  · exact .inr (.inr (.inl hx))
  · exact .inr (.inr (.inr (.inl hx)))
  · exact .inr (.inr (.inr (.inr (.inr (.inl hx)))))
  · exact .inr (.inr (.inr (.inr (.inr (.inr hx)))))

set_option maxRecDepth 100000 in
theorem drop_any {B : Nat} {w : World} {b : Nat} {ch : List (Nat × Nat)} {Fs : List Fr} (h : PLog B w b ch Fs) : Calls Tryz.prog 96 #[ptr b] w (OpPost B w b ch (dropS Fs)) := by
  have hp1 := pop_any h
  obtain ⟨n, m, c, f, r, rfl, rfl⟩ := h.two
  have hl := h.len
  cases c with
  | nil =>
    obtain rfl : r = [] := by simpa [eq_comm] using hl
    unfold PopPost at hp1
    dsimp only at hp1
    unfold dropS
    dsimp only
    have HS : Hid _ := h
    clear h
    go_enter Tryz.func96, Tryz.ntmps96
    go_wp2_with fail
    refine hp1.mono ?_
    rintro e w1 ⟨rfl, rfl⟩
    clear hp1
    go_wp2
    go_ret
    exact HS.out.stays (Touch.refl _ _) 8
  | cons p c =>
    obtain ⟨n', m'⟩ := p
    cases r with
    | nil => simp at hl
    | cons g r =>
      unfold PopPost at hp1
      dsimp only at hp1
      unfold dropS
      dsimp only
      clear h hl
      go_enter Tryz.func96, Tryz.ntmps96
      go_wp2_with fail
      refine hp1.mono ?_
      rintro e w1 ⟨rfl, h1, hw1⟩
      have HP : Hid _ := h1
      have HW : Hid _ := hw1
      clear hp1 h1 hw1
      go_wp2
      go_ret
      refine ⟨_, rfl, HP.out, ?_, fun x hx => .inl (pfoot_pop x hx)⟩
      rw [HW.out]
      exact (Touch.refl _ _).setCell (.inl (by simp [pfoot])) _

set_option maxHeartbeats 4000000 in
set_option maxRecDepth 100000 in
theorem copy_any {w : World} {d s : Nat} {f g : Fr} (hd : FrAt w d g) (hs : FrAt w s f) (hne : d ≠ s) :
    Calls Tryz.prog 125 #[.map (some d), .map (some s)] w fun e w' => e = .returned (.tuple #[]) ∧ FrAt w' d (fover f g) ∧ Touch w w' [d] := by
  have hdo := hd.own
  have hso := hs.own
  have hbd := hdo.lt
  have hbs := hso.lt
  have K := Tryz.keyed
  have hok := hs.ok.over hd.ok
  have hsz : Maps.size (frameD f) ≤ 12 := by rw [size_frame]; exact fcnt_le hs.ok
  have HEQ : Hid (Canon (Lib.mergeD (frameD g) (frameD f)) → Lib.mergeD (frameD g) (frameD f) = frameD (fover f g)) := fun c => frame_over hs.ok hd.ok c
  have HOK : Hid _ := hok
  clear hok hd hs
  go_enter Tryz.func125, Tryz.ntmps125
  go_wp2_with (first
    | (at_range; refine wpList_range_own _ rfl _ 140 rfl 3 48 K Tryz.underlying140 (plainElem (H := Unit) Tryz.prog 48) s 12 _ rfl hso ?_; intro w0 hrg0 hg0 hs0)
    | go_in)
  go_frame
  go_loopw [8] (fun _ wr => ∃ (left : Lit → Bool) (cnt : Nat) (Dout : DataW Unit), wr.ranges Tryz.prog 3 (plainElem (H := Unit) Tryz.prog 48) s w.heap.size 12 (frameD f) left cnt ∧ cnt ≤ Maps.size (frameD f) ∧
      wr.ownsMap Tryz.prog 3 (plainElem (H := Unit) Tryz.prog 48) d (12 + (Maps.size (frameD f) - cnt)) Dout ∧ Merged Dout (frameD g) (frameD f) left ∧ w.grownBy wr (some d))
    (fun _ wr => wr.rangeLeft s w.heap.size)
  case atStart =>
    exact ⟨_, _, frameD g, hrg0, Nat.le_refl _, (hdo.kept hg0 (by simp)).mono (by omega), merged_start _ _, hg0.but _⟩
  case round =>
    obtain ⟨left, cnt, Dout, hrg, hcs, hout, hM, hgw⟩ := hrel
    go_wp2_with (first
      | (at_next; refine wpList_next_ranges _ rfl _ rfl 3 K (plainElem (H := Unit) Tryz.prog 48) id id (fun key _ _ => ⟨key, rfl⟩) (fun v _ _ => ⟨v, rfl⟩) s w.heap.size 12 _ _ _ rfl hrg ?_ ?_)
      | go_in)
    · intro hc0 hl0
      go_wp2
      go_end0
      subst hc0
      have e := merged_eq K.one hM hl0 (hout.canon K) (hdo.canonK K) (hso.canonK K)
      subst e
      have hc := hout.canon K
      rw [HEQ.out hc] at hout
      exact ⟨rfl, FrAt.mk' hout HOK.out, ⟨hgw.os, hgw.tape, hgw.output, hgw.size, fun k hk hne => hgw.block k hk (fun e => hne (by cases e; simp))⟩⟩
    · intro x c kl yd yp w1 cnt1 hkey hlx hv hat hrg1 hlt hg1 hs1 hen
      have hout1 := hout.kept hg1 (fun e => by have := Option.some.inj e; omega)
      go_wp2_with (first
        | (at_mapUpdate; refine wpList_mapUpdate_own _ rfl _ _ _ 140 rfl 3 48 K Tryz.underlying140 (plainElem (H := Unit) Tryz.prog 48) d _ _ rfl hout1 (by unfold maxLen; omega) _ _ _ rfl rfl hkey yd yp hv ?_; intro w2 hout2 hg2; go_frame)
        | go_in)
      have hrg2 := hrg1.kept hg2 (fun e => hne (Option.some.inj e).symm) (fun e => by have := Option.some.inj e; omega)
      go_roundw
      case rel =>
        exact ⟨_, cnt1, _, hrg2, by omega, hout2.mono (by omega), merged_step hM hout.isMap (K.key hkey) hat, (hgw.andThen hg1 (fun j hj => .inl (by cases hj; exact Nat.le_refl _))).andThen hg2 (fun j hj => .inr hj)⟩
      case measure => rw [hrg2.left_eq, hrg.left_eq]; exact hlt

set_option maxRecDepth 100000 in
theorem merge_any {B : Nat} {w : World} {b : Nat} {ch : List (Nat × Nat)} {Fs : List Fr} (h : PLog B w b ch Fs) : Calls Tryz.prog 97 #[ptr b] w (OpPost B w b ch (mergeS Fs)) := by
  have hp1 := pop_any h
  obtain ⟨n, m, c, f, r, rfl, rfl⟩ := h.two
  have hl := h.len
  cases c with
  | nil =>
    obtain rfl : r = [] := by simpa [eq_comm] using hl
    unfold PopPost at hp1
    dsimp only at hp1
    unfold mergeS
    dsimp only
    have HS : Hid _ := h
    clear h
    go_enter Tryz.func97, Tryz.ntmps97
    go_wp2_with fail
    refine hp1.mono ?_
    rintro e w1 ⟨rfl, rfl⟩
    clear hp1
    go_wp2
    go_ret
    exact HS.out.stays (Touch.refl _ _) 8
  | cons p c =>
    obtain ⟨n', m'⟩ := p
    cases r with
    | nil => simp at hl
    | cons g r =>
      unfold PopPost at hp1
      dsimp only at hp1
      unfold mergeS
      dsimp only
      have hmm : m' ≠ m := by
        have := h.ndm
        simp only [List.map_cons, List.nodup_cons, List.mem_cons] at this
        exact fun e => this.1 (.inl e.symm)
      have hfm : FrAt w m f := h.fr 0 (by simp) (by simp)
      obtain ⟨h1', t1⟩ := h.pop
      have hmb : m ∉ [b] := by
        simp only [List.mem_singleton]
        rintro rfl
        obtain ⟨es, c, hm⟩ := hfm.isMap
        rw [h.st] at hm; cases hm
      have hfm1 := hfm.touch t1 hmb
      have HT1 : Hid _ := t1
      have HF1 : Hid _ := hfm1
      clear h hl hfm t1 h1' hfm1
      go_enter Tryz.func97, Tryz.ntmps97
      go_wp2_with fail
      refine hp1.mono ?_
      rintro e w1 ⟨rfl, h1, hw1⟩
      have hfm1 := HF1.out
      have t1 := HT1.out
      rw [← hw1] at hfm1 t1
      have c0 : w1.cell? ⟨b, 0, none⟩ = some (ptr n') := h1.cell
      obtain ⟨c1, _⟩ := h1.node0
      have hc := copy_any (h1.fr 0 (by simp) (by simp)) hfm1 hmm
      simp only [List.getElem_cons_zero] at hc
      have H1 : Hid _ := h1
      have HT : Hid _ := t1
      clear hp1 h1 hw1 hfm1 t1 HT1 HF1
      go_wp2_with fail
      refine hc.mono ?_
      rintro e w2 ⟨rfl, hf2, t2⟩
      have HP : Hid _ := H1.out.turn t2 hf2
      have HT2 : Hid _ := t2
      clear hc hf2 t2
      go_wp2
      go_ret
      refine ⟨_, rfl, HP.out, (HT.out.mono (by simp [pfoot])).trans HT2.out (by simp [pfoot]), fun x hx => .inl (pfoot_pop x hx)⟩

end Go.Proofs.YtmiaibpdeofokaaGreatDoor
/-
  A MAP FROM int TO ANYTHING, as a function: made, looked at, written. No walk.
-/
namespace Go.Proofs.YtmiaibpdeofokaaGreatDoor
set_option linter.unusedVariables false
set_option linter.unusedSimpArgs false
open Go.RowKit Go.Maps

abbrev W64 (x : Int) : Prop := -9223372036854775808 ≤ x ∧ x ≤ 9223372036854775807
theorem lit64 {x : Int} (h : W64 x) : (Lit.int .i64 x).wf = true := by simp [Lit.wf, IntKind.min, IntKind.max, IntKind.signed, IntKind.bits]; omega

def rawR (v : Value) : Option (DataW Value × List MemPlace) := some (.held v, [])
theorem keyedI : Keyed Tryz.prog 3 := int_keyed Tryz.underlying3
theorem keyI {x : Int} (h : W64 x) : keyOf Tryz.prog 3 (.int .i64 x) = some (.int .i64 x) := keyOf_int_mk Tryz.underlying3 (lit64 h)

/-- Block b is a map of at most n entries that tells F. -/
def MapF (w : World) (b n : Nat) (F : Int → Option Value) : Prop :=
  ∃ D : DataW Value, w.ownsMap Tryz.prog 3 rawR b n D ∧ IsMap D ∧ ∀ x, W64 x → has D (.int .i64 x) = (F x).isSome ∧ ∀ z, D.atKey (.int .i64 x) z = ((F x).map DataW.held).getD z

def updF {α : Type} (F : Int → Option α) (x : Int) (v : α) : Int → Option α := fun y => if y = x then some v else F y
theorem updF_same {α : Type} (F : Int → Option α) (x : Int) (v : α) : updF F x v x = some v := by simp [updF]
theorem updF_other {α : Type} (F : Int → Option α) {x y : Int} (v : α) (h : y ≠ x) : updF F x v y = F y := by simp [updF, h]

theorem MapF.made (w : World) : MapF (w.alloc (.map #[] 0)) w.heap.size 0 (fun _ => none) :=
  ⟨_, World.ownsMap_made w _ _ _, isMap_empty, fun x _ => ⟨rfl, fun z => rfl⟩⟩
theorem MapF.lt {w : World} {b n : Nat} {F : Int → Option Value} (h : MapF w b n F) : b < w.heap.size := by
  obtain ⟨D, hD, _⟩ := h; exact hD.lt
theorem MapF.touch {w w' : World} {b n : Nat} {F : Int → Option Value} {S : List Nat} (h : MapF w b n F) (t : Touch w w' S) (hb : b ∉ S) : MapF w' b n F := by
  obtain ⟨D, hD, r⟩ := h
  refine ⟨D, ?_, r⟩
  have hlt := hD.lt
  obtain ⟨es, clock, he, q⟩ := hD
  exact ⟨es, clock, (t.block _ hlt hb).trans he, q⟩
theorem MapF.isMapObj {w : World} {b n : Nat} {F : Int → Option Value} (h : MapF w b n F) : ∃ es c, w.heap[b]? = some (.map es c) := by
  obtain ⟨D, ⟨es, clock, he, q⟩, r⟩ := h; exact ⟨es, clock, he⟩

theorem MapF.look {w : World} {b n : Nat} {F : Int → Option Value} (h : MapF w b n F) {t e : TypeId} (ht : Tryz.prog.underlying t = some (.map 3 e)) {z : Value} (hz : (zeroValue e).run Tryz.prog w = .ok z w) {x : Int} (hx : W64 x) :
    (Instr.lookup t (.map (some b)) (.int .i64 x) false).run Tryz.prog w = .ok ((F x).getD z) w := by
  obtain ⟨D, hD, hm, hF⟩ := h
  obtain ⟨v, ps, hr, hv⟩ := hD.lookup keyedI ht hz (zd := .held z) (zp := []) rfl (keyI hx)
  rw [hr]
  have h2 := (hF x hx).2 (.held z)
  rw [h2] at hv
  simp only [rawR, Option.some.injEq, Prod.mk.injEq] at hv
  cases hq : F x with
  | none => rw [hq] at hv; simp at hv; rw [hv.1]; rfl
  | some u => rw [hq] at hv; simp at hv; rw [hv.1]; rfl
theorem MapF.lookOk {w : World} {b n : Nat} {F : Int → Option Value} (h : MapF w b n F) {t e : TypeId} (ht : Tryz.prog.underlying t = some (.map 3 e)) {z : Value} (hz : (zeroValue e).run Tryz.prog w = .ok z w) {x : Int} (hx : W64 x) :
    (Instr.lookup t (.map (some b)) (.int .i64 x) true).run Tryz.prog w = .ok (.tuple #[(F x).getD z, .bool (F x).isSome]) w := by
  obtain ⟨D, hD, hm, hF⟩ := h
  obtain ⟨v, ps, hr, hv⟩ := hD.look_ok keyedI ht hz (zd := .held z) (zp := []) rfl (keyI hx)
  rw [hr, (hF x hx).1]
  have h2 := (hF x hx).2 (.held z)
  rw [h2] at hv
  simp only [rawR, Option.some.injEq, Prod.mk.injEq] at hv
  cases hq : F x with
  | none => rw [hq] at hv; simp at hv; rw [hv.1]; rfl
  | some u => rw [hq] at hv; simp at hv; rw [hv.1]; rfl
theorem lit_ne {x y : Int} (h : y ≠ x) : (Lit.int .i64 y) ≠ Lit.int .i64 x := fun e => h (by simpa using e)
theorem MapF.store {w : World} {b n : Nat} {F : Int → Option Value} (h : MapF w b n F) {t e : TypeId} (ht : Tryz.prog.underlying t = some (.map 3 e)) (hn : n < maxLen) {x : Int} (hx : W64 x) (v : Value) :
    ∃ w', (Instr.mapUpdate t (.map (some b)) (.int .i64 x) v).run Tryz.prog w = .ok () w' ∧ MapF w' b (n + 1) (updF F x v) ∧ w.grownBy w' (some b) := by
  obtain ⟨D, hD, hm, hF⟩ := h
  obtain ⟨w', hr, hD', hg⟩ := hD.update keyedI ht hn (keyI hx) (val := v) (d := .held v) (ps := []) rfl
  refine ⟨w', hr, ⟨_, hD', hm.put _ _, fun y hy => ?_⟩, hg⟩
  by_cases e : y = x
  · subst e
    rw [updF_same]
    have hk : WideAt.IsKeyLit (.int .i64 y) := trivial
    exact ⟨has_put_same hm hk _, fun z => by rw [atKey_put_same hm hk]; rfl⟩
  · rw [updF_other F v e]
    exact ⟨by rw [has_put_other (lit_ne e)]; exact (hF y hy).1, fun z => by rw [atKey_put_other (lit_ne e)]; exact (hF y hy).2 z⟩

end Go.Proofs.YtmiaibpdeofokaaGreatDoor
/-
  package history: EVENTS AS PLAIN DATA; need, reached, needNamed, note BY THEIR CONTRACTS.
-/
namespace Go.Proofs.YtmiaibpdeofokaaGreatDoor
set_option linter.unusedVariables false
set_option linter.unusedSimpArgs false
open Go.RowKit Go.Maps
attribute [local go_sem] Oper.semAt_some

/-- An event: its kind, its attempt, its variable, its value. -/
structure EvD where
  k : Int
  a : Int
  t : Int
  v : Int
def EvD.cells (e : EvD) : List Value := [.int .u8 e.k, .int .i64 e.a, .int .i64 e.t, .int .u64 e.v]
abbrev EvD.val (e : EvD) : Value := .agg #[.int .u8 e.k, .int .i64 e.a, .int .i64 e.t, .int .u64 e.v]
abbrev EvD.obj (e : EvD) : Obj := .cells #[.int .u8 e.k, .int .i64 e.a, .int .i64 e.t, .int .u64 e.v] 50 (0, 0)
structure EvD.Wf (e : EvD) : Prop where
  k : 0 ≤ e.k ∧ e.k ≤ 255
  a : W64 e.a
  t : W64 e.t
  v : Wf64 e.v

/-- It gives up. -/
def GaveUp (e : Ending) : Prop := e = .panicked [{ v := .iface 112 (.agg #[]), recovered := false }]

theorem hneed_yes (w : World) : Calls Tryz.prog 45 #[.bool true] w fun e w' => e = .returned (.tuple #[]) ∧ w = w' := by
  go_enter Tryz.func45, Tryz.ntmps45
  go_wp2
  go_end0
  exact ⟨rfl, rfl⟩
theorem hneed_no (w : World) : Calls Tryz.prog 45 #[.bool false] w fun e w' => GaveUp e ∧ w = w' := by
  go_enter Tryz.func45, Tryz.ntmps45
  go_wp2
  exact ⟨rfl, rfl, rfl⟩

/-- How far one is behind an event. -/
def reachS (k was : Int) : Int := if k = 7 then 2 else if k = 8 then 3 else if k = 9 then 4 else was
theorem reached_any (e : EvD) (was : Int) (w : World) : Calls Tryz.prog 72 #[e.val, .int .u8 was] w fun x w' => x = .returned (.int .u8 (reachS e.k was)) ∧ Touch w w' [] := by
  obtain ⟨k, a, t, v⟩ := e
  unfold reachS EvD.val
  simp only
  by_cases h7 : k = 7
  · subst h7
    go_enter Tryz.func72, Tryz.ntmps72
    go_wp2
    go_ret
    exact ⟨rfl, (Touch.refl _ _).alloc _⟩
  · by_cases h8 : k = 8
    · subst h8
      go_enter Tryz.func72, Tryz.ntmps72
      go_wp2
      go_ret
      exact ⟨rfl, (Touch.refl _ _).alloc _⟩
    · by_cases h9 : k = 9
      · subst h9
        go_enter Tryz.func72, Tryz.ntmps72
        go_wp2
        go_ret
        exact ⟨rfl, (Touch.refl _ _).alloc _⟩
      · rw [if_neg h7, if_neg h8, if_neg h9]
        go_enter Tryz.func72, Tryz.ntmps72
        go_wp2
        go_ret
        exact ⟨rfl, (Touch.refl _ _).alloc _⟩

/-- What an event does to a log. -/
def noteS (Fs : List Fr) (e : EvD) : Int × List Fr := if e.k = 3 then putS Fs e.t e.v else if e.k = 4 then pushS Fs else if e.k = 5 then dropS Fs else if e.k = 6 then mergeS Fs else (0, Fs)

set_option maxRecDepth 100000 in
theorem note_any {B : Nat} {w : World} {b : Nat} {ch : List (Nat × Nat)} {Fs : List Fr} (h : PLog B w b ch Fs) (e : EvD) (he : e.Wf) : Calls Tryz.prog 70 #[ptr b, e.val] w (OpPost B w b ch (noteS Fs e)) := by
  obtain ⟨k, a, t, v⟩ := e
  obtain ⟨_, _, ht, hv⟩ := he
  have tt := (Touch.refl w []).alloc (EvD.obj ⟨k, a, t, v⟩)
  have h1 := h.touch tt
  unfold noteS EvD.val
  unfold EvD.obj at h1 tt
  simp only at h1 tt ht hv ⊢
  by_cases h3 : k = 3
  · subst h3
    rw [if_pos rfl]
    have c := put_any h1 t v ht hv
    have HT : Hid _ := tt
    clear h h1 tt
    generalize putS Fs t v = res at *
    go_enter Tryz.func70, Tryz.ntmps70
    go_wp2_with fail
    refine c.mono ?_
    intro x w1 hp
    obtain ⟨ch', rfl, p1, t1, x1⟩ := hp.after HT.out
    clear c hp
    go_wp2
    go_ret
    exact ⟨ch', rfl, p1, t1, x1⟩
  · rw [if_neg h3]
    by_cases h4 : k = 4
    · subst h4
      rw [if_pos rfl]
      have c := push_any h1
      have HT : Hid _ := tt
      clear h h1 tt
      generalize pushS Fs = res at *
      go_enter Tryz.func70, Tryz.ntmps70
      go_wp2_with fail
      refine c.mono ?_
      intro x w1 hp
      obtain ⟨ch', rfl, p1, t1, x1⟩ := hp.after HT.out
      clear c hp
      go_wp2
      go_ret
      exact ⟨ch', rfl, p1, t1, x1⟩
    · rw [if_neg h4]
      by_cases h5 : k = 5
      · subst h5
        rw [if_pos rfl]
        have c := drop_any h1
        have HT : Hid _ := tt
        clear h h1 tt
        generalize dropS Fs = res at *
        go_enter Tryz.func70, Tryz.ntmps70
        go_wp2_with fail
        refine c.mono ?_
        intro x w1 hp
        obtain ⟨ch', rfl, p1, t1, x1⟩ := hp.after HT.out
        clear c hp
        go_wp2
        go_ret
        exact ⟨ch', rfl, p1, t1, x1⟩
      · rw [if_neg h5]
        by_cases h6 : k = 6
        · subst h6
          rw [if_pos rfl]
          have c := merge_any h1
          have HT : Hid _ := tt
          clear h h1 tt
          generalize mergeS Fs = res at *
          go_enter Tryz.func70, Tryz.ntmps70
          go_wp2_with fail
          refine c.mono ?_
          intro x w1 hp
          obtain ⟨ch', rfl, p1, t1, x1⟩ := hp.after HT.out
          clear c hp
          go_wp2
          go_ret
          exact ⟨ch', rfl, p1, t1, x1⟩
        · rw [if_neg h6]
          have HQ : Hid _ := h
          have HT : Hid _ := tt
          clear h h1 tt
          go_enter Tryz.func70, Tryz.ntmps70
          go_wp2
          go_ret
          exact HQ.out.stays HT.out 0

/-- Whether the variable and the value can be those of its kind. -/
def namedS (e : EvD) : Bool := (decide (e.k = 2) || decide (e.k = 3) || (decide (e.t = 0) && decide (e.v = 0))) && (decide (0 ≤ e.t) && decide (e.t < 12) && rightB e.v)

/-- A world as it was, or where it gave up. -/
def NeedE (ok : Bool) (w : World) (x : Ending) (w' : World) : Prop := (if ok then x = .returned (.tuple #[]) else GaveUp x) ∧ Touch w w' []

theorem NeedE.yes {ok : Bool} {w w' : World} (h : ok = true) (t : Touch w w' []) : NeedE ok w (.returned (.tuple #[])) w' := ⟨by rw [if_pos h], t⟩
theorem NeedE.no {ok : Bool} {w w' : World} {x : Ending} (h : ok = false) (hx : GaveUp x) (t : Touch w w' []) : NeedE ok w x w' := ⟨by rw [if_neg (by rw [h]; simp)]; exact hx, t⟩

theorem hneed_any (ok : Bool) (w : World) : Calls Tryz.prog 45 #[.bool ok] w (NeedE ok w) := by
  cases ok
  · exact (hneed_no w).mono (by rintro e w1 ⟨h, rfl⟩; exact ⟨h, Touch.refl _ _⟩)
  · exact (hneed_yes w).mono (by rintro e w1 ⟨h, rfl⟩; exact ⟨h, Touch.refl _ _⟩)

set_option maxRecDepth 100000 in
set_option maxHeartbeats 1000000 in
theorem named_any (e : EvD) (he : e.Wf) (w : World) : Calls Tryz.prog 68 #[e.val] w (NeedE (namedS e) w) := by
  obtain ⟨k, a, t, v⟩ := e
  obtain ⟨_, _, ht, hv⟩ := he
  have HT : Hid (Touch w (w.alloc (EvD.obj ⟨k, a, t, v⟩)) []) := (Touch.refl w []).alloc _
  have key : ∃ ok, ok = namedS ⟨k, a, t, v⟩ := ⟨_, rfl⟩
  obtain ⟨ok, hok⟩ := key
  rw [← hok]
  have HK : Hid _ := hok
  clear hok
  unfold EvD.val
  unfold EvD.obj at HT
  simp only at HT ht hv ⊢
  have hr := right_any v
  by_cases h2 : k = 2
  · subst h2
    go_enter Tryz.func68, Tryz.ntmps68
    go_wp2_with fail
    refine (hneed_yes _).mono ?_
    rintro x w1 ⟨rfl, rfl⟩
    by_cases h0 : 0 ≤ t
    · by_cases h12 : t < 12
      · go_wp2_with fail
        refine (hr _).mono ?_
        rintro x w1 ⟨rfl, rfl⟩
        cases hq : rightB v with
        | false =>
          go_wp2_with fail
          refine (hneed_no _).mono ?_
          rintro x w1 ⟨rfl, rfl⟩
          exact ⟨rfl, NeedE.no (by rw [HK.out]; simp [namedS, hq]) rfl HT.out⟩
        | true =>
          go_wp2_with fail
          refine (hneed_yes _).mono ?_
          rintro x w1 ⟨rfl, rfl⟩
          go_wp2
          go_end0
          exact NeedE.yes (by rw [HK.out]; simp [namedS, h0, h12, hq]) HT.out
      · go_wp2_with fail
        refine (hneed_no _).mono ?_
        rintro x w1 ⟨rfl, rfl⟩
        exact ⟨rfl, NeedE.no (by rw [HK.out]; unfold namedS; simp only [decide_eq_false (show ¬ t < 12 by omega)]; simp) rfl HT.out⟩
    · have h0' : decide (0 ≤ t) = false := decide_eq_false h0
      go_wp2_with fail
      refine (hneed_no _).mono ?_
      rintro x w1 ⟨rfl, rfl⟩
      exact ⟨rfl, NeedE.no (by rw [HK.out]; unfold namedS; simp only [decide_eq_false (show ¬ 0 ≤ t by omega)]; simp) rfl HT.out⟩
  · by_cases h3 : k = 3
    · subst h3
      go_enter Tryz.func68, Tryz.ntmps68
      go_wp2_with fail
      refine (hneed_yes _).mono ?_
      rintro x w1 ⟨rfl, rfl⟩
      by_cases h0 : 0 ≤ t
      · by_cases h12 : t < 12
        · go_wp2_with fail
          refine (hr _).mono ?_
          rintro x w1 ⟨rfl, rfl⟩
          cases hq : rightB v with
          | false =>
            go_wp2_with fail
            refine (hneed_no _).mono ?_
            rintro x w1 ⟨rfl, rfl⟩
            exact ⟨rfl, NeedE.no (by rw [HK.out]; simp [namedS, hq]) rfl HT.out⟩
          | true =>
            go_wp2_with fail
            refine (hneed_yes _).mono ?_
            rintro x w1 ⟨rfl, rfl⟩
            go_wp2
            go_end0
            exact NeedE.yes (by rw [HK.out]; simp [namedS, h0, h12, hq]) HT.out
        · go_wp2_with fail
          refine (hneed_no _).mono ?_
          rintro x w1 ⟨rfl, rfl⟩
          exact ⟨rfl, NeedE.no (by rw [HK.out]; unfold namedS; simp only [decide_eq_false (show ¬ t < 12 by omega)]; simp) rfl HT.out⟩
      · have h0' : decide (0 ≤ t) = false := decide_eq_false h0
        go_wp2_with fail
        refine (hneed_no _).mono ?_
        rintro x w1 ⟨rfl, rfl⟩
        exact ⟨rfl, NeedE.no (by rw [HK.out]; unfold namedS; simp only [decide_eq_false (show ¬ 0 ≤ t by omega)]; simp) rfl HT.out⟩
    · by_cases ht0 : t = 0
      · by_cases hv0 : v = 0
        · subst ht0 hv0
          have hr0 : rightB 0 = true := by decide
          rw [hr0] at hr
          go_enter Tryz.func68, Tryz.ntmps68
          go_wp2_with fail
          refine (hneed_yes _).mono ?_
          rintro x w1 ⟨rfl, rfl⟩
          go_wp2_with fail
          refine (hr _).mono ?_
          rintro x w1 ⟨rfl, rfl⟩
          go_wp2_with fail
          refine (hneed_yes _).mono ?_
          rintro x w1 ⟨rfl, rfl⟩
          go_wp2
          go_end0
          exact NeedE.yes (by rw [HK.out]; simp [namedS, hr0]) HT.out
        · subst ht0
          have e2 : (k == 2) = false := by simpa using h2
          have e3 : (k == 3) = false := by simpa using h3
          have e4 : (v == 0) = false := by simpa using hv0
          go_enter Tryz.func68, Tryz.ntmps68
          go_wp2_with fail
          refine (hneed_no _).mono ?_
          rintro x w1 ⟨rfl, rfl⟩
          exact ⟨rfl, NeedE.no (by rw [HK.out]; simp [namedS, h2, h3, hv0]) rfl HT.out⟩
      · have e2 : (k == 2) = false := by simpa using h2
        have e3 : (k == 3) = false := by simpa using h3
        have e4 : (t == 0) = false := by simpa using ht0
        go_enter Tryz.func68, Tryz.ntmps68
        go_wp2_with fail
        refine (hneed_no _).mono ?_
        rintro x w1 ⟨rfl, rfl⟩
        exact ⟨rfl, NeedE.no (by rw [HK.out]; simp [namedS, h2, h3, ht0]) rfl HT.out⟩

end Go.Proofs.YtmiaibpdeofokaaGreatDoor
/-
  package history: (course).behind BY ITS CONTRACT.
-/
namespace Go.Proofs.YtmiaibpdeofokaaGreatDoor
set_option linter.unusedVariables false
set_option linter.unusedSimpArgs false
open Go.RowKit Go.Maps
attribute [local go_sem] Oper.semAt_some

/-- The course behind an event, if it can come now. -/
def behindS (st : Int) (Fs : List Fr) (e : EvD) : Option (Int × List Fr) :=
  if namedS e = false then none
  else if e.k = 1 then (if st = 0 then some (1, [f0]) else none)
  else if 2 ≤ e.k ∧ e.k ≤ 6 then (if st = 1 ∧ (noteS Fs e).1 = 0 then some (1, (noteS Fs e).2) else none)
  else if e.k = 7 then (if st = 1 ∧ Fs.length - 1 = 0 then some (2, Fs) else none)
  else if e.k = 8 then (if st = 2 then some (3, Fs) else none)
  else if e.k = 9 then (if st = 1 ∨ st = 2 then some (4, Fs) else none)
  else none

/-- A course: how far, and the log of its own (of none that has begun no log). -/
def Crs (B : Nat) (w : World) (st : Int) (pv : Value) (ft : List Nat) (Fs : List Fr) : Prop :=
  (st = 0 ∧ pv = .pointer none ∧ ft = [] ∧ Fs = []) ∨ ((1 ≤ st ∧ st ≤ 4) ∧ ∃ b ch, pv = ptr b ∧ ft = pfoot b ch ∧ PLog B w b ch Fs)
theorem Crs.keep {B : Nat} {w w' : World} {st : Int} {pv : Value} {ft : List Nat} {Fs : List Fr} {S : List Nat} (h : Crs B w st pv ft Fs) (t : Touch w w' S) (hS : ∀ x ∈ ft, x ∉ S) : Crs B w' st pv ft Fs := by
  rcases h with h | ⟨h1, b, ch, h2, rfl, h3⟩
  · exact .inl h
  · exact .inr ⟨h1, b, ch, h2, rfl, h3.keep t hS⟩
theorem Crs.touch {B : Nat} {w w' : World} {st : Int} {pv : Value} {ft : List Nat} {Fs : List Fr} (h : Crs B w st pv ft Fs) (t : Touch w w' []) : Crs B w' st pv ft Fs := h.keep t (by simp)
theorem Crs.foot_lt {B : Nat} {w : World} {st : Int} {pv : Value} {ft : List Nat} {Fs : List Fr} (h : Crs B w st pv ft Fs) : ∀ x ∈ ft, B ≤ x ∧ x < w.heap.size := by
  rcases h with ⟨_, _, rfl, _⟩ | ⟨h1, b, ch, h2, rfl, h3⟩
  · simp
  · exact h3.foot_lt
theorem PLog.lower {B B' : Nat} {w : World} {b : Nat} {ch : List (Nat × Nat)} {Fs : List Fr} (h : PLog B' w b ch Fs) (hB : B ≤ B') : PLog B w b ch Fs :=
  { h with hb := Nat.le_trans hB h.hb, hn := fun p hp => ⟨Nat.le_trans hB (h.hn p hp).1, Nat.le_trans hB (h.hn p hp).2⟩ }

/-- What behind comes to. -/
def BehE (B : Nat) (w : World) (ft : List Nat) (res : Option (Int × List Fr)) (x : Ending) (w' : World) : Prop :=
  (res = none ∧ GaveUp x ∧ Touch w w' ft) ∨ ∃ st' Fs' pv' ft', res = some (st', Fs') ∧ x = .returned (.agg #[.int .u8 st', pv']) ∧ Crs B w' st' pv' ft' Fs' ∧ Touch w w' ft ∧ ∀ y ∈ ft', y ∈ ft ∨ w.heap.size ≤ y

/-- behind's three boxes. -/
structure Box3 (W : World) (cb : Nat) (st : Int) (pv : Value) (e : EvD) : Prop where
  c : W.heap[cb]? = some (.cells #[.int .u8 st, pv] 86 (0, 0))
  e : W.heap[cb + 1]? = some e.obj
  r : W.heap[cb + 2]? = some (.cells #[.int .u8 0, .pointer none] 86 (0, 0))
theorem Box3.touch {W W' : World} {cb : Nat} {st : Int} {pv : Value} {e : EvD} {S : List Nat} (h : Box3 W cb st pv e) (t : Touch W W' S) (hS : ∀ x ∈ S, x < cb ∨ cb + 2 < x) : Box3 W' cb st pv e :=
  ⟨(t.block _ (lt_of_heap h.c) (fun hs => by have := hS _ hs; omega)).trans h.c, (t.block _ (lt_of_heap h.e) (fun hs => by have := hS _ hs; omega)).trans h.e, (t.block _ (lt_of_heap h.r) (fun hs => by have := hS _ hs; omega)).trans h.r⟩
theorem Box3.new (w : World) (st : Int) (pv : Value) (e : EvD) : Box3 (((w.alloc (.cells #[.int .u8 st, pv] 86)).alloc e.obj).alloc (.cells #[.int .u8 0, .pointer none] 86)) w.heap.size st pv e := by
  refine ⟨?_, ?_, ?_⟩
  · rw [heap_alloc_old _ _ (by simp; omega), heap_alloc_old _ _ (by simp)]; exact heap_alloc_new w _
  · rw [heap_alloc_old _ _ (by simp)]
    have := heap_alloc_new (w.alloc (.cells #[.int .u8 st, pv] 86)) e.obj
    simpa using this
  · have := heap_alloc_new ((w.alloc (.cells #[.int .u8 st, pv] 86)).alloc e.obj) (.cells #[.int .u8 0, .pointer none] 86)
    simpa using this
theorem Box3.cells {W : World} {cb : Nat} {st : Int} {pv : Value} {e : EvD} (h : Box3 W cb st pv e) :
    (W.cell? ⟨cb, 0, none⟩ = some (.int .u8 st) ∧ W.cell? ⟨cb, 1, none⟩ = some pv ∧ W.frozen? ⟨cb, 0, none⟩ = false) ∧
    (W.cell? ⟨cb + 1, 0, none⟩ = some (.int .u8 e.k) ∧ W.cell? ⟨cb + 1, 1, none⟩ = some (.int .i64 e.a) ∧ W.cell? ⟨cb + 1, 2, none⟩ = some (.int .i64 e.t) ∧ W.cell? ⟨cb + 1, 3, none⟩ = some (.int .u64 e.v)) ∧
    (W.cell? ⟨cb + 2, 0, none⟩ = some (.int .u8 0) ∧ W.cell? ⟨cb + 2, 1, none⟩ = some (.pointer none) ∧ W.frozen? ⟨cb + 2, 0, none⟩ = false ∧ W.frozen? ⟨cb + 2, 1, none⟩ = false) := by
  obtain ⟨h1, h2, h3⟩ := h
  simp [World.cell?, World.frozen?, h1, h2, h3, EvD.obj]

set_option maxRecDepth 100000 in
set_option maxHeartbeats 2000000 in
theorem behind_new {B : Nat} {w : World} (hB : B ≤ w.heap.size) (e : EvD) (he : e.Wf) :
    Calls Tryz.prog 46 #[.agg #[.int .u8 0, .pointer none], e.val] w (BehE B w [] (behindS 0 [] e)) := by
  obtain ⟨res, hres⟩ : ∃ r, r = behindS 0 [] e := ⟨_, rfl⟩
  rw [← hres]
  have HRES : Hid _ := hres
  clear hres
  have T0 : Hid (Touch w (((w.alloc (.cells #[.int .u8 0, .pointer none] 86)).alloc e.obj).alloc (.cells #[.int .u8 0, .pointer none] 86)) []) := (((Touch.refl w []).alloc _).alloc _).alloc _
  have B0 : Hid _ := Box3.new w 0 (.pointer none) e
  have hn := named_any e he
  have HE : Hid _ := he
  clear he
  go_enter Tryz.func46, Tryz.ntmps46
  go_wp2_with fail
  refine (hn _).mono ?_
  intro x w1 hne
  cases hq : namedS e with
  | false =>
    rw [hq] at hne
    obtain ⟨hx, t1⟩ := hne
    obtain rfl : x = _ := hx
    exact ⟨rfl, .inl ⟨by rw [HRES.out]; unfold behindS; rw [if_pos hq], rfl, T0.out.trans t1 (by simp)⟩⟩
  | true =>
    rw [hq] at hne
    obtain ⟨hx, t1⟩ := hne
    obtain rfl : x = _ := hx
    have T1 : Hid _ := T0.out.trans t1 (by simp)
    have b1 := B0.out.touch t1 (by simp)
    have B1 : Hid _ := b1
    obtain ⟨⟨c0, c1, c2⟩, ⟨e0, e1, e2, e3⟩, ⟨r0, r1, r2, r3⟩⟩ := b1.cells
    clear B0 T0 t1 b1 hn
    by_cases hk1 : e.k = 1
    · have hr1 : res = some (1, [f0]) := by rw [HRES.out]; unfold behindS; rw [if_neg (by rw [hq]; simp), if_pos hk1, if_pos rfl]
      rw [hk1] at e0
      have HK : Hid _ := hk1
      clear hk1 HRES
      subst hr1
      go_wp2_with fail
      refine (hneed_yes _).mono ?_
      rintro x w2 ⟨rfl, rfl⟩
      go_wp2_with fail
      refine (new_any _).mono ?_
      rintro x w2 ⟨b, ch, rfl, hp, t2⟩
      obtain ⟨⟨c0', c1', c2'⟩, ⟨e0', e1', e2', e3'⟩, ⟨r0', r1', r2', r3'⟩⟩ := (B1.out.touch t2 (by simp)).cells
      have HP : Hid _ := hp
      have T2 : Hid _ := T1.out.trans t2 (by simp)
      clear hp c0 c1 c2 e0 e1 e2 e3 r0 r1 r2 r3
      go_wp2
      have T3 : Touch w2 ((w2.setCell ⟨w.heap.size + 1 + 1, 0, none⟩ (.int .u8 1)).setCell ⟨w.heap.size + 1 + 1, 1, none⟩ (ptr b)) [w.heap.size + 2] := ((Touch.refl w2 _).setCell (.inl (by simp)) _).setCell (.inl (by simp)) _
      have hlt := lt_of_heap (B1.out.r)
      refine bodyPost_ret (v := .agg #[.int .u8 1, ptr b]) ?_ rfl (.inr ⟨1, [f0], ptr b, pfoot b ch, rfl, rfl, .inr ⟨by omega, b, ch, rfl, rfl, (HP.out.keep T3 (fun x hx hs => by have := (HP.out.foot_lt x hx).1; simp at hs; omega)).lower (Nat.le_trans hB T1.out.size)⟩, T2.out.trans T3 (by intro x hx; simp at hx; exact .inr (by omega)), fun y hy => .inr (Nat.le_trans T1.out.size (HP.out.foot_lt y hy).1)⟩)
      simp [results, Tryz.results46, go_sem, r0', r1', r2', r3']
    · have hr1 : res = none := by
        rw [HRES.out]; unfold behindS; rw [if_neg (by rw [hq]; simp), if_neg hk1]
        split
        · rw [if_neg (by simp)]
        · split
          · rw [if_neg (by simp)]
          · split
            · rw [if_neg (by simp)]
            · split
              · rw [if_neg (by simp)]
              · rfl
      clear HRES
      subst hr1
      have hall : e.k = 2 ∨ e.k = 3 ∨ e.k = 4 ∨ e.k = 5 ∨ e.k = 6 ∨ e.k = 7 ∨ e.k = 8 ∨ e.k = 9 ∨ (¬ e.k = 2 ∧ ¬ e.k = 3 ∧ ¬ e.k = 4 ∧ ¬ e.k = 5 ∧ ¬ e.k = 6 ∧ ¬ e.k = 7 ∧ ¬ e.k = 8 ∧ ¬ e.k = 9) := by omega
      rcases hall with h | h | h | h | h | h | h | h | ⟨h2, h3, h4, h5, h6, h7, h8, h9⟩
      case inr.inr.inr.inr.inr.inr.inr.inr =>
        go_wp2_with fail
        refine (hneed_no _).mono ?_
        rintro x w2 ⟨rfl, rfl⟩
        exact ⟨rfl, .inl ⟨rfl, rfl, T1.out⟩⟩
      all_goals
        rw [h] at e0
        clear h hk1
        go_wp2_with fail
        refine (hneed_no _).mono ?_
        rintro x w2 ⟨rfl, rfl⟩
        exact ⟨rfl, .inl ⟨rfl, rfl, T1.out⟩⟩

set_option maxRecDepth 100000 in
set_option maxHeartbeats 4000000 in
theorem behind_old {B : Nat} {w : World} {st : Int} {b : Nat} {ch : List (Nat × Nat)} {Fs : List Fr} (h : PLog B w b ch Fs) (hst : 1 ≤ st ∧ st ≤ 4) (hB : B ≤ w.heap.size) (e : EvD) (he : e.Wf) :
    Calls Tryz.prog 46 #[.agg #[.int .u8 st, ptr b], e.val] w (BehE B w (pfoot b ch) (behindS st Fs e)) := by
  obtain ⟨res, hres⟩ : ∃ r, r = behindS st Fs e := ⟨_, rfl⟩
  rw [← hres]
  have HRES : Hid _ := hres
  clear hres
  have T0 : Hid (Touch w (((w.alloc (.cells #[.int .u8 st, ptr b] 86)).alloc e.obj).alloc (.cells #[.int .u8 0, .pointer none] 86)) []) := (((Touch.refl w []).alloc _).alloc _).alloc _
  have B0 : Hid _ := Box3.new w st (ptr b) e
  have hn := named_any e he
  have HE : Hid _ := he
  have HP0 : Hid _ := h
  clear he h
  go_enter Tryz.func46, Tryz.ntmps46
  go_wp2_with fail
  refine (hn _).mono ?_
  intro x w1 hne
  cases hq : namedS e with
  | false =>
    rw [hq] at hne
    obtain ⟨hx, t1⟩ := hne
    obtain rfl : x = _ := hx
    exact ⟨rfl, .inl ⟨by rw [HRES.out]; unfold behindS; rw [if_pos hq], rfl, (T0.out.trans t1 (by simp)).mono (by simp)⟩⟩
  | true =>
    rw [hq] at hne
    obtain ⟨hx, t1⟩ := hne
    obtain rfl : x = _ := hx
    have T1 : Hid (Touch w w1 []) := T0.out.trans t1 (by simp)
    have B1 : Hid _ := B0.out.touch t1 (by simp)
    have P1 : Hid _ := HP0.out.touch T1.out
    have FT : Hid _ := HP0.out.foot_lt
    obtain ⟨⟨c0, c1, c2⟩, ⟨e0, e1, e2, e3⟩, ⟨r0, r1, r2, r3⟩⟩ := B1.out.cells
    clear B0 T0 t1 hn
    have hnm : ¬ namedS e = false := by rw [hq]; simp
    have HNM : Hid _ := hnm
    clear hnm hq
    by_cases hk1 : e.k = 1
    · have hr1 : res = none := by rw [HRES.out]; unfold behindS; rw [if_neg HNM.out, if_pos hk1, if_neg (by omega)]
      subst hr1
      have s0 : (st == 0) = false := by simp; omega
      rw [hk1] at e0
      clear hk1 HRES
      go_wp2_with fail
      refine (hneed_no _).mono ?_
      rintro x w2 ⟨rfl, rfl⟩
      exact ⟨rfl, .inl ⟨rfl, rfl, T1.out.mono (by simp)⟩⟩
    · by_cases hk26 : 2 ≤ e.k ∧ e.k ≤ 6
      · by_cases hs1 : st = 1
        · subst hs1
          have hr1 : res = if (noteS Fs e).1 = 0 then some (1, (noteS Fs e).2) else none := by rw [HRES.out]; unfold behindS; rw [if_neg HNM.out, if_neg hk1, if_pos hk26]; simp
          have hno := note_any P1.out e HE.out
          have hrk : reachS e.k 1 = 1 := by unfold reachS; rw [if_neg (by omega), if_neg (by omega), if_neg (by omega)]
          have hre := reached_any e 1
          rw [hrk] at hre
          have HRE : Hid _ := hre
          have HR1 : Hid _ := hr1
          have HK26 : Hid _ := hk26
          clear hr1 hre hrk HRES hk1
          generalize noteS Fs e = nr at *
          obtain ⟨z, Gs⟩ := nr
          have hall : e.k = 2 ∨ e.k = 3 ∨ e.k = 4 ∨ e.k = 5 ∨ e.k = 6 := by omega
          have hval : ∃ k, e.k = k ∧ e.val = .agg #[.int .u8 k, .int .i64 e.a, .int .i64 e.t, .int .u64 e.v] := ⟨_, rfl, rfl⟩
          clear hval hk26
          rcases hall with hk | hk | hk | hk | hk
          all_goals
            have hval : e.val = .agg #[.int .u8 e.k, .int .i64 e.a, .int .i64 e.t, .int .u64 e.v] := rfl
            rw [hk] at hval e0
            rw [hval] at hno
            have HKE : Hid _ := hk
            have hre' := HRE.out
            rw [hval] at hre'
            clear HRE
            have HRE : Hid _ := hre'
            clear hval hk hre'
            go_wp2_with fail
            refine (hneed_yes _).mono ?_
            rintro x w2 ⟨rfl, rfl⟩
            go_wp2_with fail
            refine hno.mono ?_
            rintro x w2 ⟨ch2, rfl, p2, t2, f2⟩
            have BW : Hid _ := B1.out.touch t2 (fun x hx => by have := (FT.out x hx).2; omega)
            have PW : Hid _ := p2
            have TW : Hid (Touch w w2 (pfoot b ch)) := (T1.out.mono (by simp)).trans t2 (fun x hx => .inl hx)
            have FX : Hid _ := f2
            have FW : Hid (∀ x ∈ pfoot b ch2, x < w.heap.size ∨ w.heap.size + 2 < x) := fun x hx => by
              have hl := lt_of_heap B1.out.r
              rcases f2 x hx with h1 | h1
              · exact .inl (FT.out x h1).2
              · exact .inr (by omega)
            have FX : Hid (∀ y ∈ pfoot b ch2, y ∈ pfoot b ch ∨ w.heap.size ≤ y) := fun y hy => (f2 y hy).imp id (fun h => Nat.le_trans T1.out.size h)
            clear hno p2 t2 f2 B1 c0 c1 c2 e0 e1 e2 e3 r0 r1 r2 r3
            simp only at *
            by_cases hz : z = 0
            · subst hz
              have hr2 : res = some (1, Gs) := by rw [HR1.out]; simp
              have HR2 : Hid _ := hr2
              clear hr2 HR1
              obtain ⟨⟨c0, c1, c2⟩, ⟨e0, e1, e2, e3⟩, ⟨r0, r1, r2, r3⟩⟩ := BW.out.cells
              rw [HKE.out] at e0
              go_wp2_with fail
              refine (hneed_yes _).mono ?_
              rintro x w3 ⟨rfl, rfl⟩
              clear c0 c1 c2 e0 e1 e2 e3 r0 r1 r2 r3
              obtain ⟨⟨c0, c1, c2⟩, ⟨e0, e1, e2, e3⟩, ⟨r0, r1, r2, r3⟩⟩ := BW.out.cells
              rw [HKE.out] at e0
              go_wp2_with fail
              refine (HRE.out _).mono ?_
              rintro x w7 ⟨rfl, t7⟩
              have b7 := BW.out.touch t7 (by simp)
              obtain ⟨⟨d0, d1, d2⟩, _, ⟨r0', r1', r2', r3'⟩⟩ := b7.cells
              clear b7 c0 c1 c2 e0 e1 e2 e3 r0 r1 r2 r3
              go_wp2
              have T8 : Touch w7 (((w7.setCell ⟨w.heap.size, 0, none⟩ (.int .u8 1)).setCell ⟨w.heap.size + 1 + 1, 0, none⟩ (.int .u8 1)).setCell ⟨w.heap.size + 1 + 1, 1, none⟩ (ptr b)) [w.heap.size, w.heap.size + 2] := (((Touch.refl w7 _).setCell (.inl (by simp)) _).setCell (.inl (by simp)) _).setCell (.inl (by simp)) _
              refine bodyPost_ret (v := .agg #[.int .u8 1, ptr b]) ?_ rfl (.inr ⟨1, _, ptr b, _, HR2.out, rfl, .inr ⟨by omega, b, _, rfl, rfl, (PW.out.touch t7).keep T8 (fun x hx hs => by have h1 := FW.out x hx; simp at hs; omega)⟩, (TW.out.trans t7 (by simp)).trans T8 (by intro x hx; simp at hx; exact .inr (by omega)), FX.out⟩)
              simp [results, Tryz.results46, go_sem, d0, d1, d2, r0', r1', r2', r3']
            · have hr2 : res = none := by rw [HR1.out, if_neg hz]
              have hz0 : (z == 0) = false := by simpa using hz
              subst hr2
              go_wp2_with fail
              refine (hneed_no _).mono ?_
              rintro x w3 ⟨rfl, rfl⟩
              exact ⟨rfl, .inl ⟨rfl, rfl, TW.out⟩⟩
        · have hr1 : res = none := by rw [HRES.out]; unfold behindS; rw [if_neg HNM.out, if_neg hk1, if_pos hk26, if_neg (fun h => hs1 h.1)]
          subst hr1
          have s0 : (st == 1) = false := by simpa using hs1
          have hall : e.k = 2 ∨ e.k = 3 ∨ e.k = 4 ∨ e.k = 5 ∨ e.k = 6 := by omega
          clear HRES hk1 hk26 hs1
          rcases hall with hk | hk | hk | hk | hk
          all_goals
            rw [hk] at e0
            clear hk
            go_wp2_with fail
            refine (hneed_no _).mono ?_
            rintro x w3 ⟨rfl, rfl⟩
            exact ⟨rfl, .inl ⟨rfl, rfl, T1.out.mono (by simp)⟩⟩
      · by_cases hk7 : e.k = 7
        · have hk := hk7
          by_cases hs1 : st = 1
          · subst hs1
            have hr1 : res = if Fs.length - 1 = 0 then some (2, Fs) else none := by rw [HRES.out]; unfold behindS; rw [if_neg HNM.out, if_neg hk1, if_neg hk26, if_pos hk7]; simp
            have hd := depth_any P1.out
            have HR1 : Hid _ := hr1
            clear hr1 HRES hk1 hk26 hk7
            have hre := reached_any e 1
            have hval : e.val = .agg #[.int .u8 e.k, .int .i64 e.a, .int .i64 e.t, .int .u64 e.v] := rfl
            rw [hk] at hval e0
            rw [hval, hk, show reachS 7 1 = 2 from by decide] at hre
            have HKE : Hid _ := hk
            have HRE : Hid _ := hre
            clear hre hval hk
            generalize hD : Fs.length - 1 = D at hd HR1
            have hD4 : D ≤ 4 := by have h1 := HP0.out.le; have h2 := HP0.out.len; omega
            have HD : Hid _ := hD
            clear hD
            go_wp2_with fail
            refine hd.mono ?_
            rintro x w2 ⟨rfl, t2⟩
            have BB : Hid _ := B1.out.touch t2 (by simp)
            have TT : Hid (Touch w w2 []) := T1.out.trans t2 (by simp)
            clear hd B1 t2 c0 c1 c2 e0 e1 e2 e3 r0 r1 r2 r3
            by_cases hz : D = 0
            · subst hz
              have hr2 : res = some (2, Fs) := by rw [HR1.out]; simp
              have HR2 : Hid _ := hr2
              clear hr2 HR1
              obtain ⟨⟨c0, c1, c2⟩, ⟨e0, e1, e2, e3⟩, ⟨r0, r1, r2, r3⟩⟩ := BB.out.cells
              rw [HKE.out] at e0
              go_wp2_with fail
              refine (hneed_yes _).mono ?_
              rintro x w3 ⟨rfl, rfl⟩
              clear c0 c1 c2 e0 e1 e2 e3 r0 r1 r2 r3
              have BW : Hid (Box3 w2 w.heap.size _ (ptr b) e) := BB.out
              have PW : Hid _ := HP0.out.touch TT.out
              have TW : Hid (Touch w w2 (pfoot b ch)) := TT.out.mono (by simp)
              have FW : Hid (∀ x ∈ pfoot b ch, x < w.heap.size ∨ w.heap.size + 2 < x) := fun x hx => .inl (FT.out x hx).2
              have FX : Hid (∀ y ∈ pfoot b ch, y ∈ pfoot b ch ∨ w.heap.size ≤ y) := fun y hy => .inl hy
              obtain ⟨⟨c0, c1, c2⟩, ⟨e0, e1, e2, e3⟩, ⟨r0, r1, r2, r3⟩⟩ := BW.out.cells
              rw [HKE.out] at e0
              go_wp2_with fail
              refine (HRE.out _).mono ?_
              rintro x w7 ⟨rfl, t7⟩
              have b7 := BW.out.touch t7 (by simp)
              obtain ⟨⟨d0, d1, d2⟩, _, ⟨r0', r1', r2', r3'⟩⟩ := b7.cells
              clear b7 c0 c1 c2 e0 e1 e2 e3 r0 r1 r2 r3
              go_wp2
              have T8 : Touch w7 (((w7.setCell ⟨w.heap.size, 0, none⟩ (.int .u8 2)).setCell ⟨w.heap.size + 1 + 1, 0, none⟩ (.int .u8 2)).setCell ⟨w.heap.size + 1 + 1, 1, none⟩ (ptr b)) [w.heap.size, w.heap.size + 2] := (((Touch.refl w7 _).setCell (.inl (by simp)) _).setCell (.inl (by simp)) _).setCell (.inl (by simp)) _
              refine bodyPost_ret (v := .agg #[.int .u8 2, ptr b]) ?_ rfl (.inr ⟨2, _, ptr b, _, HR2.out, rfl, .inr ⟨by omega, b, _, rfl, rfl, (PW.out.touch t7).keep T8 (fun x hx hs => by have h1 := FW.out x hx; simp at hs; omega)⟩, (TW.out.trans t7 (by simp)).trans T8 (by intro x hx; simp at hx; exact .inr (by omega)), FX.out⟩)
              simp [results, Tryz.results46, go_sem, d0, d1, d2, r0', r1', r2', r3']
            · have hr2 : res = none := by rw [HR1.out, if_neg hz]
              have hz0 : ¬ (D : Int) = 0 := by omega
              have hz1 : ((D : Int) == 0) = false := by simpa using hz0
              subst hr2
              go_wp2_with fail
              refine (hneed_no _).mono ?_
              rintro x w3 ⟨rfl, rfl⟩
              exact ⟨rfl, .inl ⟨rfl, rfl, TT.out.mono (by simp)⟩⟩
          · have hr1 : res = none := by rw [HRES.out]; unfold behindS; rw [if_neg HNM.out, if_neg hk1, if_neg hk26, if_pos hk7, if_neg (fun h => hs1 h.1)]
            subst hr1
            have s0 : (st == 1) = false := by simpa using hs1
            rw [hk] at e0
            clear HRES hk1 hk26 hs1 hk hk7
            go_wp2_with fail
            refine (hneed_no _).mono ?_
            rintro x w3 ⟨rfl, rfl⟩
            exact ⟨rfl, .inl ⟨rfl, rfl, T1.out.mono (by simp)⟩⟩
        · by_cases hk8 : e.k = 8
          · have hk := hk8
            by_cases hs1 : st = 2
            · subst hs1
              have hr1 : res = some (3, Fs) := by rw [HRES.out]; unfold behindS; rw [if_neg HNM.out, if_neg hk1, if_neg hk26, if_neg hk7, if_pos hk8]; simp
              have HR2 : Hid _ := hr1
              clear hr1 HRES hk1 hk26 hk7 hk8
              have hre := reached_any e 2
              have hval : e.val = .agg #[.int .u8 e.k, .int .i64 e.a, .int .i64 e.t, .int .u64 e.v] := rfl
              rw [hk] at hval e0
              rw [hval, hk, show reachS 8 2 = 3 from by decide] at hre
              have HKE : Hid _ := hk
              have HRE : Hid _ := hre
              clear hre hval hk
              have BB : Hid _ := B1.out
              have TT : Hid (Touch w w1 []) := T1.out
              go_wp2_with fail
              refine (hneed_yes _).mono ?_
              rintro x w3 ⟨rfl, rfl⟩
              clear c0 c1 c2 e0 e1 e2 e3 r0 r1 r2 r3
              have BW : Hid (Box3 w1 w.heap.size _ (ptr b) e) := BB.out
              have PW : Hid _ := HP0.out.touch TT.out
              have TW : Hid (Touch w w1 (pfoot b ch)) := TT.out.mono (by simp)
              have FW : Hid (∀ x ∈ pfoot b ch, x < w.heap.size ∨ w.heap.size + 2 < x) := fun x hx => .inl (FT.out x hx).2
              have FX : Hid (∀ y ∈ pfoot b ch, y ∈ pfoot b ch ∨ w.heap.size ≤ y) := fun y hy => .inl hy
              obtain ⟨⟨c0, c1, c2⟩, ⟨e0, e1, e2, e3⟩, ⟨r0, r1, r2, r3⟩⟩ := BW.out.cells
              rw [HKE.out] at e0
              go_wp2_with fail
              refine (HRE.out _).mono ?_
              rintro x w7 ⟨rfl, t7⟩
              have b7 := BW.out.touch t7 (by simp)
              obtain ⟨⟨d0, d1, d2⟩, _, ⟨r0', r1', r2', r3'⟩⟩ := b7.cells
              clear b7 c0 c1 c2 e0 e1 e2 e3 r0 r1 r2 r3
              go_wp2
              have T8 : Touch w7 (((w7.setCell ⟨w.heap.size, 0, none⟩ (.int .u8 3)).setCell ⟨w.heap.size + 1 + 1, 0, none⟩ (.int .u8 3)).setCell ⟨w.heap.size + 1 + 1, 1, none⟩ (ptr b)) [w.heap.size, w.heap.size + 2] := (((Touch.refl w7 _).setCell (.inl (by simp)) _).setCell (.inl (by simp)) _).setCell (.inl (by simp)) _
              refine bodyPost_ret (v := .agg #[.int .u8 3, ptr b]) ?_ rfl (.inr ⟨3, _, ptr b, _, HR2.out, rfl, .inr ⟨by omega, b, _, rfl, rfl, (PW.out.touch t7).keep T8 (fun x hx hs => by have h1 := FW.out x hx; simp at hs; omega)⟩, (TW.out.trans t7 (by simp)).trans T8 (by intro x hx; simp at hx; exact .inr (by omega)), FX.out⟩)
              simp [results, Tryz.results46, go_sem, d0, d1, d2, r0', r1', r2', r3']
            · have hr1 : res = none := by rw [HRES.out]; unfold behindS; rw [if_neg HNM.out, if_neg hk1, if_neg hk26, if_neg hk7, if_pos hk8, if_neg hs1]
              subst hr1
              have s0 : (st == 2) = false := by simpa using hs1
              rw [hk] at e0
              clear HRES hk1 hk26 hs1 hk hk7 hk8
              go_wp2_with fail
              refine (hneed_no _).mono ?_
              rintro x w3 ⟨rfl, rfl⟩
              exact ⟨rfl, .inl ⟨rfl, rfl, T1.out.mono (by simp)⟩⟩
          · by_cases hk9 : e.k = 9
            · have hk := hk9
              by_cases hs1 : st = 1
              · subst hs1
                have hr1 : res = some (4, Fs) := by rw [HRES.out]; unfold behindS; rw [if_neg HNM.out, if_neg hk1, if_neg hk26, if_neg hk7, if_neg hk8, if_pos hk9]; simp
                have HR2 : Hid _ := hr1
                clear hr1 HRES hk1 hk26 hk7 hk8 hk9
                have hre := reached_any e 1
                have hval : e.val = .agg #[.int .u8 e.k, .int .i64 e.a, .int .i64 e.t, .int .u64 e.v] := rfl
                rw [hk] at hval e0
                rw [hval, hk, show reachS 9 1 = 4 from by decide] at hre
                have HKE : Hid _ := hk
                have HRE : Hid _ := hre
                clear hre hval hk
                have BB : Hid _ := B1.out
                have TT : Hid (Touch w w1 []) := T1.out
                go_wp2_with fail
                refine (hneed_yes _).mono ?_
                rintro x w3 ⟨rfl, rfl⟩
                clear c0 c1 c2 e0 e1 e2 e3 r0 r1 r2 r3
                have BW : Hid (Box3 w1 w.heap.size _ (ptr b) e) := BB.out
                have PW : Hid _ := HP0.out.touch TT.out
                have TW : Hid (Touch w w1 (pfoot b ch)) := TT.out.mono (by simp)
                have FW : Hid (∀ x ∈ pfoot b ch, x < w.heap.size ∨ w.heap.size + 2 < x) := fun x hx => .inl (FT.out x hx).2
                have FX : Hid (∀ y ∈ pfoot b ch, y ∈ pfoot b ch ∨ w.heap.size ≤ y) := fun y hy => .inl hy
                obtain ⟨⟨c0, c1, c2⟩, ⟨e0, e1, e2, e3⟩, ⟨r0, r1, r2, r3⟩⟩ := BW.out.cells
                rw [HKE.out] at e0
                go_wp2_with fail
                refine (HRE.out _).mono ?_
                rintro x w7 ⟨rfl, t7⟩
                have b7 := BW.out.touch t7 (by simp)
                obtain ⟨⟨d0, d1, d2⟩, _, ⟨r0', r1', r2', r3'⟩⟩ := b7.cells
                clear b7 c0 c1 c2 e0 e1 e2 e3 r0 r1 r2 r3
                go_wp2
                have T8 : Touch w7 (((w7.setCell ⟨w.heap.size, 0, none⟩ (.int .u8 4)).setCell ⟨w.heap.size + 1 + 1, 0, none⟩ (.int .u8 4)).setCell ⟨w.heap.size + 1 + 1, 1, none⟩ (ptr b)) [w.heap.size, w.heap.size + 2] := (((Touch.refl w7 _).setCell (.inl (by simp)) _).setCell (.inl (by simp)) _).setCell (.inl (by simp)) _
                refine bodyPost_ret (v := .agg #[.int .u8 4, ptr b]) ?_ rfl (.inr ⟨4, _, ptr b, _, HR2.out, rfl, .inr ⟨by omega, b, _, rfl, rfl, (PW.out.touch t7).keep T8 (fun x hx hs => by have h1 := FW.out x hx; simp at hs; omega)⟩, (TW.out.trans t7 (by simp)).trans T8 (by intro x hx; simp at hx; exact .inr (by omega)), FX.out⟩)
                simp [results, Tryz.results46, go_sem, d0, d1, d2, r0', r1', r2', r3']
              · by_cases hs2 : st = 2
                · subst hs2
                  have hr1 : res = some (4, Fs) := by rw [HRES.out]; unfold behindS; rw [if_neg HNM.out, if_neg hk1, if_neg hk26, if_neg hk7, if_neg hk8, if_pos hk9]; simp
                  have HR2 : Hid _ := hr1
                  clear hr1 HRES hk1 hk26 hk7 hk8 hk9
                  have hre := reached_any e 2
                  have hval : e.val = .agg #[.int .u8 e.k, .int .i64 e.a, .int .i64 e.t, .int .u64 e.v] := rfl
                  rw [hk] at hval e0
                  rw [hval, hk, show reachS 9 2 = 4 from by decide] at hre
                  have HKE : Hid _ := hk
                  have HRE : Hid _ := hre
                  clear hre hval hk
                  have BB : Hid _ := B1.out
                  have TT : Hid (Touch w w1 []) := T1.out
                  go_wp2_with fail
                  refine (hneed_yes _).mono ?_
                  rintro x w3 ⟨rfl, rfl⟩
                  clear c0 c1 c2 e0 e1 e2 e3 r0 r1 r2 r3
                  have BW : Hid (Box3 w1 w.heap.size _ (ptr b) e) := BB.out
                  have PW : Hid _ := HP0.out.touch TT.out
                  have TW : Hid (Touch w w1 (pfoot b ch)) := TT.out.mono (by simp)
                  have FW : Hid (∀ x ∈ pfoot b ch, x < w.heap.size ∨ w.heap.size + 2 < x) := fun x hx => .inl (FT.out x hx).2
                  have FX : Hid (∀ y ∈ pfoot b ch, y ∈ pfoot b ch ∨ w.heap.size ≤ y) := fun y hy => .inl hy
                  obtain ⟨⟨c0, c1, c2⟩, ⟨e0, e1, e2, e3⟩, ⟨r0, r1, r2, r3⟩⟩ := BW.out.cells
                  rw [HKE.out] at e0
                  go_wp2_with fail
                  refine (HRE.out _).mono ?_
                  rintro x w7 ⟨rfl, t7⟩
                  have b7 := BW.out.touch t7 (by simp)
                  obtain ⟨⟨d0, d1, d2⟩, _, ⟨r0', r1', r2', r3'⟩⟩ := b7.cells
                  clear b7 c0 c1 c2 e0 e1 e2 e3 r0 r1 r2 r3
                  go_wp2
                  have T8 : Touch w7 (((w7.setCell ⟨w.heap.size, 0, none⟩ (.int .u8 4)).setCell ⟨w.heap.size + 1 + 1, 0, none⟩ (.int .u8 4)).setCell ⟨w.heap.size + 1 + 1, 1, none⟩ (ptr b)) [w.heap.size, w.heap.size + 2] := (((Touch.refl w7 _).setCell (.inl (by simp)) _).setCell (.inl (by simp)) _).setCell (.inl (by simp)) _
                  refine bodyPost_ret (v := .agg #[.int .u8 4, ptr b]) ?_ rfl (.inr ⟨4, _, ptr b, _, HR2.out, rfl, .inr ⟨by omega, b, _, rfl, rfl, (PW.out.touch t7).keep T8 (fun x hx hs => by have h1 := FW.out x hx; simp at hs; omega)⟩, (TW.out.trans t7 (by simp)).trans T8 (by intro x hx; simp at hx; exact .inr (by omega)), FX.out⟩)
                  simp [results, Tryz.results46, go_sem, d0, d1, d2, r0', r1', r2', r3']
                · have hr1 : res = none := by rw [HRES.out]; unfold behindS; rw [if_neg HNM.out, if_neg hk1, if_neg hk26, if_neg hk7, if_neg hk8, if_pos hk9, if_neg (fun h => by rcases h with h | h <;> contradiction)]
                  subst hr1
                  have s0 : (st == 1) = false := by simpa using hs1
                  have s1 : (st == 2) = false := by simpa using hs2
                  rw [hk] at e0
                  clear HRES hk1 hk26 hs1 hs2 hk hk7 hk8 hk9
                  go_wp2_with fail
                  refine (hneed_no _).mono ?_
                  rintro x w3 ⟨rfl, rfl⟩
                  exact ⟨rfl, .inl ⟨rfl, rfl, T1.out.mono (by simp)⟩⟩
            · have hr1 : res = none := by rw [HRES.out]; unfold behindS; rw [if_neg HNM.out, if_neg hk1, if_neg hk26, if_neg hk7, if_neg hk8, if_neg hk9]
              subst hr1
              have hk2 : ¬ e.k = 2 := by omega
              have hk3 : ¬ e.k = 3 := by omega
              have hk4 : ¬ e.k = 4 := by omega
              have hk5 : ¬ e.k = 5 := by omega
              have hk6 : ¬ e.k = 6 := by omega
              clear HRES hk26
              go_wp2_with fail
              refine (hneed_no _).mono ?_
              rintro x w3 ⟨rfl, rfl⟩
              exact ⟨rfl, .inl ⟨rfl, rfl, T1.out.mono (by simp)⟩⟩

end Go.Proofs.YtmiaibpdeofokaaGreatDoor
/-
  SLICES OF STRUCTS THAT CAN BE READ, and an untied proof's facts on the program.
-/
namespace Go.Proofs.YtmiaibpdeofokaaGreatDoor
set_option linter.unusedVariables false
set_option linter.unusedSimpArgs false
open Go.ChangeShapes Go.WideShapes Go.ChangeAt Go.RowKit Go.Joins Go.Deep

/-- A slice of structs of n cells each, that can be read. -/
def SRow {α : Type} (n : Nat) (cells : α → List Value) (w : World) (v : Value) (l : List α) : Prop :=
  ∃ ao cap, v = .slice ao l.length cap ∧ (l ≠ [] → ∃ g off, ao = some ⟨g, off, none⟩ ∧ g < w.heap.size ∧ ∀ k (hk : k < l.length), ∀ j, j < n → w.cell? ⟨g, off + k * n + j, none⟩ = (cells l[k])[j]?)

theorem SRow.at {α : Type} {n : Nat} {cells : α → List Value} {w : World} {ao : Option Addr} {cap : Nat} {l : List α} (h : SRow n cells w (.slice ao l.length cap) l) (k : Nat) (hk : k < l.length) :
    ∃ g off, ao = some ⟨g, off, none⟩ ∧ g < w.heap.size ∧ ∀ j, j < n → w.cell? ⟨g, off + k * n + j, none⟩ = (cells l[k])[j]? := by
  obtain ⟨ao', cap', e, h1⟩ := h
  simp only [Value.slice.injEq, true_and] at e
  obtain ⟨rfl, rfl⟩ := e
  obtain ⟨g, off, rfl, hlt, hc⟩ := h1 (by intro e; rw [e] at hk; simp at hk)
  exact ⟨g, off, rfl, hlt, hc k hk⟩

theorem SRow.keep {α : Type} {n : Nat} {cells : α → List Value} {w w' : World} {v : Value} {l : List α} {S : List Nat} (h : SRow n cells w v l) (t : Touch w w' S) (hS : ∀ k ∈ S, w.heap.size ≤ k) : SRow n cells w' v l := by
  obtain ⟨ao, cap, e, h1⟩ := h
  refine ⟨ao, cap, e, fun hn => ?_⟩
  obtain ⟨g, off, rfl, hlt, hc⟩ := h1 hn
  have hne : g ∉ S := fun hs => by have := hS _ hs; omega
  exact ⟨g, off, rfl, Nat.lt_of_lt_of_le hlt t.size, fun k hk j hj => (t.cell (p := ⟨g, _, none⟩) hlt hne).trans (hc k hk j hj)⟩

/-- A slice of structs that came in. -/
theorem rows_of_trod {α : Type} {H : Type} {enc : TypeId × Value → H} {W : World} {n : Nat} {cells : α → List Value} {Wf : α → Prop} {T E : TypeId} (zero : α) (hn : 0 < n) (hlen : ∀ o, (cells o).length = n)
    (hu : Tryz.prog.underlying T = some (.slice E)) (hE : Tryz.prog.cellsOf E = n)
    (el : ∀ {w : World} {base : Nat} {spare : Nat → Bool} {held : Bool} {fuel : Nat} {cs : List Value} {x : DataW H × List MemPlace}, DataW.trod enc Tryz.prog w base spare held fuel E cs = some x → ∃ o, Wf o ∧ cs = cells o)
    {ao : Option Addr} {len cap : Nat} {d : DataW H} {p : List MemPlace} (h : DataW.Trod enc Tryz.prog W 0 (fun _ => true) true T (.slice ao len cap) d p) :
    ∃ l : List α, SRow n cells W (.slice ao len cap) l ∧ (∀ o ∈ l, Wf o) ∧ l.length ≤ maxLen := by
  obtain ⟨fuel, hf⟩ := h
  rcases open_slice hu hf with ⟨hcs, _⟩ | ⟨a, len', cap', m, n', D, Pl, hcs, _, hl, hm, hmm, _, hx⟩
  · simp [Value.cells] at hcs
    obtain ⟨rfl, rfl, rfl⟩ := hcs
    exact ⟨[], ⟨none, 0, rfl, fun hn => absurd rfl hn⟩, by simp, by simp⟩
  · simp [Value.cells] at hcs
    obtain ⟨rfl, rfl, rfl⟩ := hcs
    simp only [if_true] at hmm
    have hel : ∀ i, i < len → ∃ o : α, Wf o ∧ ∀ j, j < n → W.cell? (a.add (i * n + j)) = (cells o)[j]? := fun i hi => by
      obtain ⟨cs', h1, h2⟩ := hx i (by omega)
      obtain ⟨o, ho, rfl⟩ := el h2
      rw [hE] at h1
      obtain ⟨_, _, h3⟩ := World.cells?_some h1
      exact ⟨o, ho, fun j hj => by rw [← add_add]; exact h3 j hj⟩
    obtain ⟨f, hf⟩ : ∃ f : Nat → α, ∀ i, i < len → Wf (f i) ∧ ∀ j, j < n → W.cell? (a.add (i * n + j)) = (cells (f i))[j]? := by
      classical
      refine ⟨fun i => if hi : i < len then Classical.choose (hel i hi) else zero, fun i hi => ?_⟩
      simp only [dif_pos hi]
      exact Classical.choose_spec (hel i hi)
    refine ⟨(List.range len).map f, ⟨some a, cap, by simp, fun hnn => ?_⟩, ?_, by simp; omega⟩
    · have hpos : 0 < len := by
        rcases Nat.eq_zero_or_pos len with h0 | h0
        · subst h0; simp at hnn
        · exact h0
      have hc0 := (hf 0 hpos).2 0 hn
      have hl0 : 0 < (cells (f 0)).length := by rw [hlen]; exact hn
      have hc0' : W.cell? (a.add 0) = some (cells (f 0))[0] := by
        rw [show 0 * n + 0 = 0 by omega] at hc0
        rw [hc0]
        exact List.getElem?_eq_getElem hl0
      have hsp := World.cell?_spot hc0'
      obtain ⟨g, off, spot⟩ := a
      have : spot = none := by simpa [Addr.add] using hsp
      subst this
      have hlt := World.block_lt_of_cell? W _ hc0'
      refine ⟨g, off, rfl, by simpa [Addr.add] using hlt, fun k hk j hj => ?_⟩
      simp only [List.length_map, List.length_range] at hk
      simp only [List.getElem_map, List.getElem_range]
      have q := (hf k hk).2 j hj
      rw [Addr.add_lit] at q
      simp only [← Nat.add_assoc] at q
      exact q
    · intro o ho
      simp only [List.mem_map, List.mem_range] at ho
      obtain ⟨i, hi, rfl⟩ := ho
      exact (hf i hi).1

theorem wf_u8 {x : Int} (h : (Lit.int .u8 x).wf = true) : 0 ≤ x ∧ x ≤ 255 := by
  simp [Lit.wf, IntKind.min, IntKind.max, IntKind.signed, IntKind.bits] at h; omega
theorem wf_u64 {x : Int} (h : (Lit.int .u64 x).wf = true) : 0 ≤ x ∧ x < 18446744073709551616 := by
  simp [Lit.wf, IntKind.min, IntKind.max, IntKind.signed, IntKind.bits] at h; omega
theorem wf_i64 {x : Int} (h : (Lit.int .i64 x).wf = true) : -9223372036854775808 ≤ x ∧ x ≤ 9223372036854775807 := by
  simp [Lit.wf, IntKind.min, IntKind.max, IntKind.signed, IntKind.bits] at h; omega

theorem Tryz.cells_int : Tryz.prog.cellsOf 3 = 1 := by kernel_rfl
theorem Tryz.cells_u64 : Tryz.prog.cellsOf 47 = 1 := by kernel_rfl

end Go.Proofs.YtmiaibpdeofokaaGreatDoor
/-
  package history: Right BY ITS CONTRACT.
-/
namespace Go.Proofs.YtmiaibpdeofokaaGreatDoor
set_option linter.unusedVariables false
set_option linter.unusedSimpArgs false
open Go.RowKit Go.Maps
attribute [local go_sem] Oper.semAt_some

abbrev EvRow := SRow 4 EvD.cells
theorem EvRow.one {w : World} {ao : Option Addr} {cap : Nat} {l : List EvD} (h : EvRow w (.slice ao l.length cap) l) (k : Nat) (hk : k < l.length) :
    ∃ g off, ao = some ⟨g, off, none⟩ ∧ g < w.heap.size ∧ w.cell? ⟨g, off + k * 4, none⟩ = some (.int .u8 l[k].k) ∧ w.cell? ⟨g, off + k * 4 + 1, none⟩ = some (.int .i64 l[k].a) ∧ w.cell? ⟨g, off + k * 4 + 2, none⟩ = some (.int .i64 l[k].t) ∧ w.cell? ⟨g, off + k * 4 + 3, none⟩ = some (.int .u64 l[k].v) := by
  obtain ⟨g, off, e, hlt, hc⟩ := h.at k hk
  exact ⟨g, off, e, hlt, by simpa [EvD.cells] using hc 0 (by omega), by simpa [EvD.cells] using hc 1 (by omega), by simpa [EvD.cells] using hc 2 (by omega), by simpa [EvD.cells] using hc 3 (by omega)⟩

/-! ### Plain data -/
abbrev CM := Int → Option (Int × List Fr)
def stC (M : CM) (a : Int) : Int := ((M a).map Prod.fst).getD 0
def fsC (M : CM) (a : Int) : List Fr := ((M a).map Prod.snd).getD []
def stepC (M : CM) (e : EvD) : Option CM := if 0 ≤ e.a ∧ e.a < 64 then (behindS (stC M e.a) (fsC M e.a) e).map (fun r => updF M e.a r) else none
def runC : CM → List EvD → Option CM
  | M, [] => some M
  | M, e :: l => (stepC M e).bind fun M' => runC M' l
def rightS (l : List EvD) : Bool := decide (l.length ≤ 400) && (runC (fun _ => none) l).isSome
theorem runC_app (l1 l2 : List EvD) : ∀ M, runC M (l1 ++ l2) = (runC M l1).bind fun M' => runC M' l2 := by
  induction l1 with
  | nil => intro M; rfl
  | cons e l ih =>
    intro M
    simp only [List.cons_append, runC]
    cases stepC M e with
    | none => rfl
    | some M' => exact ih M'
theorem runC_snoc {l : List EvD} {M0 M : CM} {k : Nat} (hk : k < l.length) (h : runC M0 (l.take k) = some M) : runC M0 (l.take (k + 1)) = stepC M l[k] := by
  rw [List.take_succ_eq_append_getElem hk, runC_app, h]
  simp only [Option.bind_some, runC]
  cases stepC M l[k] <;> rfl
theorem runC_fail {l : List EvD} {M0 M : CM} {k : Nat} (hk : k < l.length) (h : runC M0 (l.take k) = some M) (hs : stepC M l[k] = none) : runC M0 l = none := by
  have : l = l.take (k + 1) ++ l.drop (k + 1) := (List.take_append_drop _ _).symm
  rw [this, runC_app, runC_snoc hk h, hs]
  rfl

/-- The courses of all attempts, as they lie. -/
structure Fam (B : Nat) (w : World) (mb n : Nat) (M : CM) (P : Int → Value × List Nat) : Prop where
  map : MapF w mb n (fun x => (M x).map fun c => .agg #[.int .u8 c.1, (P x).1])
  crs : ∀ x c, M x = some c → 1 ≤ c.1 ∧ Crs B w c.1 (P x).1 (P x).2 c.2
  ne : ∀ x y c d, M x = some c → M y = some d → x ≠ y → ∀ k ∈ (P x).2, k ∉ (P y).2
  mbB : B ≤ mb
  mbn : ∀ x c, M x = some c → mb ∉ (P x).2
theorem Fam.touch {B : Nat} {w w' : World} {mb n : Nat} {M : CM} {P : Int → Value × List Nat} (h : Fam B w mb n M P) (t : Touch w w' []) : Fam B w' mb n M P :=
  ⟨h.map.touch t (by simp), fun x c hx => ⟨(h.crs x c hx).1, (h.crs x c hx).2.touch t⟩, h.ne, h.mbB, h.mbn⟩

/-- Where an attempt's own blocks lie. -/
def ftC (M : CM) (P : Int → Value × List Nat) (a : Int) : List Nat := ((M a).map fun _ => (P a).2).getD []
def pvC (M : CM) (P : Int → Value × List Nat) (a : Int) : Value := ((M a).map fun _ => (P a).1).getD (.pointer none)
theorem Fam.at {B : Nat} {w : World} {mb n : Nat} {M : CM} {P : Int → Value × List Nat} (h : Fam B w mb n M P) (a : Int) : Crs B w (stC M a) (pvC M P a) (ftC M P a) (fsC M a) := by
  unfold stC pvC ftC fsC
  cases hq : M a with
  | none => exact .inl ⟨rfl, rfl, rfl, rfl⟩
  | some c => exact (h.crs a c hq).2
/-- One has gone on. -/
theorem Fam.step {B : Nat} {w w1 w2 : World} {mb n : Nat} {M : CM} {P : Int → Value × List Nat} {a st : Int} {Fs : List Fr} {pv : Value} {ft : List Nat} (h : Fam B w mb n M P) (hm : B ≤ w.heap.size) (t1 : Touch w w1 (ftC M P a)) (hc : Crs B w1 st pv ft Fs) (hst : 1 ≤ st)
    (hf : ∀ y ∈ ft, y ∈ ftC M P a ∨ w.heap.size ≤ y) (hg : w1.grownBy w2 (some mb)) (hmap : MapF w2 mb (n + 1) (updF (fun x => (M x).map fun c => .agg #[.int .u8 c.1, (P x).1]) a (.agg #[.int .u8 st, pv]))) :
    Fam B w2 mb (n + 1) (updF M a (st, Fs)) (fun x => if x = a then (pv, ft) else P x) := by
  have hmb := h.map.lt
  have hfa : ∀ x c, M x = some c → x ≠ a → ∀ k ∈ (P x).2, k ∉ ftC M P a ∧ k < w.heap.size := fun x c hx hxa k hk => by
    refine ⟨?_, ((h.crs x c hx).2.foot_lt k hk).2⟩
    unfold ftC
    cases hq : M a with
    | none => simp
    | some d => simpa using h.ne x a c d hx hq hxa k hk
  have hma : mb ∉ ftC M P a := by
    unfold ftC
    cases hq : M a with
    | none => simp
    | some d => simpa using h.mbn a d hq
  have t2 : Touch w1 w2 [mb] := (Touch.refl w1 [mb]).grown hg (by intro k hk; cases hk; exact .inl (by simp))
  have hmf : mb ∉ ft := fun hs => by
    rcases hf mb hs with h1 | h1
    · exact hma h1
    · omega
  refine ⟨?_, ?_, ?_, h.mbB, ?_⟩
  · have e : (fun x => (updF M a (st, Fs) x).map fun c => Value.agg #[.int .u8 c.1, (if x = a then (pv, ft) else P x).1]) = updF (fun x => (M x).map fun c => .agg #[.int .u8 c.1, (P x).1]) a (.agg #[.int .u8 st, pv]) := by
      funext x
      unfold updF
      by_cases hx : x = a
      · simp [hx]
      · simp [hx]
    rw [e]
    exact hmap
  · intro x c hx
    by_cases hxa : x = a
    · subst hxa
      rw [updF_same] at hx
      cases hx
      simp only [if_true]
      exact ⟨hst, hc.keep t2 (by intro k hk hs; simp at hs; subst hs; exact hmf hk)⟩
    · rw [updF_other M _ hxa] at hx
      simp only [if_neg hxa]
      refine ⟨(h.crs x c hx).1, ((h.crs x c hx).2.keep t1 (fun k hk => (hfa x c hx hxa k hk).1)).keep t2 (fun k hk hs => ?_)⟩
      simp at hs; subst hs; exact h.mbn x c hx hk
  · intro x y c d hx hy hxy k hk
    by_cases hxa : x = a
    · subst hxa
      have hya : y ≠ x := fun e => hxy e.symm
      rw [updF_other M _ hya] at hy
      simp only [if_true] at hk
      simp only [if_neg hya]
      intro hs
      have h1 := hfa y d hy hya k hs
      rcases hf k hk with h2 | h2
      · exact h1.1 h2
      · omega
    · rw [updF_other M _ hxa] at hx
      simp only [if_neg hxa] at hk
      by_cases hya : y = a
      · subst hya
        simp only [if_true]
        intro hs
        have h1 := hfa x c hx hxa k hk
        rcases hf k hs with h2 | h2
        · exact h1.1 h2
        · omega
      · rw [updF_other M _ hya] at hy
        simp only [if_neg hya]
        exact h.ne x y c d hx hy hxy k hk
  · intro x c hx
    by_cases hxa : x = a
    · subst hxa; simp only [if_true]; exact hmf
    · rw [updF_other M _ hxa] at hx
      simp only [if_neg hxa]
      exact h.mbn x c hx

theorem Fam.start (w : World) : Fam w.heap.size (w.alloc (.map #[] 0)) w.heap.size 0 (fun _ => none) (fun _ => (.pointer none, [])) :=
  ⟨MapF.made w, (by intro x c h; cases h), (by intro x y c d h; cases h), Nat.le_refl _, (by intro x c h; cases h)⟩

theorem behind_any {B : Nat} {w : World} {st : Int} {pv : Value} {ft : List Nat} {Fs : List Fr} (h : Crs B w st pv ft Fs) (hB : B ≤ w.heap.size) (e : EvD) (he : e.Wf) :
    Calls Tryz.prog 46 #[.agg #[.int .u8 st, pv], e.val] w (BehE B w ft (behindS st Fs e)) := by
  rcases h with ⟨rfl, rfl, rfl, rfl⟩ | ⟨hst, b, ch, rfl, rfl, hp⟩
  · exact behind_new hB e he
  · exact behind_old hp hst hB e he

theorem Fam.look {B : Nat} {w : World} {mb n : Nat} {M : CM} {P : Int → Value × List Nat} (h : Fam B w mb n M P) {a : Int} (ha : W64 a) :
    (Instr.lookup 83 (.map (some mb)) (.int .i64 a) false).run Tryz.prog w = .ok (.agg #[.int .u8 (stC M a), pvC M P a]) w := by
  rw [h.map.look Tryz.underlying83 (Tryz.zeroValue86 w) ha]
  unfold stC pvC
  cases M a <;> rfl

/-- What the work of Right comes to. -/
def R1E (w : World) (l : List EvD) (x : Ending) (w' : World) : Prop := ((rightS l = true ∧ x = .returned (.tuple #[])) ∨ (rightS l = false ∧ GaveUp x)) ∧ Touch w w' []

theorem behindS_pos {st : Int} {Fs : List Fr} {e : EvD} {st' : Int} {Fs' : List Fr} (h : behindS st Fs e = some (st', Fs')) : 1 ≤ st' := by
  unfold behindS at h
  repeat' (split at h)
  all_goals first | (cases h; done) | (simp at h; omega)

set_option maxRecDepth 100000 in
set_option maxHeartbeats 4000000 in
theorem right1_any {w : World} {p : Nat} {ao : Option Addr} {cap : Nat} {l : List EvD} (hc : w.cell? ⟨p, 0, none⟩ = some (.slice ao l.length cap)) (hr : EvRow w (.slice ao l.length cap) l) (hl : l.length ≤ 1000) (hwf : ∀ e ∈ l, e.Wf) :
    Calls Tryz.prog 44 #[.pointer (some ⟨p, 0, none⟩)] w (R1E w l) := by
  have hmm := @run_makeMap Tryz.prog
  obtain ⟨N, hN⟩ : ∃ N, N = l.length := ⟨_, rfl⟩
  have HN : Hid (N = l.length) := hN
  have HR : Hid (EvRow w (.slice ao l.length cap) l) := hr
  have HW : Hid _ := hwf
  rw [← hN] at hc hl
  have hplt := World.block_lt_of_cell? w _ hc
  clear hN hr hwf
  by_cases h400 : N ≤ 400
  · have h4 : (N : Int) ≤ 400 := by omega
    go_enter Tryz.func44, Tryz.ntmps44
    go_wp2_with fail
    refine (hneed_yes _).mono ?_
    rintro x w1 ⟨rfl, rfl⟩
    have T1 : Touch w (w.alloc (.map #[] 0)) [] := (Touch.refl w []).alloc _
    have c1 := (T1.cell (p := ⟨p, 0, none⟩) hplt (by simp)).trans hc
    have HF0 : Hid (Fam w.heap.size (w.alloc (.map #[] 0)) w.heap.size 0 (fun _ => none) (fun _ => (.pointer none, []))) := Fam.start w
    have HT1 : Hid _ := T1
    go_wp2_with fail
    go_loopw [11] (fun i wr => ∃ k : Nat, i = .int .i64 k ∧ k ≤ N ∧ ∃ M P, runC (fun _ => none) (l.take k) = some M ∧ Fam w.heap.size wr w.heap.size k M P ∧ Touch w wr []) (fun i _ => N - (intOf i).toNat)
    case atStart => exact ⟨0, rfl, Nat.zero_le _, _, _, rfl, HF0.out, HT1.out⟩
    case round =>
      obtain ⟨k, rfl, hk, M, P, hM, hF, hT⟩ := hrel
      have HM : Hid _ := hM
      have HF : Hid _ := hF
      have HT : Hid _ := hT
      clear hM hF HF0
      by_cases hlt : k < N
      · have h1 : (k : Int) < N := by omega
        have h0 : (0 : Int) ≤ k := by omega
        have hkl : k < l.length := by rw [← HN.out]; exact hlt
        obtain ⟨g, off, rfl, hg, m0, m1, m2, m3⟩ := HR.out.one k hkl
        have d0 := (hT.cell (p := ⟨g, off + k * 4, none⟩) hg (by simp)).trans m0
        have d1 := (hT.cell (p := ⟨g, off + k * 4 + 1, none⟩) hg (by simp)).trans m1
        have d2 := (hT.cell (p := ⟨g, off + k * 4 + 2, none⟩) hg (by simp)).trans m2
        have d3 := (hT.cell (p := ⟨g, off + k * 4 + 3, none⟩) hg (by simp)).trans m3
        have hwe := HW.out _ (List.getElem_mem hkl)
        obtain ⟨e, he⟩ : ∃ e, e = l[k] := ⟨_, rfl⟩
        rw [← he] at d0 d1 d2 d3 hwe
        have HE : Hid _ := he
        clear m0 m1 m2 m3 he hT
        have hgive : stepC M e = none → rightS l = false := fun hs => by
          unfold rightS
          rw [runC_fail hkl HM.out (by rw [← HE.out]; exact hs)]
          simp
        have HG : Hid _ := hgive
        have TB : Hid (Touch wr (wr.alloc e.obj) []) := (Touch.refl wr []).alloc _
        clear hgive
        by_cases ha : 0 ≤ e.a ∧ e.a < 64
        · obtain ⟨ha0, ha1⟩ := ha
          go_wp2_with fail
          refine (hneed_yes _).mono ?_
          rintro x w2 ⟨rfl, rfl⟩
          go_wp2_with fail
          clear d0 d1 d2 d3
          have hE0 : (wr.alloc e.obj).heap[wr.heap.size]? = some e.obj := heap_alloc_new wr _
          have hkp : ∀ w' R, Touch (wr.alloc e.obj) w' R → wr.heap.size ∉ R → (w'.cell? ⟨wr.heap.size, 0, none⟩ = some (.int .u8 e.k) ∧ w'.cell? ⟨wr.heap.size, 1, none⟩ = some (.int .i64 e.a) ∧ w'.cell? ⟨wr.heap.size, 2, none⟩ = some (.int .i64 e.t) ∧ w'.cell? ⟨wr.heap.size, 3, none⟩ = some (.int .u64 e.v)) := fun w' R T hS => by
            have hb := (T.block _ (lt_of_heap hE0) hS).trans hE0
            simp [World.cell?, hb, EvD.obj]
          have hF0 : Fam w.heap.size (wr.alloc e.obj).drew w.heap.size k M P := HF.out.touch (TB.out.drew)
          have hlk := hF0.look (a := e.a) (by omega)
          have hbe := behind_any (hF0.at e.a) (Nat.le_trans HT.out.size TB.out.size) e hwe
          have hnft : wr.heap.size ∉ ftC M P e.a := fun hh => by have := ((HF.out.at e.a).foot_lt _ hh).2; omega
          have HF0' : Hid _ := hF0
          have hwm := HF.out.map.lt
          obtain ⟨rs, hrs⟩ : ∃ r, r = behindS (stC M e.a) (fsC M e.a) e := ⟨_, rfl⟩
          rw [← hrs] at hbe
          have hstp : stepC M e = rs.map (fun r => updF M e.a r) := by unfold stepC; rw [if_pos ⟨ha0, ha1⟩, hrs]
          have HSTP : Hid _ := hstp
          have HRS : Hid _ := hrs
          generalize hsx : stC M e.a = sx at hlk hbe
          generalize hpx : pvC M P e.a = px at hlk hbe
          clear hF0 hstp hrs hsx hpx
          refine wp_region_held_drew (S := fun w' => w'.cell? ⟨wr.heap.size, 0, none⟩ = some (.int .u8 e.k) ∧ w'.cell? ⟨wr.heap.size, 1, none⟩ = some (.int .i64 e.a) ∧ w'.cell? ⟨wr.heap.size, 2, none⟩ = some (.int .i64 e.t) ∧ w'.cell? ⟨wr.heap.size, 3, none⟩ = some (.int .u64 e.v)) (by kernel_rfl) (hkp _ [] (Touch.refl _ _).drew (by simp)) (fun hHeld => ?_)
          refine wpAnyH_take (i := 0) (v := (.map (some w.heap.size))) rfl (by kernel_rfl) (by kernel_rfl) (by kernel_rfl) (fun _ _ _ h => h) (Or.inl ⟨by rfl, ?_⟩) hHeld ?_
          · intro w' hSw
            try simp only [Act.put, List.getElem_toArray, List.getElem_cons_succ, List.getElem_cons_zero, List.setIfInBounds_toArray, List.set_cons_zero, List.set_cons_succ]
            (obtain ⟨q0, q1, q2, q3⟩ := hSw; go_simp)
          try simp only [Act.put, List.getElem_toArray, List.getElem_cons_succ, List.getElem_cons_zero, List.setIfInBounds_toArray, List.set_cons_zero, List.set_cons_succ]
          refine wpAnyH_take (i := 1) (v := (.pointer (some ⟨wr.heap.size, 1, none⟩))) rfl (by kernel_rfl) (by kernel_rfl) (by kernel_rfl) (fun _ _ _ h => h) (Or.inl ⟨by rfl, ?_⟩) hHeld ?_
          · intro w' hSw
            try simp only [Act.put, List.getElem_toArray, List.getElem_cons_succ, List.getElem_cons_zero, List.setIfInBounds_toArray, List.set_cons_zero, List.set_cons_succ]
            (obtain ⟨q0, q1, q2, q3⟩ := hSw; go_simp)
          try simp only [Act.put, List.getElem_toArray, List.getElem_cons_succ, List.getElem_cons_zero, List.setIfInBounds_toArray, List.set_cons_zero, List.set_cons_succ]
          refine wpAnyH_take (i := 2) (v := (.int .i64 e.a)) rfl (by kernel_rfl) (by kernel_rfl) (by kernel_rfl) (fun _ _ _ h => h) (Or.inl ⟨by rfl, ?_⟩) hHeld ?_
          · intro w' hSw
            try simp only [Act.put, List.getElem_toArray, List.getElem_cons_succ, List.getElem_cons_zero, List.setIfInBounds_toArray, List.set_cons_zero, List.set_cons_succ]
            (obtain ⟨q0, q1, q2, q3⟩ := hSw; go_simp)
          try simp only [Act.put, List.getElem_toArray, List.getElem_cons_succ, List.getElem_cons_zero, List.setIfInBounds_toArray, List.set_cons_zero, List.set_cons_succ]
          refine wpAnyH_take (i := 3) (v := (.map (some w.heap.size))) rfl (by kernel_rfl) (by kernel_rfl) (by kernel_rfl) (fun _ _ _ h => h) (Or.inl ⟨by rfl, ?_⟩) hHeld ?_
          · intro w' hSw
            try simp only [Act.put, List.getElem_toArray, List.getElem_cons_succ, List.getElem_cons_zero, List.setIfInBounds_toArray, List.set_cons_zero, List.set_cons_succ]
            (obtain ⟨q0, q1, q2, q3⟩ := hSw; go_simp)
          try simp only [Act.put, List.getElem_toArray, List.getElem_cons_succ, List.getElem_cons_zero, List.setIfInBounds_toArray, List.set_cons_zero, List.set_cons_succ]
          refine wpAnyH_take (i := 4) (v := (.pointer (some ⟨wr.heap.size, 1, none⟩))) rfl (by kernel_rfl) (by kernel_rfl) (by kernel_rfl) (fun _ _ _ h => h) (Or.inl ⟨by rfl, ?_⟩) hHeld ?_
          · intro w' hSw
            try simp only [Act.put, List.getElem_toArray, List.getElem_cons_succ, List.getElem_cons_zero, List.setIfInBounds_toArray, List.set_cons_zero, List.set_cons_succ]
            (obtain ⟨q0, q1, q2, q3⟩ := hSw; go_simp)
          try simp only [Act.put, List.getElem_toArray, List.getElem_cons_succ, List.getElem_cons_zero, List.setIfInBounds_toArray, List.set_cons_zero, List.set_cons_succ]
          refine wpAnyH_take (i := 5) (v := (.int .i64 e.a)) rfl (by kernel_rfl) (by kernel_rfl) (by kernel_rfl) (fun _ _ _ h => h) (Or.inl ⟨by rfl, ?_⟩) hHeld ?_
          · intro w' hSw
            try simp only [Act.put, List.getElem_toArray, List.getElem_cons_succ, List.getElem_cons_zero, List.setIfInBounds_toArray, List.set_cons_zero, List.set_cons_succ]
            (obtain ⟨q0, q1, q2, q3⟩ := hSw; go_simp)
          try simp only [Act.put, List.getElem_toArray, List.getElem_cons_succ, List.getElem_cons_zero, List.setIfInBounds_toArray, List.set_cons_zero, List.set_cons_succ]
          refine wpAnyH_take (i := 7) (v := e.val) rfl (by kernel_rfl) (by kernel_rfl) (by kernel_rfl) (fun _ _ _ h => h) (Or.inl ⟨by rfl, ?_⟩) hHeld ?_
          · intro w' hSw
            try simp only [Act.put, List.getElem_toArray, List.getElem_cons_succ, List.getElem_cons_zero, List.setIfInBounds_toArray, List.set_cons_zero, List.set_cons_succ]
            (obtain ⟨q0, q1, q2, q3⟩ := hSw; go_simp)
          try simp only [Act.put, List.getElem_toArray, List.getElem_cons_succ, List.getElem_cons_zero, List.setIfInBounds_toArray, List.set_cons_zero, List.set_cons_succ]
          clear hHeld
          refine wpAnyH_ready (rs := [6]) (by kernel_rfl) (by simp) (AllReadyH.cons rfl (fun K hK => ?_) AllReadyH.nil)
          rw [if_pos (by rfl)]
          go_simp
          refine hK.out _ _ (hkp _ [] (Touch.refl _ _).drew (by simp)) (fun hHeld => ?_)
          clear hK
          try simp only [Act.put, List.getElem_toArray, List.getElem_cons_succ, List.getElem_cons_zero, List.setIfInBounds_toArray, List.set_cons_zero, List.set_cons_succ]
          clear hHeld
          refine wpAnyH_ready (rs := [8]) (by kernel_rfl) (by simp) (AllReadyH.cons rfl (fun K hK => ?_) AllReadyH.nil)
          rw [if_pos (by rfl)]
          go_simp
          refine hbe.mono ?_
          rintro x w3 (⟨hn, hx, t3⟩ | ⟨st', Fs', pv', ft', hsm, rfl, hc3, t3, hf3⟩)
          · obtain rfl : x = _ := hx
            go_simp
            exact ⟨rfl, .inr ⟨HG.out (by rw [HSTP.out, hn]; rfl), rfl⟩, ((HT.out.trans TB.out (by simp)).drew).trans t3 (fun x hx => .inr ((HF.out.at e.a).foot_lt x hx).1)⟩
          · go_simp
            have t3' : Touch (wr.alloc e.obj) w3 (ftC M P e.a) := (Touch.refl _ _).drew.trans t3 (fun x hx => .inl hx)
            refine hK.out _ _ (hkp _ _ t3' hnft) (fun hHeld => ?_)
            clear hK hbe
            try simp only [Act.put, List.getElem_toArray, List.getElem_cons_succ, List.getElem_cons_zero, List.setIfInBounds_toArray, List.set_cons_zero, List.set_cons_succ]
            have hmb : w.heap.size ∉ ftC M P e.a := by
              unfold ftC
              cases hq : M e.a with
              | none => simp
              | some d => simpa using HF.out.mbn _ d hq
            obtain ⟨w4, hst4, hm4, hg4⟩ := (HF0'.out.map.touch t3 hmb).store Tryz.underlying83 (by unfold maxLen; omega) (x := e.a) (by omega) (.agg #[.int .u8 st', pv'])
            have t4 : Touch (wr.alloc e.obj) w4 (w.heap.size :: ftC M P e.a) := (t3'.mono (fun x hx => List.mem_cons_of_mem _ hx)).grown hg4 (by intro k hk; cases hk; exact .inl (by simp))
            have hpos : 1 ≤ st' := behindS_pos (by rw [← HRS.out]; exact hsm)
            have HF4 : Hid _ := HF.out.step (a := e.a) HT.out.size ((TB.out.drew.mono (by simp)).trans t3 (fun x hx => .inl hx)) hc3 hpos (fun y hy => (hf3 y hy).imp id (fun h => Nat.le_trans TB.out.size h)) hg4 hm4
            have hM4 : runC (fun _ => none) (l.take (k + 1)) = some (updF M e.a (st', Fs')) := by rw [runC_snoc hkl HM.out, ← HE.out, HSTP.out, hsm]; rfl
            have HM4 : Hid _ := hM4
            have HT4 : Hid (Touch w w4 []) := (HT.out.trans TB.out (by simp)).trans t4 (fun x hx => by rcases List.mem_cons.1 hx with rfl | h; exact .inr (Nat.le_refl _); exact .inr ((HF.out.at e.a).foot_lt x h).1)
            clear hM4 hm4 hg4 hc3 hf3 t3 hsm
            clear hHeld
            refine wpAnyH_ready (rs := [9]) (by kernel_rfl) (by simp) (AllReadyH.cons rfl (fun K hK => ?_) AllReadyH.nil)
            rw [if_pos (by rfl)]
            go_simp
            refine hK.out _ _ (hkp _ _ t4 (by intro hh; rcases List.mem_cons.1 hh with h | h; omega; exact hnft h)) (fun hHeld => ?_)
            clear hK
            try simp only [Act.put, List.getElem_toArray, List.getElem_cons_succ, List.getElem_cons_zero, List.setIfInBounds_toArray, List.set_cons_zero, List.set_cons_succ]
            clear hHeld
            refine wpAnyH_done (by kernel_rfl) ?_ _
            clear hst4 t3' t4 hlk hkp
            go_wp2
            go_roundw
            case rel => exact ⟨k + 1, by go_num, by omega, _, _, HM4.out, HF4.out, HT4.out⟩
            case measure => simp [intOf]; omega
        · have hst : stepC M e = none := by unfold stepC; rw [if_neg ha]
          by_cases ha0 : 0 ≤ e.a
          · have ha1 : ¬ e.a < 64 := fun h => ha ⟨ha0, h⟩
            clear ha
            go_wp2_with fail
            refine (hneed_no _).mono ?_
            rintro x w2 ⟨rfl, rfl⟩
            exact ⟨rfl, .inr ⟨HG.out hst, rfl⟩, HT.out.trans TB.out (by simp)⟩
          · have ha1 : decide (0 ≤ e.a) = false := decide_eq_false ha0
            clear ha
            go_wp2_with fail
            refine (hneed_no _).mono ?_
            rintro x w2 ⟨rfl, rfl⟩
            exact ⟨rfl, .inr ⟨HG.out hst, rfl⟩, HT.out.trans TB.out (by simp)⟩
      · obtain rfl : k = N := by omega
        have hall := HM.out
        rw [HN.out, List.take_length] at hall
        have hyes : rightS l = true := by unfold rightS; rw [hall, ← HN.out]; simp [h400]
        have HY : Hid _ := hyes
        clear hall hyes hT
        go_wp2
        go_end0
        exact ⟨.inl ⟨HY.out, rfl⟩, HT.out⟩
  · have h4 : ¬ (N : Int) ≤ 400 := by omega
    have hno : rightS l = false := by unfold rightS; rw [← HN.out]; simp [h400]
    have HNO : Hid _ := hno
    clear hno
    go_enter Tryz.func44, Tryz.ntmps44
    go_wp2_with fail
    refine (hneed_no _).mono ?_
    rintro x w1 ⟨rfl, rfl⟩
    exact ⟨rfl, .inr ⟨HNO.out, rfl⟩, Touch.refl _ _⟩

theorem hta_hit (v : Value) (w : World) : (Instr.typeAssert (.iface 112 v) 20 112 true).run Tryz.prog w = .ok (.tuple #[v, .bool true]) w := by
  simp only [Instr.typeAssert, Sem.run_bind, run_underlying Tryz.underlying112, Result.andThen_ok]
  kernel_rfl
theorem hta_nil (w : World) : (Instr.typeAssert .nilIface 20 112 true).run Tryz.prog w = .ok (.tuple #[.agg #[], .bool false]) w := by
  simp only [Instr.typeAssert, Sem.run_bind, run_underlying Tryz.underlying112, Result.andThen_ok]
  kernel_rfl

theorem hcatch_idle (p : Addr) (w : World) (x : Bool) (hc : w.cell? p = some (.bool x)) (hz : w.frozen? p = false) :
    CallsD Tryz.prog 67 #[.pointer (some p)] .returning w fun e u' w' => e = .returned (.tuple #[]) ∧ u' = .returning ∧ w' = w.setCell p (.bool false) := by
  have hn := hta_nil
  refine callsD_of_wpS Tryz.func67 rfl fun c₀ cs hu => ?_
  apply wpS_region
  simp [wpOpsS, go_sem, recoverD, hu, Tryz.ntmps67, Exit.thenS, hn]
  simp [wpOpsS, go_sem, hc, hz, bodyPostS, results, Tryz.results67, hn]
  cases c₀
  simp_all

theorem hcatch_no (p : Addr) (w : World) (x : Bool) (hc : w.cell? p = some (.bool x)) (hz : w.frozen? p = false) :
    CallsD Tryz.prog 67 #[.pointer (some p)] (.panicking [{ v := .iface 112 (.agg #[]), recovered := false }]) w fun e u' w' => e = .returned (.tuple #[]) ∧ u' = .panicking [{ v := .iface 112 (.agg #[]), recovered := true }] ∧ w' = w.setCell p (.bool true) := by
  have hn := hta_hit
  refine callsD_of_wpS Tryz.func67 rfl fun c₀ cs hu => ?_
  apply wpS_region
  simp [wpOpsS, go_sem, recoverD, hu, Tryz.ntmps67, Exit.thenS, hn]
  simp [wpOpsS, go_sem, hc, hz, bodyPostS, results, Tryz.results67, hn]

theorem henter_of {k : Nat} {cap : Array Value} {fn : Func} (hf : Tryz.prog.funcs[k]? = some fn) (hn : (fn.name == "runtime.NumGoroutine") = false) (hb : fn.body.isNone = false) (w : World) : (callFunc k cap).run Tryz.prog w = .ok (.enter k cap) w := by
  simp only [callFunc, Sem.run_bind, run_program, Result.andThen_ok, hf, hn, hb, Bool.false_eq_true, if_false, Sem.run_pure]

set_option maxRecDepth 100000 in
theorem gives_ok (k : Nat) (cap : Array Value) (w : World) (hen : ∀ w1, (callFunc k cap).run Tryz.prog w1 = .ok (.enter k cap) w1) (hw : ∀ w1, Touch w w1 [] → Calls Tryz.prog k cap w1 fun e w' => e = .returned (.tuple #[]) ∧ Touch w1 w' []) :
    Calls Tryz.prog 43 #[.func (.func k) #[] cap] w fun e w' => e = .returned (.bool false) ∧ Touch w w' [] := by
  have hmf : ∀ (fn : Fn) (first cap : Array Value) (w : World), (Instr.makeFunc fn first cap).run Tryz.prog w = .ok (.func fn first cap) w := fun _ _ _ _ => rfl
  go_enter_defers Tryz.func43, Tryz.ntmps43
  go_wp2_with fail
  refine (hw _ ((Touch.refl w []).alloc _)).mono ?_
  rintro e w1 ⟨rfl, t1⟩
  have c0 : w1.cell? ⟨w.heap.size, 0, none⟩ = some (.bool false) := (t1.cell (p := ⟨w.heap.size, 0, none⟩) (by simp) (by simp)).trans (by simp [go_sem])
  have f0 : w1.frozen? ⟨w.heap.size, 0, none⟩ = false := (t1.frozen (p := ⟨w.heap.size, 0, none⟩) (by simp) (by simp)).trans (by simp [go_sem])
  have HT : Hid (Touch w w1 []) := ((Touch.refl w []).alloc _).trans t1 (by simp)
  clear t1 hw
  go_wp2
  have c1 : (w1.setCell ⟨w.heap.size, 0, none⟩ (.bool false)).cell? ⟨w.heap.size, 0, none⟩ = some (.bool false) := World.cell?_setCell_same _ _ _ c0
  have f1 : (w1.setCell ⟨w.heap.size, 0, none⟩ (.bool false)).frozen? ⟨w.heap.size, 0, none⟩ = false := by simp [f0]
  have HT1 : Hid (Touch w (w1.setCell ⟨w.heap.size, 0, none⟩ (.bool false)) []) := HT.out.setCell (.inr (Nat.le_refl _)) _
  generalize w1.setCell ⟨w.heap.size, 0, none⟩ (.bool false) = w2 at *
  clear c0 f0 HT
  refine leaves_cons (f := 67) (args := #[.pointer (some ⟨w.heap.size, 0, none⟩)]) (by simp) (by simp [go_sem]) ?_
  refine (hcatch_idle ⟨w.heap.size, 0, none⟩ w2 false c1 f1).mono ?_
  rintro e u' w'' ⟨rfl, rfl, rfl⟩
  have c2 : (w2.setCell ⟨w.heap.size, 0, none⟩ (.bool false)).cell? ⟨w.heap.size, 0, none⟩ = some (.bool false) := World.cell?_setCell_same _ _ _ c1
  have HT2 : Hid (Touch w (w2.setCell ⟨w.heap.size, 0, none⟩ (.bool false)) []) := HT1.out.setCell (.inr (Nat.le_refl _)) _
  generalize w2.setCell ⟨w.heap.size, 0, none⟩ (.bool false) = w3 at *
  simp [Leaves, settle, results, Tryz.results43, go_sem, c2]
  exact HT2.out

set_option maxRecDepth 100000 in
theorem gives_no (k : Nat) (cap : Array Value) (w : World) (hen : ∀ w1, (callFunc k cap).run Tryz.prog w1 = .ok (.enter k cap) w1) (hw : ∀ w1, Touch w w1 [] → Calls Tryz.prog k cap w1 fun e w' => GaveUp e ∧ Touch w1 w' []) :
    Calls Tryz.prog 43 #[.func (.func k) #[] cap] w fun e w' => e = .returned (.bool true) ∧ Touch w w' [] := by
  have hmf : ∀ (fn : Fn) (first cap : Array Value) (w : World), (Instr.makeFunc fn first cap).run Tryz.prog w = .ok (.func fn first cap) w := fun _ _ _ _ => rfl
  go_enter_defers Tryz.func43, Tryz.ntmps43
  go_wp2_with fail
  refine (hw _ ((Touch.refl w []).alloc _)).mono ?_
  rintro e w1 ⟨rfl, t1⟩
  have c0 : w1.cell? ⟨w.heap.size, 0, none⟩ = some (.bool false) := (t1.cell (p := ⟨w.heap.size, 0, none⟩) (by simp) (by simp)).trans (by simp [go_sem])
  have f0 : w1.frozen? ⟨w.heap.size, 0, none⟩ = false := (t1.frozen (p := ⟨w.heap.size, 0, none⟩) (by simp) (by simp)).trans (by simp [go_sem])
  have HT : Hid (Touch w w1 []) := ((Touch.refl w []).alloc _).trans t1 (by simp)
  clear t1 hw
  go_wp2
  refine leaves_cons (f := 67) (args := #[.pointer (some ⟨w.heap.size, 0, none⟩)]) (by simp) (by simp [go_sem]) ?_
  refine (hcatch_no ⟨w.heap.size, 0, none⟩ w1 false c0 f0).mono ?_
  rintro e u' w'' ⟨rfl, rfl, rfl⟩
  have c2 : (w1.setCell ⟨w.heap.size, 0, none⟩ (.bool true)).cell? ⟨w.heap.size, 0, none⟩ = some (.bool true) := World.cell?_setCell_same _ _ _ c0
  have HT2 : Hid (Touch w (w1.setCell ⟨w.heap.size, 0, none⟩ (.bool true)) []) := HT.out.setCell (.inr (Nat.le_refl _)) _
  generalize w1.setCell ⟨w.heap.size, 0, none⟩ (.bool true) = w3 at *
  simp [Leaves, settle, results, Tryz.results43, go_sem, c2]
  exact HT2.out

set_option maxRecDepth 100000 in
theorem right_of {w : World} {ao : Option Addr} {cap : Nat} {l : List EvD} (hr : EvRow w (.slice ao l.length cap) l) (hl : l.length ≤ 1000) (hwf : ∀ e ∈ l, e.Wf) :
    Calls Tryz.prog 21 #[.slice ao l.length cap] w fun e w' => e = .returned (.bool (rightS l)) ∧ Touch w w' [] := by
  have hmf : ∀ (fn : Fn) (first cap : Array Value) (w : World), (Instr.makeFunc fn first cap).run Tryz.prog w = .ok (.func fn first cap) w := fun _ _ _ _ => rfl
  have t0 : Touch w (w.alloc (.cells #[.slice ao l.length cap] 22)) [] := (Touch.refl w []).alloc _
  have hwk := fun (w1 : World) (t : Touch (w.alloc (.cells #[.slice ao l.length cap] 22)) w1 []) => right1_any (p := w.heap.size) ((t.cell (p := ⟨w.heap.size, 0, none⟩) (by simp) (by simp)).trans (by simp [go_sem])) (SRow.keep (SRow.keep hr t0 (by simp)) t (by simp)) hl hwf
  have hcall : Calls Tryz.prog 43 #[.func (.func 44) #[] #[.pointer (some ⟨w.heap.size, 0, none⟩)]] (w.alloc (.cells #[.slice ao l.length cap] 22)) fun e w' => e = .returned (.bool (!rightS l)) ∧ Touch (w.alloc (.cells #[.slice ao l.length cap] 22)) w' [] := by
    cases hq : rightS l with
    | true =>
      refine gives_ok _ _ _ (henter_of Tryz.func44 (by kernel_rfl) (by kernel_rfl)) (fun w1 t => (hwk w1 t).mono ?_)
      rintro e w2 ⟨⟨_, rfl⟩ | ⟨h, _⟩, t2⟩
      · exact ⟨rfl, t2⟩
      · rw [hq] at h; cases h
    | false =>
      refine gives_no _ _ _ (henter_of Tryz.func44 (by kernel_rfl) (by kernel_rfl)) (fun w1 t => (hwk w1 t).mono ?_)
      rintro e w2 ⟨⟨h, rfl⟩ | ⟨_, h⟩, t2⟩
      · rw [hq] at h; cases h
      · exact ⟨h, t2⟩
  have HT0 : Hid _ := t0
  clear hwk hr hwf t0
  generalize rightS l = rb at *
  generalize l.length = n at *
  go_enter Tryz.func21, Tryz.ntmps21
  go_wp2_with fail
  refine hcall.mono ?_
  rintro e w1 ⟨rfl, t1⟩
  clear hcall
  go_wp2
  go_ret
  exact ⟨by simp, HT0.out.trans t1 (by simp)⟩

end Go.Proofs.YtmiaibpdeofokaaGreatDoor

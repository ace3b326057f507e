/-
  A WORLD IN WHICH OTHER BLOCKS ARE AS THEY WERE. No walk.
-/
import Derived.Test.YtminiabpeodjaaaDoorRows
import Derived.WalkKit
import Derived.WalkSpells
import Derived.WalkLawsBesides
import Derived.Laws.Externs
import Derived.StillTactics
import Derived.OwnWalk
import Derived.Laws.Pointers
import Derived.Deep.QuietTactic
import Derived.Deep.RegionHeld3
import Derived.BigQuiet
import Derived.Outline
import Derived.Laws.Bits64
import Derived.Defers
import Derived.Recover
import Derived.Laws.FloatArith
import Derived.ProofKit
import Derived.Lib.SmallJoins
import Derived.Deep.Slices
import Derived.ChangeOld
import Derived.Maps.AppendAt
import Derived.Deep.AppendLies
import Derived.Laws.OwnMore
import Derived.Lib.AppendZeros
import Derived.Laws.BitsAllLaws
import Derived.Lib.SliceRun
import Derived.Laws.BytesArg
namespace Go.Proofs.YtminiabpeodjaaaDoor
set_option linter.unusedVariables false
set_option linter.unusedSimpArgs false
open Go.RowKit

/-! ### Memory -/
/-- w' is w but for the blocks of S, and new ones. -/
structure Touch (w w' : World) (S : List Nat) : Prop where
  os : w'.os = w.os
  tape : w'.tape = w.tape
  output : w'.output = w.output
  size : w.heap.size ≤ w'.heap.size
  block : ∀ k, k < w.heap.size → k ∉ S → w'.heap[k]? = w.heap[k]?

theorem Touch.refl (w : World) (S : List Nat) : Touch w w S := ⟨rfl, rfl, rfl, Nat.le_refl _, fun _ _ _ => rfl⟩

theorem Touch.trans {a b c : World} {S R : List Nat} (h : Touch a b S) (k : Touch b c R) (hR : ∀ x ∈ R, x ∈ S ∨ a.heap.size ≤ x) : Touch a c S :=
  ⟨k.os.trans h.os, k.tape.trans h.tape, k.output.trans h.output, Nat.le_trans h.size k.size, fun i hi hs =>
    (k.block i (Nat.lt_of_lt_of_le hi h.size) (fun hr => by rcases hR i hr with h1 | h1; exact hs h1; omega)).trans (h.block i hi hs)⟩

theorem Touch.mono {a b : World} {S R : List Nat} (h : Touch a b S) (hS : ∀ x ∈ S, x ∈ R) : Touch a b R :=
  ⟨h.os, h.tape, h.output, h.size, fun k hk hr => h.block k hk (fun hs => hr (hS k hs))⟩

theorem Touch.below {w w' : World} {S : List Nat} (h : Touch w w' S) {B : Nat} (hB : B ≤ w.heap.size) (hS : ∀ x ∈ S, B ≤ x) : Below B w w' :=
  ⟨h.os, h.tape, h.output, h.size, fun k hk => h.block k (by omega) (fun hs => by have := hS k hs; omega)⟩

theorem Touch.of_below {w w' : World} (h : Below w.heap.size w w') (S : List Nat) : Touch w w' S :=
  ⟨h.os, h.tape, h.output, h.size, fun k hk _ => h.block k hk⟩

theorem Touch.drew {a w : World} {S : List Nat} (h : Touch a w S) : Touch a w.drew S := ⟨h.os, h.tape, h.output, h.size, h.block⟩

theorem Touch.drewN {a w : World} {S : List Nat} (h : Touch a w S) (n : Nat) : Touch a (w.drewN n) S := ⟨h.os, h.tape, h.output, h.size, h.block⟩

theorem Touch.alloc {a w : World} {S : List Nat} (h : Touch a w S) (o : Obj) : Touch a (w.alloc o) S :=
  h.trans (R := []) ⟨rfl, rfl, rfl, by simp, fun k hk _ => Below.heap_alloc _ _ _ hk⟩ (by simp)

theorem Touch.setCell {a w : World} {S : List Nat} (h : Touch a w S) {p : Addr} (hp : p.block ∈ S ∨ a.heap.size ≤ p.block) (u : Value) : Touch a (w.setCell p u) S :=
  h.trans (R := [p.block]) ⟨rfl, rfl, rfl, by simp [World.setCell], fun k _ hk => Below.heap_setCell _ _ _ _ (by simpa using hk)⟩ (by simpa using hp)

theorem Touch.grown {a w w' : World} {S : List Nat} {row : Option Nat} (h : Touch a w S) (hg : w.grownBy w' row) (hr : ∀ k, row = some k → k ∈ S ∨ a.heap.size ≤ k) : Touch a w' S :=
  h.trans (R := row.toList) ⟨hg.os, hg.tape, hg.output, hg.size, fun k hk hne => hg.block k hk (fun e => hne (by simp [← e]))⟩ (by intro x hx; exact hr x (by simpa using hx))

theorem Touch.cell {w w' : World} {S : List Nat} (h : Touch w w' S) {p : Addr} (hp : p.block < w.heap.size) (hS : p.block ∉ S) : w'.cell? p = w.cell? p := World.cell?_of_block (w := w) (h.block _ hp hS)
theorem Touch.frozen {w w' : World} {S : List Nat} (h : Touch w w' S) {p : Addr} (hp : p.block < w.heap.size) (hS : p.block ∉ S) : w'.frozen? p = w.frozen? p := World.frozen?_of_block (w := w) (h.block _ hp hS)

theorem lt_of_heap {w : World} {b : Nat} {o : Obj} (h : w.heap[b]? = some o) : b < w.heap.size := (Array.getElem?_eq_some_iff.1 h).1

theorem ownsRow_touch {w w' : World} {B : Nat} {e : TypeId} {size : Nat} {v : Value} {n : Nat} {xs : List Value} {S : List Nat} (h : w.ownsRow B e size v n xs) (t : Touch w w' S) (hS : ∀ k, v.ownBlock = some k → k ∉ S) : w'.ownsRow B e size v n xs := by
  refine ⟨h.1, ?_⟩
  rcases h.2 with hn | ⟨g, cap, cur, rfl, hb, hgg, rest⟩
  · exact .inl hn
  · exact .inr ⟨g, cap, cur, rfl, hb, (t.block g (lt_of_heap hgg) (hS g rfl)).trans hgg, rest⟩

/-- The world under a name. -/
theorem wp_name {P : Program} {c : Code} {Q : Exit → Act → World → Prop} {a : Act} {w : World} (h : ∀ W, W = w → c.wp P Q a W) : c.wp P Q a w := h w rfl

end Go.Proofs.YtminiabpeodjaaaDoor
/-
  package value's small calls BY THEIR CONTRACTS: IsNaN, Of, Canon, Float, Negative, Less: each answers what a plain function on bits says, and leaves the world as it was.
-/
namespace Go.Proofs.YtminiabpeodjaaaDoor
set_option linter.unusedVariables false
set_option linter.unusedSimpArgs false
open Go.RowKit

/-- Is it no number? -/
def nanB (b : Nat) : Bool := FloatKind.f64.format.order b b != some .eq
/-- The bits that Of answers. -/
def ofB (b : Nat) : Nat := if nanB b then 9221120237041090560 else b

theorem frombits_run (n : Int) (w : World) : (callFunc 47 #[.int .u64 n]).run Tryd.prog w = .ok (.value (.float .f64 n.toNat)) w := by
  rw [run_callFunc_extern Tryd.func47 (by kernel_rfl) (by kernel_rfl) (by kernel_rfl) (e := Extern.MathFloatBits.float64frombits) (by kernel_rfl)]
  rfl

theorem tobits_run (b : Nat) (w : World) : (callFunc 67 #[.float .f64 b]).run Tryd.prog w = .ok (.value (.int .u64 b)) w := by
  rw [run_callFunc_extern Tryd.func67 (by kernel_rfl) (by kernel_rfl) (by kernel_rfl) (e := Extern.MathFloatBits.float64bits) (by kernel_rfl)]
  rfl

theorem isNaN_any (b : Nat) (w : World) : Calls Tryd.prog 66 #[.float .f64 b] w fun e w' => e = .returned (.bool (nanB b)) ∧ w = w' := by
  unfold nanB
  go_enter Tryd.func66, Tryd.ntmps66
  go_wp2
  go_ret
  exact ⟨rfl, rfl⟩

theorem of_any (b : Nat) (w : World) : Calls Tryd.prog 54 #[.float .f64 b] w fun e w' => e = .returned (.int .u64 (ofB b)) ∧ w = w' := by
  have ht := tobits_run b
  unfold ofB
  cases hn : nanB b with
  | true =>
    have hc := isNaN_any b
    rw [hn] at hc
    go_enter Tryd.func54, Tryd.ntmps54
    go_wp2_with fail
    refine (hc _).mono ?_
    rintro e w1 ⟨rfl, rfl⟩
    clear hc hn
    go_wp2
    go_ret
    exact ⟨rfl, rfl⟩
  | false =>
    have hc := isNaN_any b
    rw [hn] at hc
    go_enter Tryd.func54, Tryd.ntmps54
    go_wp2_with fail
    refine (hc _).mono ?_
    rintro e w1 ⟨rfl, rfl⟩
    clear hc hn
    go_wp2
    go_ret
    exact ⟨rfl, rfl⟩

theorem canon_any (n : Int) (w : World) : Calls Tryd.prog 46 #[.int .u64 n] w fun e w' => e = .returned (.int .u64 (ofB n.toNat)) ∧ w = w' := by
  have ht := frombits_run n
  go_enter Tryd.func46, Tryd.ntmps46
  go_wp2_with fail
  refine (of_any _ _).mono ?_
  rintro e w1 ⟨rfl, rfl⟩
  go_wp2
  go_ret
  exact ⟨rfl, rfl⟩

end Go.Proofs.YtminiabpeodjaaaDoor
/-
  Negative, Less, ClassOf, Neg BY THEIR CONTRACTS.
-/
namespace Go.Proofs.YtminiabpeodjaaaDoor
set_option linter.unusedVariables false
set_option linter.unusedSimpArgs false
open Go.RowKit

/-- Is the sign set? -/
def negB (b : Nat) : Bool := bits .and .u64 (b : Int) 9223372036854775808 != 0
/-- Does x come ahead of y? -/
def lessB (x y : Nat) : Bool :=
  if nanB x then false else if nanB y then true else if FloatKind.f64.format.order x y == some .eq then negB x && !negB y else FloatKind.f64.format.order x y == some .lt

/-- A right value's class, as its number. -/
def classB (x : Nat) : Int :=
  if nanB x then 3 else if (FloatKind.f64.format.order (bits BinOp.andNot IntKind.u64 (x : Int) 9223372036854775808).toNat 9218868437227405311 == some Ordering.gt) then 2 else if (FloatKind.f64.format.order x 0 == some Ordering.eq) then 0 else 1

theorem classB_nan (x : Nat) (h : nanB x = true) : classB x = 3 := by simp [classB, h]
theorem classB_num (x : Nat) (h : nanB x = false) : classB x ≠ 3 := by
  unfold classB; rw [h]; simp only [Bool.false_eq_true, if_false]; split
  · decide
  · split <;> decide

/-! ### Plain facts on the order of bits -/
theorem ofB_idem (b : Nat) : ofB (ofB b) = ofB b := by
  unfold ofB
  cases h : nanB b with
  | true => simp only [if_true]; decide +kernel
  | false => simp [h]

theorem cmp_swap (a b : Int) : compare b a = (compare a b).swap := by
  simp only [compare, compareOfLessAndEq]
  rcases Int.lt_trichotomy a b with h | h | h
  · rw [if_neg (by omega), if_neg (by omega), if_pos h]; rfl
  · subst h; simp
  · rw [if_pos h, if_neg (by omega), if_neg (by omega)]; rfl

theorem datum_swap (a b : Ieee.Datum) : b.order a = (a.order b).map Ordering.swap := by
  cases a with
  | nan s t => cases b <;> simp [Ieee.Datum.order]
  | infinity s =>
    cases b with
    | nan _ _ => simp [Ieee.Datum.order]
    | infinity t => cases s <;> cases t <;> rfl
    | number t n j => cases s <;> rfl
  | number s m i =>
    cases b with
    | nan _ _ => simp [Ieee.Datum.order]
    | infinity t => cases t <;> rfl
    | number t n j =>
      simp only [Ieee.Datum.order, Option.map_some, Option.some.injEq]
      rw [Int.min_comm j i]
      exact cmp_swap _ _

theorem order_swap (x y : Nat) : FloatKind.f64.format.order y x = (FloatKind.f64.format.order x y).map Ordering.swap := datum_swap _ _

theorem less_asym (x y : Nat) (h : lessB x y = true) : lessB y x = false := by
  unfold lessB at h ⊢
  rw [order_swap x y]
  cases hx : nanB x with
  | true => simp [hx] at h
  | false =>
    cases hy : nanB y with
    | true => simp
    | false =>
      simp only [hx, hy] at h ⊢
      cases ho : FloatKind.f64.format.order x y with
      | none => rw [ho] at h; simp at h
      | some o =>
        rw [ho] at h
        cases o with
        | lt => rfl
        | gt => simp at h
        | eq =>
          simp at h
          simp [h.1, h.2]

/-- Whatever is a number comes ahead of what is none. -/
theorem less_nan (x y : Nat) (hx : nanB x = false) (hy : nanB y = true) : lessB x y = true := by simp [lessB, hx, hy]

theorem read_inf (x : Nat) (hlt : x < 18446744073709551616) (h : Ieee.double.read x = .infinity true) : x = 18442240474082181120 := by
  unfold Ieee.Format.read at h
  simp only at h
  split at h
  · cases h
  · split at h
    · cases h
    · split at h
      · rename_i h3
        have e1 : Ieee.double.signWeight = 9223372036854775808 := by decide +kernel
        have e2 : Ieee.double.infRung = 9218868437227405312 := by decide +kernel
        rw [e1, e2] at h3
        rw [e1] at h
        simp only [Ieee.Datum.infinity.injEq, beq_iff_eq] at h
        omega
      · cases h

/-- The infinite one below 0 comes ahead of all others. -/
theorem inf_first (x : Nat) (hlt : x < 18446744073709551616) (hne : x ≠ 18442240474082181120) : lessB 18442240474082181120 x = true := by
  unfold lessB
  rw [show nanB 18442240474082181120 = false by decide +kernel]
  cases hx : nanB x with
  | true => simp
  | false =>
    have hr : FloatKind.f64.format.read 18442240474082181120 = .infinity true := by decide +kernel
    have ho : FloatKind.f64.format.order 18442240474082181120 x = some .lt := by
      unfold Ieee.Format.order
      rw [hr]
      have hx' : nanB x = false := hx
      unfold nanB Ieee.Format.order at hx'
      cases hd : FloatKind.f64.format.read x with
      | nan s t => rw [hd] at hx'; simp [Ieee.Datum.order] at hx'
      | number s m i => rfl
      | infinity s =>
        cases s with
        | false => rfl
        | true => exact absurd (read_inf x hlt hd) hne
    rw [ho]
    rfl

theorem zero_first : lessB 9223372036854775808 0 = true := by decide +kernel

theorem ofB_lt (b : Nat) (h : b < 18446744073709551616) : ofB b < 18446744073709551616 := by
  unfold ofB; split <;> omega

end Go.Proofs.YtminiabpeodjaaaDoor
/-
  THE ORDER OF FLOATS IS THE ORDER OF A WHOLE NUMBER MADE OF THEIR BITS. No walk.
-/
namespace Go.Proofs.YtminiabpeodjaaaDoor
set_option linter.unusedVariables false
set_option linter.unusedSimpArgs false
open Go.RowKit

/-- The place of a float among those of its sign; its size, in units of the least one. -/
def rungB (x : Nat) : Nat := x % 9223372036854775808
def isNeg (x : Nat) : Bool := x / 9223372036854775808 % 2 == 1
def magB (r : Nat) : Nat := if r < 4503599627370496 then r else (4503599627370496 + r % 4503599627370496) * 2 ^ (r / 4503599627370496 - 1)
def sgn (s : Bool) (n : Nat) : Int := if s then -(n : Int) else n

theorem magB_step (r : Nat) : magB r < magB (r + 1) := by
  unfold magB
  by_cases h1 : r + 1 < 4503599627370496
  · rw [if_pos (by omega), if_pos h1]; omega
  · by_cases h2 : r < 4503599627370496
    · obtain rfl : r = 4503599627370495 := by omega
      rw [if_pos h2, if_neg h1]
      decide
    · rw [if_neg h2, if_neg h1]
      by_cases h3 : r % 4503599627370496 = 4503599627370495
      · have e1 : (r + 1) % 4503599627370496 = 0 := by omega
        have e2 : (r + 1) / 4503599627370496 = r / 4503599627370496 + 1 := by omega
        have e3 : r / 4503599627370496 + 1 - 1 = (r / 4503599627370496 - 1) + 1 := by omega
        rw [e1, e2, e3, h3, Nat.pow_succ]
        have hp : 0 < (2 : Nat) ^ (r / 4503599627370496 - 1) := Nat.pow_pos (by omega)
        generalize (2 : Nat) ^ (r / 4503599627370496 - 1) = p at *
        omega
      · have e1 : (r + 1) % 4503599627370496 = r % 4503599627370496 + 1 := by omega
        have e2 : (r + 1) / 4503599627370496 = r / 4503599627370496 := by omega
        rw [e1, e2]
        exact Nat.mul_lt_mul_of_pos_right (by omega) (Nat.pow_pos (by omega))

theorem magB_mono {r s : Nat} (h : r < s) : magB r < magB s := by
  induction s with
  | zero => omega
  | succ s ih =>
    rcases Nat.lt_or_ge r s with h1 | h1
    · exact Nat.lt_trans (ih h1) (magB_step s)
    · obtain rfl : r = s := by omega
      exact magB_step r

theorem magB_lt {r s : Nat} : magB r < magB s ↔ r < s := by
  constructor
  · intro h
    rcases Nat.lt_trichotomy r s with h1 | h1 | h1
    · exact h1
    · subst h1; omega
    · have := magB_mono h1; omega
  · exact magB_mono
theorem magB_eq {r s : Nat} : magB r = magB s ↔ r = s := by
  constructor
  · intro h
    rcases Nat.lt_trichotomy r s with h1 | h1 | h1
    · have := magB_mono h1; omega
    · exact h1
    · have := magB_mono h1; omega
  · intro h; rw [h]
theorem magB_zero {r : Nat} : magB r = 0 ↔ r = 0 := by
  have : magB 0 = 0 := rfl
  rw [← this]
  conv => lhs; rw [this, ← this]
  exact magB_eq

theorem cmp_congr {a b c d : Int} (h1 : a < b ↔ c < d) (h2 : a = b ↔ c = d) : compare a b = compare c d := by
  simp only [compare, compareOfLessAndEq]
  by_cases h : a < b
  · rw [if_pos h, if_pos (h1.1 h)]
  · rw [if_neg h, if_neg (fun k => h (h1.2 k))]
    by_cases e : a = b
    · rw [if_pos e, if_pos (h2.1 e)]
    · rw [if_neg e, if_neg (fun k => e (h2.2 k))]

theorem cmp_scale (u v : Int) (p : Nat) (hp : 0 < p) : compare (u * p) (v * p) = compare u v := by
  have hp' : (0 : Int) < p := by omega
  refine cmp_congr ⟨fun h => ?_, fun h => Int.mul_lt_mul_of_pos_right h hp'⟩ ⟨fun h => ?_, fun h => by rw [h]⟩
  · exact Int.lt_of_mul_lt_mul_right h (Int.le_of_lt hp')
  · exact Int.eq_of_mul_eq_mul_right (by omega) h

theorem magB_cmp (r s : Nat) (a b : Bool) : compare (sgn a (magB r)) (sgn b (magB s)) = compare (sgn a r) (sgn b s) := by
  have h1 := @magB_lt r s
  have h2 := @magB_lt s r
  have h3 := @magB_eq r s
  have h4 := @magB_zero r
  have h5 := @magB_zero s
  unfold sgn
  generalize magB r = m at *
  generalize magB s = n at *
  cases a <;> cases b <;> simp only [Bool.false_eq_true, if_false, if_true] <;> refine cmp_congr ?_ ?_ <;> omega

theorem signed_sgn (s : Bool) (m k : Nat) : Ieee.signed s m k = sgn s (m * 2 ^ k) := by
  unfold Ieee.signed sgn
  rw [Nat.shiftLeft_eq]

theorem sgn_mul (s : Bool) (m p : Nat) : sgn s (m * p) = sgn s m * p := by
  unfold sgn
  cases s <;> simp [Int.neg_mul]

/-- Two numbers of one grid. -/
theorem order_grid (s t : Bool) (m n a b : Nat) (lp : Int) : Ieee.Datum.order (.number s m (lp + a)) (.number t n (lp + b)) = some (compare (sgn s (m * 2 ^ a)) (sgn t (n * 2 ^ b))) := by
  simp only [Ieee.Datum.order, Option.some.injEq]
  rw [signed_sgn, signed_sgn]
  have e0 : min (lp + (a : Int)) (lp + b) = lp + (min a b : Nat) := by omega
  rw [e0]
  have ea : (lp + (a : Int) - (lp + (min a b : Nat))).toNat = a - min a b := by omega
  have eb : (lp + (b : Int) - (lp + (min a b : Nat))).toNat = b - min a b := by omega
  rw [ea, eb]
  have ha : m * 2 ^ a = m * 2 ^ (a - min a b) * 2 ^ min a b := by rw [Nat.mul_assoc, ← Nat.pow_add]; congr 2; omega
  have hb : n * 2 ^ b = n * 2 ^ (b - min a b) * 2 ^ min a b := by rw [Nat.mul_assoc, ← Nat.pow_add]; congr 2; omega
  rw [ha, hb, sgn_mul s (m * 2 ^ (a - min a b)), sgn_mul t (n * 2 ^ (b - min a b))]
  exact (cmp_scale _ _ _ (Nat.pow_pos (by omega))).symm

/-- How bits read. -/
theorem read_is (x : Nat) : (rungB x < 9218868437227405312 ∧ ∃ m a : Nat, Ieee.double.read x = .number (isNeg x) m (Ieee.double.leastPlace + a) ∧ m * 2 ^ a = magB (rungB x)) ∨ (rungB x = 9218868437227405312 ∧ Ieee.double.read x = .infinity (isNeg x)) ∨ (9218868437227405312 < rungB x ∧ Ieee.double.read x = .nan (isNeg x) (rungB x - 9218868437227405312)) := by
  have e1 : Ieee.double.signWeight = 9223372036854775808 := by decide +kernel
  have e2 : Ieee.double.infRung = 9218868437227405312 := by decide +kernel
  have e3 : Ieee.double.binade = 4503599627370496 := by decide +kernel
  unfold Ieee.Format.read rungB isNeg magB
  simp only [e1, e2, e3]
  generalize x % 9223372036854775808 = r
  generalize (x / 9223372036854775808 % 2 == 1) = s
  by_cases h1 : r < 4503599627370496
  · left
    rw [if_pos h1, if_pos h1]
    exact ⟨by omega, r, 0, by simp, by simp⟩
  · rw [if_neg h1, if_neg h1]
    by_cases h2 : r < 9218868437227405312
    · left
      rw [if_pos h2]
      exact ⟨h2, _, _, rfl, rfl⟩
    · right
      rw [if_neg h2]
      by_cases h3 : r = 9218868437227405312
      · left; rw [if_pos h3]; exact ⟨h3, rfl⟩
      · right; rw [if_neg h3]; exact ⟨by omega, rfl⟩

theorem cmp_lt {a b : Int} (h : a < b) : compare a b = .lt := by simp only [compare, compareOfLessAndEq]; rw [if_pos h]
theorem cmp_gt {a b : Int} (h : b < a) : compare a b = .gt := by simp only [compare, compareOfLessAndEq]; rw [if_neg (by omega), if_neg (by omega)]

/-- THE ORDER OF FLOATS. -/
theorem order_key (x y : Nat) (hx : rungB x ≤ 9218868437227405312) (hy : rungB y ≤ 9218868437227405312) : FloatKind.f64.format.order x y = some (compare (sgn (isNeg x) (rungB x)) (sgn (isNeg y) (rungB y))) := by
  show (Ieee.double.read x).order (Ieee.double.read y) = _
  rcases read_is x with ⟨h1, m, a, e1, g1⟩ | ⟨h1, e1⟩ | ⟨h1, _⟩
  · rcases read_is y with ⟨h2, n, b, e2, g2⟩ | ⟨h2, e2⟩ | ⟨h2, _⟩
    · rw [e1, e2, order_grid, g1, g2, magB_cmp]
    · rw [e1, e2]
      generalize rungB x = r at *
      rw [h2]
      cases isNeg x <;> cases isNeg y <;> simp only [Ieee.Datum.order, sgn, Bool.false_eq_true, if_false, if_true, Option.some.injEq] <;> first | exact (cmp_lt (by omega)).symm | exact (cmp_gt (by omega)).symm
    · omega
  · rcases read_is y with ⟨h2, n, b, e2, g2⟩ | ⟨h2, e2⟩ | ⟨h2, _⟩
    · rw [e1, e2]
      generalize rungB y = r at *
      rw [h1]
      cases isNeg x <;> cases isNeg y <;> simp only [Ieee.Datum.order, sgn, Bool.false_eq_true, if_false, if_true, Option.some.injEq] <;> first | exact (cmp_lt (by omega)).symm | exact (cmp_gt (by omega)).symm
    · rw [e1, e2, h1, h2]
      cases isNeg x <;> cases isNeg y <;> decide
    · omega
  · omega

theorem nanB_rung (x : Nat) : nanB x = decide (9218868437227405312 < rungB x) := by
  unfold nanB
  by_cases h : 9218868437227405312 < rungB x
  · rcases read_is x with ⟨h1, _⟩ | ⟨h1, _⟩ | ⟨h1, e1⟩
    · omega
    · omega
    · have : FloatKind.f64.format.order x x = (Ieee.double.read x).order (Ieee.double.read x) := rfl
      rw [this, e1, decide_eq_true h]
      rfl
  · rw [order_key x x (by omega) (by omega), decide_eq_false h]
    simp [compare, compareOfLessAndEq]

end Go.Proofs.YtminiabpeodjaaaDoor
/-
  tried OF PACKAGE value, BY ITS CONTRACT, where the work comes back.
-/
namespace Go.Proofs.YtminiabpeodjaaaDoor
set_option linter.unusedVariables false
set_option linter.unusedSimpArgs false
open Go.RowKit

theorem catchV_idle (p : Addr) (w : World) (x : Bool) (hc : w.cell? p = some (.bool x)) (hz : w.frozen? p = false) :
    CallsD Tryd.prog 77 #[.pointer (some p)] .returning w fun e u' w' => e = .returned (.tuple #[]) ∧ u' = .returning ∧ w' = w.setCell p (.bool true) := by
  refine callsD_of_wpS Tryd.func77 rfl fun c₀ cs hu => ?_
  apply wpS_region
  simp [wpOpsS, go_sem, recoverD, hu, Tryd.ntmps77, Exit.thenS]
  simp [wpOpsS, go_sem, hc, hz, bodyPostS, results, Tryd.results77]
  cases c₀
  simp_all

set_option maxRecDepth 100000 in
theorem triedV_ok (k : Nat) (cap : Array Value) (v : Int) (w : World) (hen : ∀ w1, (callFunc k cap).run Tryd.prog w1 = .ok (.enter k cap) w1) (hw : ∀ w1, Touch w w1 [] → Calls Tryd.prog k cap w1 fun e w' => e = .returned (.int .u64 v) ∧ Touch w1 w' []) :
    Calls Tryd.prog 63 #[.func (.func k) #[] cap] w fun e w' => e = .returned (.tuple #[.int .u64 v, .bool true]) ∧ Touch w w' [] := by
  have hmf : ∀ (fn : Fn) (first cap : Array Value) (w : World), (Instr.makeFunc fn first cap).run Tryd.prog w = .ok (.func fn first cap) w := fun _ _ _ _ => rfl
  go_enter_defers Tryd.func63, Tryd.ntmps63
  go_wp2_with fail
  refine (hw _ ((Touch.refl w []).alloc _)).mono ?_
  rintro e w1 ⟨rfl, t1⟩
  have c0 : w1.cell? ⟨w.heap.size, 0, none⟩ = some (.bool false) := (t1.cell (p := ⟨w.heap.size, 0, none⟩) (by simp) (by simp)).trans (by simp [go_sem])
  have f0 : w1.frozen? ⟨w.heap.size, 0, none⟩ = false := (t1.frozen (p := ⟨w.heap.size, 0, none⟩) (by simp) (by simp)).trans (by simp [go_sem])
  have HT : Hid (Touch w w1 []) := ((Touch.refl w []).alloc _).trans t1 (by simp)
  clear t1 hw
  go_wp2
  have c1 : (w1.setCell ⟨w.heap.size, 0, none⟩ (.bool true)).cell? ⟨w.heap.size, 0, none⟩ = some (.bool true) := World.cell?_setCell_same _ _ _ c0
  have f1 : (w1.setCell ⟨w.heap.size, 0, none⟩ (.bool true)).frozen? ⟨w.heap.size, 0, none⟩ = false := by simp [f0]
  have HT1 : Hid (Touch w (w1.setCell ⟨w.heap.size, 0, none⟩ (.bool true)) []) := HT.out.setCell (.inr (Nat.le_refl _)) _
  generalize w1.setCell ⟨w.heap.size, 0, none⟩ (.bool true) = w2 at *
  clear c0 f0 HT
  refine leaves_cons (f := 77) (args := #[.pointer (some ⟨w.heap.size, 0, none⟩)]) (by simp) (by simp [go_sem]) ?_
  refine (catchV_idle ⟨w.heap.size, 0, none⟩ w2 true c1 f1).mono ?_
  rintro e u' w'' ⟨rfl, rfl, rfl⟩
  have c2 : (w2.setCell ⟨w.heap.size, 0, none⟩ (.bool true)).cell? ⟨w.heap.size, 0, none⟩ = some (.bool true) := World.cell?_setCell_same _ _ _ c1
  have HT2 : Hid (Touch w (w2.setCell ⟨w.heap.size, 0, none⟩ (.bool true)) []) := HT1.out.setCell (.inr (Nat.le_refl _)) _
  generalize w2.setCell ⟨w.heap.size, 0, none⟩ (.bool true) = w3 at *
  simp [Leaves, settle, results, Tryd.results63, go_sem, c2]
  exact HT2.out

end Go.Proofs.YtminiabpeodjaaaDoor
/-
  Int and Whole of package value, where they can be.
-/
namespace Go.Proofs.YtminiabpeodjaaaDoor
set_option linter.unusedVariables false
set_option linter.unusedSimpArgs false
open Go.RowKit

theorem need_ok (w : World) : Calls Tryd.prog 79 #[.bool true] w fun e w' => e = .returned (.tuple #[]) ∧ w = w' := by
  go_enter Tryd.func79, Tryd.ntmps79
  go_wp2
  go_end0
  exact ⟨rfl, rfl⟩

theorem enter_of {k : Nat} {cap : Array Value} {fn : Func} (hf : Tryd.prog.funcs[k]? = some fn) (hn : (fn.name == "runtime.NumGoroutine") = false) (hb : fn.body.isNone = false) (w : World) : (callFunc k cap).run Tryd.prog w = .ok (.enter k cap) w := by
  simp only [callFunc, Sem.run_bind, run_program, Result.andThen_ok, hf, hn, hb, Bool.false_eq_true, if_false, Sem.run_pure]

/-- A float64 without its sign; its whole part. -/
def absB (x : Nat) : Nat := (bits .andNot .u64 (x : Int) 9223372036854775808).toNat
def truncB (x : Nat) : Nat := FloatKind.f64.encode ((FloatKind.f64.decode x).integral .zero)

/-- What makes a value a whole number that is not too far from 0. -/
structure WholeB (n i : Int) : Prop where
  ei : floatToIntVal .f64 (ofB n.toNat) .i64 = some i
  x : ∀ s t, FloatKind.f64.decode (ofB n.toNat) ≠ .nan s t
  A : (FloatKind.f64.format.order (absB (ofB n.toNat)) 4845873199050653696 == some Ordering.lt || FloatKind.f64.format.order (absB (ofB n.toNat)) 4845873199050653696 == some Ordering.eq) = true
  T : (FloatKind.f64.format.order (truncB (ofB n.toNat)) (ofB n.toNat) == some Ordering.eq) = true

theorem whole_m3 : ofB (floatOfInt .f64 (-3)) = 13837309855095848960 := by decide +kernel
theorem wholeB_m3 : WholeB (ofB (floatOfInt .f64 (-3)) : Nat) (-3) := by
  rw [whole_m3]
  refine ⟨by decide +kernel, ?_, by decide +kernel, by decide +kernel⟩
  have e : FloatKind.f64.decode (ofB (((13837309855095848960 : Nat) : Int)).toNat) = FloatKind.f64.decode 13837309855095848960 := by decide +kernel
  intro s t h
  have : ∀ s t, FloatKind.f64.decode 13837309855095848960 ≠ .nan s t := by
    intro s t h
    have h2 : (match FloatKind.f64.decode 13837309855095848960 with | .nan _ _ => true | _ => false) = false := by decide +kernel
    rw [h] at h2
    cases h2
  exact this s t (e ▸ h)

end Go.Proofs.YtminiabpeodjaaaDoor
/-
  '+', '-', '*', '/' OF VALUES, BY CONTRACT: what is invalid is api.NaN, whatever bits the tape gives.
-/
namespace Go.Proofs.YtminiabpeodjaaaDoor
set_option linter.unusedVariables false
set_option linter.unusedSimpArgs false
open Go.RowKit

theorem nan_frac (s f : Nat) (hs : s ≤ 1) (h0 : 0 < f) (h1 : f < 4503599627370496) : nanB (s * 9223372036854775808 + 9218868437227405312 + f) = true := by
  have e1 : Ieee.double.signWeight = 9223372036854775808 := by decide +kernel
  have e2 : Ieee.double.infRung = 9218868437227405312 := by decide +kernel
  have hr : ∃ a b, Ieee.double.read (s * 9223372036854775808 + 9218868437227405312 + f) = .nan a b := by
    have e3 : Ieee.double.binade = 4503599627370496 := by decide +kernel
    have hg : (s * 9223372036854775808 + 9218868437227405312 + f) % 9223372036854775808 = 9218868437227405312 + f := by omega
    unfold Ieee.Format.read
    simp only [e1, e2, e3, hg]
    rw [if_neg (by omega), if_neg (by omega), if_neg (by omega)]
    exact ⟨_, _, rfl⟩
  obtain ⟨a, b, hr⟩ := hr
  unfold nanB Ieee.Format.order
  have hr' : FloatKind.f64.format.read (s * 9223372036854775808 + 9218868437227405312 + f) = .nan a b := hr
  rw [hr']
  rfl

/-- What '+', '-', '*', '/' come to. -/
def arithB (op : BinOp) (x y : Nat) : Nat := match floatBits op .f64 x y with | some r => ofB r | none => 9221120237041090560

theorem arith_none (op : BinOp) (t : TypeId) (x y : Nat) (ho : op = .add ∨ op = .sub ∨ op = .mul ∨ op = .quo) (h : floatBits op .f64 x y = none) (w : World) :
    ∃ r : Nat, nanB r = true ∧ (binOp op t (.float .f64 x) (.float .f64 y)).run Tryd.prog w = .ok (.float .f64 r) w.drew := by
  refine ⟨(w.tape w.drawn (.nanBits .f64 x y) % 2) * 2 ^ 63 + 0x7ff0000000000000 + 1 + (w.tape w.drawn (.nanBits .f64 x y) / 2) % (2 ^ 52 - 1), ?_, ?_⟩
  · have := nan_frac (w.tape w.drawn (.nanBits .f64 x y) % 2) (1 + (w.tape w.drawn (.nanBits .f64 x y) / 2) % (2 ^ 52 - 1)) (by omega) (by omega) (by omega)
    rw [← Nat.add_assoc] at this
    exact this
  · rcases ho with rfl | rfl | rfl | rfl
    all_goals
      unfold floatBits at h
      simp only at h
      simp [binOp, Op.floatArith, h, run_choose_drew, Question.forced, Question.cut]

end Go.Proofs.YtminiabpeodjaaaDoor
/-
  SIGNS AND BITS OF VALUES, AS PLAIN DATA. No walk.
-/
namespace Go.Proofs.YtminiabpeodjaaaDoor
set_option linter.unusedVariables false
set_option linter.unusedSimpArgs false
open Go.RowKit

theorem isNeg_is (x : Nat) (h : x < 18446744073709551616) : isNeg x = decide (9223372036854775808 ≤ x) := by
  unfold isNeg
  by_cases h1 : 9223372036854775808 ≤ x
  · have : x / 9223372036854775808 % 2 = 1 := by omega
    rw [this, decide_eq_true h1]; rfl
  · have : x / 9223372036854775808 % 2 = 0 := by omega
    rw [this, decide_eq_false h1]; rfl
theorem rungB_is (x : Nat) (h : x < 18446744073709551616) : rungB x = if 9223372036854775808 ≤ x then x - 9223372036854775808 else x := by
  unfold rungB
  split <;> omega

theorem negB_is (x : Nat) (h : x < 18446744073709551616) : negB x = decide (9223372036854775808 ≤ x) := by
  unfold negB
  have e : bits .and .u64 (x : Int) 9223372036854775808 = ((x &&& 9223372036854775808 : Nat) : Int) := u64_and_nat x 9223372036854775808 h (by omega)
  rw [e]
  have e2 : (9223372036854775808 : Nat) = 2 ^ 63 := rfl
  rw [e2]
  have h1 : (x &&& 2 ^ 63) % 2 ^ 63 = 0 := by rw [Nat.and_mod_two_pow]; simp
  have h2 : (x &&& 2 ^ 63) / 2 ^ 63 = (x / 2 ^ 63) &&& 1 := by rw [Nat.and_div_two_pow]
  have h3 : (x &&& 2 ^ 63) = 2 ^ 63 * ((x &&& 2 ^ 63) / 2 ^ 63) + (x &&& 2 ^ 63) % 2 ^ 63 := (Nat.div_add_mod _ _).symm
  rw [h1, h2] at h3
  rw [h3]
  by_cases hx : 2 ^ 63 ≤ x
  · have : x / 2 ^ 63 = 1 := by omega
    rw [this, decide_eq_true hx]; decide
  · have : x / 2 ^ 63 = 0 := by omega
    rw [this, decide_eq_false hx]; decide

theorem absB_is (x : Nat) (h : x < 18446744073709551616) : absB x = rungB x := by
  unfold absB rungB
  have e : bits .andNot .u64 (x : Int) 9223372036854775808 = ((x &&& (18446744073709551615 - 9223372036854775808) : Nat) : Int) := u64_andNot_nat x 9223372036854775808 h (by omega)
  rw [e, Int.toNat_natCast]
  have e2 : (18446744073709551615 - 9223372036854775808 : Nat) = 2 ^ 63 - 1 := rfl
  rw [e2, Nat.and_two_pow_sub_one_eq_mod]

theorem negFloat_is (x : Nat) (h : x < 18446744073709551616) : Op.negFloat .f64 x = if 9223372036854775808 ≤ x then x - 9223372036854775808 else x + 9223372036854775808 := by
  have e : Op.negFloat .f64 x = x ^^^ 2 ^ 63 := rfl
  rw [e]
  have h1 : (x ^^^ 2 ^ 63) % 2 ^ 63 = x % 2 ^ 63 := by first | (rw [Nat.xor_mod_two_pow, Nat.mod_self, Nat.xor_zero]; done) | (rw [Nat.xor_mod_two_pow]; simp)
  have h2 : (x ^^^ 2 ^ 63) / 2 ^ 63 = (x / 2 ^ 63) ^^^ 1 := by first | (rw [Nat.xor_div_two_pow]; done) | (rw [Nat.xor_div_two_pow]; simp)
  have h3 : (x ^^^ 2 ^ 63) = 2 ^ 63 * ((x ^^^ 2 ^ 63) / 2 ^ 63) + (x ^^^ 2 ^ 63) % 2 ^ 63 := (Nat.div_add_mod _ _).symm
  rw [h1, h2] at h3
  by_cases hx : 9223372036854775808 ≤ x
  · have : x / 2 ^ 63 = 1 := by omega
    rw [if_pos hx, h3, this]
    have : (1 ^^^ 1 : Nat) = 0 := rfl
    rw [this]
    omega
  · have : x / 2 ^ 63 = 0 := by omega
    rw [if_neg hx, h3, this]
    have : (0 ^^^ 1 : Nat) = 1 := rfl
    rw [this]
    omega

/-- The right bits: those of a number, or just one of those that are none. -/
theorem ofB_cases (x : Nat) (h : x < 18446744073709551616) : (rungB x ≤ 9218868437227405312 ∧ ofB x = x) ∨ (9218868437227405312 < rungB x ∧ ofB x = 9221120237041090560) := by
  unfold ofB
  rw [nanB_rung]
  by_cases h1 : 9218868437227405312 < rungB x
  · right; rw [decide_eq_true h1]; exact ⟨h1, rfl⟩
  · left; rw [decide_eq_false h1]; exact ⟨by omega, rfl⟩

/-- The number by which values are in order. -/
def keyB (x : Nat) : Int := if 9223372036854775808 ≤ x then -((x - 9223372036854775808 : Nat) : Int) - 1 else x

theorem keyB_inj {x y : Nat} (hx : x < 18446744073709551616) (hy : y < 18446744073709551616) (h : keyB x = keyB y) : x = y := by
  unfold keyB at h
  split at h <;> split at h <;> omega

/-- Right bits. -/
structure Rt (x : Nat) : Prop where
  lt : x < 18446744073709551616
  r : rungB x ≤ 9218868437227405312 ∨ x = 9221120237041090560

theorem rt_of (x : Nat) (h : x < 18446744073709551616) : Rt (ofB x) := by
  rcases ofB_cases x h with ⟨h1, e⟩ | ⟨h1, e⟩
  · rw [e]; exact ⟨h, .inl h1⟩
  · rw [e]; exact ⟨by omega, .inr rfl⟩

theorem Rt.nan {x : Nat} (h : Rt x) : nanB x = decide (x = 9221120237041090560) := by
  rw [nanB_rung]
  rcases h.r with h1 | h1
  · rw [decide_eq_false (by omega)]
    symm
    apply decide_eq_false
    intro e
    rw [e] at h1
    revert h1
    decide
  · subst h1; decide

theorem less_of_cmp (A B : Int) (p c : Bool) (h : c = true ↔ A < B ∨ (A = B ∧ p = true)) : (if (some (compare A B) == some Ordering.eq) then p else (some (compare A B) == some Ordering.lt)) = c := by
  rcases Int.lt_trichotomy A B with h1 | h1 | h1
  · rw [cmp_lt h1]
    have : c = true := h.2 (.inl h1)
    rw [this]; rfl
  · have e : compare A B = .eq := by subst h1; simp [compare, compareOfLessAndEq]
    rw [e]
    have : c = p := by
      cases hp : p with
      | true => exact h.2 (.inr ⟨h1, hp⟩)
      | false =>
        cases hc : c with
        | false => rfl
        | true =>
          rcases h.1 hc with h2 | ⟨_, h2⟩
          · omega
          · rw [hp] at h2; cases h2
    rw [this]; rfl
  · rw [cmp_gt h1]
    have : c = false := by
      cases hc : c with
      | false => rfl
      | true =>
        rcases h.1 hc with h2 | ⟨h2, _⟩ <;> omega
    rw [this]; rfl

theorem lessB_key {x y : Nat} (hx : Rt x) (hy : Rt y) : lessB x y = decide (keyB x < keyB y) := by
  have e0 : rungB 9221120237041090560 = 9221120237041090560 := by decide
  unfold lessB
  rw [hx.nan, hy.nan]
  by_cases h1 : x = 9221120237041090560
  · subst h1
    rw [if_pos (by decide)]
    symm
    apply decide_eq_false
    have := hy.lt
    have hr := rungB_is y hy.lt
    rcases hy.r with h | h
    · unfold keyB
      rw [if_neg (by omega)]
      split at hr
      · rw [if_pos ‹_›]; omega
      · rw [if_neg ‹_›]; omega
    · rw [h]; omega
  · rw [if_neg (by simpa using h1)]
    have hxr : rungB x ≤ 9218868437227405312 := hx.r.resolve_right h1
    have hrx := rungB_is x hx.lt
    by_cases h2 : y = 9221120237041090560
    · subst h2
      rw [if_pos (by decide)]
      symm
      apply decide_eq_true
      unfold keyB
      rw [if_neg (show ¬ 9223372036854775808 ≤ 9221120237041090560 by omega)]
      split at hrx
      · rw [if_pos ‹_›]; omega
      · rw [if_neg ‹_›]; omega
    · rw [if_neg (by simpa using h2)]
      have hyr : rungB y ≤ 9218868437227405312 := hy.r.resolve_right h2
      have hry := rungB_is y hy.lt
      rw [order_key x y hxr hyr, negB_is x hx.lt, negB_is y hy.lt, isNeg_is x hx.lt, isNeg_is y hy.lt, hrx, hry]
      have lx := hx.lt
      have ly := hy.lt
      unfold keyB sgn
      by_cases a : 9223372036854775808 ≤ x <;> by_cases b : 9223372036854775808 ≤ y
      all_goals
        simp only [a, b, decide_true, decide_false, if_true, if_false, Bool.false_eq_true]
        refine less_of_cmp _ _ _ _ ?_
        simp only [decide_eq_true_eq, Bool.and_true, Bool.and_false, Bool.not_true, Bool.not_false, Bool.false_eq_true, and_false, or_false, and_true, Bool.true_and, Bool.false_and]
        try omega

theorem rt_nan : Rt 9221120237041090560 := ⟨by omega, .inr rfl⟩

/-- The document's order. -/
def refLess (x y : Nat) : Bool := if x = 9221120237041090560 then false else if y = 9221120237041090560 then true else if x = 9223372036854775808 ∧ y = 0 then true else FloatKind.f64.format.order x y == some .lt

theorem refLess_eq {x y : Nat} (hx : Rt x) (hy : Rt y) : refLess x y = lessB x y := by
  unfold refLess lessB
  rw [hx.nan, hy.nan]
  by_cases h1 : x = 9221120237041090560
  · simp only [h1, decide_true, if_true]
  · by_cases h2 : y = 9221120237041090560
    · simp only [h1, h2, decide_true, decide_false, if_true, if_false, Bool.false_eq_true]
    · simp only [h1, h2, decide_false, if_false, Bool.false_eq_true]
      have hxr : rungB x ≤ 9218868437227405312 := hx.r.resolve_right h1
      have hyr : rungB y ≤ 9218868437227405312 := hy.r.resolve_right h2
      have hrx := rungB_is x hx.lt
      have hry := rungB_is y hy.lt
      have lx := hx.lt
      have ly := hy.lt
      rw [order_key x y hxr hyr, negB_is x hx.lt, negB_is y hy.lt, isNeg_is x hx.lt, isNeg_is y hy.lt, hrx, hry]
      symm
      refine less_of_cmp _ _ _ _ ?_
      by_cases h3 : x = 9223372036854775808 ∧ y = 0
      · rw [if_pos h3]
        obtain ⟨rfl, rfl⟩ := h3
        decide
      · rw [if_neg h3]
        have hcl : ∀ A B : Int, ((some (compare A B) == some Ordering.lt) = true) ↔ A < B := by
          intro A B
          rcases Int.lt_trichotomy A B with h | h | h
          · rw [cmp_lt h]; simp [h]
          · subst h; simp [compare, compareOfLessAndEq]
          · rw [cmp_gt h]; simp; omega
        rw [hcl]
        unfold sgn
        by_cases a : 9223372036854775808 ≤ x <;> by_cases b : 9223372036854775808 ≤ y
        all_goals
          simp only [a, b, decide_true, decide_false, if_true, if_false, Bool.false_eq_true, Bool.and_true, Bool.and_false, Bool.not_true, Bool.not_false, and_false, or_false, and_true, Bool.true_and, Bool.false_and]
          try omega

/-- The document's class. -/
def refClass (x : Nat) : Int := if nanB x then 3 else if (FloatKind.f64.format.order x 0 == some .eq) then 0 else if (FloatKind.f64.format.order x 9218868437227405311 == some .gt || FloatKind.f64.format.order x 18442240474082181119 == some .lt) then 2 else 1

theorem cmp_is_eq (A B : Int) : (some (compare A B) == some Ordering.eq) = decide (A = B) := by
  rcases Int.lt_trichotomy A B with h | h | h
  · rw [cmp_lt h, decide_eq_false (by omega)]; rfl
  · subst h; simp [compare, compareOfLessAndEq]
  · rw [cmp_gt h, decide_eq_false (by omega)]; rfl
theorem cmp_is_gt (A B : Int) : (some (compare A B) == some Ordering.gt) = decide (B < A) := by
  rcases Int.lt_trichotomy A B with h | h | h
  · rw [cmp_lt h, decide_eq_false (by omega)]; rfl
  · subst h; simp [compare, compareOfLessAndEq]
  · rw [cmp_gt h, decide_eq_true h]; rfl
theorem cmp_is_lt (A B : Int) : (some (compare A B) == some Ordering.lt) = decide (A < B) := by
  rcases Int.lt_trichotomy A B with h | h | h
  · rw [cmp_lt h, decide_eq_true h]; rfl
  · subst h; simp [compare, compareOfLessAndEq]
  · rw [cmp_gt h, decide_eq_false (by omega)]; rfl

theorem refClass_eq {x : Nat} (hx : Rt x) : refClass x = classB x := by
  unfold refClass classB
  cases hn : nanB x with
  | true => rfl
  | false =>
    simp only [Bool.false_eq_true, if_false]
    rw [hx.nan] at hn
    have h1 : x ≠ 9221120237041090560 := by simpa using hn
    have hxr : rungB x ≤ 9218868437227405312 := hx.r.resolve_right h1
    have hrx := rungB_is x hx.lt
    have lx := hx.lt
    have ha : (bits BinOp.andNot IntKind.u64 (x : Int) 9223372036854775808).toNat = rungB x := absB_is x hx.lt
    have hrr : rungB (rungB x) = rungB x := by unfold rungB; omega
    have hrl : rungB x < 9223372036854775808 := by unfold rungB; omega
    rw [ha, order_key x 0 hxr (by decide), order_key x 9218868437227405311 hxr (by decide), order_key x 18442240474082181119 hxr (by decide), order_key (rungB x) 9218868437227405311 (by omega) (by decide)]
    rw [cmp_is_eq, cmp_is_gt, cmp_is_gt, cmp_is_lt, hrr, isNeg_is x lx, isNeg_is (rungB x) (by omega)]
    have e1 : sgn (isNeg 0) (rungB 0) = 0 := by decide
    have e2 : sgn (isNeg 9218868437227405311) (rungB 9218868437227405311) = 9218868437227405311 := by decide
    have e3 : sgn (isNeg 18442240474082181119) (rungB 18442240474082181119) = -9218868437227405311 := by decide
    rw [e1, e2, e3, decide_eq_false (show ¬ 9223372036854775808 ≤ rungB x by omega)]
    generalize rungB x = r at *
    unfold sgn
    simp only [Bool.false_eq_true, if_false]
    by_cases a : 9223372036854775808 ≤ x
    · simp only [a, decide_true, if_true]
      by_cases b : 9218868437227405311 < r
      · have c1 : ¬ (-(r : Int) = 0) := by omega
        have c2 : -(r : Int) < -9218868437227405311 := by omega
        have c3 : (9218868437227405311 : Int) < r := by omega
        simp [c1, c2, c3]
      · have c2 : ¬ -(r : Int) < -9218868437227405311 := by omega
        have c3 : ¬ (9218868437227405311 : Int) < r := by omega
        have c4 : ¬ (9218868437227405311 : Int) < -(r : Int) := by omega
        simp [c2, c3, c4]
    · simp only [a, decide_false, Bool.false_eq_true, if_false]
      by_cases b : 9218868437227405311 < r
      · have c1 : ¬ ((r : Int) = 0) := by omega
        have c3 : (9218868437227405311 : Int) < r := by omega
        have c5 : ¬ r = 0 := by omega
        simp [c1, c3, c5]
      · have c2 : ¬ (r : Int) < -9218868437227405311 := by omega
        have c3 : ¬ (9218868437227405311 : Int) < r := by omega
        simp [c2, c3]

/-- The other sign, and none, of right bits. -/
theorem neg_of {x : Nat} (hx : Rt x) : ofB (Op.negFloat .f64 x) = if x = 9221120237041090560 then 9221120237041090560 else if 9223372036854775808 ≤ x then x - 9223372036854775808 else x + 9223372036854775808 := by
  have lx := hx.lt
  by_cases h1 : x = 9221120237041090560
  · subst h1; rw [if_pos rfl]; decide +kernel
  · rw [if_neg h1, ← negFloat_is x lx]
    have hxr : rungB x ≤ 9218868437227405312 := hx.r.resolve_right h1
    have e := negFloat_is x lx
    have hl : Op.negFloat .f64 x < 18446744073709551616 := by rw [e]; split <;> omega
    have hr : rungB (Op.negFloat .f64 x) = rungB x := by
      unfold rungB
      rw [e]
      split <;> omega
    rcases ofB_cases _ hl with ⟨_, h2⟩ | ⟨h2, _⟩
    · exact h2
    · omega

theorem abs_of {x : Nat} (hx : Rt x) : ofB (absB x) = if x = 9221120237041090560 then 9221120237041090560 else rungB x := by
  have lx := hx.lt
  by_cases h1 : x = 9221120237041090560
  · subst h1; rw [if_pos rfl]; decide +kernel
  · rw [if_neg h1, absB_is x lx]
    have hxr : rungB x ≤ 9218868437227405312 := hx.r.resolve_right h1
    have hrr : rungB (rungB x) = rungB x := by unfold rungB; omega
    rcases ofB_cases (rungB x) (by omega) with ⟨_, h2⟩ | ⟨h2, _⟩
    · exact h2
    · omega

end Go.Proofs.YtminiabpeodjaaaDoor
/-
  THE DOCUMENT's VALUES BY THEIR CONTRACTS: each answers as package value does.
-/
namespace Go.Proofs.YtminiabpeodjaaaDoor
set_option linter.unusedVariables false
set_option linter.unusedSimpArgs false
open Go.RowKit

/-- A value, as its bits. -/
def Wf64 (n : Int) : Prop := 0 ≤ n ∧ n < 18446744073709551616
theorem Wf64.lt {n : Int} (h : Wf64 n) : n.toNat < 18446744073709551616 := by unfold Wf64 at h; omega
theorem Wf64.rt {n : Int} (h : Wf64 n) : Rt (ofB n.toNat) := rt_of _ h.lt
theorem wf_ofB {n : Int} (h : Wf64 n) : Wf64 (ofB n.toNat) := by have := h.rt.lt; unfold Wf64; omega
theorem ofB_ofB (n : Int) : ofB (((ofB n.toNat : Nat) : Int)).toNat = ofB n.toNat := by rw [Int.toNat_natCast, ofB_idem]

theorem beq_eq_decide (a b : Int) : (a == b) = decide (a = b) := by
  by_cases h : a = b <;> simp [h]

/-- Is it right? -/
def rightB (n : Int) : Bool := decide (((ofB n.toNat : Nat) : Int) = n)

theorem rightB_is {n : Int} (h : Wf64 n) : rightB n = (!nanB n.toNat || n == 9221120237041090560) := by
  unfold rightB ofB
  unfold Wf64 at h
  cases hn : nanB n.toNat with
  | true =>
    simp only [if_true, Bool.not_true, Bool.false_or]
    by_cases e : n = 9221120237041090560
    · subst e; decide
    · rw [decide_eq_false (by omega)]; simp [e]
  | false =>
    simp only [Bool.false_eq_true, if_false, Bool.not_false, Bool.true_or]
    exact decide_eq_true (by omega)

theorem right_any (n : Int) (w : World) : Calls Tryd.prog 33 #[.int .u64 n] w fun e w' => e = .returned (.bool (rightB n)) ∧ w = w' := by
  have hc := canon_any n w
  unfold rightB
  generalize ofB n.toNat = x at *
  go_enter Tryd.func33, Tryd.ntmps33
  go_wp2_with fail
  refine hc.mono ?_
  rintro e w1 ⟨rfl, rfl⟩
  clear hc
  go_wp2
  go_ret
  exact ⟨by simp [beq_eq_decide], rfl⟩

theorem rright_any (n : Int) (h : Wf64 n) (w : World) : Calls Tryd.prog 35 #[.int .u64 n] w fun e w' => e = .returned (.bool (rightB n)) ∧ w = w' := by
  have hf := frombits_run n
  rw [rightB_is h]
  unfold nanB
  generalize hq : (FloatKind.f64.format.order n.toNat n.toNat == some Ordering.eq) = q
  have hq' : (!(FloatKind.f64.format.order n.toNat n.toNat != some Ordering.eq)) = q := by rw [← hq]; simp [bne]
  rw [hq']
  clear hq'
  cases q with
  | true =>
    go_enter Tryd.func35, Tryd.ntmps35
    go_wp2
    go_ret
    exact ⟨by simp, rfl⟩
  | false =>
    go_enter Tryd.func35, Tryd.ntmps35
    go_wp2
    go_ret
    exact ⟨by simp, rfl⟩

theorem rcanon_any (n : Int) (h : Wf64 n) (w : World) : Calls Tryd.prog 51 #[.int .u64 n] w fun e w' => e = .returned (.int .u64 (ofB n.toNat)) ∧ w = w' := by
  have hr := rright_any n h w
  cases hq : rightB n with
  | true =>
    have e : ((ofB n.toNat : Nat) : Int) = n := by unfold rightB at hq; exact of_decide_eq_true hq
    rw [hq] at hr
    rw [e]
    clear hq e h
    go_enter Tryd.func51, Tryd.ntmps51
    go_wp2_with fail
    refine hr.mono ?_
    rintro e w1 ⟨rfl, rfl⟩
    clear hr
    go_wp2
    go_ret
    exact ⟨by simp, rfl⟩
  | false =>
    have e : ofB n.toNat = 9221120237041090560 := by
      have := rightB_is h
      rw [hq] at this
      unfold ofB
      cases hn : nanB n.toNat with
      | true => rfl
      | false => rw [hn] at this; simp at this
    rw [hq] at hr
    rw [e]
    clear hq e h
    go_enter Tryd.func51, Tryd.ntmps51
    go_wp2_with fail
    refine hr.mono ?_
    rintro e w1 ⟨rfl, rfl⟩
    clear hr
    go_wp2
    go_ret
    exact ⟨by simp, rfl⟩

end Go.Proofs.YtminiabpeodjaaaDoor
/-
  WHAT READS ASK OF VALUES, BY THEIR CONTRACTS, in a seat that has the texts on package value: those.
-/
namespace Go.Proofs.YtminiabpeodjaaaDoor
end Go.Proofs.YtminiabpeodjaaaDoor
/-
  package code: AN INSTRUCTION; Uses, highest, width, Right BY THEIR CONTRACTS.
-/
namespace Go.Proofs.YtminiabpeodjaaaDoor
set_option linter.unusedVariables false
set_option linter.unusedSimpArgs false
open Go.RowKit
attribute [local go_sem] Oper.semAt_some

/-- A contract, hidden. -/
structure HidC (P : Program) (f : Nat) (a : Array Value) (w : World) (Q : Ending → World → Prop) : Prop where
  out : Calls P f a w Q

/-- An instruction: its operation, its Arg, its Val. -/
structure InsD where
  op : Int
  arg : Int
  val : Int
abbrev InsD.v (i : InsD) : Value := .agg #[.int .u8 i.op, .int .i64 i.arg, .int .u64 i.val]
def InsD.cells (i : InsD) : List Value := [.int .u8 i.op, .int .i64 i.arg, .int .u64 i.val]
structure InsD.Wf (i : InsD) : Prop where
  op : 0 ≤ i.op ∧ i.op ≤ 255
  arg : -9223372036854775808 ≤ i.arg ∧ i.arg ≤ 9223372036854775807
  val : Wf64 i.val

/-- Which have an Arg; which a Val. -/
def argP (o : Int) : Bool := decide (o = 2 ∨ o = 3 ∨ o = 4 ∨ o = 5 ∨ o = 6 ∨ o = 7 ∨ o = 19 ∨ o = 20 ∨ o = 21 ∨ o = 23 ∨ o = 24)
def valP (o : Int) : Bool := decide (o = 1)
theorem op_cases (o : Int) : o = 1 ∨ o = 2 ∨ o = 3 ∨ o = 4 ∨ o = 5 ∨ o = 6 ∨ o = 7 ∨ o = 19 ∨ o = 20 ∨ o = 21 ∨ o = 23 ∨ o = 24 ∨ (o ≠ 1 ∧ o ≠ 2 ∧ o ≠ 3 ∧ o ≠ 4 ∧ o ≠ 5 ∧ o ≠ 6 ∧ o ≠ 7 ∧ o ≠ 19 ∧ o ≠ 20 ∧ o ≠ 21 ∧ o ≠ 23 ∧ o ≠ 24) := by omega

set_option maxRecDepth 100000 in
set_option maxHeartbeats 2000000 in
theorem uses_any (o : Int) (w : World) : Calls Tryd.prog 9 #[.int .u8 o] w fun e w' => e = .returned (.tuple #[.bool (argP o), .bool (valP o)]) ∧ w = w' := by
  rcases op_cases o with rfl | rfl | rfl | rfl | rfl | rfl | rfl | rfl | rfl | rfl | rfl | rfl | ⟨h1, h2, h3, h4, h5, h6, h7, h19, h20, h21, h23, h24⟩
  · show Calls _ _ _ _ fun e w' => e = .returned (.tuple #[.bool false, .bool true]) ∧ w = w'
    go_enter Tryd.func9, Tryd.ntmps9
    go_wp2
    refine bodyPost_ret (v := .tuple #[.bool false, .bool true]) (by simp [results, Tryd.results9, go_sem]) rfl ?_
    exact ⟨rfl, rfl⟩
  · show Calls _ _ _ _ fun e w' => e = .returned (.tuple #[.bool true, .bool false]) ∧ w = w'
    go_enter Tryd.func9, Tryd.ntmps9
    go_wp2
    refine bodyPost_ret (v := .tuple #[.bool true, .bool false]) (by simp [results, Tryd.results9, go_sem]) rfl ?_
    exact ⟨rfl, rfl⟩
  · show Calls _ _ _ _ fun e w' => e = .returned (.tuple #[.bool true, .bool false]) ∧ w = w'
    go_enter Tryd.func9, Tryd.ntmps9
    go_wp2
    refine bodyPost_ret (v := .tuple #[.bool true, .bool false]) (by simp [results, Tryd.results9, go_sem]) rfl ?_
    exact ⟨rfl, rfl⟩
  · show Calls _ _ _ _ fun e w' => e = .returned (.tuple #[.bool true, .bool false]) ∧ w = w'
    go_enter Tryd.func9, Tryd.ntmps9
    go_wp2
    refine bodyPost_ret (v := .tuple #[.bool true, .bool false]) (by simp [results, Tryd.results9, go_sem]) rfl ?_
    exact ⟨rfl, rfl⟩
  · show Calls _ _ _ _ fun e w' => e = .returned (.tuple #[.bool true, .bool false]) ∧ w = w'
    go_enter Tryd.func9, Tryd.ntmps9
    go_wp2
    refine bodyPost_ret (v := .tuple #[.bool true, .bool false]) (by simp [results, Tryd.results9, go_sem]) rfl ?_
    exact ⟨rfl, rfl⟩
  · show Calls _ _ _ _ fun e w' => e = .returned (.tuple #[.bool true, .bool false]) ∧ w = w'
    go_enter Tryd.func9, Tryd.ntmps9
    go_wp2
    refine bodyPost_ret (v := .tuple #[.bool true, .bool false]) (by simp [results, Tryd.results9, go_sem]) rfl ?_
    exact ⟨rfl, rfl⟩
  · show Calls _ _ _ _ fun e w' => e = .returned (.tuple #[.bool true, .bool false]) ∧ w = w'
    go_enter Tryd.func9, Tryd.ntmps9
    go_wp2
    refine bodyPost_ret (v := .tuple #[.bool true, .bool false]) (by simp [results, Tryd.results9, go_sem]) rfl ?_
    exact ⟨rfl, rfl⟩
  · show Calls _ _ _ _ fun e w' => e = .returned (.tuple #[.bool true, .bool false]) ∧ w = w'
    go_enter Tryd.func9, Tryd.ntmps9
    go_wp2
    refine bodyPost_ret (v := .tuple #[.bool true, .bool false]) (by simp [results, Tryd.results9, go_sem]) rfl ?_
    exact ⟨rfl, rfl⟩
  · show Calls _ _ _ _ fun e w' => e = .returned (.tuple #[.bool true, .bool false]) ∧ w = w'
    go_enter Tryd.func9, Tryd.ntmps9
    go_wp2
    refine bodyPost_ret (v := .tuple #[.bool true, .bool false]) (by simp [results, Tryd.results9, go_sem]) rfl ?_
    exact ⟨rfl, rfl⟩
  · show Calls _ _ _ _ fun e w' => e = .returned (.tuple #[.bool true, .bool false]) ∧ w = w'
    go_enter Tryd.func9, Tryd.ntmps9
    go_wp2
    refine bodyPost_ret (v := .tuple #[.bool true, .bool false]) (by simp [results, Tryd.results9, go_sem]) rfl ?_
    exact ⟨rfl, rfl⟩
  · show Calls _ _ _ _ fun e w' => e = .returned (.tuple #[.bool true, .bool false]) ∧ w = w'
    go_enter Tryd.func9, Tryd.ntmps9
    go_wp2
    refine bodyPost_ret (v := .tuple #[.bool true, .bool false]) (by simp [results, Tryd.results9, go_sem]) rfl ?_
    exact ⟨rfl, rfl⟩
  · show Calls _ _ _ _ fun e w' => e = .returned (.tuple #[.bool true, .bool false]) ∧ w = w'
    go_enter Tryd.func9, Tryd.ntmps9
    go_wp2
    refine bodyPost_ret (v := .tuple #[.bool true, .bool false]) (by simp [results, Tryd.results9, go_sem]) rfl ?_
    exact ⟨rfl, rfl⟩
  have ea : argP o = false := by simp [argP, *]
  have ev : valP o = false := by simp [valP, *]
  rw [ea, ev]
  go_enter Tryd.func9, Tryd.ntmps9
  go_wp2
  refine bodyPost_ret (v := .tuple #[.bool false, .bool false]) (by simp [results, Tryd.results9, go_sem]) rfl ?_
  exact ⟨rfl, rfl⟩

def highP (o : Int) : Int := if o = 2 ∨ o = 3 then 3 else if o = 4 ∨ o = 5 ∨ o = 6 ∨ o = 7 then 11 else 63
set_option maxRecDepth 100000 in
theorem highest_any (o : Int) (w : World) : Calls Tryd.prog 32 #[.int .u8 o] w fun e w' => e = .returned (.int .i64 (highP o)) ∧ w = w' := by
  rcases (show o = 2 ∨ o = 3 ∨ o = 4 ∨ o = 5 ∨ o = 6 ∨ o = 7 ∨ (o ≠ 2 ∧ o ≠ 3 ∧ o ≠ 4 ∧ o ≠ 5 ∧ o ≠ 6 ∧ o ≠ 7) by omega) with rfl | rfl | rfl | rfl | rfl | rfl | ⟨h2, h3, h4, h5, h6, h7⟩
  all_goals try (
    go_enter Tryd.func32, Tryd.ntmps32
    go_wp2
    go_ret
    exact ⟨rfl, rfl⟩)
  have e : highP o = 63 := by simp [highP, *]
  rw [e]
  go_enter Tryd.func32, Tryd.ntmps32
  go_wp2
  go_ret
  exact ⟨rfl, rfl⟩

def widthP (o : Int) : Nat := 1 + (if argP o then 1 else 0) + (if valP o then 8 else 0)
set_option maxRecDepth 100000 in
theorem width_any (o : Int) (w : World) : Calls Tryd.prog 37 #[.int .u8 o] w fun e w' => e = .returned (.int .i64 (widthP o : Int)) ∧ w = w' := by
  have hu : HidC _ _ _ _ _ := ⟨uses_any o w⟩
  unfold widthP
  generalize argP o = a at *
  generalize valP o = v at *
  cases a <;> cases v
  all_goals
    go_enter Tryd.func37, Tryd.ntmps37
    go_wp2_with fail
    refine hu.out.mono ?_
    rintro e w1 ⟨rfl, rfl⟩
    clear hu
    go_wp2
    go_ret
    exact ⟨rfl, rfl⟩

/-- Is an instruction right? -/
def rightI (i : InsD) : Bool := decide (i.op ≤ 28) && (argP i.op || i.arg == 0) && (valP i.op || i.val == 0) && decide (0 ≤ i.arg) && decide (i.arg ≤ highP i.op) && rightB i.val

end Go.Proofs.YtminiabpeodjaaaDoor
/-
  package code: Right BY ITS CONTRACT.
-/
namespace Go.Proofs.YtminiabpeodjaaaDoor
set_option linter.unusedVariables false
set_option linter.unusedSimpArgs false
open Go.RowKit
attribute [local go_sem] Oper.semAt_some

set_option maxRecDepth 100000 in
set_option maxHeartbeats 1000000 in
theorem cr_ok (o a v hi : Int) (ap vp rv : Bool) (w : World) (h28 : ¬ 28 < o) (h0 : 0 ≤ a) (h1 : a ≤ hi) (hA : ap = true ∨ a = 0) (hV : vp = true ∨ v = 0)
    (hu : HidC Tryd.prog 9 #[.int .u8 o] (w.alloc (.cells #[.int .u8 o, .int .i64 a, .int .u64 v] 26)) fun e w' => e = .returned (.tuple #[.bool ap, .bool vp]) ∧ (w.alloc (.cells #[.int .u8 o, .int .i64 a, .int .u64 v] 26)) = w')
    (HH : Hid (∀ W, HidC Tryd.prog 32 #[.int .u8 o] W fun e w' => e = .returned (.int .i64 hi) ∧ W = w')) (HR : Hid (∀ W, HidC Tryd.prog 33 #[.int .u64 v] W fun e w' => e = .returned (.bool rv) ∧ W = w')) :
    Calls Tryd.prog 17 #[.agg #[.int .u8 o, .int .i64 a, .int .u64 v]] w fun e w' => e = .returned (.bool rv) ∧ Touch w w' [] := by
  have HT : Hid (Touch w (w.alloc (.cells #[.int .u8 o, .int .i64 a, .int .u64 v] 26)) []) := (Touch.refl w []).alloc _
  have D0 : (w.alloc (.cells #[.int .u8 o, .int .i64 a, .int .u64 v] 26)).drew.cell? ⟨w.heap.size, 0, none⟩ = some (.int .u8 o) ∧ (w.alloc (.cells #[.int .u8 o, .int .i64 a, .int .u64 v] 26)).drew.cell? ⟨w.heap.size, 1, none⟩ = some (.int .i64 a) ∧ (w.alloc (.cells #[.int .u8 o, .int .i64 a, .int .u64 v] 26)).drew.cell? ⟨w.heap.size, 2, none⟩ = some (.int .u64 v) := by
    have hb : (w.alloc (.cells #[.int .u8 o, .int .i64 a, .int .u64 v] 26)).drew.heap[w.heap.size]? = some (.cells #[.int .u8 o, .int .i64 a, .int .u64 v] 26 (0, 0)) := heap_alloc_new w _
    exact ⟨by unfold World.cell?; rw [hb]; rfl, by unfold World.cell?; rw [hb]; rfl, by unfold World.cell?; rw [hb]; rfl⟩
  have hA2 : ap = true ∨ (ap = false ∧ a = 0) := by cases ap <;> simp_all
  have hV2 : vp = true ∨ (vp = false ∧ v = 0) := by cases vp <;> simp_all
  clear hA hV
  rcases hA2 with rfl | ⟨rfl, ha⟩ <;> rcases hV2 with rfl | ⟨rfl, hv⟩
  · have hx := True.intro
    go_enter Tryd.func17, Tryd.ntmps17
    go_wp2_with fail
    refine hu.out.mono ?_
    rintro e w1 ⟨rfl, rfl⟩
    clear hu
    go_wp2_with fail
    go_region_held3 (fun w' => w'.cell? ⟨w.heap.size, 0, none⟩ = some (.int .u8 o) ∧ w'.cell? ⟨w.heap.size, 1, none⟩ = some (.int .i64 a) ∧ w'.cell? ⟨w.heap.size, 2, none⟩ = some (.int .u64 v)) (exact D0) (first
      | (go_at_call 32; refine (HH.out _).out.mono ?_; rintro e w2 ⟨rfl, rfl⟩)
      | (go_at_call 33; refine (HR.out _).out.mono ?_; rintro e w2 ⟨rfl, rfl⟩))
    go_wp2
    go_ret
    exact ⟨by simp, HT.out.drew⟩
  · have hx := True.intro
    have ev : (v != 0) = false := by simp [hv]
    clear hv
    go_enter Tryd.func17, Tryd.ntmps17
    go_wp2_with fail
    refine hu.out.mono ?_
    rintro e w1 ⟨rfl, rfl⟩
    clear hu
    go_wp2_with fail
    go_region_held3 (fun w' => w'.cell? ⟨w.heap.size, 0, none⟩ = some (.int .u8 o) ∧ w'.cell? ⟨w.heap.size, 1, none⟩ = some (.int .i64 a) ∧ w'.cell? ⟨w.heap.size, 2, none⟩ = some (.int .u64 v)) (exact D0) (first
      | (go_at_call 32; refine (HH.out _).out.mono ?_; rintro e w2 ⟨rfl, rfl⟩)
      | (go_at_call 33; refine (HR.out _).out.mono ?_; rintro e w2 ⟨rfl, rfl⟩))
    go_wp2
    go_ret
    exact ⟨by simp, HT.out.drew⟩
  · have hx := True.intro
    have ea : (a != 0) = false := by simp [ha]
    clear ha
    go_enter Tryd.func17, Tryd.ntmps17
    go_wp2_with fail
    refine hu.out.mono ?_
    rintro e w1 ⟨rfl, rfl⟩
    clear hu
    go_wp2_with fail
    go_region_held3 (fun w' => w'.cell? ⟨w.heap.size, 0, none⟩ = some (.int .u8 o) ∧ w'.cell? ⟨w.heap.size, 1, none⟩ = some (.int .i64 a) ∧ w'.cell? ⟨w.heap.size, 2, none⟩ = some (.int .u64 v)) (exact D0) (first
      | (go_at_call 32; refine (HH.out _).out.mono ?_; rintro e w2 ⟨rfl, rfl⟩)
      | (go_at_call 33; refine (HR.out _).out.mono ?_; rintro e w2 ⟨rfl, rfl⟩))
    go_wp2
    go_ret
    exact ⟨by simp, HT.out.drew⟩
  · have hx := True.intro
    have ea : (a != 0) = false := by simp [ha]
    have ev : (v != 0) = false := by simp [hv]
    clear ha
    clear hv
    go_enter Tryd.func17, Tryd.ntmps17
    go_wp2_with fail
    refine hu.out.mono ?_
    rintro e w1 ⟨rfl, rfl⟩
    clear hu
    go_wp2_with fail
    go_region_held3 (fun w' => w'.cell? ⟨w.heap.size, 0, none⟩ = some (.int .u8 o) ∧ w'.cell? ⟨w.heap.size, 1, none⟩ = some (.int .i64 a) ∧ w'.cell? ⟨w.heap.size, 2, none⟩ = some (.int .u64 v)) (exact D0) (first
      | (go_at_call 32; refine (HH.out _).out.mono ?_; rintro e w2 ⟨rfl, rfl⟩)
      | (go_at_call 33; refine (HR.out _).out.mono ?_; rintro e w2 ⟨rfl, rfl⟩))
    go_wp2
    go_ret
    exact ⟨by simp, HT.out.drew⟩

set_option maxRecDepth 100000 in
set_option maxHeartbeats 1000000 in
theorem cr_hi (o a v hi : Int) (ap vp rv : Bool) (w : World) (h28 : ¬ 28 < o) (h0 : 0 ≤ a) (h1 : ¬ a ≤ hi) (hA : ap = true ∨ a = 0) (hV : vp = true ∨ v = 0)
    (hu : HidC Tryd.prog 9 #[.int .u8 o] (w.alloc (.cells #[.int .u8 o, .int .i64 a, .int .u64 v] 26)) fun e w' => e = .returned (.tuple #[.bool ap, .bool vp]) ∧ (w.alloc (.cells #[.int .u8 o, .int .i64 a, .int .u64 v] 26)) = w')
    (HH : Hid (∀ W, HidC Tryd.prog 32 #[.int .u8 o] W fun e w' => e = .returned (.int .i64 hi) ∧ W = w')) (HR : Hid (∀ W, HidC Tryd.prog 33 #[.int .u64 v] W fun e w' => e = .returned (.bool rv) ∧ W = w')) :
    Calls Tryd.prog 17 #[.agg #[.int .u8 o, .int .i64 a, .int .u64 v]] w fun e w' => e = .returned (.bool false) ∧ Touch w w' [] := by
  have HT : Hid (Touch w (w.alloc (.cells #[.int .u8 o, .int .i64 a, .int .u64 v] 26)) []) := (Touch.refl w []).alloc _
  have D0 : (w.alloc (.cells #[.int .u8 o, .int .i64 a, .int .u64 v] 26)).drew.cell? ⟨w.heap.size, 0, none⟩ = some (.int .u8 o) ∧ (w.alloc (.cells #[.int .u8 o, .int .i64 a, .int .u64 v] 26)).drew.cell? ⟨w.heap.size, 1, none⟩ = some (.int .i64 a) ∧ (w.alloc (.cells #[.int .u8 o, .int .i64 a, .int .u64 v] 26)).drew.cell? ⟨w.heap.size, 2, none⟩ = some (.int .u64 v) := by
    have hb : (w.alloc (.cells #[.int .u8 o, .int .i64 a, .int .u64 v] 26)).drew.heap[w.heap.size]? = some (.cells #[.int .u8 o, .int .i64 a, .int .u64 v] 26 (0, 0)) := heap_alloc_new w _
    exact ⟨by unfold World.cell?; rw [hb]; rfl, by unfold World.cell?; rw [hb]; rfl, by unfold World.cell?; rw [hb]; rfl⟩
  have hA2 : ap = true ∨ (ap = false ∧ a = 0) := by cases ap <;> simp_all
  have hV2 : vp = true ∨ (vp = false ∧ v = 0) := by cases vp <;> simp_all
  clear hA hV
  rcases hA2 with rfl | ⟨rfl, ha⟩ <;> rcases hV2 with rfl | ⟨rfl, hv⟩
  · have hx := True.intro
    go_enter Tryd.func17, Tryd.ntmps17
    go_wp2_with fail
    refine hu.out.mono ?_
    rintro e w1 ⟨rfl, rfl⟩
    clear hu
    go_wp2_with fail
    refine wp_region_held_drew (S := (fun w' : World => w'.cell? ⟨w.heap.size, 0, none⟩ = some (.int .u8 o) ∧ w'.cell? ⟨w.heap.size, 1, none⟩ = some (.int .i64 a) ∧ w'.cell? ⟨w.heap.size, 2, none⟩ = some (.int .u64 v))) (by kernel_rfl) D0 (fun hHeld => ?_)
    try simp only [Act.put, List.getElem_toArray, List.getElem_cons_succ, List.getElem_cons_zero, List.setIfInBounds_toArray, List.set_cons_zero, List.set_cons_succ]
    refine wpAnyH_take (i := 0) (v := (.pointer (some ⟨w.heap.size, 1, none⟩))) rfl (by kernel_rfl) (by kernel_rfl) (by kernel_rfl) (fun _ _ _ h => h) (Or.inl ⟨by rfl, ?_⟩) hHeld ?_
    · intro w' hSw
      go_simp
    try simp only [Act.put, List.getElem_toArray, List.getElem_cons_succ, List.getElem_cons_zero, List.setIfInBounds_toArray, List.set_cons_zero, List.set_cons_succ]
    refine wpAnyH_take (i := 1) (v := (.int .i64 a)) rfl (by kernel_rfl) (by kernel_rfl) (by kernel_rfl) (fun _ _ _ h => h) (Or.inl ⟨by rfl, ?_⟩) hHeld ?_
    · intro w' hSw
      go_simp
    try simp only [Act.put, List.getElem_toArray, List.getElem_cons_succ, List.getElem_cons_zero, List.setIfInBounds_toArray, List.set_cons_zero, List.set_cons_succ]
    refine wpAnyH_take (i := 2) (v := (.bool true)) rfl (by kernel_rfl) (by kernel_rfl) (by kernel_rfl) (fun _ _ _ h => h) (Or.inl ⟨by rfl, ?_⟩) hHeld ?_
    · intro w' hSw
      go_simp
    try simp only [Act.put, List.getElem_toArray, List.getElem_cons_succ, List.getElem_cons_zero, List.setIfInBounds_toArray, List.set_cons_zero, List.set_cons_succ]
    refine wpAnyH_take (i := 3) (v := (.bool true)) rfl (by kernel_rfl) (by kernel_rfl) (by kernel_rfl) (fun _ _ _ h => h) (Or.inl ⟨by rfl, ?_⟩) hHeld ?_
    · intro w' hSw
      go_simp
    try simp only [Act.put, List.getElem_toArray, List.getElem_cons_succ, List.getElem_cons_zero, List.setIfInBounds_toArray, List.set_cons_zero, List.set_cons_succ]
    refine wpAnyH_take (i := 4) (v := (.pointer (some ⟨w.heap.size, 1, none⟩))) rfl (by kernel_rfl) (by kernel_rfl) (by kernel_rfl) (fun _ _ _ h => h) (Or.inl ⟨by rfl, ?_⟩) hHeld ?_
    · intro w' hSw
      go_simp
    try simp only [Act.put, List.getElem_toArray, List.getElem_cons_succ, List.getElem_cons_zero, List.setIfInBounds_toArray, List.set_cons_zero, List.set_cons_succ]
    refine wpAnyH_take (i := 5) (v := (.int .i64 a)) rfl (by kernel_rfl) (by kernel_rfl) (by kernel_rfl) (fun _ _ _ h => h) (Or.inl ⟨by rfl, ?_⟩) hHeld ?_
    · intro w' hSw
      go_simp
    try simp only [Act.put, List.getElem_toArray, List.getElem_cons_succ, List.getElem_cons_zero, List.setIfInBounds_toArray, List.set_cons_zero, List.set_cons_succ]
    refine wpAnyH_take (i := 6) (v := (.pointer (some ⟨w.heap.size, 0, none⟩))) rfl (by kernel_rfl) (by kernel_rfl) (by kernel_rfl) (fun _ _ _ h => h) (Or.inl ⟨by rfl, ?_⟩) hHeld ?_
    · intro w' hSw
      go_simp
    try simp only [Act.put, List.getElem_toArray, List.getElem_cons_succ, List.getElem_cons_zero, List.setIfInBounds_toArray, List.set_cons_zero, List.set_cons_succ]
    refine wpAnyH_take (i := 7) (v := (.int .u8 o)) rfl (by kernel_rfl) (by kernel_rfl) (by kernel_rfl) (fun _ _ _ h => h) (Or.inl ⟨by rfl, ?_⟩) hHeld ?_
    · intro w' hSw
      go_simp
    try simp only [Act.put, List.getElem_toArray, List.getElem_cons_succ, List.getElem_cons_zero, List.setIfInBounds_toArray, List.set_cons_zero, List.set_cons_succ]
    clear hHeld
    refine wpAnyH_ready (rs := [8]) (by kernel_rfl) (by simp) (AllReadyH.cons rfl (fun K hK => ?_) AllReadyH.nil)
    rw [if_pos (by rfl)]
    go_simp
    refine (HH.out _).out.mono ?_
    rintro e w2 ⟨rfl, rfl⟩
    go_simp
    refine hK.out _ _ D0 (fun hHeld => ?_)
    clear hK
    try simp only [Act.put, List.getElem_toArray, List.getElem_cons_succ, List.getElem_cons_zero, List.setIfInBounds_toArray, List.set_cons_zero, List.set_cons_succ]
    refine wpAnyH_take (i := 9) (v := (.bool false)) rfl (by kernel_rfl) (by kernel_rfl) (by kernel_rfl) (fun _ _ _ h => h) (Or.inl ⟨by rfl, ?_⟩) hHeld ?_
    · intro w' hSw
      go_simp
    try simp only [Act.put, List.getElem_toArray, List.getElem_cons_succ, List.getElem_cons_zero, List.setIfInBounds_toArray, List.set_cons_zero, List.set_cons_succ]
    refine wpAnyH_take (i := 10) (v := (.bool false)) rfl (by kernel_rfl) (by kernel_rfl) (by kernel_rfl) (fun _ _ _ h => h) (Or.inl ⟨by rfl, ?_⟩) hHeld ?_
    · intro w' hSw
      go_simp
    try simp only [Act.put, List.getElem_toArray, List.getElem_cons_succ, List.getElem_cons_zero, List.setIfInBounds_toArray, List.set_cons_zero, List.set_cons_succ]
    refine wpAnyH_take (i := 11) (v := (.bool false)) rfl (by kernel_rfl) (by kernel_rfl) (by kernel_rfl) (fun _ _ _ h => h) (Or.inl ⟨by rfl, ?_⟩) hHeld ?_
    · intro w' hSw
      go_simp
    try simp only [Act.put, List.getElem_toArray, List.getElem_cons_succ, List.getElem_cons_zero, List.setIfInBounds_toArray, List.set_cons_zero, List.set_cons_succ]
    refine wpAnyH_take (i := 12) (v := undef) rfl (by kernel_rfl) (by kernel_rfl) (by kernel_rfl) (fun _ _ _ h => h) (Or.inr ⟨by rfl, rfl⟩) hHeld ?_
    try simp only [Act.put, List.getElem_toArray, List.getElem_cons_succ, List.getElem_cons_zero, List.setIfInBounds_toArray, List.set_cons_zero, List.set_cons_succ]
    refine wpAnyH_take (i := 13) (v := undef) rfl (by kernel_rfl) (by kernel_rfl) (by kernel_rfl) (fun _ _ _ h => h) (Or.inr ⟨by rfl, rfl⟩) hHeld ?_
    try simp only [Act.put, List.getElem_toArray, List.getElem_cons_succ, List.getElem_cons_zero, List.setIfInBounds_toArray, List.set_cons_zero, List.set_cons_succ]
    refine wpAnyH_take (i := 14) (v := undef) rfl (by kernel_rfl) (by kernel_rfl) (by kernel_rfl) (fun _ _ _ h => h) (Or.inr ⟨by rfl, rfl⟩) hHeld ?_
    try simp only [Act.put, List.getElem_toArray, List.getElem_cons_succ, List.getElem_cons_zero, List.setIfInBounds_toArray, List.set_cons_zero, List.set_cons_succ]
    refine wpAnyH_take (i := 15) (v := (.bool false)) rfl (by kernel_rfl) (by kernel_rfl) (by kernel_rfl) (fun _ _ _ h => h) (Or.inl ⟨by rfl, ?_⟩) hHeld ?_
    · intro w' hSw
      go_simp
    try simp only [Act.put, List.getElem_toArray, List.getElem_cons_succ, List.getElem_cons_zero, List.setIfInBounds_toArray, List.set_cons_zero, List.set_cons_succ]
    refine wpAnyH_take (i := 16) (v := (.bool false)) rfl (by kernel_rfl) (by kernel_rfl) (by kernel_rfl) (fun _ _ _ h => h) (Or.inl ⟨by rfl, ?_⟩) hHeld ?_
    · intro w' hSw
      go_simp
    try simp only [Act.put, List.getElem_toArray, List.getElem_cons_succ, List.getElem_cons_zero, List.setIfInBounds_toArray, List.set_cons_zero, List.set_cons_succ]
    clear hHeld
    refine wpAnyH_done (by kernel_rfl) ?_ _
    go_wp2
    go_ret
    exact ⟨by simp, HT.out.drew⟩
  · have hx := True.intro
    have ev : (v != 0) = false := by simp [hv]
    clear hv
    go_enter Tryd.func17, Tryd.ntmps17
    go_wp2_with fail
    refine hu.out.mono ?_
    rintro e w1 ⟨rfl, rfl⟩
    clear hu
    go_wp2_with fail
    refine wp_region_held_drew (S := (fun w' : World => w'.cell? ⟨w.heap.size, 0, none⟩ = some (.int .u8 o) ∧ w'.cell? ⟨w.heap.size, 1, none⟩ = some (.int .i64 a) ∧ w'.cell? ⟨w.heap.size, 2, none⟩ = some (.int .u64 v))) (by kernel_rfl) D0 (fun hHeld => ?_)
    try simp only [Act.put, List.getElem_toArray, List.getElem_cons_succ, List.getElem_cons_zero, List.setIfInBounds_toArray, List.set_cons_zero, List.set_cons_succ]
    refine wpAnyH_take (i := 0) (v := (.pointer (some ⟨w.heap.size, 1, none⟩))) rfl (by kernel_rfl) (by kernel_rfl) (by kernel_rfl) (fun _ _ _ h => h) (Or.inl ⟨by rfl, ?_⟩) hHeld ?_
    · intro w' hSw
      go_simp
    try simp only [Act.put, List.getElem_toArray, List.getElem_cons_succ, List.getElem_cons_zero, List.setIfInBounds_toArray, List.set_cons_zero, List.set_cons_succ]
    refine wpAnyH_take (i := 1) (v := (.int .i64 a)) rfl (by kernel_rfl) (by kernel_rfl) (by kernel_rfl) (fun _ _ _ h => h) (Or.inl ⟨by rfl, ?_⟩) hHeld ?_
    · intro w' hSw
      go_simp
    try simp only [Act.put, List.getElem_toArray, List.getElem_cons_succ, List.getElem_cons_zero, List.setIfInBounds_toArray, List.set_cons_zero, List.set_cons_succ]
    refine wpAnyH_take (i := 2) (v := (.bool true)) rfl (by kernel_rfl) (by kernel_rfl) (by kernel_rfl) (fun _ _ _ h => h) (Or.inl ⟨by rfl, ?_⟩) hHeld ?_
    · intro w' hSw
      go_simp
    try simp only [Act.put, List.getElem_toArray, List.getElem_cons_succ, List.getElem_cons_zero, List.setIfInBounds_toArray, List.set_cons_zero, List.set_cons_succ]
    refine wpAnyH_take (i := 3) (v := (.bool true)) rfl (by kernel_rfl) (by kernel_rfl) (by kernel_rfl) (fun _ _ _ h => h) (Or.inl ⟨by rfl, ?_⟩) hHeld ?_
    · intro w' hSw
      go_simp
    try simp only [Act.put, List.getElem_toArray, List.getElem_cons_succ, List.getElem_cons_zero, List.setIfInBounds_toArray, List.set_cons_zero, List.set_cons_succ]
    refine wpAnyH_take (i := 4) (v := (.pointer (some ⟨w.heap.size, 1, none⟩))) rfl (by kernel_rfl) (by kernel_rfl) (by kernel_rfl) (fun _ _ _ h => h) (Or.inl ⟨by rfl, ?_⟩) hHeld ?_
    · intro w' hSw
      go_simp
    try simp only [Act.put, List.getElem_toArray, List.getElem_cons_succ, List.getElem_cons_zero, List.setIfInBounds_toArray, List.set_cons_zero, List.set_cons_succ]
    refine wpAnyH_take (i := 5) (v := (.int .i64 a)) rfl (by kernel_rfl) (by kernel_rfl) (by kernel_rfl) (fun _ _ _ h => h) (Or.inl ⟨by rfl, ?_⟩) hHeld ?_
    · intro w' hSw
      go_simp
    try simp only [Act.put, List.getElem_toArray, List.getElem_cons_succ, List.getElem_cons_zero, List.setIfInBounds_toArray, List.set_cons_zero, List.set_cons_succ]
    refine wpAnyH_take (i := 6) (v := (.pointer (some ⟨w.heap.size, 0, none⟩))) rfl (by kernel_rfl) (by kernel_rfl) (by kernel_rfl) (fun _ _ _ h => h) (Or.inl ⟨by rfl, ?_⟩) hHeld ?_
    · intro w' hSw
      go_simp
    try simp only [Act.put, List.getElem_toArray, List.getElem_cons_succ, List.getElem_cons_zero, List.setIfInBounds_toArray, List.set_cons_zero, List.set_cons_succ]
    refine wpAnyH_take (i := 7) (v := (.int .u8 o)) rfl (by kernel_rfl) (by kernel_rfl) (by kernel_rfl) (fun _ _ _ h => h) (Or.inl ⟨by rfl, ?_⟩) hHeld ?_
    · intro w' hSw
      go_simp
    try simp only [Act.put, List.getElem_toArray, List.getElem_cons_succ, List.getElem_cons_zero, List.setIfInBounds_toArray, List.set_cons_zero, List.set_cons_succ]
    clear hHeld
    refine wpAnyH_ready (rs := [8]) (by kernel_rfl) (by simp) (AllReadyH.cons rfl (fun K hK => ?_) AllReadyH.nil)
    rw [if_pos (by rfl)]
    go_simp
    refine (HH.out _).out.mono ?_
    rintro e w2 ⟨rfl, rfl⟩
    go_simp
    refine hK.out _ _ D0 (fun hHeld => ?_)
    clear hK
    try simp only [Act.put, List.getElem_toArray, List.getElem_cons_succ, List.getElem_cons_zero, List.setIfInBounds_toArray, List.set_cons_zero, List.set_cons_succ]
    refine wpAnyH_take (i := 9) (v := (.bool false)) rfl (by kernel_rfl) (by kernel_rfl) (by kernel_rfl) (fun _ _ _ h => h) (Or.inl ⟨by rfl, ?_⟩) hHeld ?_
    · intro w' hSw
      go_simp
    try simp only [Act.put, List.getElem_toArray, List.getElem_cons_succ, List.getElem_cons_zero, List.setIfInBounds_toArray, List.set_cons_zero, List.set_cons_succ]
    refine wpAnyH_take (i := 10) (v := (.bool false)) rfl (by kernel_rfl) (by kernel_rfl) (by kernel_rfl) (fun _ _ _ h => h) (Or.inl ⟨by rfl, ?_⟩) hHeld ?_
    · intro w' hSw
      go_simp
    try simp only [Act.put, List.getElem_toArray, List.getElem_cons_succ, List.getElem_cons_zero, List.setIfInBounds_toArray, List.set_cons_zero, List.set_cons_succ]
    refine wpAnyH_take (i := 11) (v := (.bool false)) rfl (by kernel_rfl) (by kernel_rfl) (by kernel_rfl) (fun _ _ _ h => h) (Or.inl ⟨by rfl, ?_⟩) hHeld ?_
    · intro w' hSw
      go_simp
    try simp only [Act.put, List.getElem_toArray, List.getElem_cons_succ, List.getElem_cons_zero, List.setIfInBounds_toArray, List.set_cons_zero, List.set_cons_succ]
    refine wpAnyH_take (i := 12) (v := undef) rfl (by kernel_rfl) (by kernel_rfl) (by kernel_rfl) (fun _ _ _ h => h) (Or.inr ⟨by rfl, rfl⟩) hHeld ?_
    try simp only [Act.put, List.getElem_toArray, List.getElem_cons_succ, List.getElem_cons_zero, List.setIfInBounds_toArray, List.set_cons_zero, List.set_cons_succ]
    refine wpAnyH_take (i := 13) (v := undef) rfl (by kernel_rfl) (by kernel_rfl) (by kernel_rfl) (fun _ _ _ h => h) (Or.inr ⟨by rfl, rfl⟩) hHeld ?_
    try simp only [Act.put, List.getElem_toArray, List.getElem_cons_succ, List.getElem_cons_zero, List.setIfInBounds_toArray, List.set_cons_zero, List.set_cons_succ]
    refine wpAnyH_take (i := 14) (v := undef) rfl (by kernel_rfl) (by kernel_rfl) (by kernel_rfl) (fun _ _ _ h => h) (Or.inr ⟨by rfl, rfl⟩) hHeld ?_
    try simp only [Act.put, List.getElem_toArray, List.getElem_cons_succ, List.getElem_cons_zero, List.setIfInBounds_toArray, List.set_cons_zero, List.set_cons_succ]
    refine wpAnyH_take (i := 15) (v := (.bool false)) rfl (by kernel_rfl) (by kernel_rfl) (by kernel_rfl) (fun _ _ _ h => h) (Or.inl ⟨by rfl, ?_⟩) hHeld ?_
    · intro w' hSw
      go_simp
    try simp only [Act.put, List.getElem_toArray, List.getElem_cons_succ, List.getElem_cons_zero, List.setIfInBounds_toArray, List.set_cons_zero, List.set_cons_succ]
    refine wpAnyH_take (i := 16) (v := (.bool false)) rfl (by kernel_rfl) (by kernel_rfl) (by kernel_rfl) (fun _ _ _ h => h) (Or.inl ⟨by rfl, ?_⟩) hHeld ?_
    · intro w' hSw
      go_simp
    try simp only [Act.put, List.getElem_toArray, List.getElem_cons_succ, List.getElem_cons_zero, List.setIfInBounds_toArray, List.set_cons_zero, List.set_cons_succ]
    clear hHeld
    refine wpAnyH_done (by kernel_rfl) ?_ _
    go_wp2
    go_ret
    exact ⟨by simp, HT.out.drew⟩
  · have hx := True.intro
    have ea : (a != 0) = false := by simp [ha]
    clear ha
    go_enter Tryd.func17, Tryd.ntmps17
    go_wp2_with fail
    refine hu.out.mono ?_
    rintro e w1 ⟨rfl, rfl⟩
    clear hu
    go_wp2_with fail
    refine wp_region_held_drew (S := (fun w' : World => w'.cell? ⟨w.heap.size, 0, none⟩ = some (.int .u8 o) ∧ w'.cell? ⟨w.heap.size, 1, none⟩ = some (.int .i64 a) ∧ w'.cell? ⟨w.heap.size, 2, none⟩ = some (.int .u64 v))) (by kernel_rfl) D0 (fun hHeld => ?_)
    try simp only [Act.put, List.getElem_toArray, List.getElem_cons_succ, List.getElem_cons_zero, List.setIfInBounds_toArray, List.set_cons_zero, List.set_cons_succ]
    refine wpAnyH_take (i := 0) (v := (.pointer (some ⟨w.heap.size, 1, none⟩))) rfl (by kernel_rfl) (by kernel_rfl) (by kernel_rfl) (fun _ _ _ h => h) (Or.inl ⟨by rfl, ?_⟩) hHeld ?_
    · intro w' hSw
      go_simp
    try simp only [Act.put, List.getElem_toArray, List.getElem_cons_succ, List.getElem_cons_zero, List.setIfInBounds_toArray, List.set_cons_zero, List.set_cons_succ]
    refine wpAnyH_take (i := 1) (v := (.int .i64 a)) rfl (by kernel_rfl) (by kernel_rfl) (by kernel_rfl) (fun _ _ _ h => h) (Or.inl ⟨by rfl, ?_⟩) hHeld ?_
    · intro w' hSw
      go_simp
    try simp only [Act.put, List.getElem_toArray, List.getElem_cons_succ, List.getElem_cons_zero, List.setIfInBounds_toArray, List.set_cons_zero, List.set_cons_succ]
    refine wpAnyH_take (i := 2) (v := (.bool true)) rfl (by kernel_rfl) (by kernel_rfl) (by kernel_rfl) (fun _ _ _ h => h) (Or.inl ⟨by rfl, ?_⟩) hHeld ?_
    · intro w' hSw
      go_simp
    try simp only [Act.put, List.getElem_toArray, List.getElem_cons_succ, List.getElem_cons_zero, List.setIfInBounds_toArray, List.set_cons_zero, List.set_cons_succ]
    refine wpAnyH_take (i := 3) (v := (.bool true)) rfl (by kernel_rfl) (by kernel_rfl) (by kernel_rfl) (fun _ _ _ h => h) (Or.inl ⟨by rfl, ?_⟩) hHeld ?_
    · intro w' hSw
      go_simp
    try simp only [Act.put, List.getElem_toArray, List.getElem_cons_succ, List.getElem_cons_zero, List.setIfInBounds_toArray, List.set_cons_zero, List.set_cons_succ]
    refine wpAnyH_take (i := 4) (v := (.pointer (some ⟨w.heap.size, 1, none⟩))) rfl (by kernel_rfl) (by kernel_rfl) (by kernel_rfl) (fun _ _ _ h => h) (Or.inl ⟨by rfl, ?_⟩) hHeld ?_
    · intro w' hSw
      go_simp
    try simp only [Act.put, List.getElem_toArray, List.getElem_cons_succ, List.getElem_cons_zero, List.setIfInBounds_toArray, List.set_cons_zero, List.set_cons_succ]
    refine wpAnyH_take (i := 5) (v := (.int .i64 a)) rfl (by kernel_rfl) (by kernel_rfl) (by kernel_rfl) (fun _ _ _ h => h) (Or.inl ⟨by rfl, ?_⟩) hHeld ?_
    · intro w' hSw
      go_simp
    try simp only [Act.put, List.getElem_toArray, List.getElem_cons_succ, List.getElem_cons_zero, List.setIfInBounds_toArray, List.set_cons_zero, List.set_cons_succ]
    refine wpAnyH_take (i := 6) (v := (.pointer (some ⟨w.heap.size, 0, none⟩))) rfl (by kernel_rfl) (by kernel_rfl) (by kernel_rfl) (fun _ _ _ h => h) (Or.inl ⟨by rfl, ?_⟩) hHeld ?_
    · intro w' hSw
      go_simp
    try simp only [Act.put, List.getElem_toArray, List.getElem_cons_succ, List.getElem_cons_zero, List.setIfInBounds_toArray, List.set_cons_zero, List.set_cons_succ]
    refine wpAnyH_take (i := 7) (v := (.int .u8 o)) rfl (by kernel_rfl) (by kernel_rfl) (by kernel_rfl) (fun _ _ _ h => h) (Or.inl ⟨by rfl, ?_⟩) hHeld ?_
    · intro w' hSw
      go_simp
    try simp only [Act.put, List.getElem_toArray, List.getElem_cons_succ, List.getElem_cons_zero, List.setIfInBounds_toArray, List.set_cons_zero, List.set_cons_succ]
    clear hHeld
    refine wpAnyH_ready (rs := [8]) (by kernel_rfl) (by simp) (AllReadyH.cons rfl (fun K hK => ?_) AllReadyH.nil)
    rw [if_pos (by rfl)]
    go_simp
    refine (HH.out _).out.mono ?_
    rintro e w2 ⟨rfl, rfl⟩
    go_simp
    refine hK.out _ _ D0 (fun hHeld => ?_)
    clear hK
    try simp only [Act.put, List.getElem_toArray, List.getElem_cons_succ, List.getElem_cons_zero, List.setIfInBounds_toArray, List.set_cons_zero, List.set_cons_succ]
    refine wpAnyH_take (i := 9) (v := (.bool false)) rfl (by kernel_rfl) (by kernel_rfl) (by kernel_rfl) (fun _ _ _ h => h) (Or.inl ⟨by rfl, ?_⟩) hHeld ?_
    · intro w' hSw
      go_simp
    try simp only [Act.put, List.getElem_toArray, List.getElem_cons_succ, List.getElem_cons_zero, List.setIfInBounds_toArray, List.set_cons_zero, List.set_cons_succ]
    refine wpAnyH_take (i := 10) (v := (.bool false)) rfl (by kernel_rfl) (by kernel_rfl) (by kernel_rfl) (fun _ _ _ h => h) (Or.inl ⟨by rfl, ?_⟩) hHeld ?_
    · intro w' hSw
      go_simp
    try simp only [Act.put, List.getElem_toArray, List.getElem_cons_succ, List.getElem_cons_zero, List.setIfInBounds_toArray, List.set_cons_zero, List.set_cons_succ]
    refine wpAnyH_take (i := 11) (v := (.bool false)) rfl (by kernel_rfl) (by kernel_rfl) (by kernel_rfl) (fun _ _ _ h => h) (Or.inl ⟨by rfl, ?_⟩) hHeld ?_
    · intro w' hSw
      go_simp
    try simp only [Act.put, List.getElem_toArray, List.getElem_cons_succ, List.getElem_cons_zero, List.setIfInBounds_toArray, List.set_cons_zero, List.set_cons_succ]
    refine wpAnyH_take (i := 12) (v := undef) rfl (by kernel_rfl) (by kernel_rfl) (by kernel_rfl) (fun _ _ _ h => h) (Or.inr ⟨by rfl, rfl⟩) hHeld ?_
    try simp only [Act.put, List.getElem_toArray, List.getElem_cons_succ, List.getElem_cons_zero, List.setIfInBounds_toArray, List.set_cons_zero, List.set_cons_succ]
    refine wpAnyH_take (i := 13) (v := undef) rfl (by kernel_rfl) (by kernel_rfl) (by kernel_rfl) (fun _ _ _ h => h) (Or.inr ⟨by rfl, rfl⟩) hHeld ?_
    try simp only [Act.put, List.getElem_toArray, List.getElem_cons_succ, List.getElem_cons_zero, List.setIfInBounds_toArray, List.set_cons_zero, List.set_cons_succ]
    refine wpAnyH_take (i := 14) (v := undef) rfl (by kernel_rfl) (by kernel_rfl) (by kernel_rfl) (fun _ _ _ h => h) (Or.inr ⟨by rfl, rfl⟩) hHeld ?_
    try simp only [Act.put, List.getElem_toArray, List.getElem_cons_succ, List.getElem_cons_zero, List.setIfInBounds_toArray, List.set_cons_zero, List.set_cons_succ]
    refine wpAnyH_take (i := 15) (v := (.bool false)) rfl (by kernel_rfl) (by kernel_rfl) (by kernel_rfl) (fun _ _ _ h => h) (Or.inl ⟨by rfl, ?_⟩) hHeld ?_
    · intro w' hSw
      go_simp
    try simp only [Act.put, List.getElem_toArray, List.getElem_cons_succ, List.getElem_cons_zero, List.setIfInBounds_toArray, List.set_cons_zero, List.set_cons_succ]
    refine wpAnyH_take (i := 16) (v := (.bool false)) rfl (by kernel_rfl) (by kernel_rfl) (by kernel_rfl) (fun _ _ _ h => h) (Or.inl ⟨by rfl, ?_⟩) hHeld ?_
    · intro w' hSw
      go_simp
    try simp only [Act.put, List.getElem_toArray, List.getElem_cons_succ, List.getElem_cons_zero, List.setIfInBounds_toArray, List.set_cons_zero, List.set_cons_succ]
    clear hHeld
    refine wpAnyH_done (by kernel_rfl) ?_ _
    go_wp2
    go_ret
    exact ⟨by simp, HT.out.drew⟩
  · have hx := True.intro
    have ea : (a != 0) = false := by simp [ha]
    have ev : (v != 0) = false := by simp [hv]
    clear ha
    clear hv
    go_enter Tryd.func17, Tryd.ntmps17
    go_wp2_with fail
    refine hu.out.mono ?_
    rintro e w1 ⟨rfl, rfl⟩
    clear hu
    go_wp2_with fail
    refine wp_region_held_drew (S := (fun w' : World => w'.cell? ⟨w.heap.size, 0, none⟩ = some (.int .u8 o) ∧ w'.cell? ⟨w.heap.size, 1, none⟩ = some (.int .i64 a) ∧ w'.cell? ⟨w.heap.size, 2, none⟩ = some (.int .u64 v))) (by kernel_rfl) D0 (fun hHeld => ?_)
    try simp only [Act.put, List.getElem_toArray, List.getElem_cons_succ, List.getElem_cons_zero, List.setIfInBounds_toArray, List.set_cons_zero, List.set_cons_succ]
    refine wpAnyH_take (i := 0) (v := (.pointer (some ⟨w.heap.size, 1, none⟩))) rfl (by kernel_rfl) (by kernel_rfl) (by kernel_rfl) (fun _ _ _ h => h) (Or.inl ⟨by rfl, ?_⟩) hHeld ?_
    · intro w' hSw
      go_simp
    try simp only [Act.put, List.getElem_toArray, List.getElem_cons_succ, List.getElem_cons_zero, List.setIfInBounds_toArray, List.set_cons_zero, List.set_cons_succ]
    refine wpAnyH_take (i := 1) (v := (.int .i64 a)) rfl (by kernel_rfl) (by kernel_rfl) (by kernel_rfl) (fun _ _ _ h => h) (Or.inl ⟨by rfl, ?_⟩) hHeld ?_
    · intro w' hSw
      go_simp
    try simp only [Act.put, List.getElem_toArray, List.getElem_cons_succ, List.getElem_cons_zero, List.setIfInBounds_toArray, List.set_cons_zero, List.set_cons_succ]
    refine wpAnyH_take (i := 2) (v := (.bool true)) rfl (by kernel_rfl) (by kernel_rfl) (by kernel_rfl) (fun _ _ _ h => h) (Or.inl ⟨by rfl, ?_⟩) hHeld ?_
    · intro w' hSw
      go_simp
    try simp only [Act.put, List.getElem_toArray, List.getElem_cons_succ, List.getElem_cons_zero, List.setIfInBounds_toArray, List.set_cons_zero, List.set_cons_succ]
    refine wpAnyH_take (i := 3) (v := (.bool true)) rfl (by kernel_rfl) (by kernel_rfl) (by kernel_rfl) (fun _ _ _ h => h) (Or.inl ⟨by rfl, ?_⟩) hHeld ?_
    · intro w' hSw
      go_simp
    try simp only [Act.put, List.getElem_toArray, List.getElem_cons_succ, List.getElem_cons_zero, List.setIfInBounds_toArray, List.set_cons_zero, List.set_cons_succ]
    refine wpAnyH_take (i := 4) (v := (.pointer (some ⟨w.heap.size, 1, none⟩))) rfl (by kernel_rfl) (by kernel_rfl) (by kernel_rfl) (fun _ _ _ h => h) (Or.inl ⟨by rfl, ?_⟩) hHeld ?_
    · intro w' hSw
      go_simp
    try simp only [Act.put, List.getElem_toArray, List.getElem_cons_succ, List.getElem_cons_zero, List.setIfInBounds_toArray, List.set_cons_zero, List.set_cons_succ]
    refine wpAnyH_take (i := 5) (v := (.int .i64 a)) rfl (by kernel_rfl) (by kernel_rfl) (by kernel_rfl) (fun _ _ _ h => h) (Or.inl ⟨by rfl, ?_⟩) hHeld ?_
    · intro w' hSw
      go_simp
    try simp only [Act.put, List.getElem_toArray, List.getElem_cons_succ, List.getElem_cons_zero, List.setIfInBounds_toArray, List.set_cons_zero, List.set_cons_succ]
    refine wpAnyH_take (i := 6) (v := (.pointer (some ⟨w.heap.size, 0, none⟩))) rfl (by kernel_rfl) (by kernel_rfl) (by kernel_rfl) (fun _ _ _ h => h) (Or.inl ⟨by rfl, ?_⟩) hHeld ?_
    · intro w' hSw
      go_simp
    try simp only [Act.put, List.getElem_toArray, List.getElem_cons_succ, List.getElem_cons_zero, List.setIfInBounds_toArray, List.set_cons_zero, List.set_cons_succ]
    refine wpAnyH_take (i := 7) (v := (.int .u8 o)) rfl (by kernel_rfl) (by kernel_rfl) (by kernel_rfl) (fun _ _ _ h => h) (Or.inl ⟨by rfl, ?_⟩) hHeld ?_
    · intro w' hSw
      go_simp
    try simp only [Act.put, List.getElem_toArray, List.getElem_cons_succ, List.getElem_cons_zero, List.setIfInBounds_toArray, List.set_cons_zero, List.set_cons_succ]
    clear hHeld
    refine wpAnyH_ready (rs := [8]) (by kernel_rfl) (by simp) (AllReadyH.cons rfl (fun K hK => ?_) AllReadyH.nil)
    rw [if_pos (by rfl)]
    go_simp
    refine (HH.out _).out.mono ?_
    rintro e w2 ⟨rfl, rfl⟩
    go_simp
    refine hK.out _ _ D0 (fun hHeld => ?_)
    clear hK
    try simp only [Act.put, List.getElem_toArray, List.getElem_cons_succ, List.getElem_cons_zero, List.setIfInBounds_toArray, List.set_cons_zero, List.set_cons_succ]
    refine wpAnyH_take (i := 9) (v := (.bool false)) rfl (by kernel_rfl) (by kernel_rfl) (by kernel_rfl) (fun _ _ _ h => h) (Or.inl ⟨by rfl, ?_⟩) hHeld ?_
    · intro w' hSw
      go_simp
    try simp only [Act.put, List.getElem_toArray, List.getElem_cons_succ, List.getElem_cons_zero, List.setIfInBounds_toArray, List.set_cons_zero, List.set_cons_succ]
    refine wpAnyH_take (i := 10) (v := (.bool false)) rfl (by kernel_rfl) (by kernel_rfl) (by kernel_rfl) (fun _ _ _ h => h) (Or.inl ⟨by rfl, ?_⟩) hHeld ?_
    · intro w' hSw
      go_simp
    try simp only [Act.put, List.getElem_toArray, List.getElem_cons_succ, List.getElem_cons_zero, List.setIfInBounds_toArray, List.set_cons_zero, List.set_cons_succ]
    refine wpAnyH_take (i := 11) (v := (.bool false)) rfl (by kernel_rfl) (by kernel_rfl) (by kernel_rfl) (fun _ _ _ h => h) (Or.inl ⟨by rfl, ?_⟩) hHeld ?_
    · intro w' hSw
      go_simp
    try simp only [Act.put, List.getElem_toArray, List.getElem_cons_succ, List.getElem_cons_zero, List.setIfInBounds_toArray, List.set_cons_zero, List.set_cons_succ]
    refine wpAnyH_take (i := 12) (v := undef) rfl (by kernel_rfl) (by kernel_rfl) (by kernel_rfl) (fun _ _ _ h => h) (Or.inr ⟨by rfl, rfl⟩) hHeld ?_
    try simp only [Act.put, List.getElem_toArray, List.getElem_cons_succ, List.getElem_cons_zero, List.setIfInBounds_toArray, List.set_cons_zero, List.set_cons_succ]
    refine wpAnyH_take (i := 13) (v := undef) rfl (by kernel_rfl) (by kernel_rfl) (by kernel_rfl) (fun _ _ _ h => h) (Or.inr ⟨by rfl, rfl⟩) hHeld ?_
    try simp only [Act.put, List.getElem_toArray, List.getElem_cons_succ, List.getElem_cons_zero, List.setIfInBounds_toArray, List.set_cons_zero, List.set_cons_succ]
    refine wpAnyH_take (i := 14) (v := undef) rfl (by kernel_rfl) (by kernel_rfl) (by kernel_rfl) (fun _ _ _ h => h) (Or.inr ⟨by rfl, rfl⟩) hHeld ?_
    try simp only [Act.put, List.getElem_toArray, List.getElem_cons_succ, List.getElem_cons_zero, List.setIfInBounds_toArray, List.set_cons_zero, List.set_cons_succ]
    refine wpAnyH_take (i := 15) (v := (.bool false)) rfl (by kernel_rfl) (by kernel_rfl) (by kernel_rfl) (fun _ _ _ h => h) (Or.inl ⟨by rfl, ?_⟩) hHeld ?_
    · intro w' hSw
      go_simp
    try simp only [Act.put, List.getElem_toArray, List.getElem_cons_succ, List.getElem_cons_zero, List.setIfInBounds_toArray, List.set_cons_zero, List.set_cons_succ]
    refine wpAnyH_take (i := 16) (v := (.bool false)) rfl (by kernel_rfl) (by kernel_rfl) (by kernel_rfl) (fun _ _ _ h => h) (Or.inl ⟨by rfl, ?_⟩) hHeld ?_
    · intro w' hSw
      go_simp
    try simp only [Act.put, List.getElem_toArray, List.getElem_cons_succ, List.getElem_cons_zero, List.setIfInBounds_toArray, List.set_cons_zero, List.set_cons_succ]
    clear hHeld
    refine wpAnyH_done (by kernel_rfl) ?_ _
    go_wp2
    go_ret
    exact ⟨by simp, HT.out.drew⟩

set_option maxRecDepth 100000 in
set_option maxHeartbeats 1000000 in
theorem cr_neg (o a v hi : Int) (ap vp rv : Bool) (w : World) (h28 : ¬ 28 < o) (h0 : ¬ 0 ≤ a) (hA : ap = true ∨ a = 0) (hV : vp = true ∨ v = 0)
    (hu : HidC Tryd.prog 9 #[.int .u8 o] (w.alloc (.cells #[.int .u8 o, .int .i64 a, .int .u64 v] 26)) fun e w' => e = .returned (.tuple #[.bool ap, .bool vp]) ∧ (w.alloc (.cells #[.int .u8 o, .int .i64 a, .int .u64 v] 26)) = w')
    (HH : Hid (∀ W, HidC Tryd.prog 32 #[.int .u8 o] W fun e w' => e = .returned (.int .i64 hi) ∧ W = w')) (HR : Hid (∀ W, HidC Tryd.prog 33 #[.int .u64 v] W fun e w' => e = .returned (.bool rv) ∧ W = w')) :
    Calls Tryd.prog 17 #[.agg #[.int .u8 o, .int .i64 a, .int .u64 v]] w fun e w' => e = .returned (.bool false) ∧ Touch w w' [] := by
  have HT : Hid (Touch w (w.alloc (.cells #[.int .u8 o, .int .i64 a, .int .u64 v] 26)) []) := (Touch.refl w []).alloc _
  have D0 : (w.alloc (.cells #[.int .u8 o, .int .i64 a, .int .u64 v] 26)).drew.cell? ⟨w.heap.size, 0, none⟩ = some (.int .u8 o) ∧ (w.alloc (.cells #[.int .u8 o, .int .i64 a, .int .u64 v] 26)).drew.cell? ⟨w.heap.size, 1, none⟩ = some (.int .i64 a) ∧ (w.alloc (.cells #[.int .u8 o, .int .i64 a, .int .u64 v] 26)).drew.cell? ⟨w.heap.size, 2, none⟩ = some (.int .u64 v) := by
    have hb : (w.alloc (.cells #[.int .u8 o, .int .i64 a, .int .u64 v] 26)).drew.heap[w.heap.size]? = some (.cells #[.int .u8 o, .int .i64 a, .int .u64 v] 26 (0, 0)) := heap_alloc_new w _
    exact ⟨by unfold World.cell?; rw [hb]; rfl, by unfold World.cell?; rw [hb]; rfl, by unfold World.cell?; rw [hb]; rfl⟩
  have hA2 : ap = true ∨ (ap = false ∧ a = 0) := by cases ap <;> simp_all
  have hV2 : vp = true ∨ (vp = false ∧ v = 0) := by cases vp <;> simp_all
  clear hA hV
  rcases hA2 with rfl | ⟨rfl, ha⟩ <;> rcases hV2 with rfl | ⟨rfl, hv⟩
  · have hx := True.intro
    go_enter Tryd.func17, Tryd.ntmps17
    go_wp2_with fail
    refine hu.out.mono ?_
    rintro e w1 ⟨rfl, rfl⟩
    clear hu
    go_wp2_with fail
    refine wp_region_held_drew (S := (fun w' : World => w'.cell? ⟨w.heap.size, 0, none⟩ = some (.int .u8 o) ∧ w'.cell? ⟨w.heap.size, 1, none⟩ = some (.int .i64 a) ∧ w'.cell? ⟨w.heap.size, 2, none⟩ = some (.int .u64 v))) (by kernel_rfl) D0 (fun hHeld => ?_)
    try simp only [Act.put, List.getElem_toArray, List.getElem_cons_succ, List.getElem_cons_zero, List.setIfInBounds_toArray, List.set_cons_zero, List.set_cons_succ]
    refine wpAnyH_take (i := 0) (v := (.pointer (some ⟨w.heap.size, 1, none⟩))) rfl (by kernel_rfl) (by kernel_rfl) (by kernel_rfl) (fun _ _ _ h => h) (Or.inl ⟨by rfl, ?_⟩) hHeld ?_
    · intro w' hSw
      go_simp
    try simp only [Act.put, List.getElem_toArray, List.getElem_cons_succ, List.getElem_cons_zero, List.setIfInBounds_toArray, List.set_cons_zero, List.set_cons_succ]
    refine wpAnyH_take (i := 1) (v := (.int .i64 a)) rfl (by kernel_rfl) (by kernel_rfl) (by kernel_rfl) (fun _ _ _ h => h) (Or.inl ⟨by rfl, ?_⟩) hHeld ?_
    · intro w' hSw
      go_simp
    try simp only [Act.put, List.getElem_toArray, List.getElem_cons_succ, List.getElem_cons_zero, List.setIfInBounds_toArray, List.set_cons_zero, List.set_cons_succ]
    refine wpAnyH_take (i := 2) (v := (.bool false)) rfl (by kernel_rfl) (by kernel_rfl) (by kernel_rfl) (fun _ _ _ h => h) (Or.inl ⟨by rfl, ?_⟩) hHeld ?_
    · intro w' hSw
      go_simp
    try simp only [Act.put, List.getElem_toArray, List.getElem_cons_succ, List.getElem_cons_zero, List.setIfInBounds_toArray, List.set_cons_zero, List.set_cons_succ]
    refine wpAnyH_take (i := 3) (v := (.bool false)) rfl (by kernel_rfl) (by kernel_rfl) (by kernel_rfl) (fun _ _ _ h => h) (Or.inl ⟨by rfl, ?_⟩) hHeld ?_
    · intro w' hSw
      go_simp
    try simp only [Act.put, List.getElem_toArray, List.getElem_cons_succ, List.getElem_cons_zero, List.setIfInBounds_toArray, List.set_cons_zero, List.set_cons_succ]
    refine wpAnyH_take (i := 4) (v := undef) rfl (by kernel_rfl) (by kernel_rfl) (by kernel_rfl) (fun _ _ _ h => h) (Or.inr ⟨by rfl, rfl⟩) hHeld ?_
    try simp only [Act.put, List.getElem_toArray, List.getElem_cons_succ, List.getElem_cons_zero, List.setIfInBounds_toArray, List.set_cons_zero, List.set_cons_succ]
    refine wpAnyH_take (i := 5) (v := undef) rfl (by kernel_rfl) (by kernel_rfl) (by kernel_rfl) (fun _ _ _ h => h) (Or.inr ⟨by rfl, rfl⟩) hHeld ?_
    try simp only [Act.put, List.getElem_toArray, List.getElem_cons_succ, List.getElem_cons_zero, List.setIfInBounds_toArray, List.set_cons_zero, List.set_cons_succ]
    refine wpAnyH_take (i := 6) (v := undef) rfl (by kernel_rfl) (by kernel_rfl) (by kernel_rfl) (fun _ _ _ h => h) (Or.inr ⟨by rfl, rfl⟩) hHeld ?_
    try simp only [Act.put, List.getElem_toArray, List.getElem_cons_succ, List.getElem_cons_zero, List.setIfInBounds_toArray, List.set_cons_zero, List.set_cons_succ]
    refine wpAnyH_take (i := 7) (v := undef) rfl (by kernel_rfl) (by kernel_rfl) (by kernel_rfl) (fun _ _ _ h => h) (Or.inr ⟨by rfl, rfl⟩) hHeld ?_
    try simp only [Act.put, List.getElem_toArray, List.getElem_cons_succ, List.getElem_cons_zero, List.setIfInBounds_toArray, List.set_cons_zero, List.set_cons_succ]
    refine wpAnyH_take (i := 8) (v := undef) rfl (by kernel_rfl) (by kernel_rfl) (by kernel_rfl) (fun _ _ _ h => h) (Or.inr ⟨by rfl, rfl⟩) hHeld ?_
    try simp only [Act.put, List.getElem_toArray, List.getElem_cons_succ, List.getElem_cons_zero, List.setIfInBounds_toArray, List.set_cons_zero, List.set_cons_succ]
    refine wpAnyH_take (i := 9) (v := undef) rfl (by kernel_rfl) (by kernel_rfl) (by kernel_rfl) (fun _ _ _ h => h) (Or.inr ⟨by rfl, rfl⟩) hHeld ?_
    try simp only [Act.put, List.getElem_toArray, List.getElem_cons_succ, List.getElem_cons_zero, List.setIfInBounds_toArray, List.set_cons_zero, List.set_cons_succ]
    refine wpAnyH_take (i := 10) (v := (.bool false)) rfl (by kernel_rfl) (by kernel_rfl) (by kernel_rfl) (fun _ _ _ h => h) (Or.inl ⟨by rfl, ?_⟩) hHeld ?_
    · intro w' hSw
      go_simp
    try simp only [Act.put, List.getElem_toArray, List.getElem_cons_succ, List.getElem_cons_zero, List.setIfInBounds_toArray, List.set_cons_zero, List.set_cons_succ]
    refine wpAnyH_take (i := 11) (v := (.bool false)) rfl (by kernel_rfl) (by kernel_rfl) (by kernel_rfl) (fun _ _ _ h => h) (Or.inl ⟨by rfl, ?_⟩) hHeld ?_
    · intro w' hSw
      go_simp
    try simp only [Act.put, List.getElem_toArray, List.getElem_cons_succ, List.getElem_cons_zero, List.setIfInBounds_toArray, List.set_cons_zero, List.set_cons_succ]
    refine wpAnyH_take (i := 12) (v := undef) rfl (by kernel_rfl) (by kernel_rfl) (by kernel_rfl) (fun _ _ _ h => h) (Or.inr ⟨by rfl, rfl⟩) hHeld ?_
    try simp only [Act.put, List.getElem_toArray, List.getElem_cons_succ, List.getElem_cons_zero, List.setIfInBounds_toArray, List.set_cons_zero, List.set_cons_succ]
    refine wpAnyH_take (i := 13) (v := undef) rfl (by kernel_rfl) (by kernel_rfl) (by kernel_rfl) (fun _ _ _ h => h) (Or.inr ⟨by rfl, rfl⟩) hHeld ?_
    try simp only [Act.put, List.getElem_toArray, List.getElem_cons_succ, List.getElem_cons_zero, List.setIfInBounds_toArray, List.set_cons_zero, List.set_cons_succ]
    refine wpAnyH_take (i := 14) (v := undef) rfl (by kernel_rfl) (by kernel_rfl) (by kernel_rfl) (fun _ _ _ h => h) (Or.inr ⟨by rfl, rfl⟩) hHeld ?_
    try simp only [Act.put, List.getElem_toArray, List.getElem_cons_succ, List.getElem_cons_zero, List.setIfInBounds_toArray, List.set_cons_zero, List.set_cons_succ]
    refine wpAnyH_take (i := 15) (v := (.bool false)) rfl (by kernel_rfl) (by kernel_rfl) (by kernel_rfl) (fun _ _ _ h => h) (Or.inl ⟨by rfl, ?_⟩) hHeld ?_
    · intro w' hSw
      go_simp
    try simp only [Act.put, List.getElem_toArray, List.getElem_cons_succ, List.getElem_cons_zero, List.setIfInBounds_toArray, List.set_cons_zero, List.set_cons_succ]
    refine wpAnyH_take (i := 16) (v := (.bool false)) rfl (by kernel_rfl) (by kernel_rfl) (by kernel_rfl) (fun _ _ _ h => h) (Or.inl ⟨by rfl, ?_⟩) hHeld ?_
    · intro w' hSw
      go_simp
    try simp only [Act.put, List.getElem_toArray, List.getElem_cons_succ, List.getElem_cons_zero, List.setIfInBounds_toArray, List.set_cons_zero, List.set_cons_succ]
    clear hHeld
    refine wpAnyH_done (by kernel_rfl) ?_ _
    go_wp2
    go_ret
    exact ⟨by simp, HT.out.drew⟩
  · have hx := True.intro
    have ev : (v != 0) = false := by simp [hv]
    clear hv
    go_enter Tryd.func17, Tryd.ntmps17
    go_wp2_with fail
    refine hu.out.mono ?_
    rintro e w1 ⟨rfl, rfl⟩
    clear hu
    go_wp2_with fail
    refine wp_region_held_drew (S := (fun w' : World => w'.cell? ⟨w.heap.size, 0, none⟩ = some (.int .u8 o) ∧ w'.cell? ⟨w.heap.size, 1, none⟩ = some (.int .i64 a) ∧ w'.cell? ⟨w.heap.size, 2, none⟩ = some (.int .u64 v))) (by kernel_rfl) D0 (fun hHeld => ?_)
    try simp only [Act.put, List.getElem_toArray, List.getElem_cons_succ, List.getElem_cons_zero, List.setIfInBounds_toArray, List.set_cons_zero, List.set_cons_succ]
    refine wpAnyH_take (i := 0) (v := (.pointer (some ⟨w.heap.size, 1, none⟩))) rfl (by kernel_rfl) (by kernel_rfl) (by kernel_rfl) (fun _ _ _ h => h) (Or.inl ⟨by rfl, ?_⟩) hHeld ?_
    · intro w' hSw
      go_simp
    try simp only [Act.put, List.getElem_toArray, List.getElem_cons_succ, List.getElem_cons_zero, List.setIfInBounds_toArray, List.set_cons_zero, List.set_cons_succ]
    refine wpAnyH_take (i := 1) (v := (.int .i64 a)) rfl (by kernel_rfl) (by kernel_rfl) (by kernel_rfl) (fun _ _ _ h => h) (Or.inl ⟨by rfl, ?_⟩) hHeld ?_
    · intro w' hSw
      go_simp
    try simp only [Act.put, List.getElem_toArray, List.getElem_cons_succ, List.getElem_cons_zero, List.setIfInBounds_toArray, List.set_cons_zero, List.set_cons_succ]
    refine wpAnyH_take (i := 2) (v := (.bool false)) rfl (by kernel_rfl) (by kernel_rfl) (by kernel_rfl) (fun _ _ _ h => h) (Or.inl ⟨by rfl, ?_⟩) hHeld ?_
    · intro w' hSw
      go_simp
    try simp only [Act.put, List.getElem_toArray, List.getElem_cons_succ, List.getElem_cons_zero, List.setIfInBounds_toArray, List.set_cons_zero, List.set_cons_succ]
    refine wpAnyH_take (i := 3) (v := (.bool false)) rfl (by kernel_rfl) (by kernel_rfl) (by kernel_rfl) (fun _ _ _ h => h) (Or.inl ⟨by rfl, ?_⟩) hHeld ?_
    · intro w' hSw
      go_simp
    try simp only [Act.put, List.getElem_toArray, List.getElem_cons_succ, List.getElem_cons_zero, List.setIfInBounds_toArray, List.set_cons_zero, List.set_cons_succ]
    refine wpAnyH_take (i := 4) (v := undef) rfl (by kernel_rfl) (by kernel_rfl) (by kernel_rfl) (fun _ _ _ h => h) (Or.inr ⟨by rfl, rfl⟩) hHeld ?_
    try simp only [Act.put, List.getElem_toArray, List.getElem_cons_succ, List.getElem_cons_zero, List.setIfInBounds_toArray, List.set_cons_zero, List.set_cons_succ]
    refine wpAnyH_take (i := 5) (v := undef) rfl (by kernel_rfl) (by kernel_rfl) (by kernel_rfl) (fun _ _ _ h => h) (Or.inr ⟨by rfl, rfl⟩) hHeld ?_
    try simp only [Act.put, List.getElem_toArray, List.getElem_cons_succ, List.getElem_cons_zero, List.setIfInBounds_toArray, List.set_cons_zero, List.set_cons_succ]
    refine wpAnyH_take (i := 6) (v := undef) rfl (by kernel_rfl) (by kernel_rfl) (by kernel_rfl) (fun _ _ _ h => h) (Or.inr ⟨by rfl, rfl⟩) hHeld ?_
    try simp only [Act.put, List.getElem_toArray, List.getElem_cons_succ, List.getElem_cons_zero, List.setIfInBounds_toArray, List.set_cons_zero, List.set_cons_succ]
    refine wpAnyH_take (i := 7) (v := undef) rfl (by kernel_rfl) (by kernel_rfl) (by kernel_rfl) (fun _ _ _ h => h) (Or.inr ⟨by rfl, rfl⟩) hHeld ?_
    try simp only [Act.put, List.getElem_toArray, List.getElem_cons_succ, List.getElem_cons_zero, List.setIfInBounds_toArray, List.set_cons_zero, List.set_cons_succ]
    refine wpAnyH_take (i := 8) (v := undef) rfl (by kernel_rfl) (by kernel_rfl) (by kernel_rfl) (fun _ _ _ h => h) (Or.inr ⟨by rfl, rfl⟩) hHeld ?_
    try simp only [Act.put, List.getElem_toArray, List.getElem_cons_succ, List.getElem_cons_zero, List.setIfInBounds_toArray, List.set_cons_zero, List.set_cons_succ]
    refine wpAnyH_take (i := 9) (v := undef) rfl (by kernel_rfl) (by kernel_rfl) (by kernel_rfl) (fun _ _ _ h => h) (Or.inr ⟨by rfl, rfl⟩) hHeld ?_
    try simp only [Act.put, List.getElem_toArray, List.getElem_cons_succ, List.getElem_cons_zero, List.setIfInBounds_toArray, List.set_cons_zero, List.set_cons_succ]
    refine wpAnyH_take (i := 10) (v := (.bool false)) rfl (by kernel_rfl) (by kernel_rfl) (by kernel_rfl) (fun _ _ _ h => h) (Or.inl ⟨by rfl, ?_⟩) hHeld ?_
    · intro w' hSw
      go_simp
    try simp only [Act.put, List.getElem_toArray, List.getElem_cons_succ, List.getElem_cons_zero, List.setIfInBounds_toArray, List.set_cons_zero, List.set_cons_succ]
    refine wpAnyH_take (i := 11) (v := (.bool false)) rfl (by kernel_rfl) (by kernel_rfl) (by kernel_rfl) (fun _ _ _ h => h) (Or.inl ⟨by rfl, ?_⟩) hHeld ?_
    · intro w' hSw
      go_simp
    try simp only [Act.put, List.getElem_toArray, List.getElem_cons_succ, List.getElem_cons_zero, List.setIfInBounds_toArray, List.set_cons_zero, List.set_cons_succ]
    refine wpAnyH_take (i := 12) (v := undef) rfl (by kernel_rfl) (by kernel_rfl) (by kernel_rfl) (fun _ _ _ h => h) (Or.inr ⟨by rfl, rfl⟩) hHeld ?_
    try simp only [Act.put, List.getElem_toArray, List.getElem_cons_succ, List.getElem_cons_zero, List.setIfInBounds_toArray, List.set_cons_zero, List.set_cons_succ]
    refine wpAnyH_take (i := 13) (v := undef) rfl (by kernel_rfl) (by kernel_rfl) (by kernel_rfl) (fun _ _ _ h => h) (Or.inr ⟨by rfl, rfl⟩) hHeld ?_
    try simp only [Act.put, List.getElem_toArray, List.getElem_cons_succ, List.getElem_cons_zero, List.setIfInBounds_toArray, List.set_cons_zero, List.set_cons_succ]
    refine wpAnyH_take (i := 14) (v := undef) rfl (by kernel_rfl) (by kernel_rfl) (by kernel_rfl) (fun _ _ _ h => h) (Or.inr ⟨by rfl, rfl⟩) hHeld ?_
    try simp only [Act.put, List.getElem_toArray, List.getElem_cons_succ, List.getElem_cons_zero, List.setIfInBounds_toArray, List.set_cons_zero, List.set_cons_succ]
    refine wpAnyH_take (i := 15) (v := (.bool false)) rfl (by kernel_rfl) (by kernel_rfl) (by kernel_rfl) (fun _ _ _ h => h) (Or.inl ⟨by rfl, ?_⟩) hHeld ?_
    · intro w' hSw
      go_simp
    try simp only [Act.put, List.getElem_toArray, List.getElem_cons_succ, List.getElem_cons_zero, List.setIfInBounds_toArray, List.set_cons_zero, List.set_cons_succ]
    refine wpAnyH_take (i := 16) (v := (.bool false)) rfl (by kernel_rfl) (by kernel_rfl) (by kernel_rfl) (fun _ _ _ h => h) (Or.inl ⟨by rfl, ?_⟩) hHeld ?_
    · intro w' hSw
      go_simp
    try simp only [Act.put, List.getElem_toArray, List.getElem_cons_succ, List.getElem_cons_zero, List.setIfInBounds_toArray, List.set_cons_zero, List.set_cons_succ]
    clear hHeld
    refine wpAnyH_done (by kernel_rfl) ?_ _
    go_wp2
    go_ret
    exact ⟨by simp, HT.out.drew⟩
  · have hx := True.intro
    have ea : (a != 0) = false := by simp [ha]
    clear ha
    go_enter Tryd.func17, Tryd.ntmps17
    go_wp2_with fail
    refine hu.out.mono ?_
    rintro e w1 ⟨rfl, rfl⟩
    clear hu
    go_wp2_with fail
    refine wp_region_held_drew (S := (fun w' : World => w'.cell? ⟨w.heap.size, 0, none⟩ = some (.int .u8 o) ∧ w'.cell? ⟨w.heap.size, 1, none⟩ = some (.int .i64 a) ∧ w'.cell? ⟨w.heap.size, 2, none⟩ = some (.int .u64 v))) (by kernel_rfl) D0 (fun hHeld => ?_)
    try simp only [Act.put, List.getElem_toArray, List.getElem_cons_succ, List.getElem_cons_zero, List.setIfInBounds_toArray, List.set_cons_zero, List.set_cons_succ]
    refine wpAnyH_take (i := 0) (v := (.pointer (some ⟨w.heap.size, 1, none⟩))) rfl (by kernel_rfl) (by kernel_rfl) (by kernel_rfl) (fun _ _ _ h => h) (Or.inl ⟨by rfl, ?_⟩) hHeld ?_
    · intro w' hSw
      go_simp
    try simp only [Act.put, List.getElem_toArray, List.getElem_cons_succ, List.getElem_cons_zero, List.setIfInBounds_toArray, List.set_cons_zero, List.set_cons_succ]
    refine wpAnyH_take (i := 1) (v := (.int .i64 a)) rfl (by kernel_rfl) (by kernel_rfl) (by kernel_rfl) (fun _ _ _ h => h) (Or.inl ⟨by rfl, ?_⟩) hHeld ?_
    · intro w' hSw
      go_simp
    try simp only [Act.put, List.getElem_toArray, List.getElem_cons_succ, List.getElem_cons_zero, List.setIfInBounds_toArray, List.set_cons_zero, List.set_cons_succ]
    refine wpAnyH_take (i := 2) (v := (.bool false)) rfl (by kernel_rfl) (by kernel_rfl) (by kernel_rfl) (fun _ _ _ h => h) (Or.inl ⟨by rfl, ?_⟩) hHeld ?_
    · intro w' hSw
      go_simp
    try simp only [Act.put, List.getElem_toArray, List.getElem_cons_succ, List.getElem_cons_zero, List.setIfInBounds_toArray, List.set_cons_zero, List.set_cons_succ]
    refine wpAnyH_take (i := 3) (v := (.bool false)) rfl (by kernel_rfl) (by kernel_rfl) (by kernel_rfl) (fun _ _ _ h => h) (Or.inl ⟨by rfl, ?_⟩) hHeld ?_
    · intro w' hSw
      go_simp
    try simp only [Act.put, List.getElem_toArray, List.getElem_cons_succ, List.getElem_cons_zero, List.setIfInBounds_toArray, List.set_cons_zero, List.set_cons_succ]
    refine wpAnyH_take (i := 4) (v := undef) rfl (by kernel_rfl) (by kernel_rfl) (by kernel_rfl) (fun _ _ _ h => h) (Or.inr ⟨by rfl, rfl⟩) hHeld ?_
    try simp only [Act.put, List.getElem_toArray, List.getElem_cons_succ, List.getElem_cons_zero, List.setIfInBounds_toArray, List.set_cons_zero, List.set_cons_succ]
    refine wpAnyH_take (i := 5) (v := undef) rfl (by kernel_rfl) (by kernel_rfl) (by kernel_rfl) (fun _ _ _ h => h) (Or.inr ⟨by rfl, rfl⟩) hHeld ?_
    try simp only [Act.put, List.getElem_toArray, List.getElem_cons_succ, List.getElem_cons_zero, List.setIfInBounds_toArray, List.set_cons_zero, List.set_cons_succ]
    refine wpAnyH_take (i := 6) (v := undef) rfl (by kernel_rfl) (by kernel_rfl) (by kernel_rfl) (fun _ _ _ h => h) (Or.inr ⟨by rfl, rfl⟩) hHeld ?_
    try simp only [Act.put, List.getElem_toArray, List.getElem_cons_succ, List.getElem_cons_zero, List.setIfInBounds_toArray, List.set_cons_zero, List.set_cons_succ]
    refine wpAnyH_take (i := 7) (v := undef) rfl (by kernel_rfl) (by kernel_rfl) (by kernel_rfl) (fun _ _ _ h => h) (Or.inr ⟨by rfl, rfl⟩) hHeld ?_
    try simp only [Act.put, List.getElem_toArray, List.getElem_cons_succ, List.getElem_cons_zero, List.setIfInBounds_toArray, List.set_cons_zero, List.set_cons_succ]
    refine wpAnyH_take (i := 8) (v := undef) rfl (by kernel_rfl) (by kernel_rfl) (by kernel_rfl) (fun _ _ _ h => h) (Or.inr ⟨by rfl, rfl⟩) hHeld ?_
    try simp only [Act.put, List.getElem_toArray, List.getElem_cons_succ, List.getElem_cons_zero, List.setIfInBounds_toArray, List.set_cons_zero, List.set_cons_succ]
    refine wpAnyH_take (i := 9) (v := undef) rfl (by kernel_rfl) (by kernel_rfl) (by kernel_rfl) (fun _ _ _ h => h) (Or.inr ⟨by rfl, rfl⟩) hHeld ?_
    try simp only [Act.put, List.getElem_toArray, List.getElem_cons_succ, List.getElem_cons_zero, List.setIfInBounds_toArray, List.set_cons_zero, List.set_cons_succ]
    refine wpAnyH_take (i := 10) (v := (.bool false)) rfl (by kernel_rfl) (by kernel_rfl) (by kernel_rfl) (fun _ _ _ h => h) (Or.inl ⟨by rfl, ?_⟩) hHeld ?_
    · intro w' hSw
      go_simp
    try simp only [Act.put, List.getElem_toArray, List.getElem_cons_succ, List.getElem_cons_zero, List.setIfInBounds_toArray, List.set_cons_zero, List.set_cons_succ]
    refine wpAnyH_take (i := 11) (v := (.bool false)) rfl (by kernel_rfl) (by kernel_rfl) (by kernel_rfl) (fun _ _ _ h => h) (Or.inl ⟨by rfl, ?_⟩) hHeld ?_
    · intro w' hSw
      go_simp
    try simp only [Act.put, List.getElem_toArray, List.getElem_cons_succ, List.getElem_cons_zero, List.setIfInBounds_toArray, List.set_cons_zero, List.set_cons_succ]
    refine wpAnyH_take (i := 12) (v := undef) rfl (by kernel_rfl) (by kernel_rfl) (by kernel_rfl) (fun _ _ _ h => h) (Or.inr ⟨by rfl, rfl⟩) hHeld ?_
    try simp only [Act.put, List.getElem_toArray, List.getElem_cons_succ, List.getElem_cons_zero, List.setIfInBounds_toArray, List.set_cons_zero, List.set_cons_succ]
    refine wpAnyH_take (i := 13) (v := undef) rfl (by kernel_rfl) (by kernel_rfl) (by kernel_rfl) (fun _ _ _ h => h) (Or.inr ⟨by rfl, rfl⟩) hHeld ?_
    try simp only [Act.put, List.getElem_toArray, List.getElem_cons_succ, List.getElem_cons_zero, List.setIfInBounds_toArray, List.set_cons_zero, List.set_cons_succ]
    refine wpAnyH_take (i := 14) (v := undef) rfl (by kernel_rfl) (by kernel_rfl) (by kernel_rfl) (fun _ _ _ h => h) (Or.inr ⟨by rfl, rfl⟩) hHeld ?_
    try simp only [Act.put, List.getElem_toArray, List.getElem_cons_succ, List.getElem_cons_zero, List.setIfInBounds_toArray, List.set_cons_zero, List.set_cons_succ]
    refine wpAnyH_take (i := 15) (v := (.bool false)) rfl (by kernel_rfl) (by kernel_rfl) (by kernel_rfl) (fun _ _ _ h => h) (Or.inl ⟨by rfl, ?_⟩) hHeld ?_
    · intro w' hSw
      go_simp
    try simp only [Act.put, List.getElem_toArray, List.getElem_cons_succ, List.getElem_cons_zero, List.setIfInBounds_toArray, List.set_cons_zero, List.set_cons_succ]
    refine wpAnyH_take (i := 16) (v := (.bool false)) rfl (by kernel_rfl) (by kernel_rfl) (by kernel_rfl) (fun _ _ _ h => h) (Or.inl ⟨by rfl, ?_⟩) hHeld ?_
    · intro w' hSw
      go_simp
    try simp only [Act.put, List.getElem_toArray, List.getElem_cons_succ, List.getElem_cons_zero, List.setIfInBounds_toArray, List.set_cons_zero, List.set_cons_succ]
    clear hHeld
    refine wpAnyH_done (by kernel_rfl) ?_ _
    go_wp2
    go_ret
    exact ⟨by simp, HT.out.drew⟩
  · have hx := True.intro
    have ea : (a != 0) = false := by simp [ha]
    have ev : (v != 0) = false := by simp [hv]
    clear ha
    clear hv
    go_enter Tryd.func17, Tryd.ntmps17
    go_wp2_with fail
    refine hu.out.mono ?_
    rintro e w1 ⟨rfl, rfl⟩
    clear hu
    go_wp2_with fail
    refine wp_region_held_drew (S := (fun w' : World => w'.cell? ⟨w.heap.size, 0, none⟩ = some (.int .u8 o) ∧ w'.cell? ⟨w.heap.size, 1, none⟩ = some (.int .i64 a) ∧ w'.cell? ⟨w.heap.size, 2, none⟩ = some (.int .u64 v))) (by kernel_rfl) D0 (fun hHeld => ?_)
    try simp only [Act.put, List.getElem_toArray, List.getElem_cons_succ, List.getElem_cons_zero, List.setIfInBounds_toArray, List.set_cons_zero, List.set_cons_succ]
    refine wpAnyH_take (i := 0) (v := (.pointer (some ⟨w.heap.size, 1, none⟩))) rfl (by kernel_rfl) (by kernel_rfl) (by kernel_rfl) (fun _ _ _ h => h) (Or.inl ⟨by rfl, ?_⟩) hHeld ?_
    · intro w' hSw
      go_simp
    try simp only [Act.put, List.getElem_toArray, List.getElem_cons_succ, List.getElem_cons_zero, List.setIfInBounds_toArray, List.set_cons_zero, List.set_cons_succ]
    refine wpAnyH_take (i := 1) (v := (.int .i64 a)) rfl (by kernel_rfl) (by kernel_rfl) (by kernel_rfl) (fun _ _ _ h => h) (Or.inl ⟨by rfl, ?_⟩) hHeld ?_
    · intro w' hSw
      go_simp
    try simp only [Act.put, List.getElem_toArray, List.getElem_cons_succ, List.getElem_cons_zero, List.setIfInBounds_toArray, List.set_cons_zero, List.set_cons_succ]
    refine wpAnyH_take (i := 2) (v := (.bool false)) rfl (by kernel_rfl) (by kernel_rfl) (by kernel_rfl) (fun _ _ _ h => h) (Or.inl ⟨by rfl, ?_⟩) hHeld ?_
    · intro w' hSw
      go_simp
    try simp only [Act.put, List.getElem_toArray, List.getElem_cons_succ, List.getElem_cons_zero, List.setIfInBounds_toArray, List.set_cons_zero, List.set_cons_succ]
    refine wpAnyH_take (i := 3) (v := (.bool false)) rfl (by kernel_rfl) (by kernel_rfl) (by kernel_rfl) (fun _ _ _ h => h) (Or.inl ⟨by rfl, ?_⟩) hHeld ?_
    · intro w' hSw
      go_simp
    try simp only [Act.put, List.getElem_toArray, List.getElem_cons_succ, List.getElem_cons_zero, List.setIfInBounds_toArray, List.set_cons_zero, List.set_cons_succ]
    refine wpAnyH_take (i := 4) (v := undef) rfl (by kernel_rfl) (by kernel_rfl) (by kernel_rfl) (fun _ _ _ h => h) (Or.inr ⟨by rfl, rfl⟩) hHeld ?_
    try simp only [Act.put, List.getElem_toArray, List.getElem_cons_succ, List.getElem_cons_zero, List.setIfInBounds_toArray, List.set_cons_zero, List.set_cons_succ]
    refine wpAnyH_take (i := 5) (v := undef) rfl (by kernel_rfl) (by kernel_rfl) (by kernel_rfl) (fun _ _ _ h => h) (Or.inr ⟨by rfl, rfl⟩) hHeld ?_
    try simp only [Act.put, List.getElem_toArray, List.getElem_cons_succ, List.getElem_cons_zero, List.setIfInBounds_toArray, List.set_cons_zero, List.set_cons_succ]
    refine wpAnyH_take (i := 6) (v := undef) rfl (by kernel_rfl) (by kernel_rfl) (by kernel_rfl) (fun _ _ _ h => h) (Or.inr ⟨by rfl, rfl⟩) hHeld ?_
    try simp only [Act.put, List.getElem_toArray, List.getElem_cons_succ, List.getElem_cons_zero, List.setIfInBounds_toArray, List.set_cons_zero, List.set_cons_succ]
    refine wpAnyH_take (i := 7) (v := undef) rfl (by kernel_rfl) (by kernel_rfl) (by kernel_rfl) (fun _ _ _ h => h) (Or.inr ⟨by rfl, rfl⟩) hHeld ?_
    try simp only [Act.put, List.getElem_toArray, List.getElem_cons_succ, List.getElem_cons_zero, List.setIfInBounds_toArray, List.set_cons_zero, List.set_cons_succ]
    refine wpAnyH_take (i := 8) (v := undef) rfl (by kernel_rfl) (by kernel_rfl) (by kernel_rfl) (fun _ _ _ h => h) (Or.inr ⟨by rfl, rfl⟩) hHeld ?_
    try simp only [Act.put, List.getElem_toArray, List.getElem_cons_succ, List.getElem_cons_zero, List.setIfInBounds_toArray, List.set_cons_zero, List.set_cons_succ]
    refine wpAnyH_take (i := 9) (v := undef) rfl (by kernel_rfl) (by kernel_rfl) (by kernel_rfl) (fun _ _ _ h => h) (Or.inr ⟨by rfl, rfl⟩) hHeld ?_
    try simp only [Act.put, List.getElem_toArray, List.getElem_cons_succ, List.getElem_cons_zero, List.setIfInBounds_toArray, List.set_cons_zero, List.set_cons_succ]
    refine wpAnyH_take (i := 10) (v := (.bool false)) rfl (by kernel_rfl) (by kernel_rfl) (by kernel_rfl) (fun _ _ _ h => h) (Or.inl ⟨by rfl, ?_⟩) hHeld ?_
    · intro w' hSw
      go_simp
    try simp only [Act.put, List.getElem_toArray, List.getElem_cons_succ, List.getElem_cons_zero, List.setIfInBounds_toArray, List.set_cons_zero, List.set_cons_succ]
    refine wpAnyH_take (i := 11) (v := (.bool false)) rfl (by kernel_rfl) (by kernel_rfl) (by kernel_rfl) (fun _ _ _ h => h) (Or.inl ⟨by rfl, ?_⟩) hHeld ?_
    · intro w' hSw
      go_simp
    try simp only [Act.put, List.getElem_toArray, List.getElem_cons_succ, List.getElem_cons_zero, List.setIfInBounds_toArray, List.set_cons_zero, List.set_cons_succ]
    refine wpAnyH_take (i := 12) (v := undef) rfl (by kernel_rfl) (by kernel_rfl) (by kernel_rfl) (fun _ _ _ h => h) (Or.inr ⟨by rfl, rfl⟩) hHeld ?_
    try simp only [Act.put, List.getElem_toArray, List.getElem_cons_succ, List.getElem_cons_zero, List.setIfInBounds_toArray, List.set_cons_zero, List.set_cons_succ]
    refine wpAnyH_take (i := 13) (v := undef) rfl (by kernel_rfl) (by kernel_rfl) (by kernel_rfl) (fun _ _ _ h => h) (Or.inr ⟨by rfl, rfl⟩) hHeld ?_
    try simp only [Act.put, List.getElem_toArray, List.getElem_cons_succ, List.getElem_cons_zero, List.setIfInBounds_toArray, List.set_cons_zero, List.set_cons_succ]
    refine wpAnyH_take (i := 14) (v := undef) rfl (by kernel_rfl) (by kernel_rfl) (by kernel_rfl) (fun _ _ _ h => h) (Or.inr ⟨by rfl, rfl⟩) hHeld ?_
    try simp only [Act.put, List.getElem_toArray, List.getElem_cons_succ, List.getElem_cons_zero, List.setIfInBounds_toArray, List.set_cons_zero, List.set_cons_succ]
    refine wpAnyH_take (i := 15) (v := (.bool false)) rfl (by kernel_rfl) (by kernel_rfl) (by kernel_rfl) (fun _ _ _ h => h) (Or.inl ⟨by rfl, ?_⟩) hHeld ?_
    · intro w' hSw
      go_simp
    try simp only [Act.put, List.getElem_toArray, List.getElem_cons_succ, List.getElem_cons_zero, List.setIfInBounds_toArray, List.set_cons_zero, List.set_cons_succ]
    refine wpAnyH_take (i := 16) (v := (.bool false)) rfl (by kernel_rfl) (by kernel_rfl) (by kernel_rfl) (fun _ _ _ h => h) (Or.inl ⟨by rfl, ?_⟩) hHeld ?_
    · intro w' hSw
      go_simp
    try simp only [Act.put, List.getElem_toArray, List.getElem_cons_succ, List.getElem_cons_zero, List.setIfInBounds_toArray, List.set_cons_zero, List.set_cons_succ]
    clear hHeld
    refine wpAnyH_done (by kernel_rfl) ?_ _
    go_wp2
    go_ret
    exact ⟨by simp, HT.out.drew⟩

set_option maxRecDepth 100000 in
set_option maxHeartbeats 2000000 in
theorem cright_any (i : InsD) (w : World) : Calls Tryd.prog 17 #[i.v] w fun e w' => e = .returned (.bool (rightI i)) ∧ Touch w w' [] := by
  obtain ⟨o, a, v⟩ := i
  simp only [InsD.v]
  have HT : Hid (Touch w (w.alloc (.cells #[.int .u8 o, .int .i64 a, .int .u64 v] 26)) []) := (Touch.refl w []).alloc _
  have hu : HidC Tryd.prog 9 #[.int .u8 o] (w.alloc (.cells #[.int .u8 o, .int .i64 a, .int .u64 v] 26)) _ := ⟨uses_any o _⟩
  have HH : Hid (∀ W, HidC Tryd.prog 32 #[.int .u8 o] W fun e w' => e = .returned (.int .i64 (highP o)) ∧ W = w') := fun W => ⟨highest_any o W⟩
  have HR : Hid (∀ W, HidC Tryd.prog 33 #[.int .u64 v] W fun e w' => e = .returned (.bool (rightB v)) ∧ W = w') := fun W => ⟨right_any v W⟩
  unfold rightI
  simp only
  generalize argP o = ap at *
  generalize valP o = vp at *
  generalize highP o = hi at *
  generalize rightB v = rv at *
  by_cases h28 : 28 < o
  · have e1 : decide (o ≤ 28) = false := by simp; omega
    simp only [e1, Bool.false_and]
    clear e1
    go_enter Tryd.func17, Tryd.ntmps17
    go_wp2_with fail
    refine hu.out.mono ?_
    rintro e w1 ⟨rfl, rfl⟩
    clear hu
    go_wp2
    go_ret
    exact ⟨rfl, HT.out⟩
  · have e1 : decide (o ≤ 28) = true := by simp; omega
    simp only [e1, Bool.true_and]
    clear e1
    by_cases hA : ap = false ∧ ¬ a = 0
    · obtain ⟨rfl, ha⟩ := hA
      have e2 : (a == 0) = false := by simpa using ha
      have e3 : (a != 0) = true := by simpa using ha
      simp only [e2, Bool.false_or, Bool.false_and]
      clear e2
      go_enter Tryd.func17, Tryd.ntmps17
      go_wp2_with fail
      refine hu.out.mono ?_
      rintro e w1 ⟨rfl, rfl⟩
      clear hu
      go_wp2
      go_ret
      exact ⟨rfl, HT.out⟩
    · have hA2 : ap = true ∨ a = 0 := by
        cases ap
        · simp at hA; exact .inr hA
        · exact .inl rfl
      have e2 : (ap || a == 0) = true := by rcases hA2 with rfl | rfl <;> simp
      simp only [e2, Bool.true_and]
      by_cases hV : vp = false ∧ ¬ v = 0
      · obtain ⟨rfl, hv⟩ := hV
        have e4 : (v == 0) = false := by simpa using hv
        have e5 : (v != 0) = true := by simpa using hv
        simp only [e4, Bool.false_or, Bool.false_and]
        clear e4 hA e2
        cases ap with
        | true =>
          clear hA2
          go_enter Tryd.func17, Tryd.ntmps17
          go_wp2_with fail
          refine hu.out.mono ?_
          rintro e w1 ⟨rfl, rfl⟩
          clear hu
          go_wp2
          go_ret
          exact ⟨rfl, HT.out⟩
        | false =>
          have ha : a = 0 := by simpa using hA2
          have ea : (a != 0) = false := by simp [ha]
          clear hA2 ha
          go_enter Tryd.func17, Tryd.ntmps17
          go_wp2_with fail
          refine hu.out.mono ?_
          rintro e w1 ⟨rfl, rfl⟩
          clear hu
          go_wp2
          go_ret
          exact ⟨rfl, HT.out⟩
      · have hV2 : vp = true ∨ v = 0 := by
          cases vp
          · simp at hV; exact .inr hV
          · exact .inl rfl
        have e4 : (vp || v == 0) = true := by rcases hV2 with rfl | rfl <;> simp
        simp only [e4, Bool.true_and]
        by_cases h0 : 0 ≤ a
        · by_cases h1 : a ≤ hi
          · simp only [h0, h1, decide_true, Bool.true_and]
            exact cr_ok o a v hi ap vp rv w h28 h0 h1 hA2 hV2 hu HH HR
          · simp only [h0, h1, decide_true, decide_false, Bool.true_and, Bool.false_and]
            exact cr_hi o a v hi ap vp rv w h28 h0 h1 hA2 hV2 hu HH HR
        · simp only [h0, decide_false, Bool.false_and]
          exact cr_neg o a v hi ap vp rv w h28 h0 hA2 hV2 hu HH HR

end Go.Proofs.YtminiabpeodjaaaDoor
/-
  SLICES OF STRUCTS THAT CAN BE READ, and an untied proof's facts on the program.
-/
namespace Go.Proofs.YtminiabpeodjaaaDoor
set_option linter.unusedVariables false
set_option linter.unusedSimpArgs false
open Go.ChangeShapes Go.WideShapes Go.ChangeAt Go.RowKit Go.Joins Go.Deep

/-- A slice of structs of n cells each, that can be read. -/
def SRow {α : Type} (n : Nat) (cells : α → List Value) (w : World) (v : Value) (l : List α) : Prop :=
  ∃ ao cap, v = .slice ao l.length cap ∧ (l ≠ [] → ∃ g off, ao = some ⟨g, off, none⟩ ∧ g < w.heap.size ∧ ∀ k (hk : k < l.length), ∀ j, j < n → w.cell? ⟨g, off + k * n + j, none⟩ = (cells l[k])[j]?)

theorem SRow.at {α : Type} {n : Nat} {cells : α → List Value} {w : World} {ao : Option Addr} {cap : Nat} {l : List α} (h : SRow n cells w (.slice ao l.length cap) l) (k : Nat) (hk : k < l.length) :
    ∃ g off, ao = some ⟨g, off, none⟩ ∧ g < w.heap.size ∧ ∀ j, j < n → w.cell? ⟨g, off + k * n + j, none⟩ = (cells l[k])[j]? := by
  obtain ⟨ao', cap', e, h1⟩ := h
  simp only [Value.slice.injEq, true_and] at e
  obtain ⟨rfl, rfl⟩ := e
  obtain ⟨g, off, rfl, hlt, hc⟩ := h1 (by intro e; rw [e] at hk; simp at hk)
  exact ⟨g, off, rfl, hlt, hc k hk⟩

theorem SRow.keep {α : Type} {n : Nat} {cells : α → List Value} {w w' : World} {v : Value} {l : List α} {S : List Nat} (h : SRow n cells w v l) (t : Touch w w' S) (hS : ∀ k ∈ S, w.heap.size ≤ k) : SRow n cells w' v l := by
  obtain ⟨ao, cap, e, h1⟩ := h
  refine ⟨ao, cap, e, fun hn => ?_⟩
  obtain ⟨g, off, rfl, hlt, hc⟩ := h1 hn
  have hne : g ∉ S := fun hs => by have := hS _ hs; omega
  exact ⟨g, off, rfl, Nat.lt_of_lt_of_le hlt t.size, fun k hk j hj => (t.cell (p := ⟨g, _, none⟩) hlt hne).trans (hc k hk j hj)⟩

/-- A slice of structs that came in. -/
theorem rows_of_trod {α : Type} {H : Type} {enc : TypeId × Value → H} {W : World} {n : Nat} {cells : α → List Value} {Wf : α → Prop} {T E : TypeId} (zero : α) (hn : 0 < n) (hlen : ∀ o, (cells o).length = n)
    (hu : Tryd.prog.underlying T = some (.slice E)) (hE : Tryd.prog.cellsOf E = n)
    (el : ∀ {w : World} {base : Nat} {spare : Nat → Bool} {held : Bool} {fuel : Nat} {cs : List Value} {x : DataW H × List MemPlace}, DataW.trod enc Tryd.prog w base spare held fuel E cs = some x → ∃ o, Wf o ∧ cs = cells o)
    {ao : Option Addr} {len cap : Nat} {d : DataW H} {p : List MemPlace} (h : DataW.Trod enc Tryd.prog W 0 (fun _ => true) true T (.slice ao len cap) d p) :
    ∃ l : List α, SRow n cells W (.slice ao len cap) l ∧ (∀ o ∈ l, Wf o) ∧ l.length ≤ maxLen := by
  obtain ⟨fuel, hf⟩ := h
  rcases open_slice hu hf with ⟨hcs, _⟩ | ⟨a, len', cap', m, n', D, Pl, hcs, _, hl, hm, hmm, _, hx⟩
  · simp [Value.cells] at hcs
    obtain ⟨rfl, rfl, rfl⟩ := hcs
    exact ⟨[], ⟨none, 0, rfl, fun hn => absurd rfl hn⟩, by simp, by simp⟩
  · simp [Value.cells] at hcs
    obtain ⟨rfl, rfl, rfl⟩ := hcs
    simp only [if_true] at hmm
    have hel : ∀ i, i < len → ∃ o : α, Wf o ∧ ∀ j, j < n → W.cell? (a.add (i * n + j)) = (cells o)[j]? := fun i hi => by
      obtain ⟨cs', h1, h2⟩ := hx i (by omega)
      obtain ⟨o, ho, rfl⟩ := el h2
      rw [hE] at h1
      obtain ⟨_, _, h3⟩ := World.cells?_some h1
      exact ⟨o, ho, fun j hj => by rw [← add_add]; exact h3 j hj⟩
    obtain ⟨f, hf⟩ : ∃ f : Nat → α, ∀ i, i < len → Wf (f i) ∧ ∀ j, j < n → W.cell? (a.add (i * n + j)) = (cells (f i))[j]? := by
      classical
      refine ⟨fun i => if hi : i < len then Classical.choose (hel i hi) else zero, fun i hi => ?_⟩
      simp only [dif_pos hi]
      exact Classical.choose_spec (hel i hi)
    refine ⟨(List.range len).map f, ⟨some a, cap, by simp, fun hnn => ?_⟩, ?_, by simp; omega⟩
    · have hpos : 0 < len := by
        rcases Nat.eq_zero_or_pos len with h0 | h0
        · subst h0; simp at hnn
        · exact h0
      have hc0 := (hf 0 hpos).2 0 hn
      have hl0 : 0 < (cells (f 0)).length := by rw [hlen]; exact hn
      have hc0' : W.cell? (a.add 0) = some (cells (f 0))[0] := by
        rw [show 0 * n + 0 = 0 by omega] at hc0
        rw [hc0]
        exact List.getElem?_eq_getElem hl0
      have hsp := World.cell?_spot hc0'
      obtain ⟨g, off, spot⟩ := a
      have : spot = none := by simpa [Addr.add] using hsp
      subst this
      have hlt := World.block_lt_of_cell? W _ hc0'
      refine ⟨g, off, rfl, by simpa [Addr.add] using hlt, fun k hk j hj => ?_⟩
      simp only [List.length_map, List.length_range] at hk
      simp only [List.getElem_map, List.getElem_range]
      have q := (hf k hk).2 j hj
      rw [Addr.add_lit] at q
      simp only [← Nat.add_assoc] at q
      exact q
    · intro o ho
      simp only [List.mem_map, List.mem_range] at ho
      obtain ⟨i, hi, rfl⟩ := ho
      exact (hf i hi).1

theorem wf_u8 {x : Int} (h : (Lit.int .u8 x).wf = true) : 0 ≤ x ∧ x ≤ 255 := by
  simp [Lit.wf, IntKind.min, IntKind.max, IntKind.signed, IntKind.bits] at h; omega
theorem wf_u64 {x : Int} (h : (Lit.int .u64 x).wf = true) : 0 ≤ x ∧ x < 18446744073709551616 := by
  simp [Lit.wf, IntKind.min, IntKind.max, IntKind.signed, IntKind.bits] at h; omega
theorem wf_i64 {x : Int} (h : (Lit.int .i64 x).wf = true) : -9223372036854775808 ≤ x ∧ x ≤ 9223372036854775807 := by
  simp [Lit.wf, IntKind.min, IntKind.max, IntKind.signed, IntKind.bits] at h; omega

theorem Tryd.cells_int : Tryd.prog.cellsOf 3 = 1 := by kernel_rfl
theorem Tryd.cells_u64 : Tryd.prog.cellsOf 23 = 1 := by kernel_rfl

end Go.Proofs.YtminiabpeodjaaaDoor
/-
  append OF A WHOLE SLICE TO A ROW OF THE CALL's OWN. No walk.
-/
namespace Go.Proofs.YtminiabpeodjaaaDoor
set_option linter.unusedVariables false
set_option linter.unusedSimpArgs false
open Go.RowKit

/-- append OF A WHOLE SLICE (nil or not) TO A ROW OF THE CALL's OWN THAT IS NOT nil: the value written out, and where it lies. -/
theorem run_append_src {P : Program} (w : World) (t ty e : TypeId) (base : Nat) (i : TypeInfo) (z : Value) (size bytes : Nat) (ht : P.underlying t = some (.slice e)) (hi : P.info? e = some i) (hz : i.zero = some z)
    (hsize : i.size = size) (hby : i.bytes = bytes) (hzs : z.cells.size = size) (hsz : 0 < size)
    (g0 n c0 : Nat) (xs : List Value) (hown : w.ownsRow base e size (.slice (some ⟨g0, 0, none⟩) n c0) n xs)
    (v2 : Value) (base2 m : Nat) (news : List Value) (hsrc : w.ownsRow base2 e size v2 m news) (h1 : ∀ u ∈ news, u.oneCell' = true)
    (h63 : n + m ≤ maxLen) (hbytes : (n + m) * bytes ≤ 140737488355328) (hbase : base ≤ w.heap.size) :
    ∃ g cap w', (Builtin.append_ #[t, t] ty #[.slice (some ⟨g0, 0, none⟩) n c0, v2]).run P w = .ok (.slice (some ⟨g, 0, none⟩) (n + m) cap) w' ∧
      w'.ownsRow base e size (.slice (some ⟨g, 0, none⟩) (n + m) cap) (n + m) (xs ++ news) ∧ w.grownBy w' (some g0) ∧ (g = g0 ∨ g = w.heap.size) ∧ g < w'.heap.size := by
  rcases hsrc.2 with ⟨rfl, h0⟩ | ⟨g2, cap2, cur2, rfl, _⟩
  · subst h0
    have hx : news = [] := List.eq_nil_of_length_eq_zero (by simpa using hsrc.1)
    subst hx
    have hrun := run_append_owned_none (P := P) (w := w) base t ty e i size ht hi _ n xs hown
    refine ⟨g0, c0, w, hrun, by simpa using hown, ⟨rfl, rfl, rfl, Nat.le_refl _, fun _ _ _ => rfl⟩, .inl rfl, ?_⟩
    exact (hown.lt g0 rfl).2
  · obtain ⟨v', w', hr, h2, h3, h4, h5⟩ := run_append_own_at (P := P) w base t ty e i z size bytes ht hi hz hsize hby hzs hsz _ n xs hown ⟨g2, 0, none⟩ m cap2 news hsrc.1 (hsrc.cells (g := g2) rfl) h1 h63 hbytes hbase
    have hne : v' ≠ .slice none 0 0 := fun e => by have := h4.1 e; simp at this
    rcases h2.2 with ⟨e, _⟩ | ⟨g, cap, cur, rfl, _, hg, _⟩
    · exact absurd e hne
    · refine ⟨g, cap, w', hr, h2, h3, ?_, lt_of_heap hg⟩
      rcases h5 with h5 | h5
      · left; simpa [Value.ownBlock] using h5
      · right; simpa [Value.ownBlock] using h5

theorem wp_append_src {P : Program} {w : World} {o : Oper} {a : Act} {K : Act → World → Prop} {Q : Exit → Act → World → Prop} (s x : Operand) (t : TypeId)
    (ho : o.op = .call { callee := .builtin .append, args := #[s, x], argTypes := #[t, t] })
    (base : Nat) (e : TypeId) (i : TypeInfo) (z : Value) (size bytes : Nat) (ht : P.underlying t = some (.slice e)) (hi : P.info? e = some i) (hz : i.zero = some z)
    (hsize : i.size = size) (hby : i.bytes = bytes) (hzs : z.cells.size = size) (hsz : 0 < size)
    (g0 n c0 : Nat) (xs : List Value) (hs : a.eval s = .slice (some ⟨g0, 0, none⟩) n c0) (hown : w.ownsRow base e size (.slice (some ⟨g0, 0, none⟩) n c0) n xs)
    (v2 : Value) (base2 m : Nat) (news : List Value) (hx : a.eval x = v2) (hsrc : w.ownsRow base2 e size v2 m news) (h1 : ∀ u ∈ news, u.oneCell' = true)
    (h63 : n + m ≤ maxLen) (hbytes : (n + m) * bytes ≤ 140737488355328) (hbase : base ≤ w.heap.size)
    (h : ∀ g cap w', w'.ownsRow base e size (.slice (some ⟨g, 0, none⟩) (n + m) cap) (n + m) (xs ++ news) → w.grownBy w' (some g0) → (g = g0 ∨ g = w.heap.size) → g < w'.heap.size → K (a.put o.dst (.slice (some ⟨g, 0, none⟩) (n + m) cap)) w') : o.wp P a w K Q := by
  obtain ⟨g, cap, w', hr, h2, h3, h4, h5⟩ := run_append_src (P := P) w t o.type e base i z size bytes ht hi hz hsize hby hzs hsz g0 n c0 xs hown v2 base2 m news hsrc h1 h63 hbytes hbase
  unfold Oper.wp execOp
  simp only [ho, resolve, invoke, builtin, Sem.run_bind, Sem.run_pure, Result.andThen_ok, List.map_toArray, List.map_cons, List.map_nil, hs, hx, hr]
  exact h g cap w' h2 h3 h4 h5

theorem wpList_append_src {P : Program} {w : World} {ops : Array Oper} {rest : List Oper} {o : Oper} {a : Act} {Q : Exit → Act → World → Prop} (hgd : o.guard = none) (s x : Operand) (t : TypeId)
    (ho : o.op = .call { callee := .builtin .append, args := #[s, x], argTypes := #[t, t] })
    (base : Nat) (e : TypeId) (i : TypeInfo) (z : Value) (size bytes : Nat) (ht : P.underlying t = some (.slice e)) (hi : P.info? e = some i) (hz : i.zero = some z)
    (hsize : i.size = size) (hby : i.bytes = bytes) (hzs : z.cells.size = size) (hsz : 0 < size)
    (g0 n c0 : Nat) (xs : List Value) (hs : a.eval s = .slice (some ⟨g0, 0, none⟩) n c0) (hown : w.ownsRow base e size (.slice (some ⟨g0, 0, none⟩) n c0) n xs)
    (v2 : Value) (base2 m : Nat) (news : List Value) (hx : a.eval x = v2) (hsrc : w.ownsRow base2 e size v2 m news) (h1 : ∀ u ∈ news, u.oneCell' = true)
    (h63 : n + m ≤ maxLen) (hbytes : (n + m) * bytes ≤ 140737488355328) (hbase : base ≤ w.heap.size)
    (h : ∀ g cap w', w'.ownsRow base e size (.slice (some ⟨g, 0, none⟩) (n + m) cap) (n + m) (xs ++ news) → w.grownBy w' (some g0) → (g = g0 ∨ g = w.heap.size) → g < w'.heap.size → wpList P ops Q rest (a.put o.dst (.slice (some ⟨g, 0, none⟩) (n + m) cap)) w') : wpList P ops Q (o :: rest) a w :=
  wpList_plain hgd fun _ hK => wp_append_src s x t ho base e i z size bytes ht hi hz hsize hby hzs hsz g0 n c0 xs hs hown v2 base2 m news hx hsrc h1 h63 hbytes hbase fun g cap w' h2 h3 h4 h5 => hK _ _ (h g cap w' h2 h3 h4 h5)

theorem step_append_src {P : Program} {w : World} {ops : Array Oper} {o : Oper} {a : Act} {K : Act → World → Prop} {Q : Exit → Act → World → Prop} {E : Prop} (hgd : o.guard = none) (s x : Operand) (t : TypeId)
    (ho : o.op = .call { callee := .builtin .append, args := #[s, x], argTypes := #[t, t] })
    (base : Nat) (e : TypeId) (i : TypeInfo) (z : Value) (size bytes : Nat) (ht : P.underlying t = some (.slice e)) (hi : P.info? e = some i) (hz : i.zero = some z)
    (hsize : i.size = size) (hby : i.bytes = bytes) (hzs : z.cells.size = size) (hsz : 0 < size)
    (g0 n c0 : Nat) (xs : List Value) (hs : a.eval s = .slice (some ⟨g0, 0, none⟩) n c0) (hown : w.ownsRow base e size (.slice (some ⟨g0, 0, none⟩) n c0) n xs)
    (v2 : Value) (base2 m : Nat) (news : List Value) (hx : a.eval x = v2) (hsrc : w.ownsRow base2 e size v2 m news) (h1 : ∀ u ∈ news, u.oneCell' = true)
    (h63 : n + m ≤ maxLen) (hbytes : (n + m) * bytes ≤ 140737488355328) (hbase : base ≤ w.heap.size)
    (h : ∀ g cap w', w'.ownsRow base e size (.slice (some ⟨g, 0, none⟩) (n + m) cap) (n + m) (xs ++ news) → w.grownBy w' (some g0) → (g = g0 ∨ g = w.heap.size) → g < w'.heap.size → K (a.put o.dst (.slice (some ⟨g, 0, none⟩) (n + m) cap)) w') :
    if Region.wanted o (yielded ops a.tmps) = true then Oper.wp P o a w K Q else E := by
  have hw : Region.wanted o (yielded ops a.tmps) = true := by simp [Region.wanted, hgd]
  rw [if_pos hw]
  exact wp_append_src s x t ho base e i z size bytes ht hi hz hsize hby hzs hsz g0 n c0 xs hs hown v2 base2 m news hx hsrc h1 h63 hbytes hbase h

theorem empty_row (w : World) (E size : Nat) : (w.alloc (.cells #[] E)).ownsRow w.heap.size E size (.slice (some ⟨w.heap.size, 0, none⟩) 0 0) 0 [] := World.ownsRow_made w #[] 0 (Nat.le_refl _) (by decide) (by simp)

end Go.Proofs.YtminiabpeodjaaaDoor
/-
  append OF A SLICE THAT CAN BE READ TO A ROW OF ONE's OWN. No walk.
-/
namespace Go.Proofs.YtminiabpeodjaaaDoor
set_option linter.unusedVariables false
set_option linter.unusedSimpArgs false
open Go.RowKit

theorem flat_len {α : Type} {cells : α → List Value} {n : Nat} (hc : ∀ x, (cells x).length = n) (l : List α) : (l.flatMap cells).length = l.length * n := by
  induction l with
  | nil => simp
  | cons x l ih => simp [List.flatMap_cons, hc, ih, Nat.add_mul]; omega
theorem flat_at {α : Type} {cells : α → List Value} {n : Nat} (hc : ∀ x, (cells x).length = n) (l : List α) : ∀ (k : Nat) (hk : k < l.length) (j : Nat), j < n → (l.flatMap cells)[k * n + j]? = (cells l[k])[j]? := by
  induction l with
  | nil => intro k hk; simp at hk
  | cons x l ih =>
    intro k hk j hj
    cases k with
    | zero => simp [List.flatMap_cons, List.getElem?_append_left, hc, hj]
    | succ k =>
      rw [List.flatMap_cons, List.getElem?_append_right (by rw [hc]; have : n ≤ (k + 1) * n := Nat.le_mul_of_pos_left n (by omega); omega), hc]
      have : (k + 1) * n + j - n = k * n + j := by rw [Nat.add_mul]; omega
      rw [this]
      simpa using ih k (by simpa using hk) j hj

/-- append of a slice that can be read to a row of one's own. -/
theorem run_app {P : Program} {α : Type} {cells : α → List Value} {w : World} (t ty e : TypeId) (i : TypeInfo) (z : Value) (size bytes : Nat) (ht : P.underlying t = some (.slice e)) (hi : P.info? e = some i) (hz : i.zero = some z)
    (hsize : i.size = size) (hby : i.bytes = bytes) (hzs : z.cells.size = size) (hsz : 0 < size) (hc : ∀ x, (cells x).length = size) (h1 : ∀ x, ∀ u ∈ cells x, u.oneCell' = true)
    {B n : Nat} {v : Value} {xs : List Value} (hown : w.ownsRow B e size v n xs) {ao : Option Addr} {cap : Nat} {l : List α} (hr : SRow size cells w (.slice ao l.length cap) l)
    (hb : (n + l.length) * bytes ≤ 140737488355328) (hbp : 0 < bytes) (hB : B ≤ w.heap.size) :
    ∃ v' w', (Builtin.append_ #[t, t] ty #[v, .slice ao l.length cap]).run P w = .ok v' w' ∧ w'.ownsRow B e size v' (n + l.length) (xs ++ l.flatMap cells) ∧ w.grownBy w' v.ownBlock ∧ (v'.ownBlock = v.ownBlock ∨ v'.ownBlock = some w.heap.size) := by
  have h63 : n + l.length ≤ maxLen := by
    unfold maxLen
    have : (n + l.length) * 1 ≤ (n + l.length) * bytes := Nat.mul_le_mul_left _ hbp
    omega
  cases ao with
  | none =>
    have hl0 : l = [] := by
      rcases l with _ | ⟨x, l⟩
      · rfl
      · obtain ⟨g, off, e, _⟩ := hr.at 0 (by simp); cases e
    subst hl0
    refine ⟨v, w, ?_, by simpa using hown, ⟨rfl, rfl, rfl, Nat.le_refl _, fun _ _ _ => rfl⟩, .inl rfl⟩
    rcases hown.2 with ⟨rfl, rfl⟩ | ⟨g, cap, cur, rfl, _, _, hnc, _⟩
    · simp [Builtin.append_, run_underlying ht, sizeOf, typeInfo, hi, Builtin.lenOf, Builtin.firstCells]
    · simp [Builtin.append_, run_underlying ht, sizeOf, typeInfo, hi, Builtin.lenOf, Builtin.firstCells, hnc, storeCells]
  | some a =>
    have hn : ∀ j u, (l.flatMap cells)[j]? = some u → w.cell? (a.add j) = some u := by
      intro j u hu
      have hj : j < l.length * size := by
        have := (List.getElem?_eq_some_iff.1 hu).1
        rwa [flat_len hc] at this
      have hk : j / size < l.length := Nat.div_lt_of_lt_mul (by rw [Nat.mul_comm]; exact hj)
      have hj2 : j % size < size := Nat.mod_lt _ hsz
      obtain ⟨g, off, e, _, hcc⟩ := hr.at (j / size) hk
      cases e
      have hjj : j = j / size * size + j % size := by rw [Nat.mul_comm]; exact (Nat.div_add_mod j size).symm
      have h2 := flat_at hc l (j / size) hk (j % size) hj2
      rw [← hjj, hu] at h2
      have h3 := hcc (j % size) hj2
      rw [Nat.add_assoc, ← hjj, ← h2] at h3
      rw [Addr.add_lit]
      exact h3
    obtain ⟨v', w', h1', h2, h3, h4, h5⟩ := run_append_own_at (P := P) w B t ty e i z size bytes ht hi hz hsize hby hzs hsz v n xs hown a l.length cap (l.flatMap cells) (flat_len hc l) hn
      (fun u hu => by obtain ⟨x, _, hx⟩ := List.mem_flatMap.1 hu; exact h1 x u hx) h63 hb hB
    exact ⟨v', w', h1', h2, h3, h5⟩

theorem flat_one {k : IntKind} (l : List Int) : l.flatMap (fun x : Int => [Value.int k x]) = l.map (Value.int k) := by
  induction l with
  | nil => rfl
  | cons x l ih => simp [List.flatMap_cons, ih]
theorem owns_slice {w : World} {B : Nat} {e : TypeId} {size : Nat} {v : Value} {n : Nat} {xs : List Value} (h : w.ownsRow B e size v n xs) : ∃ ao cap, v = .slice ao n cap := by
  rcases h.2 with ⟨rfl, rfl⟩ | ⟨g, cap, cur, rfl, _⟩
  · exact ⟨none, 0, rfl⟩
  · exact ⟨_, cap, rfl⟩
/-- A row of one's own can be read. -/
theorem srow_of {α : Type} {cells : α → List Value} {n : Nat} (hc : ∀ x, (cells x).length = n) {w : World} {B : Nat} {e : TypeId} {v : Value} {l : List α} (h : w.ownsRow B e n v l.length (l.flatMap cells)) : SRow n cells w v l := by
  rcases h.2 with ⟨rfl, h0⟩ | ⟨g, cap, cur, rfl, hb, hg, _⟩
  · have : l = [] := List.eq_nil_of_length_eq_zero h0
    subst this
    exact ⟨none, 0, rfl, fun h => absurd rfl h⟩
  · refine ⟨_, cap, rfl, fun _ => ⟨g, 0, rfl, lt_of_heap hg, fun k hk j hj => ?_⟩⟩
    have hkn : k * n + j < l.length * n := by
      have : (k + 1) * n ≤ l.length * n := Nat.mul_le_mul_right _ hk
      rw [Nat.add_mul] at this
      omega
    have h2 := flat_at hc l k hk j hj
    have hlt : k * n + j < (l.flatMap cells).length := by rw [flat_len hc]; exact hkn
    rw [← h2, List.getElem?_eq_getElem hlt]
    have := h.cells (g := g) rfl (k * n + j) _ (List.getElem?_eq_getElem hlt)
    rw [Addr.add_lit] at this
    rw [Nat.zero_add]
    simpa using this
theorem SRow.form {α : Type} {n : Nat} {cells : α → List Value} {w : World} {v : Value} {l : List α} (h : SRow n cells w v l) : ∃ ao cap, v = .slice ao l.length cap := by
  obtain ⟨ao, cap, e, _⟩ := h
  exact ⟨ao, cap, e⟩
/-- The block in which a row lies. -/
theorem SRow.keepB {α : Type} {n : Nat} {cells : α → List Value} {w w' : World} {v : Value} {l : List α} {S : List Nat} (h : SRow n cells w v l) (t : Touch w w' S) (hS : l ≠ [] → ∀ g, v.ownBlock = some g → g ∉ S) : SRow n cells w' v l := by
  obtain ⟨ao, cap, rfl, h1⟩ := h
  refine ⟨ao, cap, rfl, fun hn => ?_⟩
  obtain ⟨g, off, rfl, hlt, hc⟩ := h1 hn
  exact ⟨g, off, rfl, Nat.lt_of_lt_of_le hlt t.size, fun k hk j hj => (t.cell (p := ⟨g, _, none⟩) hlt (hS hn g rfl)).trans (hc k hk j hj)⟩
theorem SRow.block {α : Type} {n : Nat} {cells : α → List Value} {w : World} {v : Value} {l : List α} (h : SRow n cells w v l) (hl : l ≠ []) (g : Nat) (hg : v.ownBlock = some g) : g < w.heap.size := by
  obtain ⟨ao, cap, rfl, h1⟩ := h
  obtain ⟨g', off, rfl, hlt, _⟩ := h1 hl
  simp [Value.ownBlock] at hg
  omega

end Go.Proofs.YtminiabpeodjaaaDoor
/-
  package code: appended BY ITS CONTRACT.
-/
namespace Go.Proofs.YtminiabpeodjaaaDoor
set_option linter.unusedVariables false
set_option linter.unusedSimpArgs false
open Go.RowKit
attribute [local go_sem] Oper.semAt_some

theorem info_parts' {P : Program} {t : TypeId} {z : Value} {s b : Nat} (h : (P.info? t).map (fun i => (i.zero, i.size, i.bytes)) = some (some z, s, b)) : ∃ i, P.info? t = some i ∧ i.zero = some z ∧ i.size = s ∧ i.bytes = b := by
  cases hi : P.info? t with
  | none => rw [hi] at h; cases h
  | some i => rw [hi] at h; simp at h; exact ⟨i, rfl, h.1, h.2.1, h.2.2⟩
theorem Tryd.info_u8 : (Tryd.prog.info? 5).map (fun i => (i.zero, i.size, i.bytes)) = some (some (.int .u8 0), 1, 1) := by kernel_rfl

/-! ### Rows of bytes -/
abbrev bytOwn (w : World) (B : Nat) (v : Value) (l : List Int) : Prop := w.ownsRow B 5 1 v l.length (l.map (Value.int .u8))
abbrev ucell : Int → List Value := fun x => [Value.int .u8 x]
abbrev BRow := SRow 1 ucell
theorem byt_lt {w : World} {B : Nat} {v : Value} {l : List Int} (h : bytOwn w B v l) : ∀ g, v.ownBlock = some g → B ≤ g ∧ g < w.heap.size := by
  intro g hg
  rcases h.2 with ⟨e, h0⟩ | ⟨g', cap, cur, e, hb, hg', _⟩
  · rw [e] at hg; simp [Value.ownBlock] at hg
  · rw [e] at hg
    simp [Value.ownBlock] at hg
    subst hg
    exact ⟨hb, lt_of_heap hg'⟩
theorem byte_new (w : World) (x : Int) : BRow (w.alloc (.cells #[.int .u8 x] 5)) (.slice (some ⟨w.heap.size, 0, none⟩) 1 1) [x] := by
  refine ⟨_, 1, rfl, fun _ => ⟨w.heap.size, 0, rfl, by simp, fun k hk j hj => ?_⟩⟩
  have hk0 : k = 0 := by simpa using hk
  have hj0 : j = 0 := by omega
  subst hk0 hj0
  have h0 := heap_alloc_new w (.cells #[.int .u8 x] 5)
  show (match (w.alloc (.cells #[.int .u8 x] 5)).heap[w.heap.size]? with
    | some (Obj.cells c elem frozen) => c[0]?
    | x => none) = _
  rw [h0]; rfl
/-- One byte more. -/
theorem byt_push {w : World} {B : Nat} {v : Value} {xs : List Int} (h : bytOwn w B v xs) (hl : xs.length ≤ 100000) (hB : B ≤ w.heap.size) (x : Int) (ty : TypeId) :
    ∃ ao' cap' w', (Builtin.append_ #[39, 39] ty #[v, .slice (some ⟨w.heap.size, 0, none⟩) 1 1]).run Tryd.prog (w.alloc (.cells #[.int .u8 x] 5)) = .ok (.slice ao' (xs.length + 1) cap') w' ∧ bytOwn w' B (.slice ao' (xs.length + 1) cap') (xs ++ [x]) ∧ Touch w w' v.ownBlock.toList ∧ (∀ g, (Value.slice ao' (xs.length + 1) cap').ownBlock = some g → v.ownBlock = some g ∨ w.heap.size ≤ g) := by
  obtain ⟨i0, hi, hz0, hz1, hz2⟩ := info_parts' Tryd.info_u8
  obtain ⟨v', w', h1, h2, h3, h4⟩ := run_app (P := Tryd.prog) (cells := ucell) 39 ty 5 i0 _ 1 1 Tryd.underlying39 hi hz0 hz1 hz2 rfl (by decide) (fun _ => rfl) (by simp [ucell, Value.oneCell']) (h.alloc (.cells #[.int .u8 x] 5)) (l := [x]) (byte_new w x) (by simp only [List.length_cons, List.length_nil]; omega) (by decide) (by simp; omega)
  have h2' : bytOwn w' B v' (xs ++ [x]) := by
    show w'.ownsRow _ _ _ _ _ _
    rw [flat_one] at h2
    rw [List.length_append, List.map_append]
    simpa using h2
  obtain ⟨ao', cap', rfl⟩ := owns_slice h2'
  simp only [List.length_append, List.length_cons, List.length_nil, Nat.zero_add] at h1 h2' h4
  refine ⟨ao', cap', w', h1, h2', ?_, ?_⟩
  · exact ((Touch.refl w _).alloc _).grown h3 (fun k hk => .inl (by simp [hk]))
  · intro g hg
    rcases h4 with h4 | h4
    · left; rw [← h4]; exact hg
    · right; rw [h4] at hg; simp at hg; omega

/-! ### The bytes of an instruction -/
/-- The first k of a Val's eight bytes, the highest first. -/
def valB (v : Nat) (k : Nat) : List Int := (List.range k).map (fun i => ((v / 2 ^ (8 * (7 - i)) % 256 : Nat) : Int))
theorem valB_snoc (v k : Nat) : valB v (k + 1) = valB v k ++ [((v / 2 ^ (8 * (7 - k)) % 256 : Nat) : Int)] := by
  unfold valB; rw [List.range_succ, List.map_append]; rfl
theorem valB_len (v k : Nat) : (valB v k).length = k := by simp [valB]
def encI (i : InsD) : List Int := i.op :: ((if argP i.op then [i.arg % 256] else []) ++ (if valP i.op then valB i.val.toNat 8 else []))

end Go.Proofs.YtminiabpeodjaaaDoor
/-
  package code: appended BY ITS CONTRACT.
-/
namespace Go.Proofs.YtminiabpeodjaaaDoor
set_option linter.unusedVariables false
set_option linter.unusedSimpArgs false
open Go.RowKit
attribute [local go_sem] Oper.semAt_some

/-- A row that has become longer. -/
def BPost (w : World) (B : Nat) (v : Value) (l : List Int) (v' : Value) (w' : World) : Prop := bytOwn w' B v' l ∧ Touch w w' v.ownBlock.toList ∧ ∀ g, v'.ownBlock = some g → v.ownBlock = some g ∨ w.heap.size ≤ g
theorem BPost.trans {w w1 w2 : World} {B : Nat} {v v1 v2 : Value} {l1 l2 : List Int} (h1 : BPost w B v l1 v1 w1) (h2 : BPost w1 B v1 l2 v2 w2) : BPost w B v l2 v2 w2 := by
  refine ⟨h2.1, h1.2.1.trans h2.2.1 (fun x hx => ?_), fun g hg => ?_⟩
  · have := h1.2.2 x (by simpa using hx)
    rcases this with h | h
    · exact .inl (by simp [h])
    · exact .inr h
  · rcases h2.2.2 g hg with h | h
    · exact h1.2.2 g h
    · exact .inr (Nat.le_trans h1.2.1.size h)

theorem arg_val {o : Int} (h : argP o = true) : valP o = false := by
  simp [argP] at h
  simp [valP]
  omega
theorem byte_of (a : Int) : IntKind.u8.wrap a = a % 256 := by
  first
  | rfl
  | (rw [IntKind.wrap_u8])
  | (unfold IntKind.wrap; simp [IntKind.signed, IntKind.bits])

set_option maxRecDepth 100000 in
set_option maxHeartbeats 4000000 in
theorem appended_any {w : World} {B : Nat} {v : Value} {l : List Int} (h : bytOwn w B v l) (hB : B ≤ w.heap.size) (hl : l.length ≤ 50000) (i : InsD) (hw : i.Wf) :
    Calls Tryd.prog 36 #[v, i.v] w fun e w' => ∃ v', e = .returned v' ∧ BPost w B v (l ++ encI i) v' w' := by
  obtain ⟨ao, cap, rfl⟩ := owns_slice h
  obtain ⟨o, a, x⟩ := i
  have hwv := hw.val
  obtain ⟨n, hn⟩ := Int.eq_ofNat_of_zero_le hwv.1
  have hx : x = (n : Int) := hn
  subst hx
  have hn64 : n < 18446744073709551616 := by have := hwv.2; simp only at this; omega
  simp only [InsD.v, encI]
  simp only [Int.toNat_natCast]
  clear hw hwv hn
  have T0 : Touch w (w.alloc (.cells #[.int .u8 o, .int .i64 a, .int .u64 (n : Int)] 26)) [] := (Touch.refl w []).alloc _
  have hb0 : (w.alloc (.cells #[.int .u8 o, .int .i64 a, .int .u64 (n : Int)] 26)).heap[w.heap.size]? = some (.cells #[.int .u8 o, .int .i64 a, .int .u64 (n : Int)] 26 (0, 0)) := heap_alloc_new w _
  have hq : w.heap.size ∉ (Value.slice ao l.length cap).ownBlock.toList := fun hs => by have := (byt_lt h w.heap.size (by simpa using hs)).2; omega
  have h0 : bytOwn (w.alloc (.cells #[.int .u8 o, .int .i64 a, .int .u64 (n : Int)] 26)) B (.slice ao l.length cap) l := ownsRow_touch h T0 (by simp)
  obtain ⟨a1, c1, w1, hr1, ho1, t1, hb1⟩ := byt_push h0 (by omega) (by simp; omega) o 39
  have P1 : BPost w B (.slice ao l.length cap) (l ++ [o]) (.slice a1 (l.length + 1) c1) w1 := ⟨ho1, (T0.mono (by simp)).trans t1 (fun y hy => .inl hy), fun g hg => (hb1 g hg).imp id (fun h5 => by simp at h5; omega)⟩
  have HB1 : Hid ((Value.slice a1 (l.length + 1) c1).ownBlock ≠ some w.heap.size) := fun hs => by
    rcases hb1 _ hs with h5 | h5
    · have := (byt_lt h _ h5).2; omega
    · simp at h5; omega
  have HC : Hid (∀ W S, Touch (w.alloc (.cells #[.int .u8 o, .int .i64 a, .int .u64 (n : Int)] 26)) W S → w.heap.size ∉ S → W.cell? ⟨w.heap.size, 0, none⟩ = some (.int .u8 o) ∧ W.cell? ⟨w.heap.size, 1, none⟩ = some (.int .i64 a) ∧ W.cell? ⟨w.heap.size, 2, none⟩ = some (.int .u64 (n : Int))) := fun W S T hS => by
    have hb := (T.block w.heap.size (by simp) hS).trans hb0
    exact ⟨by unfold World.cell?; rw [hb]; rfl, by unfold World.cell?; rw [hb]; rfl, by unfold World.cell?; rw [hb]; rfl⟩
  obtain ⟨q0, q1, q2⟩ := HC.out _ [] (Touch.refl _ []) (by simp)
  obtain ⟨k0, k1, k2⟩ := HC.out w1 _ t1 hq
  have HQ : Hid _ := hq
  have HP1 : Hid _ := P1
  have HT1 : Hid _ := t1
  have hu : HidC _ _ _ _ _ := ⟨uses_any o w1⟩
  have hex := arg_val (o := o)
  generalize argP o = ap at *
  generalize valP o = vp at *
  clear h h0 T0 hb0 ho1 t1 hb1 P1 hq
  simp only [World.size_alloc] at hr1
  generalize hL : l.length = N at *
  have HL : Hid _ := hL
  generalize hVB : valB n 8 = vb at *
  have HVB : Hid _ := hVB
  clear hL hVB
  go_enter Tryd.func36, Tryd.ntmps36
  go_wp2_with (at_builtin; refine Lib.wpList_append_run _ rfl _ _ _ _ rfl _ _ rfl rfl _ _ hr1 ?_)
  refine hu.out.mono ?_
  rintro e w2 ⟨rfl, rfl⟩
  clear hu hr1 q0 q1 q2
  cases ap with
  | true =>
    obtain rfl : vp = false := hex rfl
    obtain ⟨a2, c2, w2, hr2, ho2, t2, hb2⟩ := byt_push (HP1.out.1) (by have := HL.out; simp; omega) (Nat.le_trans hB HP1.out.2.1.size) (a % 256) 39
    have hw8 := byte_of a
    have hLL : (l ++ [o]).length = N + 1 := by have := HL.out; simp; omega
    rw [hLL] at hr2 ho2 hb2
    have HP2 : Hid (BPost w B (.slice ao N cap) (l ++ [o, a % 256]) (.slice a2 (N + 1 + 1) c2) w2) := BPost.trans HP1.out ⟨by have := ho2; simpa using this, t2, hb2⟩
    clear ho2 t2 hb2 hLL hex
    go_wp2_with (at_builtin; refine Lib.wpList_append_run _ rfl _ _ _ _ rfl _ _ rfl rfl _ _ hr2 ?_)
    go_wp2
    go_ret
    exact ⟨_, rfl, by simp only [Bool.false_eq_true, if_false, if_true, List.append_nil]; exact HP2.out⟩
  | false =>
    cases vp with
    | false =>
      go_wp2
      go_ret
      exact ⟨_, rfl, by simp only [Bool.false_eq_true, if_false, List.append_nil]; exact HP1.out⟩
    | true =>
      clear hex
      have hB1 := HB1.out
      go_wp2_with fail
      go_loopw [0, 27] (fun vc i wr => ∃ k : Nat, i = .int .i64 k ∧ k ≤ 8 ∧ BPost w B (.slice ao N cap) (l ++ (o :: valB n k)) vc wr ∧ vc.ownBlock ≠ some w.heap.size ∧ wr.cell? ⟨w.heap.size, 2, none⟩ = some (.int .u64 (n : Int)) ∧ w.heap.size < wr.heap.size) (fun _ i _ => 8 - (intOf i).toNat)
      case atStart => exact ⟨0, rfl, by omega, HP1.out, hB1, k2, World.block_lt_of_cell? w1 _ k2⟩
      case round =>
        obtain ⟨k, rfl, hk, hP, hnb, hcq, hqs⟩ := hrel
        by_cases hlt : k < 8
        · have h1 : (k : Int) < 8 := by omega
          have hlen : (l ++ (o :: valB n k)).length = N + 1 + k := by have := HL.out; simp [valB_len]; omega
          obtain ⟨av, cv, rfl⟩ := owns_slice hP.1
          obtain ⟨a3, c3, w3, hr3, ho3, t3, hb3⟩ := byt_push hP.1 (by omega) (Nat.le_trans hB hP.2.1.size) ((n / 2 ^ (8 * (7 - k)) % 256 : Nat) : Int) 39
          have HP3 : Hid (BPost w B (.slice ao N cap) (l ++ (o :: valB n (k + 1))) (.slice a3 ((l ++ (o :: valB n k)).length + 1) c3) w3) := hP.trans ⟨by rw [valB_snoc]; have := ho3; simpa using this, t3, hb3⟩
          have HN3 : Hid ((Value.slice a3 ((l ++ (o :: valB n k)).length + 1) c3).ownBlock ≠ some w.heap.size) := fun hs => by
            rcases hb3 _ hs with h5 | h5
            · exact hnb h5
            · omega
          have HC3 : Hid (w3.cell? ⟨w.heap.size, 2, none⟩ = some (.int .u64 (n : Int))) := (t3.cell (p := ⟨w.heap.size, 2, none⟩) hqs (by simpa using hnb)).trans hcq
          have HS3 : Hid (w.heap.size < w3.heap.size) := Nat.lt_of_lt_of_le hqs t3.size
          clear ho3 t3 hb3 hP hlen
          generalize (l ++ (o :: valB n k)).length = Z at *
          rcases (show k = 0 ∨ k = 1 ∨ k = 2 ∨ k = 3 ∨ k = 4 ∨ k = 5 ∨ k = 6 ∨ k = 7 by omega) with rfl | rfl | rfl | rfl | rfl | rfl | rfl | rfl
          · have ey : ((n / 2 ^ (8 * (7 - 0)) % 256 : Nat) : Int) = (n : Int) / 72057594037927936 := by
              show ((n / 72057594037927936 % 256 : Nat) : Int) = _
              omega
            rw [ey] at hr3
            clear ey
            go_wp2_with (at_builtin; refine Lib.wpList_append_run _ rfl _ _ _ _ rfl _ _ rfl rfl _ _ hr3 ?_)
            go_wp2
            go_roundw
            case rel => exact ⟨1, by go_num, by omega, HP3.out, HN3.out, HC3.out, HS3.out⟩
            case measure => simp [intOf]
          · have ey : ((n / 2 ^ (8 * (7 - 1)) % 256 : Nat) : Int) = (n : Int) / 281474976710656 % 256 := by
              show ((n / 281474976710656 % 256 : Nat) : Int) = _
              omega
            rw [ey] at hr3
            clear ey
            go_wp2_with (at_builtin; refine Lib.wpList_append_run _ rfl _ _ _ _ rfl _ _ rfl rfl _ _ hr3 ?_)
            go_wp2
            go_roundw
            case rel => exact ⟨2, by go_num, by omega, HP3.out, HN3.out, HC3.out, HS3.out⟩
            case measure => simp [intOf]
          · have ey : ((n / 2 ^ (8 * (7 - 2)) % 256 : Nat) : Int) = (n : Int) / 1099511627776 % 256 := by
              show ((n / 1099511627776 % 256 : Nat) : Int) = _
              omega
            rw [ey] at hr3
            clear ey
            go_wp2_with (at_builtin; refine Lib.wpList_append_run _ rfl _ _ _ _ rfl _ _ rfl rfl _ _ hr3 ?_)
            go_wp2
            go_roundw
            case rel => exact ⟨3, by go_num, by omega, HP3.out, HN3.out, HC3.out, HS3.out⟩
            case measure => simp [intOf]
          · have ey : ((n / 2 ^ (8 * (7 - 3)) % 256 : Nat) : Int) = (n : Int) / 4294967296 % 256 := by
              show ((n / 4294967296 % 256 : Nat) : Int) = _
              omega
            rw [ey] at hr3
            clear ey
            go_wp2_with (at_builtin; refine Lib.wpList_append_run _ rfl _ _ _ _ rfl _ _ rfl rfl _ _ hr3 ?_)
            go_wp2
            go_roundw
            case rel => exact ⟨4, by go_num, by omega, HP3.out, HN3.out, HC3.out, HS3.out⟩
            case measure => simp [intOf]
          · have ey : ((n / 2 ^ (8 * (7 - 4)) % 256 : Nat) : Int) = (n : Int) / 16777216 % 256 := by
              show ((n / 16777216 % 256 : Nat) : Int) = _
              omega
            rw [ey] at hr3
            clear ey
            go_wp2_with (at_builtin; refine Lib.wpList_append_run _ rfl _ _ _ _ rfl _ _ rfl rfl _ _ hr3 ?_)
            go_wp2
            go_roundw
            case rel => exact ⟨5, by go_num, by omega, HP3.out, HN3.out, HC3.out, HS3.out⟩
            case measure => simp [intOf]
          · have ey : ((n / 2 ^ (8 * (7 - 5)) % 256 : Nat) : Int) = (n : Int) / 65536 % 256 := by
              show ((n / 65536 % 256 : Nat) : Int) = _
              omega
            rw [ey] at hr3
            clear ey
            go_wp2_with (at_builtin; refine Lib.wpList_append_run _ rfl _ _ _ _ rfl _ _ rfl rfl _ _ hr3 ?_)
            go_wp2
            go_roundw
            case rel => exact ⟨6, by go_num, by omega, HP3.out, HN3.out, HC3.out, HS3.out⟩
            case measure => simp [intOf]
          · have ey : ((n / 2 ^ (8 * (7 - 6)) % 256 : Nat) : Int) = (n : Int) / 256 % 256 := by
              show ((n / 256 % 256 : Nat) : Int) = _
              omega
            rw [ey] at hr3
            clear ey
            go_wp2_with (at_builtin; refine Lib.wpList_append_run _ rfl _ _ _ _ rfl _ _ rfl rfl _ _ hr3 ?_)
            go_wp2
            go_roundw
            case rel => exact ⟨7, by go_num, by omega, HP3.out, HN3.out, HC3.out, HS3.out⟩
            case measure => simp [intOf]
          · have ey : ((n / 2 ^ (8 * (7 - 7)) % 256 : Nat) : Int) = (n : Int) % 256 := by
              show ((n / 1 % 256 : Nat) : Int) = _
              omega
            rw [ey] at hr3
            clear ey
            go_wp2_with (at_builtin; refine Lib.wpList_append_run _ rfl _ _ _ _ rfl _ _ rfl rfl _ _ hr3 ?_)
            go_wp2
            go_roundw
            case rel => exact ⟨8, by go_num, by omega, HP3.out, HN3.out, HC3.out, HS3.out⟩
            case measure => simp [intOf]
        · obtain rfl : k = 8 := by omega
          have HP8 : Hid _ := hP
          obtain ⟨av, cv, rfl⟩ := owns_slice hP.1
          clear hP
          generalize hZ : (l ++ (o :: valB n 8)).length = Z at HP8 ⊢
          clear hZ
          go_wp2
          go_ret
          refine ⟨_, rfl, ?_⟩
          simp only [Bool.false_eq_true, if_false, if_true, List.nil_append]
          rw [← HVB.out]
          exact HP8.out

end Go.Proofs.YtminiabpeodjaaaDoor
/-
  package code: Encode BY ITS CONTRACT.
-/
namespace Go.Proofs.YtminiabpeodjaaaDoor
set_option linter.unusedVariables false
set_option linter.unusedSimpArgs false
open Go.RowKit
attribute [local go_sem] Oper.semAt_some

abbrev InsRow := SRow 3 InsD.cells
theorem ins_at {w W : World} {ao : Option Addr} {cap : Nat} {l : List InsD} (h : InsRow w (.slice ao l.length cap) l) {S : List Nat} (t : Touch w W S) (hS : ∀ x ∈ S, w.heap.size ≤ x) (k : Nat) (hk : k < l.length) :
    ∃ g off, ao = some ⟨g, off, none⟩ ∧ W.cell? ⟨g, off + k * 3, none⟩ = some (.int .u8 l[k].op) ∧ W.cell? ⟨g, off + k * 3 + 1, none⟩ = some (.int .i64 l[k].arg) ∧ W.cell? ⟨g, off + k * 3 + 2, none⟩ = some (.int .u64 l[k].val) := by
  obtain ⟨g, off, e, hg, hc⟩ := h.at k hk
  have hgs : g ∉ S := fun hs => by have := hS g hs; omega
  exact ⟨g, off, e, (t.cell (p := ⟨g, off + k * 3, none⟩) hg hgs).trans (hc 0 (by omega)), (t.cell (p := ⟨g, off + k * 3 + 1, none⟩) hg hgs).trans (hc 1 (by omega)), (t.cell (p := ⟨g, off + k * 3 + 2, none⟩) hg hgs).trans (hc 2 (by omega))⟩

def encL (l : List InsD) : List Int := l.flatMap encI
theorem encL_snoc {l : List InsD} {k : Nat} (hk : k < l.length) : encL (l.take (k + 1)) = encL (l.take k) ++ encI l[k] := by
  unfold encL; rw [List.take_succ_eq_append_getElem hk, List.flatMap_append]; simp
theorem encI_len (i : InsD) : (encI i).length ≤ 10 := by
  unfold encI
  rw [List.length_cons, List.length_append]
  have h1 : (if argP i.op then [i.arg % 256] else ([] : List Int)).length ≤ 1 := by split <;> simp
  have h2 : (if valP i.op then valB i.val.toNat 8 else ([] : List Int)).length ≤ 8 := by split <;> simp [valB_len]
  omega
theorem encL_len (l : List InsD) : (encL l).length ≤ 10 * l.length := by
  unfold encL
  induction l with
  | nil => simp
  | cons x l ih => rw [List.flatMap_cons, List.length_append, List.length_cons]; have := encI_len x; omega

/-- What Encode comes to. -/
def EncPost (w : World) (l : List InsD) (e : Ending) (w' : World) : Prop :=
  (l.all rightI = true ∧ ∃ v, e = .returned (.tuple #[v, .int .i64 0]) ∧ bytOwn w' w.heap.size v (encL l) ∧ Touch w w' []) ∨ (l.all rightI = false ∧ e = .returned (.tuple #[.slice none 0 0, .int .i64 3]) ∧ Touch w w' [])

set_option maxRecDepth 100000 in
set_option maxHeartbeats 2000000 in
theorem encode_any {w : World} {ao : Option Addr} {cap : Nat} {l : List InsD} (hr : InsRow w (.slice ao l.length cap) l) (hl : l.length ≤ 1000) (hwf : ∀ i ∈ l, i.Wf) :
    Calls Tryd.prog 21 #[.slice ao l.length cap] w (EncPost w l) := by
  have HR : Hid _ := hr
  have HW : Hid _ := hwf
  obtain ⟨N, hN⟩ : ∃ N, N = l.length := ⟨_, rfl⟩
  have HN : Hid _ := hN
  rw [← hN] at hl ⊢
  clear hr hwf hN
  go_enter Tryd.func21, Tryd.ntmps21
  go_wp2_with fail
  go_loopw [4, 9] (fun v i wr => ∃ k : Nat, i = .int .i64 k ∧ k ≤ N ∧ (l.take k).all rightI = true ∧ bytOwn wr w.heap.size v (encL (l.take k)) ∧ Touch w wr []) (fun _ i _ => N - (intOf i).toNat)
  case atStart => exact ⟨0, rfl, Nat.zero_le _, by simp, World.ownsRow_nil _ _ _ _, Touch.refl _ _⟩
  case round =>
    obtain ⟨k, rfl, hk, hall, hrow, hT⟩ := hrel
    have HT : Hid _ := hT
    have HALL : Hid _ := hall
    have hsz := hT.size
    by_cases hlt : k < N
    · have h1 : (k : Int) < N := by omega
      have h0 : (0 : Int) ≤ k := by omega
      have hkl : k < l.length := by rw [← HN.out]; exact hlt
      obtain ⟨g, off, rfl, d0, d1, d2⟩ := ins_at HR.out hT (by simp) k hkl
      have HSN : Hid _ := encL_snoc hkl
      have HA2 : Hid ((l.take (k + 1)).all rightI = rightI l[k]) := by show _ = _; rw [List.take_succ_eq_append_getElem hkl, List.all_append, HALL.out]; simp
      have HAF : Hid (rightI l[k] = false → l.all rightI = false) := fun hf => by
        rw [List.all_eq_false]
        exact ⟨l[k], List.getElem_mem hkl, by rw [hf]; simp⟩
      have hle := Nat.le_trans (encL_len (l.take k)) (show 10 * (l.take k).length ≤ 10000 by rw [List.length_take]; omega)
      have hw := HW.out _ (List.getElem_mem hkl)
      generalize l[k] = i at *
      obtain ⟨io, ia, iv⟩ := i
      simp only at d0 d1 d2
      -- the box
      have T1 : Touch wr (wr.alloc (.cells #[.int .u8 io, .int .i64 ia, .int .u64 iv] 26)) [] := (Touch.refl wr []).alloc _
      have hrt : HidC _ _ _ _ _ := ⟨cright_any ⟨io, ia, iv⟩ (wr.alloc (.cells #[.int .u8 io, .int .i64 ia, .int .u64 iv] 26))⟩
      have hb0 : (wr.alloc (.cells #[.int .u8 io, .int .i64 ia, .int .u64 iv] 26)).heap[wr.heap.size]? = some (.cells #[.int .u8 io, .int .i64 ia, .int .u64 iv] 26 (0, 0)) := heap_alloc_new wr _
      have HB : Hid (∀ W, Touch (wr.alloc (.cells #[.int .u8 io, .int .i64 ia, .int .u64 iv] 26)) W [] → W.cell? ⟨wr.heap.size, 0, none⟩ = some (.int .u8 io) ∧ W.cell? ⟨wr.heap.size, 1, none⟩ = some (.int .i64 ia) ∧ W.cell? ⟨wr.heap.size, 2, none⟩ = some (.int .u64 iv)) := fun W T => by
        have hb := (T.block wr.heap.size (by simp) (by simp)).trans hb0
        exact ⟨by unfold World.cell?; rw [hb]; rfl, by unfold World.cell?; rw [hb]; rfl, by unfold World.cell?; rw [hb]; rfl⟩
      obtain ⟨b0, b1, b2⟩ := HB.out _ (Touch.refl _ [])
      have HT1 : Hid _ := T1
      have HROW : Hid _ := hrow
      simp only [InsD.v] at hrt
      clear hb0 T1 hall hT
      go_wp2_with fail
      refine hrt.out.mono ?_
      rintro e w2 ⟨rfl, t2⟩
      clear hrt
      obtain ⟨b3, b4, b5⟩ := HB.out _ t2
      have T2 : Touch wr w2 [] := HT1.out.trans t2 (by simp)
      have HT2 : Hid _ := HT.out.trans T2 (by simp)
      cases hri : rightI ⟨io, ia, iv⟩ with
      | false =>
        have HF : Hid _ := HAF.out hri
        clear hri t2 T2 hrow
        go_wp2
        refine bodyPost_ret (v := .tuple #[.slice none 0 0, .int .i64 3]) (by simp [results, Tryd.results21, go_sem]) rfl ?_
        exact .inr ⟨HF.out, rfl, HT2.out⟩
      | true =>
        have hrow2 : bytOwn w2 w.heap.size _ _ := ownsRow_touch HROW.out T2 (by simp)
        have hap : HidC _ _ _ _ _ := ⟨appended_any hrow2 HT2.out.size (by omega) ⟨io, ia, iv⟩ hw⟩
        rw [← HSN.out] at hap
        have HA3 : Hid ((l.take (k + 1)).all rightI = true) := by show _ = _; rw [HA2.out, hri]
        have HLT : Hid (∀ q, u4.ownBlock = some q → w.heap.size ≤ q) := fun q hq => (byt_lt hrow2 q hq).1
        simp only [InsD.v] at hap
        obtain ⟨av, cv, rfl⟩ := owns_slice hrow2
        clear hri t2 T2 hrow hrow2
        go_wp2_with fail
        refine hap.out.mono ?_
        rintro e w3 ⟨v3, rfl, hP3⟩
        have HO3 : Hid _ := hP3.1
        have HT3 : Hid _ := HT2.out.trans hP3.2.1 (fun q hq => .inr (HLT.out q (by simpa using hq)))
        obtain ⟨a3, c3, rfl⟩ := owns_slice hP3.1
        clear hap hP3
        go_wp2
        go_roundw
        case rel => exact ⟨k + 1, by go_num, by omega, HA3.out, HO3.out, HT3.out⟩
        case measure => simp [intOf]; omega
    · obtain rfl : k = N := by omega
      have hal : l.take k = l := by rw [HN.out, List.take_length]
      rw [hal] at hrow hall
      have HO : Hid _ := hrow
      have HA : Hid _ := hall
      obtain ⟨av, cv, rfl⟩ := owns_slice hrow
      clear hrow hall hT hal
      generalize hZ : (encL l).length = Z
      have HZ : Hid _ := hZ
      clear hZ
      go_wp2
      refine bodyPost_ret (v := .tuple #[.slice av Z cv, .int .i64 0]) (by simp [results, Tryd.results21, go_sem]) rfl ?_
      refine .inl ⟨HA.out, _, rfl, ?_, HT.out⟩
      rw [← HZ.out]
      exact HO.out

end Go.Proofs.YtminiabpeodjaaaDoor
/-
  package code: taken, OF THE BYTES OF ONE RIGHT INSTRUCTION, BY ITS CONTRACT.
-/
namespace Go.Proofs.YtminiabpeodjaaaDoor
set_option linter.unusedVariables false
set_option linter.unusedSimpArgs false
open Go.RowKit
attribute [local go_sem] Oper.semAt_some

theorem BRow.one {w : World} {ao : Option Addr} {cap : Nat} {l : List Int} (h : BRow w (.slice ao l.length cap) l) (k : Nat) (hk : k < l.length) :
    ∃ g off, ao = some ⟨g, off, none⟩ ∧ g < w.heap.size ∧ w.cell? ⟨g, off + k, none⟩ = some (.int .u8 l[k]) := by
  obtain ⟨g, off, e, hlt, hc⟩ := h.at k hk
  exact ⟨g, off, e, hlt, by simpa using hc 0 (by omega)⟩

/-- What a right one is. -/
theorem right_arg {i : InsD} (h : rightI i = true) (hp : argP i.op = true) : 0 ≤ i.arg ∧ i.arg ≤ 63 ∧ i.val = 0 := by
  have hv := arg_val hp
  simp only [rightI, Bool.and_eq_true, decide_eq_true_eq, Bool.or_eq_true] at h
  obtain ⟨⟨⟨⟨⟨h1, h2⟩, h3⟩, h4⟩, h5⟩, h6⟩ := h
  rw [hv] at h3
  have : highP i.op ≤ 63 := by unfold highP; split <;> (try split) <;> omega
  exact ⟨h4, by omega, by simpa using h3⟩
theorem right_none {i : InsD} (h : rightI i = true) (hp : argP i.op = false) : i.arg = 0 := by
  simp only [rightI, Bool.and_eq_true, decide_eq_true_eq, Bool.or_eq_true] at h
  obtain ⟨⟨⟨⟨⟨h1, h2⟩, h3⟩, h4⟩, h5⟩, h6⟩ := h
  rw [hp] at h2
  simpa using h2
theorem right_noval {i : InsD} (h : rightI i = true) (hp : valP i.op = false) : i.val = 0 := by
  simp only [rightI, Bool.and_eq_true, decide_eq_true_eq, Bool.or_eq_true] at h
  obtain ⟨⟨⟨⟨⟨h1, h2⟩, h3⟩, h4⟩, h5⟩, h6⟩ := h
  rw [hp] at h3
  simpa using h3

/-- The bytes of a Val, one by one. -/
theorem val_step (n k : Nat) (hk : k < 8) (hn : n < 18446744073709551616) : n / 2 ^ (8 * (8 - (k + 1))) = n / 2 ^ (8 * (8 - k)) * 256 + n / 2 ^ (8 * (7 - k)) % 256 := by
  have e1 : 8 * (8 - (k + 1)) = 8 * (7 - k) := by omega
  have e2 : 2 ^ (8 * (8 - k)) = 2 ^ (8 * (7 - k)) * 256 := by
    have : 8 * (8 - k) = 8 * (7 - k) + 8 := by omega
    rw [this, Nat.pow_add]
  rw [e1, e2, ← Nat.div_div_eq_div_mul]
  omega
theorem or_byte (m b : Nat) (hm : m < 72057594037927936) (hb : b < 256) : bits .or .u64 ((m * 256 : Nat) : Int) (b : Int) = ((m * 256 + b : Nat) : Int) := by
  rw [u64_or_nat (m * 256) b (by omega) (by omega)]
  congr 1
  have h := Nat.two_pow_add_eq_or_of_lt (i := 8) (b := b) (by omega) m
  have e : 2 ^ 8 * m = m * 256 := by omega
  rw [e] at h
  omega

theorem res_cell {fn : Func} {p : Tmp} {ty : TypeId} (h : fn.results = #[.cell p ty]) (tmps : Array Value) (P : Program) (w : World) :
    (results fn tmps).run P w = ((asAddr (tmps.getD p undef)).run P w).andThen fun a w₁ => (loadVar ty a).run P w₁ := by
  simp only [results, h]
  simp [Sem.run_bind, Result.andThen]

/-- What bytes can say, right or not. -/
structure FitI (i : InsD) : Prop where
  arg : argP i.op = true → 0 ≤ i.arg ∧ i.arg ≤ 255 ∧ i.val = 0
  none : argP i.op = false → i.arg = 0
  noval : valP i.op = false → i.val = 0
theorem fit_of {i : InsD} (h : rightI i = true) : FitI i := ⟨fun hp => by have := right_arg h hp; omega, right_none h, right_noval h⟩

set_option maxRecDepth 100000 in
set_option maxHeartbeats 1000000 in
theorem taken_fit {w : World} {ao : Option Addr} {cap : Nat} (i : InsD) (hr : BRow w (.slice ao (encI i).length cap) (encI i)) (hi : FitI i) (hw : i.Wf) (hc : (encI i).length ≤ cap) :
    Calls Tryd.prog 38 #[.slice ao (encI i).length cap] w fun e w' => e = .returned i.v ∧ Touch w w' [] := by
  obtain ⟨g, off, rfl, hg, d0⟩ := hr.one 0 (by simp [encI])
  have d0' : w.cell? ⟨g, off, none⟩ = some (.int .u8 i.op) := by simpa [encI] using d0
  have HU : Hid (∀ W, HidC _ _ _ W _) := fun W => ⟨uses_any i.op W⟩
  have hopw := hw.op
  have h255 : IntKind.u8.wrap i.op = i.op := by rw [byte_of]; omega
  clear d0
  cases hap : argP i.op with
  | true =>
    have hvp := arg_val hap
    obtain ⟨ha0, ha1, hv0⟩ := hi.arg hap
    have hen : encI i = [i.op, i.arg % 256] := by unfold encI; rw [hap, hvp]; rfl
    have hmod : i.arg % 256 = i.arg := by omega
    rw [hmod] at hen
    rw [hap, hvp] at HU
    rw [hen] at hr hc ⊢
    obtain ⟨g', off', e', hg', d1⟩ := hr.one 1 (by simp)
    simp only [Option.some.injEq, Addr.mk.injEq] at e'
    obtain ⟨rfl, rfl, _⟩ := e'
    have d1' : w.cell? ⟨g, off + 1, none⟩ = some (.int .u8 i.arg) := by simpa using d1
    obtain ⟨o, a, x⟩ := i
    simp only at d0' d1' ha0 ha1 hv0 HU hopw h255 ⊢
    subst hv0
    simp only [InsD.v, List.length_cons, List.length_nil, Nat.zero_add]
    have hwa : IntKind.i64.wrap a = a := by rw [IntKind.wrap_i64]; omega
    have hq : g ≠ w.heap.size := by omega
    have hq1 : g ≠ w.heap.size + 1 := by omega
    clear hr hi hw hen hmod d1 hap hvp hc
    go_enter Tryd.func38, Tryd.ntmps38
    go_wp2_with fail
    refine (HU.out _).out.mono ?_
    rintro e w2 ⟨rfl, rfl⟩
    go_wp2
    refine bodyPost_ret (v := .agg #[.int .u8 o, .int .i64 a, .int .u64 0]) ?_ rfl ⟨rfl, ((Touch.refl w []).alloc _).alloc _⟩
    rw [res_cell rfl]
    go_simp
  | false =>
    have ha0 := hi.none hap
    cases hvp : valP i.op with
    | false =>
      have hv0 := hi.noval hvp
      have hen : encI i = [i.op] := by unfold encI; rw [hap, hvp]; rfl
      rw [hap, hvp] at HU
      rw [hen] at hr hc ⊢
      obtain ⟨o, a, x⟩ := i
      simp only at d0' ha0 hv0 HU hopw h255 ⊢
      subst hv0 ha0
      simp only [InsD.v, List.length_cons, List.length_nil, Nat.zero_add]
      have hq : g ≠ w.heap.size := by omega
      clear hr hi hw hen hap hvp hc
      go_enter Tryd.func38, Tryd.ntmps38
      go_wp2_with fail
      refine (HU.out _).out.mono ?_
      rintro e w2 ⟨rfl, rfl⟩
      go_wp2
      refine bodyPost_ret (v := .agg #[.int .u8 o, .int .i64 0, .int .u64 0]) ?_ rfl ⟨rfl, ((Touch.refl w []).alloc _).alloc _⟩
      rw [res_cell rfl]
      go_simp
    | true =>
      have hen : encI i = i.op :: valB i.val.toNat 8 := by unfold encI; rw [hap, hvp]; rfl
      rw [hap, hvp] at HU
      rw [hen] at hr hc ⊢
      have hwv := hw.val
      obtain ⟨o, a, x⟩ := i
      simp only at d0' ha0 HU hopw h255 hr hc hwv ⊢
      subst ha0
      obtain ⟨n, rfl⟩ := Int.eq_ofNat_of_zero_le hwv.1
      have hn64 : n < 18446744073709551616 := by have := hwv.2; omega
      simp only [Int.toNat_natCast] at hr hc ⊢
      have hl9 : (o :: valB n 8).length = 9 := by simp [valB_len]
      have HBY : Hid (∀ k, k < 8 → w.cell? ⟨g, off + 1 + k, none⟩ = some (.int .u8 ((n / 2 ^ (8 * (7 - k)) % 256 : Nat) : Int))) := fun k hk => by
        obtain ⟨g', off', e', hg', d1⟩ := hr.one (1 + k) (by omega)
        simp only [Option.some.injEq, Addr.mk.injEq] at e'
        obtain ⟨rfl, rfl, _⟩ := e'
        rw [← Nat.add_assoc] at d1
        rw [d1]
        have : (o :: valB n 8)[1 + k]'(by omega) = ((n / 2 ^ (8 * (7 - k)) % 256 : Nat) : Int) := by
          simp [Nat.add_comm 1 k, valB]
        rw [this]
      rw [hl9] at hc
      simp only [hl9, InsD.v]
      have hc9 : (9 : Int) ≤ cap := by omega
      have hq : g ≠ w.heap.size := by omega
      clear hr hi hw hen hap hvp hl9 hwv
      go_enter Tryd.func38, Tryd.ntmps38
      go_wp2_with fail
      refine (HU.out _).out.mono ?_
      rintro e w2 ⟨rfl, rfl⟩
      have hcne : ¬ cap = 1 := by omega
      have HB0 : Hid (((w.alloc (Obj.cells #[.int .u8 0, .int .i64 0, .int .u64 0] 26)).alloc (Obj.cells #[.int .u8 o, .int .i64 0, .int .u64 0] 26)).heap[w.heap.size + 1]? = some (.cells #[.int .u8 o, .int .i64 0, .int .u64 0] 26 (0, 0))) := by
        have := heap_alloc_new (w.alloc (Obj.cells #[.int .u8 0, .int .i64 0, .int .u64 0] 26)) (Obj.cells #[.int .u8 o, .int .i64 0, .int .u64 0] 26)
        rw [World.size_alloc] at this
        exact this
      have HR0 : Hid (((w.alloc (Obj.cells #[.int .u8 0, .int .i64 0, .int .u64 0] 26)).alloc (Obj.cells #[.int .u8 o, .int .i64 0, .int .u64 0] 26)).heap[w.heap.size]? = some (.cells #[.int .u8 0, .int .i64 0, .int .u64 0] 26 (0, 0))) := by
        have h1 := heap_alloc_old (w.alloc (Obj.cells #[.int .u8 0, .int .i64 0, .int .u64 0] 26)) (Obj.cells #[.int .u8 o, .int .i64 0, .int .u64 0] 26) (r := w.heap.size) (by simp)
        exact h1.trans (heap_alloc_new w _)
      have HT0 : Hid (Touch w ((w.alloc (Obj.cells #[.int .u8 0, .int .i64 0, .int .u64 0] 26)).alloc (Obj.cells #[.int .u8 o, .int .i64 0, .int .u64 0] 26)) []) := ((Touch.refl w []).alloc _).alloc _
      go_wp2_with fail
      go_loopw [28] (fun i wr => ∃ k : Nat, i = .int .i64 k ∧ k ≤ 8 ∧ wr.heap[w.heap.size + 1]? = some (.cells #[.int .u8 o, .int .i64 0, .int .u64 ((n / 2 ^ (8 * (8 - k)) : Nat) : Int)] 26 (0, 0)) ∧ wr.heap[w.heap.size]? = some (.cells #[.int .u8 0, .int .i64 0, .int .u64 0] 26 (0, 0)) ∧ Touch w wr []) (fun i _ => 8 - (intOf i).toNat)
      case atStart =>
        refine ⟨0, rfl, by omega, ?_, HR0.out, HT0.out⟩
        have e : n / 2 ^ (8 * (8 - 0)) = 0 := Nat.div_eq_of_lt (by show n < 18446744073709551616; exact hn64)
        rw [e]
        exact HB0.out
      case round =>
        obtain ⟨k, rfl, hk, hb, hz, hT⟩ := hrel
        by_cases hlt : k < 8
        · have h1 : (k : Int) < 8 := by omega
          have h0 : (0 : Int) ≤ k := by omega
          have dk := (hT.cell (p := ⟨g, off + 1 + k, none⟩) hg (by simp)).trans (HBY.out k hlt)
          have hst := val_step n k hlt hn64
          have hm : n / 2 ^ (8 * (8 - k)) < 72057594037927936 := by
            have h5 : n / 2 ^ (8 * (8 - k)) ≤ n / 256 := Nat.div_le_div_left (by have : 2 ^ 8 ≤ 2 ^ (8 * (8 - k)) := Nat.pow_le_pow_right (by decide) (by omega); exact this) (by decide)
            omega
          have hby : n / 2 ^ (8 * (7 - k)) % 256 < 256 := Nat.mod_lt _ (by decide)
          have hor := or_byte _ _ hm hby
          rw [← hst] at hor
          generalize hm2 : n / 2 ^ (8 * (8 - (k + 1))) = m2 at *
          have HM2 : Hid _ := hm2
          clear hm2
          generalize n / 2 ^ (8 * (8 - k)) = m1 at *
          generalize n / 2 ^ (8 * (7 - k)) % 256 = y at *
          have c0 : wr.cell? ⟨w.heap.size + 1, 2, none⟩ = some (.int .u64 (m1 : Int)) := by unfold World.cell?; rw [hb]; rfl
          have f0 : wr.frozen? ⟨w.heap.size + 1, 2, none⟩ = false := by unfold World.frozen?; rw [hb]; rfl
          have HB : Hid _ := hb
          have HZ : Hid _ := hz
          have HT : Hid _ := hT
          clear hb hz hT
          have hor' : bits .or .u64 ((m1 : Int) * 256) (y : Int) = (m2 : Int) := by rw [← hor]; congr 1
          have HOR : Hid _ := hor'
          clear hor hor' hst
          go_wp2
          go_roundw
          case rel =>
            refine ⟨k + 1, by go_num, by omega, ?_, ?_, ?_⟩
            · rw [HOR.out, HM2.out]
              exact heap_setCell_same _ _ _ _ _ _ HB.out
            · have t4 : Touch wr (wr.setCell ⟨w.heap.size + 1, 2, none⟩ (.int .u64 (bits .or .u64 ((m1 : Int) * 256) (y : Int)))) [w.heap.size + 1] := (Touch.refl wr _).setCell (.inl (by simp)) _
              exact (t4.block _ (lt_of_heap HZ.out) (by simp)).trans HZ.out
            · exact HT.out.setCell (.inr (by simp)) _
          case measure => simp [intOf]; omega
        · obtain rfl : k = 8 := by omega
          have e : n / 2 ^ (8 * (8 - 8)) = n := by simp
          rw [e] at hb
          have c0 : wr.cell? ⟨w.heap.size + 1, 0, none⟩ = some (.int .u8 o) ∧ wr.cell? ⟨w.heap.size + 1, 1, none⟩ = some (.int .i64 0) ∧ wr.cell? ⟨w.heap.size + 1, 2, none⟩ = some (.int .u64 (n : Int)) := ⟨by unfold World.cell?; rw [hb]; rfl, by unfold World.cell?; rw [hb]; rfl, by unfold World.cell?; rw [hb]; rfl⟩
          obtain ⟨c0, c1, c2⟩ := c0
          have z0 : wr.cell? ⟨w.heap.size, 0, none⟩ = some (.int .u8 0) ∧ wr.cell? ⟨w.heap.size, 1, none⟩ = some (.int .i64 0) ∧ wr.cell? ⟨w.heap.size, 2, none⟩ = some (.int .u64 0) := ⟨by unfold World.cell?; rw [hz]; rfl, by unfold World.cell?; rw [hz]; rfl, by unfold World.cell?; rw [hz]; rfl⟩
          obtain ⟨z0, z1, z2⟩ := z0
          have f0 : ∀ j, wr.frozen? ⟨w.heap.size, j, none⟩ = false := fun j => by unfold World.frozen?; rw [hz]; simp
          have f00 := f0 0
          have f01 := f0 1
          have f02 := f0 2
          have HT : Hid _ := hT
          have HZ : Hid _ := hz
          clear hT hb hz e f0
          go_wp2
          refine bodyPost_ret (v := .agg #[.int .u8 o, .int .i64 0, .int .u64 (n : Int)]) ?_ rfl ⟨rfl, ((HT.out.setCell (.inr (Nat.le_refl _)) _).setCell (.inr (Nat.le_refl _)) _).setCell (.inr (Nat.le_refl _)) _⟩
          rw [res_cell rfl]
          go_simp

theorem taken_any {w : World} {ao : Option Addr} {cap : Nat} (i : InsD) (hr : BRow w (.slice ao (encI i).length cap) (encI i)) (hi : rightI i = true) (hw : i.Wf) (hc : (encI i).length ≤ cap) :
    Calls Tryd.prog 38 #[.slice ao (encI i).length cap] w fun e w' => e = .returned i.v ∧ Touch w w' [] := taken_fit i hr (fit_of hi) hw hc

end Go.Proofs.YtminiabpeodjaaaDoor
/-
  BYTES AS A TEXT: string(b) of a row of bytes.
-/
namespace Go.Proofs.YtminiabpeodjaaaDoor
set_option linter.unusedVariables false
set_option linter.unusedSimpArgs false
open Go.RowKit

theorem str_of {w : World} {ao : Option Addr} {cap : Nat} {l : List Int} (h : BRow w (.slice ao l.length cap) l) :
    (convert 39 9 (.slice ao l.length cap)).run Tryd.prog w = .ok (.string (strOfNums l)) w := by
  rcases l with _ | ⟨x, l⟩
  · obtain ⟨ao', cap', e, _⟩ := h
    cases ao with
    | none =>
      rw [run_convert_bytes_nil w 39 5 Tryd.underlying39 Tryd.underlying5 _ _ 9 Tryd.underlying9]
      rfl
    | some a =>
      obtain ⟨b, off, fld⟩ := a
      rw [run_convert_bytes_string w 39 9 5 _ _ _ Tryd.underlying39 Tryd.underlying5 Tryd.underlying9, run_bytesToString w _ _ cap [] (by simpa using run_loadCells_list (P := Tryd.prog) w ⟨b, off, fld⟩ [] (fun j v hj => by simp at hj))]
      rfl
  · obtain ⟨g, off, rfl, hg, _⟩ := h.one 0 (by simp)
    exact run_convert_bytes_arg w 39 5 Tryd.underlying39 Tryd.underlying5 g off _ cap (x :: l) rfl (fun i hi => by
      obtain ⟨g', off', e', _, hc⟩ := h.one i hi
      simp only [Option.some.injEq, Addr.mk.injEq] at e'
      obtain ⟨rfl, rfl, _⟩ := e'
      have q : (x :: l).getD i 0 = (x :: l)[i] := by simp [List.getD, List.getElem?_eq_getElem hi]
      rw [q]
      simpa using hc) 9 Tryd.underlying9

end Go.Proofs.YtminiabpeodjaaaDoor

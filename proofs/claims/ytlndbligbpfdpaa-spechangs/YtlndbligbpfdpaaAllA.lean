/-
  A WORLD IN WHICH OTHER BLOCKS ARE AS THEY WERE. No walk.
-/
import Derived.Test.YtlndbligbpfdpaaRows
import Derived.WalkKit
import Derived.WalkSpells
import Derived.WalkLawsBesides
import Derived.Laws.Externs
import Derived.StillTactics
import Derived.OwnWalk
import Derived.Laws.Pointers
import Derived.Deep.QuietTactic
import Derived.Deep.RegionHeld3
import Derived.BigQuiet
import Derived.Outline
import Derived.Laws.Bits64
import Derived.Defers
import Derived.Recover
import Derived.Laws.FloatArith
namespace Go.Proofs.Ytlndbligbpfdpaa
set_option linter.unusedVariables false
set_option linter.unusedSimpArgs false
open Go.RowKit

/-! ### Memory -/
/-- w' is w but for the blocks of S, and new ones. -/
structure Touch (w w' : World) (S : List Nat) : Prop where
  os : w'.os = w.os
  tape : w'.tape = w.tape
  output : w'.output = w.output
  size : w.heap.size ≤ w'.heap.size
  block : ∀ k, k < w.heap.size → k ∉ S → w'.heap[k]? = w.heap[k]?

theorem Touch.refl (w : World) (S : List Nat) : Touch w w S := ⟨rfl, rfl, rfl, Nat.le_refl _, fun _ _ _ => rfl⟩

theorem Touch.trans {a b c : World} {S R : List Nat} (h : Touch a b S) (k : Touch b c R) (hR : ∀ x ∈ R, x ∈ S ∨ a.heap.size ≤ x) : Touch a c S :=
  ⟨k.os.trans h.os, k.tape.trans h.tape, k.output.trans h.output, Nat.le_trans h.size k.size, fun i hi hs =>
    (k.block i (Nat.lt_of_lt_of_le hi h.size) (fun hr => by rcases hR i hr with h1 | h1; exact hs h1; omega)).trans (h.block i hi hs)⟩

theorem Touch.mono {a b : World} {S R : List Nat} (h : Touch a b S) (hS : ∀ x ∈ S, x ∈ R) : Touch a b R :=
  ⟨h.os, h.tape, h.output, h.size, fun k hk hr => h.block k hk (fun hs => hr (hS k hs))⟩

theorem Touch.below {w w' : World} {S : List Nat} (h : Touch w w' S) {B : Nat} (hB : B ≤ w.heap.size) (hS : ∀ x ∈ S, B ≤ x) : Below B w w' :=
  ⟨h.os, h.tape, h.output, h.size, fun k hk => h.block k (by omega) (fun hs => by have := hS k hs; omega)⟩

theorem Touch.of_below {w w' : World} (h : Below w.heap.size w w') (S : List Nat) : Touch w w' S :=
  ⟨h.os, h.tape, h.output, h.size, fun k hk _ => h.block k hk⟩

theorem Touch.drew {a w : World} {S : List Nat} (h : Touch a w S) : Touch a w.drew S := ⟨h.os, h.tape, h.output, h.size, h.block⟩

theorem Touch.drewN {a w : World} {S : List Nat} (h : Touch a w S) (n : Nat) : Touch a (w.drewN n) S := ⟨h.os, h.tape, h.output, h.size, h.block⟩

theorem Touch.alloc {a w : World} {S : List Nat} (h : Touch a w S) (o : Obj) : Touch a (w.alloc o) S :=
  h.trans (R := []) ⟨rfl, rfl, rfl, by simp, fun k hk _ => Below.heap_alloc _ _ _ hk⟩ (by simp)

theorem Touch.setCell {a w : World} {S : List Nat} (h : Touch a w S) {p : Addr} (hp : p.block ∈ S ∨ a.heap.size ≤ p.block) (u : Value) : Touch a (w.setCell p u) S :=
  h.trans (R := [p.block]) ⟨rfl, rfl, rfl, by simp [World.setCell], fun k _ hk => Below.heap_setCell _ _ _ _ (by simpa using hk)⟩ (by simpa using hp)

theorem Touch.grown {a w w' : World} {S : List Nat} {row : Option Nat} (h : Touch a w S) (hg : w.grownBy w' row) (hr : ∀ k, row = some k → k ∈ S ∨ a.heap.size ≤ k) : Touch a w' S :=
  h.trans (R := row.toList) ⟨hg.os, hg.tape, hg.output, hg.size, fun k hk hne => hg.block k hk (fun e => hne (by simp [← e]))⟩ (by intro x hx; exact hr x (by simpa using hx))

theorem Touch.cell {w w' : World} {S : List Nat} (h : Touch w w' S) {p : Addr} (hp : p.block < w.heap.size) (hS : p.block ∉ S) : w'.cell? p = w.cell? p := World.cell?_of_block (w := w) (h.block _ hp hS)
theorem Touch.frozen {w w' : World} {S : List Nat} (h : Touch w w' S) {p : Addr} (hp : p.block < w.heap.size) (hS : p.block ∉ S) : w'.frozen? p = w.frozen? p := World.frozen?_of_block (w := w) (h.block _ hp hS)

theorem lt_of_heap {w : World} {b : Nat} {o : Obj} (h : w.heap[b]? = some o) : b < w.heap.size := (Array.getElem?_eq_some_iff.1 h).1

theorem ownsRow_touch {w w' : World} {B : Nat} {e : TypeId} {size : Nat} {v : Value} {n : Nat} {xs : List Value} {S : List Nat} (h : w.ownsRow B e size v n xs) (t : Touch w w' S) (hS : ∀ k, v.ownBlock = some k → k ∉ S) : w'.ownsRow B e size v n xs := by
  refine ⟨h.1, ?_⟩
  rcases h.2 with hn | ⟨g, cap, cur, rfl, hb, hgg, rest⟩
  · exact .inl hn
  · exact .inr ⟨g, cap, cur, rfl, hb, (t.block g (lt_of_heap hgg) (hS g rfl)).trans hgg, rest⟩

/-- The world under a name. -/
theorem wp_name {P : Program} {c : Code} {Q : Exit → Act → World → Prop} {a : Act} {w : World} (h : ∀ W, W = w → c.wp P Q a W) : c.wp P Q a w := h w rfl

end Go.Proofs.Ytlndbligbpfdpaa
/-
  package value's small calls BY THEIR CONTRACTS: IsNaN, Of, Canon, Float, Negative, Less: each answers what a plain function on bits says, and leaves the world as it was.
-/
namespace Go.Proofs.Ytlndbligbpfdpaa
set_option linter.unusedVariables false
set_option linter.unusedSimpArgs false
open Go.RowKit

/-- Is it no number? -/
def nanB (b : Nat) : Bool := FloatKind.f64.format.order b b != some .eq
/-- The bits that Of answers. -/
def ofB (b : Nat) : Nat := if nanB b then 9221120237041090560 else b

theorem frombits_run (n : Int) (w : World) : (callFunc 72 #[.int .u64 n]).run Try.prog w = .ok (.value (.float .f64 n.toNat)) w := by
  rw [run_callFunc_extern Try.func72 (by kernel_rfl) (by kernel_rfl) (by kernel_rfl) (e := Extern.MathFloatBits.float64frombits) (by kernel_rfl)]
  rfl

theorem tobits_run (b : Nat) (w : World) : (callFunc 95 #[.float .f64 b]).run Try.prog w = .ok (.value (.int .u64 b)) w := by
  rw [run_callFunc_extern Try.func95 (by kernel_rfl) (by kernel_rfl) (by kernel_rfl) (e := Extern.MathFloatBits.float64bits) (by kernel_rfl)]
  rfl

theorem isNaN_any (b : Nat) (w : World) : Calls Try.prog 86 #[.float .f64 b] w fun e w' => e = .returned (.bool (nanB b)) ∧ w = w' := by
  unfold nanB
  go_enter Try.func86, Try.ntmps86
  go_wp2
  go_ret
  exact ⟨rfl, rfl⟩

theorem of_any (b : Nat) (w : World) : Calls Try.prog 88 #[.float .f64 b] w fun e w' => e = .returned (.int .u64 (ofB b)) ∧ w = w' := by
  have ht := tobits_run b
  unfold ofB
  cases hn : nanB b with
  | true =>
    have hc := isNaN_any b
    rw [hn] at hc
    go_enter Try.func88, Try.ntmps88
    go_wp2_with fail
    refine (hc _).mono ?_
    rintro e w1 ⟨rfl, rfl⟩
    clear hc hn
    go_wp2
    go_ret
    exact ⟨rfl, rfl⟩
  | false =>
    have hc := isNaN_any b
    rw [hn] at hc
    go_enter Try.func88, Try.ntmps88
    go_wp2_with fail
    refine (hc _).mono ?_
    rintro e w1 ⟨rfl, rfl⟩
    clear hc hn
    go_wp2
    go_ret
    exact ⟨rfl, rfl⟩

theorem canon_any (n : Int) (w : World) : Calls Try.prog 100 #[.int .u64 n] w fun e w' => e = .returned (.int .u64 (ofB n.toNat)) ∧ w = w' := by
  have ht := frombits_run n
  go_enter Try.func100, Try.ntmps100
  go_wp2_with fail
  refine (of_any _ _).mono ?_
  rintro e w1 ⟨rfl, rfl⟩
  go_wp2
  go_ret
  exact ⟨rfl, rfl⟩

theorem float_any (n : Int) (w : World) : Calls Try.prog 85 #[.int .u64 n] w fun e w' => e = .returned (.float .f64 (ofB n.toNat)) ∧ w = w' := by
  have ht := frombits_run (ofB n.toNat)
  simp only [Int.toNat_natCast] at ht
  go_enter Try.func85, Try.ntmps85
  go_wp2_with fail
  refine (canon_any _ _).mono ?_
  rintro e w1 ⟨rfl, rfl⟩
  go_wp2
  go_ret
  exact ⟨rfl, rfl⟩

end Go.Proofs.Ytlndbligbpfdpaa
/-
  Negative, Less, ClassOf, Neg BY THEIR CONTRACTS.
-/
namespace Go.Proofs.Ytlndbligbpfdpaa
set_option linter.unusedVariables false
set_option linter.unusedSimpArgs false
open Go.RowKit

/-- Is the sign set? -/
def negB (b : Nat) : Bool := bits .and .u64 (b : Int) 9223372036854775808 != 0
/-- Does x come ahead of y? -/
def lessB (x y : Nat) : Bool :=
  if nanB x then false else if nanB y then true else if FloatKind.f64.format.order x y == some .eq then negB x && !negB y else FloatKind.f64.format.order x y == some .lt

theorem negative_any (n : Int) (w : World) : Calls Try.prog 102 #[.int .u64 n] w fun e w' => e = .returned (.bool (negB (ofB n.toNat))) ∧ w = w' := by
  unfold negB
  go_enter Try.func102, Try.ntmps102
  go_wp2_with fail
  refine (canon_any _ _).mono ?_
  rintro e w1 ⟨rfl, rfl⟩
  go_wp2
  go_ret
  exact ⟨rfl, rfl⟩

theorem less_any (a b : Int) (w : World) : Calls Try.prog 93 #[.int .u64 a, .int .u64 b] w fun e w' => e = .returned (.bool (lessB (ofB a.toNat) (ofB b.toNat))) ∧ w = w' := by
  have hf := fun n => float_any n w
  have hna := negative_any a w
  have hnb := negative_any b w
  unfold lessB
  have hx := fun w => isNaN_any (ofB a.toNat) w
  have hy := fun w => isNaN_any (ofB b.toNat) w
  have fa := hf a
  have fb := hf b
  clear hf
  generalize ofB a.toNat = x at *
  generalize ofB b.toNat = y at *
  cases q1 : nanB x with
  | true =>
    have hx' := hx w
    rw [q1] at hx'
    clear hna hnb hy hx
    go_enter Try.func93, Try.ntmps93
    go_wp2_with fail
    refine fa.mono ?_
    rintro e w1 ⟨rfl, rfl⟩
    go_wp2_with fail
    refine fb.mono ?_
    rintro e w1 ⟨rfl, rfl⟩
    go_wp2_with fail
    refine hx'.mono ?_
    rintro e w1 ⟨rfl, rfl⟩
    clear fa fb hx' q1
    go_wp2
    go_ret
    exact ⟨rfl, rfl⟩
  | false =>
    have hx' := hx w
    rw [q1] at hx'
    cases q2 : nanB y with
    | true =>
      have hy' := hy w
      rw [q2] at hy'
      clear hna hnb hy hx
      go_enter Try.func93, Try.ntmps93
      go_wp2_with fail
      refine fa.mono ?_
      rintro e w1 ⟨rfl, rfl⟩
      go_wp2_with fail
      refine fb.mono ?_
      rintro e w1 ⟨rfl, rfl⟩
      go_wp2_with fail
      refine hx'.mono ?_
      rintro e w1 ⟨rfl, rfl⟩
      go_wp2_with fail
      refine hy'.mono ?_
      rintro e w1 ⟨rfl, rfl⟩
      clear fa fb hx' hy' q1 q2
      go_wp2
      go_ret
      exact ⟨rfl, rfl⟩
    | false =>
      have hy' := hy w
      rw [q2] at hy'
      clear hy hx
      generalize hord : FloatKind.f64.format.order x y = od at *
      cases q3 : (od == some Ordering.eq) with
      | true =>
        go_enter Try.func93, Try.ntmps93
        go_wp2_with fail
        refine fa.mono ?_
        rintro e w1 ⟨rfl, rfl⟩
        go_wp2_with fail
        refine fb.mono ?_
        rintro e w1 ⟨rfl, rfl⟩
        go_wp2_with fail
        refine hx'.mono ?_
        rintro e w1 ⟨rfl, rfl⟩
        go_wp2_with fail
        refine hy'.mono ?_
        rintro e w1 ⟨rfl, rfl⟩
        clear fa fb hx' hy' q1 q2
        go_wp2_with fail
        refine hna.mono ?_
        rintro e w1 ⟨rfl, rfl⟩
        clear hna
        cases q4 : negB x with
        | true =>
          go_wp2_with fail
          refine hnb.mono ?_
          rintro e w1 ⟨rfl, rfl⟩
          clear hnb
          go_wp2
          go_ret
          exact ⟨by first | rfl | (rw [q4]; rfl), rfl⟩
        | false =>
          clear hnb
          go_wp2
          go_ret
          exact ⟨by first | rfl | (rw [q4]; rfl), rfl⟩
      | false =>
        clear hna hnb
        go_enter Try.func93, Try.ntmps93
        go_wp2_with fail
        refine fa.mono ?_
        rintro e w1 ⟨rfl, rfl⟩
        go_wp2_with fail
        refine fb.mono ?_
        rintro e w1 ⟨rfl, rfl⟩
        go_wp2_with fail
        refine hx'.mono ?_
        rintro e w1 ⟨rfl, rfl⟩
        go_wp2_with fail
        refine hy'.mono ?_
        rintro e w1 ⟨rfl, rfl⟩
        clear fa fb hx' hy' q1 q2
        go_wp2
        go_ret
        exact ⟨rfl, rfl⟩

/-- 3: no number. -/
theorem classOf_any (n : Int) (w : World) : Calls Try.prog 68 #[.int .u64 n] w fun e w' => ∃ k : Int, e = .returned (.int .u8 k) ∧ ((k == 3) = nanB (ofB n.toNat)) ∧ w = w' := by
  have hf := float_any n w
  have hx := isNaN_any (ofB n.toNat) w
  have hfr := frombits_run
  have htb := tobits_run
  generalize ofB n.toNat = x at *
  cases q1 : nanB x with
  | true =>
    rw [q1] at hx
    go_enter Try.func68, Try.ntmps68
    go_wp2_with fail
    refine hf.mono ?_
    rintro e w1 ⟨rfl, rfl⟩
    go_wp2_with fail
    refine hx.mono ?_
    rintro e w1 ⟨rfl, rfl⟩
    clear hf hx q1
    go_wp2
    go_ret
    exact ⟨3, rfl, rfl, rfl⟩
  | false =>
    rw [q1] at hx
    go_enter Try.func68, Try.ntmps68
    go_wp2_with fail
    refine hf.mono ?_
    rintro e w1 ⟨rfl, rfl⟩
    go_wp2_with fail
    refine hx.mono ?_
    rintro e w1 ⟨rfl, rfl⟩
    clear hf hx q1
    go_wp2
    all_goals
      go_ret
      exact ⟨_, rfl, rfl, rfl⟩

/-- A right value's class, as its number. -/
def classB (x : Nat) : Int :=
  if nanB x then 3 else if (FloatKind.f64.format.order (bits BinOp.andNot IntKind.u64 (x : Int) 9223372036854775808).toNat 9218868437227405311 == some Ordering.gt) then 2 else if (FloatKind.f64.format.order x 0 == some Ordering.eq) then 0 else 1

theorem classOf_is (n : Int) (w : World) : Calls Try.prog 68 #[.int .u64 n] w fun e w' => e = .returned (.int .u8 (classB (ofB n.toNat))) ∧ w' = w := by
  have hf := float_any n w
  have hx := isNaN_any (ofB n.toNat) w
  have hfr := frombits_run
  have htb := tobits_run
  generalize ofB n.toNat = x at *
  unfold classB
  cases q1 : nanB x with
  | true =>
    rw [q1] at hx
    go_enter Try.func68, Try.ntmps68
    go_wp2_with fail
    refine hf.mono ?_
    rintro e w1 ⟨rfl, rfl⟩
    go_wp2_with fail
    refine hx.mono ?_
    rintro e w1 ⟨rfl, rfl⟩
    clear hf hx q1
    go_wp2
    go_ret
    exact ⟨rfl, rfl⟩
  | false =>
    rw [q1] at hx
    generalize hc1 : (FloatKind.f64.format.order (bits BinOp.andNot IntKind.u64 (x : Int) 9223372036854775808).toNat 9218868437227405311 == some Ordering.gt) = c1
    generalize hc2 : (FloatKind.f64.format.order x 0 == some Ordering.eq) = c2
    go_enter Try.func68, Try.ntmps68
    go_wp2_with fail
    refine hf.mono ?_
    rintro e w1 ⟨rfl, rfl⟩
    go_wp2_with fail
    refine hx.mono ?_
    rintro e w1 ⟨rfl, rfl⟩
    clear hf hx q1
    cases c1 <;> cases c2
    all_goals
      go_wp2
      go_ret
      exact ⟨rfl, rfl⟩

theorem classB_nan (x : Nat) (h : nanB x = true) : classB x = 3 := by simp [classB, h]
theorem classB_num (x : Nat) (h : nanB x = false) : classB x ≠ 3 := by
  unfold classB; rw [h]; simp only [Bool.false_eq_true, if_false]; split
  · decide
  · split <;> decide

theorem neg_inf (w : World) : Calls Try.prog 69 #[.int .u64 9218868437227405312] w fun e w' => e = .returned (.int .u64 18442240474082181120) ∧ w = w' := by
  have hf := float_any 9218868437227405312 w
  rw [show ofB (9218868437227405312 : Int).toNat = 9218868437227405312 by decide +kernel] at hf
  have ho := of_any 18442240474082181120 w
  rw [show ofB 18442240474082181120 = 18442240474082181120 by decide +kernel] at ho
  go_enter Try.func69, Try.ntmps69
  go_wp2_with fail
  refine hf.mono ?_
  rintro e w1 ⟨rfl, rfl⟩
  clear hf
  have hneg : ∀ w : World, (Op.unary .neg (.float .f64 9218868437227405312)).run Try.prog w = .ok (.float .f64 18442240474082181120) w := fun _ => by kernel_rfl
  go_wp2_with fail
  refine ho.mono ?_
  rintro e w1 ⟨rfl, rfl⟩
  go_wp2
  go_ret
  exact ⟨rfl, rfl⟩

theorem neg_same (w : World) : Calls Try.prog 69 #[.int .u64 9218868437227405312] w fun e w' => e = .returned (.int .u64 18442240474082181120) ∧ w' = w :=
  (neg_inf w).mono fun _ _ h => ⟨h.1, h.2.symm⟩

/-! ### Plain facts on the order of bits -/
theorem ofB_idem (b : Nat) : ofB (ofB b) = ofB b := by
  unfold ofB
  cases h : nanB b with
  | true => simp only [if_true]; decide +kernel
  | false => simp [h]

theorem cmp_swap (a b : Int) : compare b a = (compare a b).swap := by
  simp only [compare, compareOfLessAndEq]
  rcases Int.lt_trichotomy a b with h | h | h
  · rw [if_neg (by omega), if_neg (by omega), if_pos h]; rfl
  · subst h; simp
  · rw [if_pos h, if_neg (by omega), if_neg (by omega)]; rfl

theorem datum_swap (a b : Ieee.Datum) : b.order a = (a.order b).map Ordering.swap := by
  cases a with
  | nan s t => cases b <;> simp [Ieee.Datum.order]
  | infinity s =>
    cases b with
    | nan _ _ => simp [Ieee.Datum.order]
    | infinity t => cases s <;> cases t <;> rfl
    | number t n j => cases s <;> rfl
  | number s m i =>
    cases b with
    | nan _ _ => simp [Ieee.Datum.order]
    | infinity t => cases t <;> rfl
    | number t n j =>
      simp only [Ieee.Datum.order, Option.map_some, Option.some.injEq]
      rw [Int.min_comm j i]
      exact cmp_swap _ _

theorem order_swap (x y : Nat) : FloatKind.f64.format.order y x = (FloatKind.f64.format.order x y).map Ordering.swap := datum_swap _ _

theorem less_asym (x y : Nat) (h : lessB x y = true) : lessB y x = false := by
  unfold lessB at h ⊢
  rw [order_swap x y]
  cases hx : nanB x with
  | true => simp [hx] at h
  | false =>
    cases hy : nanB y with
    | true => simp
    | false =>
      simp only [hx, hy] at h ⊢
      cases ho : FloatKind.f64.format.order x y with
      | none => rw [ho] at h; simp at h
      | some o =>
        rw [ho] at h
        cases o with
        | lt => rfl
        | gt => simp at h
        | eq =>
          simp at h
          simp [h.1, h.2]

/-- Whatever is a number comes ahead of what is none. -/
theorem less_nan (x y : Nat) (hx : nanB x = false) (hy : nanB y = true) : lessB x y = true := by simp [lessB, hx, hy]

theorem read_inf (x : Nat) (hlt : x < 18446744073709551616) (h : Ieee.double.read x = .infinity true) : x = 18442240474082181120 := by
  unfold Ieee.Format.read at h
  simp only at h
  split at h
  · cases h
  · split at h
    · cases h
    · split at h
      · rename_i h3
        have e1 : Ieee.double.signWeight = 9223372036854775808 := by decide +kernel
        have e2 : Ieee.double.infRung = 9218868437227405312 := by decide +kernel
        rw [e1, e2] at h3
        rw [e1] at h
        simp only [Ieee.Datum.infinity.injEq, beq_iff_eq] at h
        omega
      · cases h

/-- The infinite one below 0 comes ahead of all others. -/
theorem inf_first (x : Nat) (hlt : x < 18446744073709551616) (hne : x ≠ 18442240474082181120) : lessB 18442240474082181120 x = true := by
  unfold lessB
  rw [show nanB 18442240474082181120 = false by decide +kernel]
  cases hx : nanB x with
  | true => simp
  | false =>
    have hr : FloatKind.f64.format.read 18442240474082181120 = .infinity true := by decide +kernel
    have ho : FloatKind.f64.format.order 18442240474082181120 x = some .lt := by
      unfold Ieee.Format.order
      rw [hr]
      have hx' : nanB x = false := hx
      unfold nanB Ieee.Format.order at hx'
      cases hd : FloatKind.f64.format.read x with
      | nan s t => rw [hd] at hx'; simp [Ieee.Datum.order] at hx'
      | number s m i => rfl
      | infinity s =>
        cases s with
        | false => rfl
        | true => exact absurd (read_inf x hlt hd) hne
    rw [ho]
    rfl

theorem zero_first : lessB 9223372036854775808 0 = true := by decide +kernel

theorem ofB_lt (b : Nat) (h : b < 18446744073709551616) : ofB b < 18446744073709551616 := by
  unfold ofB; split <;> omega

end Go.Proofs.Ytlndbligbpfdpaa
/-
  THE ORDER OF FLOATS IS THE ORDER OF A WHOLE NUMBER MADE OF THEIR BITS. No walk.
-/
namespace Go.Proofs.Ytlndbligbpfdpaa
set_option linter.unusedVariables false
set_option linter.unusedSimpArgs false
open Go.RowKit

/-- The place of a float among those of its sign; its size, in units of the least one. -/
def rungB (x : Nat) : Nat := x % 9223372036854775808
def isNeg (x : Nat) : Bool := x / 9223372036854775808 % 2 == 1
def magB (r : Nat) : Nat := if r < 4503599627370496 then r else (4503599627370496 + r % 4503599627370496) * 2 ^ (r / 4503599627370496 - 1)
def sgn (s : Bool) (n : Nat) : Int := if s then -(n : Int) else n

theorem magB_step (r : Nat) : magB r < magB (r + 1) := by
  unfold magB
  by_cases h1 : r + 1 < 4503599627370496
  · rw [if_pos (by omega), if_pos h1]; omega
  · by_cases h2 : r < 4503599627370496
    · obtain rfl : r = 4503599627370495 := by omega
      rw [if_pos h2, if_neg h1]
      decide
    · rw [if_neg h2, if_neg h1]
      by_cases h3 : r % 4503599627370496 = 4503599627370495
      · have e1 : (r + 1) % 4503599627370496 = 0 := by omega
        have e2 : (r + 1) / 4503599627370496 = r / 4503599627370496 + 1 := by omega
        have e3 : r / 4503599627370496 + 1 - 1 = (r / 4503599627370496 - 1) + 1 := by omega
        rw [e1, e2, e3, h3, Nat.pow_succ]
        have hp : 0 < (2 : Nat) ^ (r / 4503599627370496 - 1) := Nat.pow_pos (by omega)
        generalize (2 : Nat) ^ (r / 4503599627370496 - 1) = p at *
        omega
      · have e1 : (r + 1) % 4503599627370496 = r % 4503599627370496 + 1 := by omega
        have e2 : (r + 1) / 4503599627370496 = r / 4503599627370496 := by omega
        rw [e1, e2]
        exact Nat.mul_lt_mul_of_pos_right (by omega) (Nat.pow_pos (by omega))

theorem magB_mono {r s : Nat} (h : r < s) : magB r < magB s := by
  induction s with
  | zero => omega
  | succ s ih =>
    rcases Nat.lt_or_ge r s with h1 | h1
    · exact Nat.lt_trans (ih h1) (magB_step s)
    · obtain rfl : r = s := by omega
      exact magB_step r

theorem magB_lt {r s : Nat} : magB r < magB s ↔ r < s := by
  constructor
  · intro h
    rcases Nat.lt_trichotomy r s with h1 | h1 | h1
    · exact h1
    · subst h1; omega
    · have := magB_mono h1; omega
  · exact magB_mono
theorem magB_eq {r s : Nat} : magB r = magB s ↔ r = s := by
  constructor
  · intro h
    rcases Nat.lt_trichotomy r s with h1 | h1 | h1
    · have := magB_mono h1; omega
    · exact h1
    · have := magB_mono h1; omega
  · intro h; rw [h]
theorem magB_zero {r : Nat} : magB r = 0 ↔ r = 0 := by
  have : magB 0 = 0 := rfl
  rw [← this]
  conv => lhs; rw [this, ← this]
  exact magB_eq

theorem cmp_congr {a b c d : Int} (h1 : a < b ↔ c < d) (h2 : a = b ↔ c = d) : compare a b = compare c d := by
  simp only [compare, compareOfLessAndEq]
  by_cases h : a < b
  · rw [if_pos h, if_pos (h1.1 h)]
  · rw [if_neg h, if_neg (fun k => h (h1.2 k))]
    by_cases e : a = b
    · rw [if_pos e, if_pos (h2.1 e)]
    · rw [if_neg e, if_neg (fun k => e (h2.2 k))]

theorem cmp_scale (u v : Int) (p : Nat) (hp : 0 < p) : compare (u * p) (v * p) = compare u v := by
  have hp' : (0 : Int) < p := by omega
  refine cmp_congr ⟨fun h => ?_, fun h => Int.mul_lt_mul_of_pos_right h hp'⟩ ⟨fun h => ?_, fun h => by rw [h]⟩
  · exact Int.lt_of_mul_lt_mul_right h (Int.le_of_lt hp')
  · exact Int.eq_of_mul_eq_mul_right (by omega) h

theorem magB_cmp (r s : Nat) (a b : Bool) : compare (sgn a (magB r)) (sgn b (magB s)) = compare (sgn a r) (sgn b s) := by
  have h1 := @magB_lt r s
  have h2 := @magB_lt s r
  have h3 := @magB_eq r s
  have h4 := @magB_zero r
  have h5 := @magB_zero s
  unfold sgn
  generalize magB r = m at *
  generalize magB s = n at *
  cases a <;> cases b <;> simp only [Bool.false_eq_true, if_false, if_true] <;> refine cmp_congr ?_ ?_ <;> omega

theorem signed_sgn (s : Bool) (m k : Nat) : Ieee.signed s m k = sgn s (m * 2 ^ k) := by
  unfold Ieee.signed sgn
  rw [Nat.shiftLeft_eq]

theorem sgn_mul (s : Bool) (m p : Nat) : sgn s (m * p) = sgn s m * p := by
  unfold sgn
  cases s <;> simp [Int.neg_mul]

/-- Two numbers of one grid. -/
theorem order_grid (s t : Bool) (m n a b : Nat) (lp : Int) : Ieee.Datum.order (.number s m (lp + a)) (.number t n (lp + b)) = some (compare (sgn s (m * 2 ^ a)) (sgn t (n * 2 ^ b))) := by
  simp only [Ieee.Datum.order, Option.some.injEq]
  rw [signed_sgn, signed_sgn]
  have e0 : min (lp + (a : Int)) (lp + b) = lp + (min a b : Nat) := by omega
  rw [e0]
  have ea : (lp + (a : Int) - (lp + (min a b : Nat))).toNat = a - min a b := by omega
  have eb : (lp + (b : Int) - (lp + (min a b : Nat))).toNat = b - min a b := by omega
  rw [ea, eb]
  have ha : m * 2 ^ a = m * 2 ^ (a - min a b) * 2 ^ min a b := by rw [Nat.mul_assoc, ← Nat.pow_add]; congr 2; omega
  have hb : n * 2 ^ b = n * 2 ^ (b - min a b) * 2 ^ min a b := by rw [Nat.mul_assoc, ← Nat.pow_add]; congr 2; omega
  rw [ha, hb, sgn_mul s (m * 2 ^ (a - min a b)), sgn_mul t (n * 2 ^ (b - min a b))]
  exact (cmp_scale _ _ _ (Nat.pow_pos (by omega))).symm

/-- How bits read. -/
theorem read_is (x : Nat) : (rungB x < 9218868437227405312 ∧ ∃ m a : Nat, Ieee.double.read x = .number (isNeg x) m (Ieee.double.leastPlace + a) ∧ m * 2 ^ a = magB (rungB x)) ∨ (rungB x = 9218868437227405312 ∧ Ieee.double.read x = .infinity (isNeg x)) ∨ (9218868437227405312 < rungB x ∧ Ieee.double.read x = .nan (isNeg x) (rungB x - 9218868437227405312)) := by
  have e1 : Ieee.double.signWeight = 9223372036854775808 := by decide +kernel
  have e2 : Ieee.double.infRung = 9218868437227405312 := by decide +kernel
  have e3 : Ieee.double.binade = 4503599627370496 := by decide +kernel
  unfold Ieee.Format.read rungB isNeg magB
  simp only [e1, e2, e3]
  generalize x % 9223372036854775808 = r
  generalize (x / 9223372036854775808 % 2 == 1) = s
  by_cases h1 : r < 4503599627370496
  · left
    rw [if_pos h1, if_pos h1]
    exact ⟨by omega, r, 0, by simp, by simp⟩
  · rw [if_neg h1, if_neg h1]
    by_cases h2 : r < 9218868437227405312
    · left
      rw [if_pos h2]
      exact ⟨h2, _, _, rfl, rfl⟩
    · right
      rw [if_neg h2]
      by_cases h3 : r = 9218868437227405312
      · left; rw [if_pos h3]; exact ⟨h3, rfl⟩
      · right; rw [if_neg h3]; exact ⟨by omega, rfl⟩

theorem cmp_lt {a b : Int} (h : a < b) : compare a b = .lt := by simp only [compare, compareOfLessAndEq]; rw [if_pos h]
theorem cmp_gt {a b : Int} (h : b < a) : compare a b = .gt := by simp only [compare, compareOfLessAndEq]; rw [if_neg (by omega), if_neg (by omega)]

/-- THE ORDER OF FLOATS. -/
theorem order_key (x y : Nat) (hx : rungB x ≤ 9218868437227405312) (hy : rungB y ≤ 9218868437227405312) : FloatKind.f64.format.order x y = some (compare (sgn (isNeg x) (rungB x)) (sgn (isNeg y) (rungB y))) := by
  show (Ieee.double.read x).order (Ieee.double.read y) = _
  rcases read_is x with ⟨h1, m, a, e1, g1⟩ | ⟨h1, e1⟩ | ⟨h1, _⟩
  · rcases read_is y with ⟨h2, n, b, e2, g2⟩ | ⟨h2, e2⟩ | ⟨h2, _⟩
    · rw [e1, e2, order_grid, g1, g2, magB_cmp]
    · rw [e1, e2]
      generalize rungB x = r at *
      rw [h2]
      cases isNeg x <;> cases isNeg y <;> simp only [Ieee.Datum.order, sgn, Bool.false_eq_true, if_false, if_true, Option.some.injEq] <;> first | exact (cmp_lt (by omega)).symm | exact (cmp_gt (by omega)).symm
    · omega
  · rcases read_is y with ⟨h2, n, b, e2, g2⟩ | ⟨h2, e2⟩ | ⟨h2, _⟩
    · rw [e1, e2]
      generalize rungB y = r at *
      rw [h1]
      cases isNeg x <;> cases isNeg y <;> simp only [Ieee.Datum.order, sgn, Bool.false_eq_true, if_false, if_true, Option.some.injEq] <;> first | exact (cmp_lt (by omega)).symm | exact (cmp_gt (by omega)).symm
    · rw [e1, e2, h1, h2]
      cases isNeg x <;> cases isNeg y <;> decide
    · omega
  · omega

theorem nanB_rung (x : Nat) : nanB x = decide (9218868437227405312 < rungB x) := by
  unfold nanB
  by_cases h : 9218868437227405312 < rungB x
  · rcases read_is x with ⟨h1, _⟩ | ⟨h1, _⟩ | ⟨h1, e1⟩
    · omega
    · omega
    · have : FloatKind.f64.format.order x x = (Ieee.double.read x).order (Ieee.double.read x) := rfl
      rw [this, e1, decide_eq_true h]
      rfl
  · rw [order_key x x (by omega) (by omega), decide_eq_false h]
    simp [compare, compareOfLessAndEq]

end Go.Proofs.Ytlndbligbpfdpaa
/-
  tried OF PACKAGE value, BY ITS CONTRACT, where the work comes back.
-/
namespace Go.Proofs.Ytlndbligbpfdpaa
set_option linter.unusedVariables false
set_option linter.unusedSimpArgs false
open Go.RowKit

theorem catchI_idle (p : Addr) (w : World) (x : Bool) (hc : w.cell? p = some (.bool x)) (hz : w.frozen? p = false) :
    CallsD Try.prog 109 #[.pointer (some p)] .returning w fun e u' w' => e = .returned (.tuple #[]) ∧ u' = .returning ∧ w' = w.setCell p (.bool true) := by
  refine callsD_of_wpS Try.func109 rfl fun c₀ cs hu => ?_
  apply wpS_region
  simp [wpOpsS, go_sem, recoverD, hu, Try.ntmps109, Exit.thenS]
  simp [wpOpsS, go_sem, hc, hz, bodyPostS, results, Try.results109]
  cases c₀
  simp_all

set_option maxRecDepth 100000 in
theorem triedI_ok (k : Nat) (cap : Array Value) (v : Int) (w : World) (hen : ∀ w1, (callFunc k cap).run Try.prog w1 = .ok (.enter k cap) w1) (hw : ∀ w1, Touch w w1 [] → Calls Try.prog k cap w1 fun e w' => e = .returned (.int .i64 v) ∧ Touch w1 w' []) :
    Calls Try.prog 105 #[.func (.func k) #[] cap] w fun e w' => e = .returned (.tuple #[.int .i64 v, .bool true]) ∧ Touch w w' [] := by
  have hmf : ∀ (fn : Fn) (first cap : Array Value) (w : World), (Instr.makeFunc fn first cap).run Try.prog w = .ok (.func fn first cap) w := fun _ _ _ _ => rfl
  go_enter_defers Try.func105, Try.ntmps105
  go_wp2_with fail
  refine (hw _ ((Touch.refl w []).alloc _)).mono ?_
  rintro e w1 ⟨rfl, t1⟩
  have c0 : w1.cell? ⟨w.heap.size, 0, none⟩ = some (.bool false) := (t1.cell (p := ⟨w.heap.size, 0, none⟩) (by simp) (by simp)).trans (by simp [go_sem])
  have f0 : w1.frozen? ⟨w.heap.size, 0, none⟩ = false := (t1.frozen (p := ⟨w.heap.size, 0, none⟩) (by simp) (by simp)).trans (by simp [go_sem])
  have HT : Hid (Touch w w1 []) := ((Touch.refl w []).alloc _).trans t1 (by simp)
  clear t1 hw
  go_wp2
  have c1 : (w1.setCell ⟨w.heap.size, 0, none⟩ (.bool true)).cell? ⟨w.heap.size, 0, none⟩ = some (.bool true) := World.cell?_setCell_same _ _ _ c0
  have f1 : (w1.setCell ⟨w.heap.size, 0, none⟩ (.bool true)).frozen? ⟨w.heap.size, 0, none⟩ = false := by simp [f0]
  have HT1 : Hid (Touch w (w1.setCell ⟨w.heap.size, 0, none⟩ (.bool true)) []) := HT.out.setCell (.inr (Nat.le_refl _)) _
  generalize w1.setCell ⟨w.heap.size, 0, none⟩ (.bool true) = w2 at *
  clear c0 f0 HT
  refine leaves_cons (f := 109) (args := #[.pointer (some ⟨w.heap.size, 0, none⟩)]) (by simp) (by simp [go_sem]) ?_
  refine (catchI_idle ⟨w.heap.size, 0, none⟩ w2 true c1 f1).mono ?_
  rintro e u' w'' ⟨rfl, rfl, rfl⟩
  have c2 : (w2.setCell ⟨w.heap.size, 0, none⟩ (.bool true)).cell? ⟨w.heap.size, 0, none⟩ = some (.bool true) := World.cell?_setCell_same _ _ _ c1
  have HT2 : Hid (Touch w (w2.setCell ⟨w.heap.size, 0, none⟩ (.bool true)) []) := HT1.out.setCell (.inr (Nat.le_refl _)) _
  generalize w2.setCell ⟨w.heap.size, 0, none⟩ (.bool true) = w3 at *
  simp [Leaves, settle, results, Try.results105, go_sem, c2]
  exact HT2.out

end Go.Proofs.Ytlndbligbpfdpaa
/-
  Int and Whole of package value, where they can be.
-/
namespace Go.Proofs.Ytlndbligbpfdpaa
set_option linter.unusedVariables false
set_option linter.unusedSimpArgs false
open Go.RowKit

theorem need_ok (w : World) : Calls Try.prog 107 #[.bool true] w fun e w' => e = .returned (.tuple #[]) ∧ w = w' := by
  go_enter Try.func107, Try.ntmps107
  go_wp2
  go_end0
  exact ⟨rfl, rfl⟩

theorem enter_of {k : Nat} {cap : Array Value} {fn : Func} (hf : Try.prog.funcs[k]? = some fn) (hn : (fn.name == "runtime.NumGoroutine") = false) (hb : fn.body.isNone = false) (w : World) : (callFunc k cap).run Try.prog w = .ok (.enter k cap) w := by
  simp only [callFunc, Sem.run_bind, run_program, Result.andThen_ok, hf, hn, hb, Bool.false_eq_true, if_false, Sem.run_pure]

/-- A float64 without its sign; its whole part. -/
def absB (x : Nat) : Nat := (bits .andNot .u64 (x : Int) 9223372036854775808).toNat
def truncB (x : Nat) : Nat := FloatKind.f64.encode ((FloatKind.f64.decode x).integral .zero)

theorem abs_any (x : Nat) (w : World) : Calls Try.prog 101 #[.float .f64 x] w fun e w' => e = .returned (.float .f64 (absB x)) ∧ w = w' := by
  have ht := tobits_run x
  have hf := frombits_run (bits .andNot .u64 (x : Int) 9223372036854775808)
  unfold absB
  go_enter Try.func101, Try.ntmps101
  go_wp2
  go_ret
  exact ⟨rfl, rfl⟩

theorem archTrunc_run (x : Nat) (hx : ∀ s t, FloatKind.f64.decode x ≠ .nan s t) (w : World) : (callFunc 110 #[.float .f64 x]).run Try.prog w = .ok (.value (.float .f64 (truncB x))) w := by
  rw [run_callFunc_extern Try.func110 (by kernel_rfl) (by kernel_rfl) (by kernel_rfl) (e := Extern.MathFloor.toIntegral "math.archTrunc" .zero) (by kernel_rfl)]
  have e : Extern.MathFloor.toIntegral "math.archTrunc" .zero #[.float .f64 x] = match FloatKind.f64.decode x with
      | .nan s t => if FloatKind.f64.format.quiet t = t then pure (.float .f64 x) else do
        let kept ← choose (.extern "math.Floor,Ceil,Trunc,RoundToEven.signallingNaN kept" 2)
        pure (.float .f64 (if kept == 1 then x else FloatKind.f64.encode (.nan s (FloatKind.f64.format.quiet t))))
      | d => pure (.float .f64 (FloatKind.f64.encode (d.integral .zero))) := rfl
  rw [e]
  unfold truncB
  cases h : FloatKind.f64.decode x with
  | nan s t => exact absurd h (hx s t)
  | _ => rfl

theorem trunc_any (x : Nat) (hx : ∀ s t, FloatKind.f64.decode x ≠ .nan s t) (w : World) : Calls Try.prog 108 #[.float .f64 x] w fun e w' => e = .returned (.float .f64 (truncB x)) ∧ w = w' := by
  have ht := archTrunc_run x hx
  go_enter Try.func108, Try.ntmps108
  go_wp2
  go_ret
  exact ⟨rfl, rfl⟩

set_option maxRecDepth 100000 in
theorem whole1_ok (p : Nat) (n i : Int) (hi : floatToIntVal .f64 (ofB n.toNat) .i64 = some i) (hx : ∀ s t, FloatKind.f64.decode (ofB n.toNat) ≠ .nan s t) (hA : (FloatKind.f64.format.order (absB (ofB n.toNat)) 4845873199050653696 == some Ordering.lt || FloatKind.f64.format.order (absB (ofB n.toNat)) 4845873199050653696 == some Ordering.eq) = true) (hT : (FloatKind.f64.format.order (truncB (ofB n.toNat)) (ofB n.toNat) == some Ordering.eq) = true) (w : World) (hc : w.cell? ⟨p, 0, none⟩ = some (.int .u64 n)) :
    Calls Try.prog 106 #[.pointer (some ⟨p, 0, none⟩)] w fun e w' => e = .returned (.int .i64 i) ∧ Touch w w' [] := by
  have hcv : ∀ w : World, (convert 102 3 (.float .f64 (ofB n.toNat))).run Try.prog w = .ok (.int .i64 i) w := fun w => run_convert_float_int w _ _ _ _ _ _ (by rw [Try.underlying102]; rfl) Try.underlying3 hi
  go_enter Try.func106, Try.ntmps106
  go_wp2_with fail
  refine (float_any n w).mono ?_
  rintro e w1 ⟨rfl, rfl⟩
  generalize ofB n.toNat = x at *
  go_wp2_with fail
  refine (abs_any x w).mono ?_
  rintro e w1 ⟨rfl, rfl⟩
  go_wp2_with fail
  refine (trunc_any x hx w).mono ?_
  rintro e w1 ⟨rfl, rfl⟩
  go_wp2_with fail
  refine (need_ok w).mono ?_
  rintro e w1 ⟨rfl, rfl⟩
  go_wp2
  go_ret
  exact ⟨rfl, Touch.refl _ _⟩

/-- What makes a value a whole number that is not too far from 0. -/
structure WholeB (n i : Int) : Prop where
  ei : floatToIntVal .f64 (ofB n.toNat) .i64 = some i
  x : ∀ s t, FloatKind.f64.decode (ofB n.toNat) ≠ .nan s t
  A : (FloatKind.f64.format.order (absB (ofB n.toNat)) 4845873199050653696 == some Ordering.lt || FloatKind.f64.format.order (absB (ofB n.toNat)) 4845873199050653696 == some Ordering.eq) = true
  T : (FloatKind.f64.format.order (truncB (ofB n.toNat)) (ofB n.toNat) == some Ordering.eq) = true

/-- Whole, of such a value. -/
theorem whole_ok (n i : Int) (h : WholeB n i) (w : World) :
    Calls Try.prog 103 #[.int .u64 n] w fun e w' => e = .returned (.tuple #[.int .i64 i, .bool true]) ∧ Touch w w' [] := by
  have hmf : ∀ (fn : Fn) (first cap : Array Value) (w : World), (Instr.makeFunc fn first cap).run Try.prog w = .ok (.func fn first cap) w := fun _ _ _ _ => rfl
  have hc := triedI_ok 106 #[.pointer (some ⟨w.heap.size, 0, none⟩)] i (w.alloc (.cells #[.int .u64 n] 25)) (enter_of Try.func106 (by kernel_rfl) (by kernel_rfl))
    (fun w1 t => whole1_ok w.heap.size n i h.ei h.x h.A h.T w1 ((t.cell (p := ⟨w.heap.size, 0, none⟩) (by simp) (by simp)).trans (by simp [go_sem])))
  clear h
  go_enter Try.func103, Try.ntmps103
  go_wp2_with fail
  refine hc.mono ?_
  rintro e w1 ⟨rfl, t1⟩
  clear hc
  go_wp2
  go_ret2
  exact ⟨rfl, ((Touch.refl w []).alloc _).trans t1 (by simp)⟩

theorem whole_m3 : ofB (floatOfInt .f64 (-3)) = 13837309855095848960 := by decide +kernel
theorem wholeB_m3 : WholeB (ofB (floatOfInt .f64 (-3)) : Nat) (-3) := by
  rw [whole_m3]
  refine ⟨by decide +kernel, ?_, by decide +kernel, by decide +kernel⟩
  have e : FloatKind.f64.decode (ofB (((13837309855095848960 : Nat) : Int)).toNat) = FloatKind.f64.decode 13837309855095848960 := by decide +kernel
  intro s t h
  have : ∀ s t, FloatKind.f64.decode 13837309855095848960 ≠ .nan s t := by
    intro s t h
    have h2 : (match FloatKind.f64.decode 13837309855095848960 with | .nan _ _ => true | _ => false) = false := by decide +kernel
    rw [h] at h2
    cases h2
  exact this s t (e ▸ h)

end Go.Proofs.Ytlndbligbpfdpaa
/-
  '+', '-', '*', '/' OF VALUES, BY CONTRACT: what is invalid is api.NaN, whatever bits the tape gives.
-/
namespace Go.Proofs.Ytlndbligbpfdpaa
set_option linter.unusedVariables false
set_option linter.unusedSimpArgs false
open Go.RowKit

theorem nan_frac (s f : Nat) (hs : s ≤ 1) (h0 : 0 < f) (h1 : f < 4503599627370496) : nanB (s * 9223372036854775808 + 9218868437227405312 + f) = true := by
  have e1 : Ieee.double.signWeight = 9223372036854775808 := by decide +kernel
  have e2 : Ieee.double.infRung = 9218868437227405312 := by decide +kernel
  have hr : ∃ a b, Ieee.double.read (s * 9223372036854775808 + 9218868437227405312 + f) = .nan a b := by
    have e3 : Ieee.double.binade = 4503599627370496 := by decide +kernel
    have hg : (s * 9223372036854775808 + 9218868437227405312 + f) % 9223372036854775808 = 9218868437227405312 + f := by omega
    unfold Ieee.Format.read
    simp only [e1, e2, e3, hg]
    rw [if_neg (by omega), if_neg (by omega), if_neg (by omega)]
    exact ⟨_, _, rfl⟩
  obtain ⟨a, b, hr⟩ := hr
  unfold nanB Ieee.Format.order
  have hr' : FloatKind.f64.format.read (s * 9223372036854775808 + 9218868437227405312 + f) = .nan a b := hr
  rw [hr']
  rfl

/-- What '+', '-', '*', '/' come to. -/
def arithB (op : BinOp) (x y : Nat) : Nat := match floatBits op .f64 x y with | some r => ofB r | none => 9221120237041090560

theorem arith_none (op : BinOp) (t : TypeId) (x y : Nat) (ho : op = .add ∨ op = .sub ∨ op = .mul ∨ op = .quo) (h : floatBits op .f64 x y = none) (w : World) :
    ∃ r : Nat, nanB r = true ∧ (binOp op t (.float .f64 x) (.float .f64 y)).run Try.prog w = .ok (.float .f64 r) w.drew := by
  refine ⟨(w.tape w.drawn (.nanBits .f64 x y) % 2) * 2 ^ 63 + 0x7ff0000000000000 + 1 + (w.tape w.drawn (.nanBits .f64 x y) / 2) % (2 ^ 52 - 1), ?_, ?_⟩
  · have := nan_frac (w.tape w.drawn (.nanBits .f64 x y) % 2) (1 + (w.tape w.drawn (.nanBits .f64 x y) / 2) % (2 ^ 52 - 1)) (by omega) (by omega) (by omega)
    rw [← Nat.add_assoc] at this
    exact this
  · rcases ho with rfl | rfl | rfl | rfl
    all_goals
      unfold floatBits at h
      simp only at h
      simp [binOp, Op.floatArith, h, run_choose_drew, Question.forced, Question.cut]

theorem add_any (a b : Int) (w : World) : Calls Try.prog 89 #[.int .u64 a, .int .u64 b] w fun e w' => e = .returned (.int .u64 (arithB .add (ofB a.toNat) (ofB b.toNat))) ∧ Touch w w' [] := by
  unfold arithB
  have hfa := fun w => float_any a w
  have hfb := fun w => float_any b w
  generalize ofB a.toNat = x at *
  generalize ofB b.toNat = y at *
  cases hb : floatBits .add .f64 x y with
  | some r =>
    have hop : ∀ w : World, (binOp .add 102 (.float .f64 x) (.float .f64 y)).run Try.prog w = .ok (.float .f64 r) w := fun w => run_float_arith w .add _ .f64 x y r hb
    clear hb
    go_enter Try.func89, Try.ntmps89
    go_wp2_with fail
    refine (hfa w).mono ?_
    rintro e w1 ⟨rfl, rfl⟩
    go_wp2_with fail
    refine (hfb w).mono ?_
    rintro e w1 ⟨rfl, rfl⟩
    go_wp2_with fail
    refine (of_any r w).mono ?_
    rintro e w1 ⟨rfl, rfl⟩
    go_wp2
    go_ret
    exact ⟨rfl, Touch.refl _ _⟩
  | none =>
    obtain ⟨r, hr, hop⟩ : ∃ r : Nat, nanB r = true ∧ (binOp .add 102 (.float .f64 x) (.float .f64 y)).run Try.prog w = .ok (.float .f64 r) w.drew := arith_none .add 102 x y (by simp) hb w
    have ho := of_any r w.drew
    have e : ofB r = 9221120237041090560 := by unfold ofB; rw [if_pos hr]
    rw [e] at ho
    clear hb hr e
    go_enter Try.func89, Try.ntmps89
    go_wp2_with fail
    refine (hfa w).mono ?_
    rintro e w1 ⟨rfl, rfl⟩
    go_wp2_with fail
    refine (hfb w).mono ?_
    rintro e w1 ⟨rfl, rfl⟩
    go_wp2_with fail
    refine ho.mono ?_
    rintro e w1 ⟨rfl, rfl⟩
    go_wp2
    go_ret
    exact ⟨rfl, (Touch.refl w []).drew⟩

theorem sub_any (a b : Int) (w : World) : Calls Try.prog 90 #[.int .u64 a, .int .u64 b] w fun e w' => e = .returned (.int .u64 (arithB .sub (ofB a.toNat) (ofB b.toNat))) ∧ Touch w w' [] := by
  unfold arithB
  have hfa := fun w => float_any a w
  have hfb := fun w => float_any b w
  generalize ofB a.toNat = x at *
  generalize ofB b.toNat = y at *
  cases hb : floatBits .sub .f64 x y with
  | some r =>
    have hop : ∀ w : World, (binOp .sub 102 (.float .f64 x) (.float .f64 y)).run Try.prog w = .ok (.float .f64 r) w := fun w => run_float_arith w .sub _ .f64 x y r hb
    clear hb
    go_enter Try.func90, Try.ntmps90
    go_wp2_with fail
    refine (hfa w).mono ?_
    rintro e w1 ⟨rfl, rfl⟩
    go_wp2_with fail
    refine (hfb w).mono ?_
    rintro e w1 ⟨rfl, rfl⟩
    go_wp2_with fail
    refine (of_any r w).mono ?_
    rintro e w1 ⟨rfl, rfl⟩
    go_wp2
    go_ret
    exact ⟨rfl, Touch.refl _ _⟩
  | none =>
    obtain ⟨r, hr, hop⟩ : ∃ r : Nat, nanB r = true ∧ (binOp .sub 102 (.float .f64 x) (.float .f64 y)).run Try.prog w = .ok (.float .f64 r) w.drew := arith_none .sub 102 x y (by simp) hb w
    have ho := of_any r w.drew
    have e : ofB r = 9221120237041090560 := by unfold ofB; rw [if_pos hr]
    rw [e] at ho
    clear hb hr e
    go_enter Try.func90, Try.ntmps90
    go_wp2_with fail
    refine (hfa w).mono ?_
    rintro e w1 ⟨rfl, rfl⟩
    go_wp2_with fail
    refine (hfb w).mono ?_
    rintro e w1 ⟨rfl, rfl⟩
    go_wp2_with fail
    refine ho.mono ?_
    rintro e w1 ⟨rfl, rfl⟩
    go_wp2
    go_ret
    exact ⟨rfl, (Touch.refl w []).drew⟩

theorem mul_any (a b : Int) (w : World) : Calls Try.prog 91 #[.int .u64 a, .int .u64 b] w fun e w' => e = .returned (.int .u64 (arithB .mul (ofB a.toNat) (ofB b.toNat))) ∧ Touch w w' [] := by
  unfold arithB
  have hfa := fun w => float_any a w
  have hfb := fun w => float_any b w
  generalize ofB a.toNat = x at *
  generalize ofB b.toNat = y at *
  cases hb : floatBits .mul .f64 x y with
  | some r =>
    have hop : ∀ w : World, (binOp .mul 102 (.float .f64 x) (.float .f64 y)).run Try.prog w = .ok (.float .f64 r) w := fun w => run_float_arith w .mul _ .f64 x y r hb
    clear hb
    go_enter Try.func91, Try.ntmps91
    go_wp2_with fail
    refine (hfa w).mono ?_
    rintro e w1 ⟨rfl, rfl⟩
    go_wp2_with fail
    refine (hfb w).mono ?_
    rintro e w1 ⟨rfl, rfl⟩
    go_wp2_with fail
    refine (of_any r w).mono ?_
    rintro e w1 ⟨rfl, rfl⟩
    go_wp2
    go_ret
    exact ⟨rfl, Touch.refl _ _⟩
  | none =>
    obtain ⟨r, hr, hop⟩ : ∃ r : Nat, nanB r = true ∧ (binOp .mul 102 (.float .f64 x) (.float .f64 y)).run Try.prog w = .ok (.float .f64 r) w.drew := arith_none .mul 102 x y (by simp) hb w
    have ho := of_any r w.drew
    have e : ofB r = 9221120237041090560 := by unfold ofB; rw [if_pos hr]
    rw [e] at ho
    clear hb hr e
    go_enter Try.func91, Try.ntmps91
    go_wp2_with fail
    refine (hfa w).mono ?_
    rintro e w1 ⟨rfl, rfl⟩
    go_wp2_with fail
    refine (hfb w).mono ?_
    rintro e w1 ⟨rfl, rfl⟩
    go_wp2_with fail
    refine ho.mono ?_
    rintro e w1 ⟨rfl, rfl⟩
    go_wp2
    go_ret
    exact ⟨rfl, (Touch.refl w []).drew⟩

theorem div_any (a b : Int) (w : World) : Calls Try.prog 92 #[.int .u64 a, .int .u64 b] w fun e w' => e = .returned (.int .u64 (arithB .quo (ofB a.toNat) (ofB b.toNat))) ∧ Touch w w' [] := by
  unfold arithB
  have hfa := fun w => float_any a w
  have hfb := fun w => float_any b w
  generalize ofB a.toNat = x at *
  generalize ofB b.toNat = y at *
  cases hb : floatBits .quo .f64 x y with
  | some r =>
    have hop : ∀ w : World, (binOp .quo 102 (.float .f64 x) (.float .f64 y)).run Try.prog w = .ok (.float .f64 r) w := fun w => run_float_arith w .quo _ .f64 x y r hb
    clear hb
    go_enter Try.func92, Try.ntmps92
    go_wp2_with fail
    refine (hfa w).mono ?_
    rintro e w1 ⟨rfl, rfl⟩
    go_wp2_with fail
    refine (hfb w).mono ?_
    rintro e w1 ⟨rfl, rfl⟩
    go_wp2_with fail
    refine (of_any r w).mono ?_
    rintro e w1 ⟨rfl, rfl⟩
    go_wp2
    go_ret
    exact ⟨rfl, Touch.refl _ _⟩
  | none =>
    obtain ⟨r, hr, hop⟩ : ∃ r : Nat, nanB r = true ∧ (binOp .quo 102 (.float .f64 x) (.float .f64 y)).run Try.prog w = .ok (.float .f64 r) w.drew := arith_none .quo 102 x y (by simp) hb w
    have ho := of_any r w.drew
    have e : ofB r = 9221120237041090560 := by unfold ofB; rw [if_pos hr]
    rw [e] at ho
    clear hb hr e
    go_enter Try.func92, Try.ntmps92
    go_wp2_with fail
    refine (hfa w).mono ?_
    rintro e w1 ⟨rfl, rfl⟩
    go_wp2_with fail
    refine (hfb w).mono ?_
    rintro e w1 ⟨rfl, rfl⟩
    go_wp2_with fail
    refine ho.mono ?_
    rintro e w1 ⟨rfl, rfl⟩
    go_wp2
    go_ret
    exact ⟨rfl, (Touch.refl w []).drew⟩

end Go.Proofs.Ytlndbligbpfdpaa
/-
  SIGNS AND BITS OF VALUES, AS PLAIN DATA. No walk.
-/
namespace Go.Proofs.Ytlndbligbpfdpaa
set_option linter.unusedVariables false
set_option linter.unusedSimpArgs false
open Go.RowKit

theorem isNeg_is (x : Nat) (h : x < 18446744073709551616) : isNeg x = decide (9223372036854775808 ≤ x) := by
  unfold isNeg
  by_cases h1 : 9223372036854775808 ≤ x
  · have : x / 9223372036854775808 % 2 = 1 := by omega
    rw [this, decide_eq_true h1]; rfl
  · have : x / 9223372036854775808 % 2 = 0 := by omega
    rw [this, decide_eq_false h1]; rfl
theorem rungB_is (x : Nat) (h : x < 18446744073709551616) : rungB x = if 9223372036854775808 ≤ x then x - 9223372036854775808 else x := by
  unfold rungB
  split <;> omega

theorem negB_is (x : Nat) (h : x < 18446744073709551616) : negB x = decide (9223372036854775808 ≤ x) := by
  unfold negB
  have e : bits .and .u64 (x : Int) 9223372036854775808 = ((x &&& 9223372036854775808 : Nat) : Int) := u64_and_nat x 9223372036854775808 h (by omega)
  rw [e]
  have e2 : (9223372036854775808 : Nat) = 2 ^ 63 := rfl
  rw [e2]
  have h1 : (x &&& 2 ^ 63) % 2 ^ 63 = 0 := by rw [Nat.and_mod_two_pow]; simp
  have h2 : (x &&& 2 ^ 63) / 2 ^ 63 = (x / 2 ^ 63) &&& 1 := by rw [Nat.and_div_two_pow]
  have h3 : (x &&& 2 ^ 63) = 2 ^ 63 * ((x &&& 2 ^ 63) / 2 ^ 63) + (x &&& 2 ^ 63) % 2 ^ 63 := (Nat.div_add_mod _ _).symm
  rw [h1, h2] at h3
  rw [h3]
  by_cases hx : 2 ^ 63 ≤ x
  · have : x / 2 ^ 63 = 1 := by omega
    rw [this, decide_eq_true hx]; decide
  · have : x / 2 ^ 63 = 0 := by omega
    rw [this, decide_eq_false hx]; decide

theorem absB_is (x : Nat) (h : x < 18446744073709551616) : absB x = rungB x := by
  unfold absB rungB
  have e : bits .andNot .u64 (x : Int) 9223372036854775808 = ((x &&& (18446744073709551615 - 9223372036854775808) : Nat) : Int) := u64_andNot_nat x 9223372036854775808 h (by omega)
  rw [e, Int.toNat_natCast]
  have e2 : (18446744073709551615 - 9223372036854775808 : Nat) = 2 ^ 63 - 1 := rfl
  rw [e2, Nat.and_two_pow_sub_one_eq_mod]

theorem negFloat_is (x : Nat) (h : x < 18446744073709551616) : Op.negFloat .f64 x = if 9223372036854775808 ≤ x then x - 9223372036854775808 else x + 9223372036854775808 := by
  have e : Op.negFloat .f64 x = x ^^^ 2 ^ 63 := rfl
  rw [e]
  have h1 : (x ^^^ 2 ^ 63) % 2 ^ 63 = x % 2 ^ 63 := by first | (rw [Nat.xor_mod_two_pow, Nat.mod_self, Nat.xor_zero]; done) | (rw [Nat.xor_mod_two_pow]; simp)
  have h2 : (x ^^^ 2 ^ 63) / 2 ^ 63 = (x / 2 ^ 63) ^^^ 1 := by first | (rw [Nat.xor_div_two_pow]; done) | (rw [Nat.xor_div_two_pow]; simp)
  have h3 : (x ^^^ 2 ^ 63) = 2 ^ 63 * ((x ^^^ 2 ^ 63) / 2 ^ 63) + (x ^^^ 2 ^ 63) % 2 ^ 63 := (Nat.div_add_mod _ _).symm
  rw [h1, h2] at h3
  by_cases hx : 9223372036854775808 ≤ x
  · have : x / 2 ^ 63 = 1 := by omega
    rw [if_pos hx, h3, this]
    have : (1 ^^^ 1 : Nat) = 0 := rfl
    rw [this]
    omega
  · have : x / 2 ^ 63 = 0 := by omega
    rw [if_neg hx, h3, this]
    have : (0 ^^^ 1 : Nat) = 1 := rfl
    rw [this]
    omega

/-- The right bits: those of a number, or just one of those that are none. -/
theorem ofB_cases (x : Nat) (h : x < 18446744073709551616) : (rungB x ≤ 9218868437227405312 ∧ ofB x = x) ∨ (9218868437227405312 < rungB x ∧ ofB x = 9221120237041090560) := by
  unfold ofB
  rw [nanB_rung]
  by_cases h1 : 9218868437227405312 < rungB x
  · right; rw [decide_eq_true h1]; exact ⟨h1, rfl⟩
  · left; rw [decide_eq_false h1]; exact ⟨by omega, rfl⟩

/-- The number by which values are in order. -/
def keyB (x : Nat) : Int := if 9223372036854775808 ≤ x then -((x - 9223372036854775808 : Nat) : Int) - 1 else x

theorem keyB_inj {x y : Nat} (hx : x < 18446744073709551616) (hy : y < 18446744073709551616) (h : keyB x = keyB y) : x = y := by
  unfold keyB at h
  split at h <;> split at h <;> omega

/-- Right bits. -/
structure Rt (x : Nat) : Prop where
  lt : x < 18446744073709551616
  r : rungB x ≤ 9218868437227405312 ∨ x = 9221120237041090560

theorem rt_of (x : Nat) (h : x < 18446744073709551616) : Rt (ofB x) := by
  rcases ofB_cases x h with ⟨h1, e⟩ | ⟨h1, e⟩
  · rw [e]; exact ⟨h, .inl h1⟩
  · rw [e]; exact ⟨by omega, .inr rfl⟩

theorem Rt.nan {x : Nat} (h : Rt x) : nanB x = decide (x = 9221120237041090560) := by
  rw [nanB_rung]
  rcases h.r with h1 | h1
  · rw [decide_eq_false (by omega)]
    symm
    apply decide_eq_false
    intro e
    rw [e] at h1
    revert h1
    decide
  · subst h1; decide

theorem less_of_cmp (A B : Int) (p c : Bool) (h : c = true ↔ A < B ∨ (A = B ∧ p = true)) : (if (some (compare A B) == some Ordering.eq) then p else (some (compare A B) == some Ordering.lt)) = c := by
  rcases Int.lt_trichotomy A B with h1 | h1 | h1
  · rw [cmp_lt h1]
    have : c = true := h.2 (.inl h1)
    rw [this]; rfl
  · have e : compare A B = .eq := by subst h1; simp [compare, compareOfLessAndEq]
    rw [e]
    have : c = p := by
      cases hp : p with
      | true => exact h.2 (.inr ⟨h1, hp⟩)
      | false =>
        cases hc : c with
        | false => rfl
        | true =>
          rcases h.1 hc with h2 | ⟨_, h2⟩
          · omega
          · rw [hp] at h2; cases h2
    rw [this]; rfl
  · rw [cmp_gt h1]
    have : c = false := by
      cases hc : c with
      | false => rfl
      | true =>
        rcases h.1 hc with h2 | ⟨h2, _⟩ <;> omega
    rw [this]; rfl

theorem lessB_key {x y : Nat} (hx : Rt x) (hy : Rt y) : lessB x y = decide (keyB x < keyB y) := by
  have e0 : rungB 9221120237041090560 = 9221120237041090560 := by decide
  unfold lessB
  rw [hx.nan, hy.nan]
  by_cases h1 : x = 9221120237041090560
  · subst h1
    rw [if_pos (by decide)]
    symm
    apply decide_eq_false
    have := hy.lt
    have hr := rungB_is y hy.lt
    rcases hy.r with h | h
    · unfold keyB
      rw [if_neg (by omega)]
      split at hr
      · rw [if_pos ‹_›]; omega
      · rw [if_neg ‹_›]; omega
    · rw [h]; omega
  · rw [if_neg (by simpa using h1)]
    have hxr : rungB x ≤ 9218868437227405312 := hx.r.resolve_right h1
    have hrx := rungB_is x hx.lt
    by_cases h2 : y = 9221120237041090560
    · subst h2
      rw [if_pos (by decide)]
      symm
      apply decide_eq_true
      unfold keyB
      rw [if_neg (show ¬ 9223372036854775808 ≤ 9221120237041090560 by omega)]
      split at hrx
      · rw [if_pos ‹_›]; omega
      · rw [if_neg ‹_›]; omega
    · rw [if_neg (by simpa using h2)]
      have hyr : rungB y ≤ 9218868437227405312 := hy.r.resolve_right h2
      have hry := rungB_is y hy.lt
      rw [order_key x y hxr hyr, negB_is x hx.lt, negB_is y hy.lt, isNeg_is x hx.lt, isNeg_is y hy.lt, hrx, hry]
      have lx := hx.lt
      have ly := hy.lt
      unfold keyB sgn
      by_cases a : 9223372036854775808 ≤ x <;> by_cases b : 9223372036854775808 ≤ y
      all_goals
        simp only [a, b, decide_true, decide_false, if_true, if_false, Bool.false_eq_true]
        refine less_of_cmp _ _ _ _ ?_
        simp only [decide_eq_true_eq, Bool.and_true, Bool.and_false, Bool.not_true, Bool.not_false, Bool.false_eq_true, and_false, or_false, and_true, Bool.true_and, Bool.false_and]
        try omega

theorem rt_nan : Rt 9221120237041090560 := ⟨by omega, .inr rfl⟩

/-- The document's order. -/
def refLess (x y : Nat) : Bool := if x = 9221120237041090560 then false else if y = 9221120237041090560 then true else if x = 9223372036854775808 ∧ y = 0 then true else FloatKind.f64.format.order x y == some .lt

theorem refLess_eq {x y : Nat} (hx : Rt x) (hy : Rt y) : refLess x y = lessB x y := by
  unfold refLess lessB
  rw [hx.nan, hy.nan]
  by_cases h1 : x = 9221120237041090560
  · simp only [h1, decide_true, if_true]
  · by_cases h2 : y = 9221120237041090560
    · simp only [h1, h2, decide_true, decide_false, if_true, if_false, Bool.false_eq_true]
    · simp only [h1, h2, decide_false, if_false, Bool.false_eq_true]
      have hxr : rungB x ≤ 9218868437227405312 := hx.r.resolve_right h1
      have hyr : rungB y ≤ 9218868437227405312 := hy.r.resolve_right h2
      have hrx := rungB_is x hx.lt
      have hry := rungB_is y hy.lt
      have lx := hx.lt
      have ly := hy.lt
      rw [order_key x y hxr hyr, negB_is x hx.lt, negB_is y hy.lt, isNeg_is x hx.lt, isNeg_is y hy.lt, hrx, hry]
      symm
      refine less_of_cmp _ _ _ _ ?_
      by_cases h3 : x = 9223372036854775808 ∧ y = 0
      · rw [if_pos h3]
        obtain ⟨rfl, rfl⟩ := h3
        decide
      · rw [if_neg h3]
        have hcl : ∀ A B : Int, ((some (compare A B) == some Ordering.lt) = true) ↔ A < B := by
          intro A B
          rcases Int.lt_trichotomy A B with h | h | h
          · rw [cmp_lt h]; simp [h]
          · subst h; simp [compare, compareOfLessAndEq]
          · rw [cmp_gt h]; simp; omega
        rw [hcl]
        unfold sgn
        by_cases a : 9223372036854775808 ≤ x <;> by_cases b : 9223372036854775808 ≤ y
        all_goals
          simp only [a, b, decide_true, decide_false, if_true, if_false, Bool.false_eq_true, Bool.and_true, Bool.and_false, Bool.not_true, Bool.not_false, and_false, or_false, and_true, Bool.true_and, Bool.false_and]
          try omega

/-- The document's class. -/
def refClass (x : Nat) : Int := if nanB x then 3 else if (FloatKind.f64.format.order x 0 == some .eq) then 0 else if (FloatKind.f64.format.order x 9218868437227405311 == some .gt || FloatKind.f64.format.order x 18442240474082181119 == some .lt) then 2 else 1

theorem cmp_is_eq (A B : Int) : (some (compare A B) == some Ordering.eq) = decide (A = B) := by
  rcases Int.lt_trichotomy A B with h | h | h
  · rw [cmp_lt h, decide_eq_false (by omega)]; rfl
  · subst h; simp [compare, compareOfLessAndEq]
  · rw [cmp_gt h, decide_eq_false (by omega)]; rfl
theorem cmp_is_gt (A B : Int) : (some (compare A B) == some Ordering.gt) = decide (B < A) := by
  rcases Int.lt_trichotomy A B with h | h | h
  · rw [cmp_lt h, decide_eq_false (by omega)]; rfl
  · subst h; simp [compare, compareOfLessAndEq]
  · rw [cmp_gt h, decide_eq_true h]; rfl
theorem cmp_is_lt (A B : Int) : (some (compare A B) == some Ordering.lt) = decide (A < B) := by
  rcases Int.lt_trichotomy A B with h | h | h
  · rw [cmp_lt h, decide_eq_true h]; rfl
  · subst h; simp [compare, compareOfLessAndEq]
  · rw [cmp_gt h, decide_eq_false (by omega)]; rfl

theorem refClass_eq {x : Nat} (hx : Rt x) : refClass x = classB x := by
  unfold refClass classB
  cases hn : nanB x with
  | true => rfl
  | false =>
    simp only [Bool.false_eq_true, if_false]
    rw [hx.nan] at hn
    have h1 : x ≠ 9221120237041090560 := by simpa using hn
    have hxr : rungB x ≤ 9218868437227405312 := hx.r.resolve_right h1
    have hrx := rungB_is x hx.lt
    have lx := hx.lt
    have ha : (bits BinOp.andNot IntKind.u64 (x : Int) 9223372036854775808).toNat = rungB x := absB_is x hx.lt
    have hrr : rungB (rungB x) = rungB x := by unfold rungB; omega
    have hrl : rungB x < 9223372036854775808 := by unfold rungB; omega
    rw [ha, order_key x 0 hxr (by decide), order_key x 9218868437227405311 hxr (by decide), order_key x 18442240474082181119 hxr (by decide), order_key (rungB x) 9218868437227405311 (by omega) (by decide)]
    rw [cmp_is_eq, cmp_is_gt, cmp_is_gt, cmp_is_lt, hrr, isNeg_is x lx, isNeg_is (rungB x) (by omega)]
    have e1 : sgn (isNeg 0) (rungB 0) = 0 := by decide
    have e2 : sgn (isNeg 9218868437227405311) (rungB 9218868437227405311) = 9218868437227405311 := by decide
    have e3 : sgn (isNeg 18442240474082181119) (rungB 18442240474082181119) = -9218868437227405311 := by decide
    rw [e1, e2, e3, decide_eq_false (show ¬ 9223372036854775808 ≤ rungB x by omega)]
    generalize rungB x = r at *
    unfold sgn
    simp only [Bool.false_eq_true, if_false]
    by_cases a : 9223372036854775808 ≤ x
    · simp only [a, decide_true, if_true]
      by_cases b : 9218868437227405311 < r
      · have c1 : ¬ (-(r : Int) = 0) := by omega
        have c2 : -(r : Int) < -9218868437227405311 := by omega
        have c3 : (9218868437227405311 : Int) < r := by omega
        simp [c1, c2, c3]
      · have c2 : ¬ -(r : Int) < -9218868437227405311 := by omega
        have c3 : ¬ (9218868437227405311 : Int) < r := by omega
        have c4 : ¬ (9218868437227405311 : Int) < -(r : Int) := by omega
        simp [c2, c3, c4]
    · simp only [a, decide_false, Bool.false_eq_true, if_false]
      by_cases b : 9218868437227405311 < r
      · have c1 : ¬ ((r : Int) = 0) := by omega
        have c3 : (9218868437227405311 : Int) < r := by omega
        have c5 : ¬ r = 0 := by omega
        simp [c1, c3, c5]
      · have c2 : ¬ (r : Int) < -9218868437227405311 := by omega
        have c3 : ¬ (9218868437227405311 : Int) < r := by omega
        simp [c2, c3]

/-- The other sign, and none, of right bits. -/
theorem neg_of {x : Nat} (hx : Rt x) : ofB (Op.negFloat .f64 x) = if x = 9221120237041090560 then 9221120237041090560 else if 9223372036854775808 ≤ x then x - 9223372036854775808 else x + 9223372036854775808 := by
  have lx := hx.lt
  by_cases h1 : x = 9221120237041090560
  · subst h1; rw [if_pos rfl]; decide +kernel
  · rw [if_neg h1, ← negFloat_is x lx]
    have hxr : rungB x ≤ 9218868437227405312 := hx.r.resolve_right h1
    have e := negFloat_is x lx
    have hl : Op.negFloat .f64 x < 18446744073709551616 := by rw [e]; split <;> omega
    have hr : rungB (Op.negFloat .f64 x) = rungB x := by
      unfold rungB
      rw [e]
      split <;> omega
    rcases ofB_cases _ hl with ⟨_, h2⟩ | ⟨h2, _⟩
    · exact h2
    · omega

theorem abs_of {x : Nat} (hx : Rt x) : ofB (absB x) = if x = 9221120237041090560 then 9221120237041090560 else rungB x := by
  have lx := hx.lt
  by_cases h1 : x = 9221120237041090560
  · subst h1; rw [if_pos rfl]; decide +kernel
  · rw [if_neg h1, absB_is x lx]
    have hxr : rungB x ≤ 9218868437227405312 := hx.r.resolve_right h1
    have hrr : rungB (rungB x) = rungB x := by unfold rungB; omega
    rcases ofB_cases (rungB x) (by omega) with ⟨_, h2⟩ | ⟨h2, _⟩
    · exact h2
    · omega

end Go.Proofs.Ytlndbligbpfdpaa
/-
  THE DOCUMENT's VALUES BY THEIR CONTRACTS: each answers as package value does.
-/
namespace Go.Proofs.Ytlndbligbpfdpaa
set_option linter.unusedVariables false
set_option linter.unusedSimpArgs false
open Go.RowKit

/-- A value, as its bits. -/
def Wf64 (n : Int) : Prop := 0 ≤ n ∧ n < 18446744073709551616
theorem Wf64.lt {n : Int} (h : Wf64 n) : n.toNat < 18446744073709551616 := by unfold Wf64 at h; omega
theorem Wf64.rt {n : Int} (h : Wf64 n) : Rt (ofB n.toNat) := rt_of _ h.lt
theorem wf_ofB {n : Int} (h : Wf64 n) : Wf64 (ofB n.toNat) := by have := h.rt.lt; unfold Wf64; omega
theorem ofB_ofB (n : Int) : ofB (((ofB n.toNat : Nat) : Int)).toNat = ofB n.toNat := by rw [Int.toNat_natCast, ofB_idem]

theorem beq_eq_decide (a b : Int) : (a == b) = decide (a = b) := by
  by_cases h : a = b <;> simp [h]

/-- Is it right? -/
def rightB (n : Int) : Bool := decide (((ofB n.toNat : Nat) : Int) = n)

theorem rightB_is {n : Int} (h : Wf64 n) : rightB n = (!nanB n.toNat || n == 9221120237041090560) := by
  unfold rightB ofB
  unfold Wf64 at h
  cases hn : nanB n.toNat with
  | true =>
    simp only [if_true, Bool.not_true, Bool.false_or]
    by_cases e : n = 9221120237041090560
    · subst e; decide
    · rw [decide_eq_false (by omega)]; simp [e]
  | false =>
    simp only [Bool.false_eq_true, if_false, Bool.not_false, Bool.true_or]
    exact decide_eq_true (by omega)

theorem right_any (n : Int) (w : World) : Calls Try.prog 84 #[.int .u64 n] w fun e w' => e = .returned (.bool (rightB n)) ∧ w = w' := by
  have hc := canon_any n w
  unfold rightB
  generalize ofB n.toNat = x at *
  go_enter Try.func84, Try.ntmps84
  go_wp2_with fail
  refine hc.mono ?_
  rintro e w1 ⟨rfl, rfl⟩
  clear hc
  go_wp2
  go_ret
  exact ⟨by simp [beq_eq_decide], rfl⟩

theorem rright_any (n : Int) (h : Wf64 n) (w : World) : Calls Try.prog 50 #[.int .u64 n] w fun e w' => e = .returned (.bool (rightB n)) ∧ w = w' := by
  have hf := frombits_run n
  rw [rightB_is h]
  unfold nanB
  generalize hq : (FloatKind.f64.format.order n.toNat n.toNat == some Ordering.eq) = q
  have hq' : (!(FloatKind.f64.format.order n.toNat n.toNat != some Ordering.eq)) = q := by rw [← hq]; simp [bne]
  rw [hq']
  clear hq'
  cases q with
  | true =>
    go_enter Try.func50, Try.ntmps50
    go_wp2
    go_ret
    exact ⟨by simp, rfl⟩
  | false =>
    go_enter Try.func50, Try.ntmps50
    go_wp2
    go_ret
    exact ⟨by simp, rfl⟩

theorem rcanon_any (n : Int) (h : Wf64 n) (w : World) : Calls Try.prog 76 #[.int .u64 n] w fun e w' => e = .returned (.int .u64 (ofB n.toNat)) ∧ w = w' := by
  have hr := rright_any n h w
  cases hq : rightB n with
  | true =>
    have e : ((ofB n.toNat : Nat) : Int) = n := by unfold rightB at hq; exact of_decide_eq_true hq
    rw [hq] at hr
    rw [e]
    clear hq e h
    go_enter Try.func76, Try.ntmps76
    go_wp2_with fail
    refine hr.mono ?_
    rintro e w1 ⟨rfl, rfl⟩
    clear hr
    go_wp2
    go_ret
    exact ⟨by simp, rfl⟩
  | false =>
    have e : ofB n.toNat = 9221120237041090560 := by
      have := rightB_is h
      rw [hq] at this
      unfold ofB
      cases hn : nanB n.toNat with
      | true => rfl
      | false => rw [hn] at this; simp at this
    rw [hq] at hr
    rw [e]
    clear hq e h
    go_enter Try.func76, Try.ntmps76
    go_wp2_with fail
    refine hr.mono ?_
    rintro e w1 ⟨rfl, rfl⟩
    clear hr
    go_wp2
    go_ret
    exact ⟨by simp, rfl⟩

theorem rof_any (b : Nat) (w : World) : Calls Try.prog 74 #[.float .f64 b] w fun e w' => e = .returned (.int .u64 (ofB b)) ∧ w = w' := by
  have ht := tobits_run b
  unfold ofB nanB
  generalize hq : (FloatKind.f64.format.order b b == some Ordering.eq) = q
  have hq' : (FloatKind.f64.format.order b b != some Ordering.eq) = !q := by rw [← hq]; rfl
  rw [hq']
  cases q with
  | true =>
    go_enter Try.func74, Try.ntmps74
    go_wp2
    go_ret
    exact ⟨by simp, rfl⟩
  | false =>
    go_enter Try.func74, Try.ntmps74
    go_wp2
    go_ret
    exact ⟨by simp, rfl⟩

theorem rfloat_any (n : Int) (h : Wf64 n) (w : World) : Calls Try.prog 73 #[.int .u64 n] w fun e w' => e = .returned (.float .f64 (ofB n.toNat)) ∧ w = w' := by
  have hc := rcanon_any n h w
  have hf := frombits_run (ofB n.toNat)
  rw [Int.toNat_natCast] at hf
  generalize ofB n.toNat = x at *
  clear h
  go_enter Try.func73, Try.ntmps73
  go_wp2_with fail
  refine hc.mono ?_
  rintro e w1 ⟨rfl, rfl⟩
  clear hc
  go_wp2
  go_ret
  exact ⟨by simp, rfl⟩

theorem radd_any (a b : Int) (ha : Wf64 a) (hb : Wf64 b) (w : World) : Calls Try.prog 52 #[.int .u64 a, .int .u64 b] w fun e w' => e = .returned (.int .u64 (arithB .add (ofB a.toNat) (ofB b.toNat))) ∧ Touch w w' [] := by
  unfold arithB
  have hcv : ∀ (r : Nat) (w : World), (convert 102 102 (.float .f64 r)).run Try.prog w = .ok (.float .f64 r) w := fun r w => run_convert_float_float w _ _ .f64 .f64 r r (by rw [Try.underlying102]; rfl) Try.underlying102 rfl
  have hfa := fun w => rfloat_any a ha w
  have hfb := fun w => rfloat_any b hb w
  generalize ofB a.toNat = x at *
  generalize ofB b.toNat = y at *
  cases hq : floatBits .add .f64 x y with
  | some r =>
    have hop : ∀ w : World, (binOp .add 102 (.float .f64 x) (.float .f64 y)).run Try.prog w = .ok (.float .f64 r) w := fun w => run_float_arith w .add _ .f64 x y r hq
    clear hq
    go_enter Try.func52, Try.ntmps52
    go_wp2_with fail
    refine (hfa w).mono ?_
    rintro e w1 ⟨rfl, rfl⟩
    go_wp2_with fail
    refine (hfb w).mono ?_
    rintro e w1 ⟨rfl, rfl⟩
    go_wp2_with fail
    refine (rof_any r w).mono ?_
    rintro e w1 ⟨rfl, rfl⟩
    go_wp2
    go_ret
    exact ⟨rfl, Touch.refl _ _⟩
  | none =>
    obtain ⟨r, hr, hop⟩ : ∃ r : Nat, nanB r = true ∧ (binOp .add 102 (.float .f64 x) (.float .f64 y)).run Try.prog w = .ok (.float .f64 r) w.drew := arith_none .add 102 x y (by simp) hq w
    have ho := rof_any r w.drew
    have e : ofB r = 9221120237041090560 := by unfold ofB; rw [if_pos hr]
    rw [e] at ho
    clear hq hr e
    go_enter Try.func52, Try.ntmps52
    go_wp2_with fail
    refine (hfa w).mono ?_
    rintro e w1 ⟨rfl, rfl⟩
    go_wp2_with fail
    refine (hfb w).mono ?_
    rintro e w1 ⟨rfl, rfl⟩
    go_wp2_with fail
    refine ho.mono ?_
    rintro e w1 ⟨rfl, rfl⟩
    go_wp2
    go_ret
    exact ⟨rfl, (Touch.refl w []).drew⟩

theorem rsub_any (a b : Int) (ha : Wf64 a) (hb : Wf64 b) (w : World) : Calls Try.prog 53 #[.int .u64 a, .int .u64 b] w fun e w' => e = .returned (.int .u64 (arithB .sub (ofB a.toNat) (ofB b.toNat))) ∧ Touch w w' [] := by
  unfold arithB
  have hcv : ∀ (r : Nat) (w : World), (convert 102 102 (.float .f64 r)).run Try.prog w = .ok (.float .f64 r) w := fun r w => run_convert_float_float w _ _ .f64 .f64 r r (by rw [Try.underlying102]; rfl) Try.underlying102 rfl
  have hfa := fun w => rfloat_any a ha w
  have hfb := fun w => rfloat_any b hb w
  generalize ofB a.toNat = x at *
  generalize ofB b.toNat = y at *
  cases hq : floatBits .sub .f64 x y with
  | some r =>
    have hop : ∀ w : World, (binOp .sub 102 (.float .f64 x) (.float .f64 y)).run Try.prog w = .ok (.float .f64 r) w := fun w => run_float_arith w .sub _ .f64 x y r hq
    clear hq
    go_enter Try.func53, Try.ntmps53
    go_wp2_with fail
    refine (hfa w).mono ?_
    rintro e w1 ⟨rfl, rfl⟩
    go_wp2_with fail
    refine (hfb w).mono ?_
    rintro e w1 ⟨rfl, rfl⟩
    go_wp2_with fail
    refine (rof_any r w).mono ?_
    rintro e w1 ⟨rfl, rfl⟩
    go_wp2
    go_ret
    exact ⟨rfl, Touch.refl _ _⟩
  | none =>
    obtain ⟨r, hr, hop⟩ : ∃ r : Nat, nanB r = true ∧ (binOp .sub 102 (.float .f64 x) (.float .f64 y)).run Try.prog w = .ok (.float .f64 r) w.drew := arith_none .sub 102 x y (by simp) hq w
    have ho := rof_any r w.drew
    have e : ofB r = 9221120237041090560 := by unfold ofB; rw [if_pos hr]
    rw [e] at ho
    clear hq hr e
    go_enter Try.func53, Try.ntmps53
    go_wp2_with fail
    refine (hfa w).mono ?_
    rintro e w1 ⟨rfl, rfl⟩
    go_wp2_with fail
    refine (hfb w).mono ?_
    rintro e w1 ⟨rfl, rfl⟩
    go_wp2_with fail
    refine ho.mono ?_
    rintro e w1 ⟨rfl, rfl⟩
    go_wp2
    go_ret
    exact ⟨rfl, (Touch.refl w []).drew⟩

theorem rmul_any (a b : Int) (ha : Wf64 a) (hb : Wf64 b) (w : World) : Calls Try.prog 54 #[.int .u64 a, .int .u64 b] w fun e w' => e = .returned (.int .u64 (arithB .mul (ofB a.toNat) (ofB b.toNat))) ∧ Touch w w' [] := by
  unfold arithB
  have hcv : ∀ (r : Nat) (w : World), (convert 102 102 (.float .f64 r)).run Try.prog w = .ok (.float .f64 r) w := fun r w => run_convert_float_float w _ _ .f64 .f64 r r (by rw [Try.underlying102]; rfl) Try.underlying102 rfl
  have hfa := fun w => rfloat_any a ha w
  have hfb := fun w => rfloat_any b hb w
  generalize ofB a.toNat = x at *
  generalize ofB b.toNat = y at *
  cases hq : floatBits .mul .f64 x y with
  | some r =>
    have hop : ∀ w : World, (binOp .mul 102 (.float .f64 x) (.float .f64 y)).run Try.prog w = .ok (.float .f64 r) w := fun w => run_float_arith w .mul _ .f64 x y r hq
    clear hq
    go_enter Try.func54, Try.ntmps54
    go_wp2_with fail
    refine (hfa w).mono ?_
    rintro e w1 ⟨rfl, rfl⟩
    go_wp2_with fail
    refine (hfb w).mono ?_
    rintro e w1 ⟨rfl, rfl⟩
    go_wp2_with fail
    refine (rof_any r w).mono ?_
    rintro e w1 ⟨rfl, rfl⟩
    go_wp2
    go_ret
    exact ⟨rfl, Touch.refl _ _⟩
  | none =>
    obtain ⟨r, hr, hop⟩ : ∃ r : Nat, nanB r = true ∧ (binOp .mul 102 (.float .f64 x) (.float .f64 y)).run Try.prog w = .ok (.float .f64 r) w.drew := arith_none .mul 102 x y (by simp) hq w
    have ho := rof_any r w.drew
    have e : ofB r = 9221120237041090560 := by unfold ofB; rw [if_pos hr]
    rw [e] at ho
    clear hq hr e
    go_enter Try.func54, Try.ntmps54
    go_wp2_with fail
    refine (hfa w).mono ?_
    rintro e w1 ⟨rfl, rfl⟩
    go_wp2_with fail
    refine (hfb w).mono ?_
    rintro e w1 ⟨rfl, rfl⟩
    go_wp2_with fail
    refine ho.mono ?_
    rintro e w1 ⟨rfl, rfl⟩
    go_wp2
    go_ret
    exact ⟨rfl, (Touch.refl w []).drew⟩

theorem rdiv_any (a b : Int) (ha : Wf64 a) (hb : Wf64 b) (w : World) : Calls Try.prog 55 #[.int .u64 a, .int .u64 b] w fun e w' => e = .returned (.int .u64 (arithB .quo (ofB a.toNat) (ofB b.toNat))) ∧ Touch w w' [] := by
  unfold arithB
  have hcv : ∀ (r : Nat) (w : World), (convert 102 102 (.float .f64 r)).run Try.prog w = .ok (.float .f64 r) w := fun r w => run_convert_float_float w _ _ .f64 .f64 r r (by rw [Try.underlying102]; rfl) Try.underlying102 rfl
  have hfa := fun w => rfloat_any a ha w
  have hfb := fun w => rfloat_any b hb w
  generalize ofB a.toNat = x at *
  generalize ofB b.toNat = y at *
  cases hq : floatBits .quo .f64 x y with
  | some r =>
    have hop : ∀ w : World, (binOp .quo 102 (.float .f64 x) (.float .f64 y)).run Try.prog w = .ok (.float .f64 r) w := fun w => run_float_arith w .quo _ .f64 x y r hq
    clear hq
    go_enter Try.func55, Try.ntmps55
    go_wp2_with fail
    refine (hfa w).mono ?_
    rintro e w1 ⟨rfl, rfl⟩
    go_wp2_with fail
    refine (hfb w).mono ?_
    rintro e w1 ⟨rfl, rfl⟩
    go_wp2_with fail
    refine (rof_any r w).mono ?_
    rintro e w1 ⟨rfl, rfl⟩
    go_wp2
    go_ret
    exact ⟨rfl, Touch.refl _ _⟩
  | none =>
    obtain ⟨r, hr, hop⟩ : ∃ r : Nat, nanB r = true ∧ (binOp .quo 102 (.float .f64 x) (.float .f64 y)).run Try.prog w = .ok (.float .f64 r) w.drew := arith_none .quo 102 x y (by simp) hq w
    have ho := rof_any r w.drew
    have e : ofB r = 9221120237041090560 := by unfold ofB; rw [if_pos hr]
    rw [e] at ho
    clear hq hr e
    go_enter Try.func55, Try.ntmps55
    go_wp2_with fail
    refine (hfa w).mono ?_
    rintro e w1 ⟨rfl, rfl⟩
    go_wp2_with fail
    refine (hfb w).mono ?_
    rintro e w1 ⟨rfl, rfl⟩
    go_wp2_with fail
    refine ho.mono ?_
    rintro e w1 ⟨rfl, rfl⟩
    go_wp2
    go_ret
    exact ⟨rfl, (Touch.refl w []).drew⟩

end Go.Proofs.Ytlndbligbpfdpaa
/-
  WHAT READS ASK OF VALUES, BY THEIR CONTRACTS, in a seat that has the texts on package value: those.
-/
namespace Go.Proofs.Ytlndbligbpfdpaa
end Go.Proofs.Ytlndbligbpfdpaa
/-
  package code: AN INSTRUCTION; Uses, highest, width, Right BY THEIR CONTRACTS.
-/
namespace Go.Proofs.Ytlndbligbpfdpaa
set_option linter.unusedVariables false
set_option linter.unusedSimpArgs false
open Go.RowKit
attribute [local go_sem] Oper.semAt_some

/-- A contract, hidden. -/
structure HidC (P : Program) (f : Nat) (a : Array Value) (w : World) (Q : Ending → World → Prop) : Prop where
  out : Calls P f a w Q

/-- An instruction: its operation, its Arg, its Val. -/
structure InsD where
  op : Int
  arg : Int
  val : Int
abbrev InsD.v (i : InsD) : Value := .agg #[.int .u8 i.op, .int .i64 i.arg, .int .u64 i.val]
def InsD.cells (i : InsD) : List Value := [.int .u8 i.op, .int .i64 i.arg, .int .u64 i.val]
structure InsD.Wf (i : InsD) : Prop where
  op : 0 ≤ i.op ∧ i.op ≤ 255
  arg : -9223372036854775808 ≤ i.arg ∧ i.arg ≤ 9223372036854775807
  val : Wf64 i.val

/-- Which have an Arg; which a Val. -/
def argP (o : Int) : Bool := decide (o = 2 ∨ o = 3 ∨ o = 4 ∨ o = 5 ∨ o = 6 ∨ o = 7 ∨ o = 19 ∨ o = 20 ∨ o = 21 ∨ o = 23 ∨ o = 24)
def valP (o : Int) : Bool := decide (o = 1)
theorem op_cases (o : Int) : o = 1 ∨ o = 2 ∨ o = 3 ∨ o = 4 ∨ o = 5 ∨ o = 6 ∨ o = 7 ∨ o = 19 ∨ o = 20 ∨ o = 21 ∨ o = 23 ∨ o = 24 ∨ (o ≠ 1 ∧ o ≠ 2 ∧ o ≠ 3 ∧ o ≠ 4 ∧ o ≠ 5 ∧ o ≠ 6 ∧ o ≠ 7 ∧ o ≠ 19 ∧ o ≠ 20 ∧ o ≠ 21 ∧ o ≠ 23 ∧ o ≠ 24) := by omega

set_option maxRecDepth 100000 in
set_option maxHeartbeats 2000000 in
theorem uses_any (o : Int) (w : World) : Calls Try.prog 82 #[.int .u8 o] w fun e w' => e = .returned (.tuple #[.bool (argP o), .bool (valP o)]) ∧ w = w' := by
  rcases op_cases o with rfl | rfl | rfl | rfl | rfl | rfl | rfl | rfl | rfl | rfl | rfl | rfl | ⟨h1, h2, h3, h4, h5, h6, h7, h19, h20, h21, h23, h24⟩
  · show Calls _ _ _ _ fun e w' => e = .returned (.tuple #[.bool false, .bool true]) ∧ w = w'
    go_enter Try.func82, Try.ntmps82
    go_wp2
    refine bodyPost_ret (v := .tuple #[.bool false, .bool true]) (by simp [results, Try.results82, go_sem]) rfl ?_
    exact ⟨rfl, rfl⟩
  · show Calls _ _ _ _ fun e w' => e = .returned (.tuple #[.bool true, .bool false]) ∧ w = w'
    go_enter Try.func82, Try.ntmps82
    go_wp2
    refine bodyPost_ret (v := .tuple #[.bool true, .bool false]) (by simp [results, Try.results82, go_sem]) rfl ?_
    exact ⟨rfl, rfl⟩
  · show Calls _ _ _ _ fun e w' => e = .returned (.tuple #[.bool true, .bool false]) ∧ w = w'
    go_enter Try.func82, Try.ntmps82
    go_wp2
    refine bodyPost_ret (v := .tuple #[.bool true, .bool false]) (by simp [results, Try.results82, go_sem]) rfl ?_
    exact ⟨rfl, rfl⟩
  · show Calls _ _ _ _ fun e w' => e = .returned (.tuple #[.bool true, .bool false]) ∧ w = w'
    go_enter Try.func82, Try.ntmps82
    go_wp2
    refine bodyPost_ret (v := .tuple #[.bool true, .bool false]) (by simp [results, Try.results82, go_sem]) rfl ?_
    exact ⟨rfl, rfl⟩
  · show Calls _ _ _ _ fun e w' => e = .returned (.tuple #[.bool true, .bool false]) ∧ w = w'
    go_enter Try.func82, Try.ntmps82
    go_wp2
    refine bodyPost_ret (v := .tuple #[.bool true, .bool false]) (by simp [results, Try.results82, go_sem]) rfl ?_
    exact ⟨rfl, rfl⟩
  · show Calls _ _ _ _ fun e w' => e = .returned (.tuple #[.bool true, .bool false]) ∧ w = w'
    go_enter Try.func82, Try.ntmps82
    go_wp2
    refine bodyPost_ret (v := .tuple #[.bool true, .bool false]) (by simp [results, Try.results82, go_sem]) rfl ?_
    exact ⟨rfl, rfl⟩
  · show Calls _ _ _ _ fun e w' => e = .returned (.tuple #[.bool true, .bool false]) ∧ w = w'
    go_enter Try.func82, Try.ntmps82
    go_wp2
    refine bodyPost_ret (v := .tuple #[.bool true, .bool false]) (by simp [results, Try.results82, go_sem]) rfl ?_
    exact ⟨rfl, rfl⟩
  · show Calls _ _ _ _ fun e w' => e = .returned (.tuple #[.bool true, .bool false]) ∧ w = w'
    go_enter Try.func82, Try.ntmps82
    go_wp2
    refine bodyPost_ret (v := .tuple #[.bool true, .bool false]) (by simp [results, Try.results82, go_sem]) rfl ?_
    exact ⟨rfl, rfl⟩
  · show Calls _ _ _ _ fun e w' => e = .returned (.tuple #[.bool true, .bool false]) ∧ w = w'
    go_enter Try.func82, Try.ntmps82
    go_wp2
    refine bodyPost_ret (v := .tuple #[.bool true, .bool false]) (by simp [results, Try.results82, go_sem]) rfl ?_
    exact ⟨rfl, rfl⟩
  · show Calls _ _ _ _ fun e w' => e = .returned (.tuple #[.bool true, .bool false]) ∧ w = w'
    go_enter Try.func82, Try.ntmps82
    go_wp2
    refine bodyPost_ret (v := .tuple #[.bool true, .bool false]) (by simp [results, Try.results82, go_sem]) rfl ?_
    exact ⟨rfl, rfl⟩
  · show Calls _ _ _ _ fun e w' => e = .returned (.tuple #[.bool true, .bool false]) ∧ w = w'
    go_enter Try.func82, Try.ntmps82
    go_wp2
    refine bodyPost_ret (v := .tuple #[.bool true, .bool false]) (by simp [results, Try.results82, go_sem]) rfl ?_
    exact ⟨rfl, rfl⟩
  · show Calls _ _ _ _ fun e w' => e = .returned (.tuple #[.bool true, .bool false]) ∧ w = w'
    go_enter Try.func82, Try.ntmps82
    go_wp2
    refine bodyPost_ret (v := .tuple #[.bool true, .bool false]) (by simp [results, Try.results82, go_sem]) rfl ?_
    exact ⟨rfl, rfl⟩
  have ea : argP o = false := by simp [argP, *]
  have ev : valP o = false := by simp [valP, *]
  rw [ea, ev]
  go_enter Try.func82, Try.ntmps82
  go_wp2
  refine bodyPost_ret (v := .tuple #[.bool false, .bool false]) (by simp [results, Try.results82, go_sem]) rfl ?_
  exact ⟨rfl, rfl⟩

def highP (o : Int) : Int := if o = 2 ∨ o = 3 then 3 else if o = 4 ∨ o = 5 ∨ o = 6 ∨ o = 7 then 11 else 63
set_option maxRecDepth 100000 in
theorem highest_any (o : Int) (w : World) : Calls Try.prog 83 #[.int .u8 o] w fun e w' => e = .returned (.int .i64 (highP o)) ∧ w = w' := by
  rcases (show o = 2 ∨ o = 3 ∨ o = 4 ∨ o = 5 ∨ o = 6 ∨ o = 7 ∨ (o ≠ 2 ∧ o ≠ 3 ∧ o ≠ 4 ∧ o ≠ 5 ∧ o ≠ 6 ∧ o ≠ 7) by omega) with rfl | rfl | rfl | rfl | rfl | rfl | ⟨h2, h3, h4, h5, h6, h7⟩
  all_goals try (
    go_enter Try.func83, Try.ntmps83
    go_wp2
    go_ret
    exact ⟨rfl, rfl⟩)
  have e : highP o = 63 := by simp [highP, *]
  rw [e]
  go_enter Try.func83, Try.ntmps83
  go_wp2
  go_ret
  exact ⟨rfl, rfl⟩

def widthP (o : Int) : Nat := 1 + (if argP o then 1 else 0) + (if valP o then 8 else 0)

/-- Is an instruction right? -/
def rightI (i : InsD) : Bool := decide (i.op ≤ 28) && (argP i.op || i.arg == 0) && (valP i.op || i.val == 0) && decide (0 ≤ i.arg) && decide (i.arg ≤ highP i.op) && rightB i.val

end Go.Proofs.Ytlndbligbpfdpaa

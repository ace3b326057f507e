/-
  FlowsMean: WHAT THE BLOCKS COME TO, reckoned.
-/
import Derived.Test.YtkpgfchglaemgaaDoorRbPl
import Derived.Test.YtkpgfchglaemgaaDoorAllC
namespace Go.Proofs.YtkpgfchglaemgaaDoor
set_option linter.unusedVariables false
set_option linter.unusedSimpArgs false
open Go.RowKit

/-- A queue's variables: n places, c values from place f on. -/
def fmQ (n c f : Nat) : List Int := (List.range (n + 2)).map fun i => if i = 0 then numV c else if i = 1 then numV f else if (i - 2 + n - f) % n < c then numV (10 + ((i - 2 + n - f) % n : Nat)) else 0
def fmV (c : Nat) : List Int := (List.range c).map fun i => numV (10 + (i : Nat))
/-- A barrier's variables behind a arrivals. -/
def fmB (n a : Nat) : List Int := numV (a % n : Nat) :: numV (a / n : Nat) :: List.replicate n 0
def fmR (j n v : Int) (h : List Int) : Int × WD × List Int := rrunB (foneL j n v) 60 ⟨1, [], 0, 0, v, 0, [], 0⟩ h
def fmHeldQ (h l : List Int) (n : Nat) : Bool := h.length == n + 2 && (h.getD 0 0 == numV l.length) && (wholeV (ofB (h.getD 1 0).toNat)).2 && decide (0 ≤ (wholeV (ofB (h.getD 1 0).toNat)).1) && decide ((wholeV (ofB (h.getD 1 0).toNat)).1 < n) && (List.range l.length).all fun i => h.getD (2 + (((wholeV (ofB (h.getD 1 0).toNat)).1.toNat + i) % n)) 0 == l.getD i 0
def fmHeldP (h : List Int) (m g : Int) (n : Nat) : Bool := h.length == n + 2 && (h.getD 0 0 == numV m) && (h.getD 1 0 == numV g)
def fmEnd (R : Int × WD × List Int) (L : List InsD) (st : List Int) : Bool := R.1 == 0 && R.2.1.pc == (L.length : Int) && R.2.1.st == st
def fmOkE (n v c f : Nat) : Bool := if c = n then (fmR 0 n (numV v) (fmQ n c f)).1 == -1 else fmEnd (fmR 0 n (numV v) (fmQ n c f)) (foneL 0 n (numV v)) [] && fmHeldQ (fmR 0 n (numV v) (fmQ n c f)).2.2 (fmV c ++ [numV v]) n
def fmOkT (n v c f : Nat) : Bool := if c = 0 then (fmR 1 n (numV v) (fmQ n c f)).1 == -1 else fmEnd (fmR 1 n (numV v) (fmQ n c f)) (foneL 1 n (numV v)) [numV 10] && fmHeldQ (fmR 1 n (numV v) (fmQ n c f)).2.2 (fmV c).tail n
def fmOkA (n v a : Nat) : Bool := fmEnd (fmR 2 n (numV v) (fmB n a)) (foneL 2 n (numV v)) [numV (a / n : Nat)] && (if a % n + 1 = n then fmHeldP (fmR 2 n (numV v) (fmB n a)).2.2 0 ((a / n : Nat) + 1) n else fmHeldP (fmR 2 n (numV v) (fmB n a)).2.2 ((a % n : Nat) + 1) (a / n : Nat) n)
def fmOkL (n v a : Nat) : Bool := if lessB (ofB (numV v).toNat) (ofB (numV (a / n : Nat)).toNat) = true then fmEnd (fmR 3 n (numV v) (fmB n a)) (foneL 3 n (numV v)) [] && fmHeldP (fmR 3 n (numV v) (fmB n a)).2.2 (a % n : Nat) (a / n : Nat) n else (fmR 3 n (numV v) (fmB n a)).1 == -1
set_option maxRecDepth 100000 in
theorem fmOkE_fin : ∀ (n : Fin 4) (v : Fin 5) (c : Fin 5) (f : Fin 4), c.val ≤ n.val + 1 → f.val < n.val + 1 → fmOkE (n.val + 1) v.val c.val f.val = true := by decide +kernel
set_option maxRecDepth 100000 in
theorem fmOkT_fin : ∀ (n : Fin 4) (v : Fin 5) (c : Fin 5) (f : Fin 4), c.val ≤ n.val + 1 → f.val < n.val + 1 → fmOkT (n.val + 1) v.val c.val f.val = true := by decide +kernel
set_option maxRecDepth 100000 in
theorem fmOkA_fin : ∀ (n : Fin 4) (v : Fin 5) (a : Fin 9), fmOkA (n.val + 1) v.val a.val = true := by decide +kernel
set_option maxRecDepth 100000 in
theorem fmOkL_fin : ∀ (n : Fin 4) (v : Fin 5) (a : Fin 9), fmOkL (n.val + 1) v.val a.val = true := by decide +kernel

end Go.Proofs.YtkpgfchglaemgaaDoor

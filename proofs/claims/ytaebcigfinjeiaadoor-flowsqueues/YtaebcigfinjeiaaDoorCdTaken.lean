/-
  package code: taken, OF THE BYTES OF ONE RIGHT INSTRUCTION, BY ITS CONTRACT.
-/
import Derived.Test.YtaebcigfinjeiaaDoorCdEncode
namespace Go.Proofs.YtaebcigfinjeiaaDoor
set_option linter.unusedVariables false
set_option linter.unusedSimpArgs false
open Go.RowKit
attribute [local go_sem] Oper.semAt_some

theorem BRow.one {w : World} {ao : Option Addr} {cap : Nat} {l : List Int} (h : BRow w (.slice ao l.length cap) l) (k : Nat) (hk : k < l.length) :
    ∃ g off, ao = some ⟨g, off, none⟩ ∧ g < w.heap.size ∧ w.cell? ⟨g, off + k, none⟩ = some (.int .u8 l[k]) := by
  obtain ⟨g, off, e, hlt, hc⟩ := h.at k hk
  exact ⟨g, off, e, hlt, by simpa using hc 0 (by omega)⟩

/-- What a right one is. -/
theorem right_arg {i : InsD} (h : rightI i = true) (hp : argP i.op = true) : 0 ≤ i.arg ∧ i.arg ≤ 63 ∧ i.val = 0 := by
  have hv := arg_val hp
  simp only [rightI, Bool.and_eq_true, decide_eq_true_eq, Bool.or_eq_true] at h
  obtain ⟨⟨⟨⟨⟨h1, h2⟩, h3⟩, h4⟩, h5⟩, h6⟩ := h
  rw [hv] at h3
  have : highP i.op ≤ 63 := by unfold highP; split <;> (try split) <;> omega
  exact ⟨h4, by omega, by simpa using h3⟩
theorem right_none {i : InsD} (h : rightI i = true) (hp : argP i.op = false) : i.arg = 0 := by
  simp only [rightI, Bool.and_eq_true, decide_eq_true_eq, Bool.or_eq_true] at h
  obtain ⟨⟨⟨⟨⟨h1, h2⟩, h3⟩, h4⟩, h5⟩, h6⟩ := h
  rw [hp] at h2
  simpa using h2
theorem right_noval {i : InsD} (h : rightI i = true) (hp : valP i.op = false) : i.val = 0 := by
  simp only [rightI, Bool.and_eq_true, decide_eq_true_eq, Bool.or_eq_true] at h
  obtain ⟨⟨⟨⟨⟨h1, h2⟩, h3⟩, h4⟩, h5⟩, h6⟩ := h
  rw [hp] at h3
  simpa using h3

/-- The bytes of a Val, one by one. -/
theorem val_step (n k : Nat) (hk : k < 8) (hn : n < 18446744073709551616) : n / 2 ^ (8 * (8 - (k + 1))) = n / 2 ^ (8 * (8 - k)) * 256 + n / 2 ^ (8 * (7 - k)) % 256 := by
  have e1 : 8 * (8 - (k + 1)) = 8 * (7 - k) := by omega
  have e2 : 2 ^ (8 * (8 - k)) = 2 ^ (8 * (7 - k)) * 256 := by
    have : 8 * (8 - k) = 8 * (7 - k) + 8 := by omega
    rw [this, Nat.pow_add]
  rw [e1, e2, ← Nat.div_div_eq_div_mul]
  omega
theorem or_byte (m b : Nat) (hm : m < 72057594037927936) (hb : b < 256) : bits .or .u64 ((m * 256 : Nat) : Int) (b : Int) = ((m * 256 + b : Nat) : Int) := by
  rw [u64_or_nat (m * 256) b (by omega) (by omega)]
  congr 1
  have h := Nat.two_pow_add_eq_or_of_lt (i := 8) (b := b) (by omega) m
  have e : 2 ^ 8 * m = m * 256 := by omega
  rw [e] at h
  omega

theorem res_cell {fn : Func} {p : Tmp} {ty : TypeId} (h : fn.results = #[.cell p ty]) (tmps : Array Value) (P : Program) (w : World) :
    (results fn tmps).run P w = ((asAddr (tmps.getD p undef)).run P w).andThen fun a w₁ => (loadVar ty a).run P w₁ := by
  simp only [results, h]
  simp [Sem.run_bind, Result.andThen]

/-- What bytes can say, right or not. -/
structure FitI (i : InsD) : Prop where
  arg : argP i.op = true → 0 ≤ i.arg ∧ i.arg ≤ 255 ∧ i.val = 0
  none : argP i.op = false → i.arg = 0
  noval : valP i.op = false → i.val = 0
theorem fit_of {i : InsD} (h : rightI i = true) : FitI i := ⟨fun hp => by have := right_arg h hp; omega, right_none h, right_noval h⟩

end Go.Proofs.YtaebcigfinjeiaaDoor

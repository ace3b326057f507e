/-
  package code: WHAT BYTES SAY, AS PLAIN DATA. No walk.
-/
import Derived.Test.YtminiabpeodjaaaDoorCdInj
namespace Go.Proofs.YtminiabpeodjaaaDoor
set_option linter.unusedVariables false
set_option linter.unusedSimpArgs false
open Go.RowKit

/-- Bytes as a number, the highest first. -/
def valN (l : List Int) : Nat := l.foldl (fun a x => a * 256 + x.toNat) 0
theorem valN_snoc (l : List Int) (x : Int) : valN (l ++ [x]) = valN l * 256 + x.toNat := by unfold valN; rw [List.foldl_append]; rfl
theorem valN_step (l : List Int) (k : Nat) (hk : k < l.length) : valN (l.take (k + 1)) = valN (l.take k) * 256 + l[k].toNat := by rw [List.take_succ_eq_append_getElem hk, valN_snoc]
theorem valN_lt' (l : List Int) (h : ByteL l) : ∀ k, k ≤ l.length → valN (l.take k) < 256 ^ k
  | 0, _ => by simp [valN]
  | k + 1, hk => by
    have h1 := valN_lt' l h k (by omega)
    have h2 := h l[k] (List.getElem_mem _)
    rw [valN_step l k (by omega), Nat.pow_succ]
    have h3 : l[k].toNat < 256 := by omega
    have : (valN (l.take k) + 1) * 256 ≤ 256 ^ k * 256 := Nat.mul_le_mul_right _ h1
    omega
theorem valN_lt (l : List Int) (h : ByteL l) : valN l < 256 ^ l.length := by
  have := valN_lt' l h l.length (Nat.le_refl _)
  rwa [List.take_length] at this
theorem valN_take (l : List Int) (h : ByteL l) : ∀ d k, k + d = l.length → valN (l.take k) = valN l / 256 ^ d
  | 0, k, hk => by rw [List.take_of_length_le (by omega)]; simp
  | d + 1, k, hk => by
    have h1 := valN_take l h d (k + 1) (by omega)
    have h2 := h (l[k]'(by omega)) (List.getElem_mem _)
    have h3 := valN_step l k (by omega)
    rw [Nat.pow_succ, ← Nat.div_div_eq_div_mul, ← h1, h3]
    omega
theorem valB_valN (l : List Int) (h : ByteL l) (hl : l.length = 8) : valB (valN l) 8 = l := by
  apply List.ext_getElem?
  intro i
  rcases Nat.lt_or_ge i 8 with hi | hi
  · rw [valB_at _ 8 i hi, List.getElem?_eq_getElem (by omega)]
    have h1 := valN_take l h (7 - i) (i + 1) (by omega)
    have h3 := h (l[i]'(by omega)) (List.getElem_mem _)
    have h4 := valN_step l i (by omega)
    have e1 : 2 ^ (8 * (7 - i)) = 256 ^ (7 - i) := by
      rw [show (256 : Nat) = 2 ^ 8 from rfl, ← Nat.pow_mul]
    rw [e1, ← h1, h4]
    congr 1
    omega
  · rw [List.getElem?_eq_none (by rw [valB_len]; omega), List.getElem?_eq_none (by omega)]

/-- What the first bytes say, right or not. -/
def fitOf (b : List Int) : InsD := ⟨b.getD 0 0, if argP (b.getD 0 0) then b.getD 1 0 else 0, if valP (b.getD 0 0) then (valN ((b.drop 1).take 8) : Int) else 0⟩

theorem widthP_pos (o : Int) : 0 < widthP o := by unfold widthP; omega
theorem fit_is {o : Int} {r : List Int} (h : ByteL (o :: r)) (hw : widthP o ≤ (o :: r).length) : encI (fitOf (o :: r)) = (o :: r).take (widthP o) ∧ FitI (fitOf (o :: r)) ∧ (fitOf (o :: r)).Wf := by
  have ho := h o (by simp)
  have e0 : (o :: r).getD 0 0 = o := rfl
  cases hap : argP o with
  | true =>
    have hvp := arg_val hap
    have hw2 : widthP o = 2 := by unfold widthP; rw [hap, hvp]; rfl
    rw [hw2] at hw ⊢
    rcases r with _ | ⟨x, r⟩
    · simp at hw
    · have hx := h x (by simp)
      have hf : fitOf (o :: x :: r) = ⟨o, x, 0⟩ := by unfold fitOf; simp only [List.getD_cons_zero, hap, hvp]; simp
      rw [hf]
      refine ⟨?_, ⟨fun _ => ⟨hx.1, by simp only; omega, rfl⟩, fun q => absurd q (by simp [hap]), fun _ => rfl⟩, ⟨by simp only; omega, by simp only; omega, by unfold Wf64; simp only; omega⟩⟩
      unfold encI
      simp only [hap, hvp, if_true, Bool.false_eq_true, if_false, List.append_nil, List.take_succ_cons, List.take_zero]
      rw [Int.emod_eq_of_lt hx.1 hx.2]
  | false =>
    cases hvp : valP o with
    | false =>
      have hw2 : widthP o = 1 := by unfold widthP; rw [hap, hvp]; rfl
      rw [hw2]
      have hf : fitOf (o :: r) = ⟨o, 0, 0⟩ := by unfold fitOf; simp only [List.getD_cons_zero, hap, hvp]; simp
      rw [hf]
      refine ⟨?_, ⟨fun q => absurd q (by simp [hap]), fun _ => rfl, fun _ => rfl⟩, ⟨by simp only; omega, by simp only; omega, by unfold Wf64; simp only; omega⟩⟩
      unfold encI
      simp only [hap, hvp, Bool.false_eq_true, if_false, List.append_nil, List.take_succ_cons, List.take_zero]
    | true =>
      have hw2 : widthP o = 9 := by unfold widthP; rw [hap, hvp]; rfl
      rw [hw2] at hw ⊢
      have hl : (r.take 8).length = 8 := by rw [List.length_take]; simp at hw; omega
      have hb : ByteL (r.take 8) := fun y hy => h y (by simp [List.mem_of_mem_take hy])
      have hf : fitOf (o :: r) = ⟨o, 0, (valN (r.take 8) : Int)⟩ := by unfold fitOf; simp only [List.getD_cons_zero, hap, hvp]; simp
      have hlt := valN_lt _ hb
      rw [hl] at hlt
      have h64 : (256 : Nat) ^ 8 = 18446744073709551616 := by decide
      rw [h64] at hlt
      rw [hf]
      refine ⟨?_, ⟨fun q => absurd q (by simp [hap]), fun _ => rfl, fun q => absurd q (by simp [hvp])⟩, ⟨by simp only; omega, by simp only; omega, by unfold Wf64; simp only; omega⟩⟩
      unfold encI
      simp only [hap, hvp, if_true, Bool.false_eq_true, if_false, List.nil_append, List.take_succ_cons, Int.toNat_natCast]
      rw [valB_valN _ hb hl]

/-- The instructions that bytes say; none: they say none. -/
def decF : Nat → List Int → Option (List InsD)
  | 0, b => if b.length = 0 then some [] else none
  | f + 1, b => if b.length = 0 then some [] else if b.length < widthP (b.getD 0 0) then none else if rightI (fitOf b) then (decF f (b.drop (widthP (b.getD 0 0)))).map (fitOf b :: ·) else none
def decP (b : List Int) : Option (List InsD) := decF b.length b

end Go.Proofs.YtminiabpeodjaaaDoor

/-
  package code: UNLIKE RIGHT INSTRUCTIONS HAVE UNLIKE BYTES, AND NONE's BEGIN ANOTHER's. Plain data: no walk.
-/
import Derived.Test.YtcbkafbchpjnoaaGreatDoorAllA
namespace Go.Proofs.YtcbkafbchpjnoaaGreatDoor
set_option linter.unusedVariables false
set_option linter.unusedSimpArgs false
open Go.RowKit

theorem valB_at (v k i : Nat) (hi : i < k) : (valB v k)[i]? = some ((v / 2 ^ (8 * (7 - i)) % 256 : Nat) : Int) := by
  unfold valB; rw [List.getElem?_map, List.getElem?_range hi]; rfl
theorem valB_inj {n m : Nat} (hn : n < 18446744073709551616) (hm : m < 18446744073709551616) (h : valB n 8 = valB m 8) : n = m := by
  have key : ∀ k, k ≤ 8 → n / 2 ^ (8 * (8 - k)) = m / 2 ^ (8 * (8 - k)) := by
    intro k
    induction k with
    | zero => intro _; rw [Nat.div_eq_of_lt (by simpa using hn), Nat.div_eq_of_lt (by simpa using hm)]
    | succ k ih =>
      intro hk
      rw [val_step n k (by omega) hn, val_step m k (by omega) hm, ih (by omega)]
      have h1 := valB_at n 8 k (by omega)
      have h2 := valB_at m 8 k (by omega)
      rw [h, h2] at h1
      simp only [Option.some.injEq] at h1
      omega
  have := key 8 (Nat.le_refl _)
  simpa using this

/-- Bytes. -/
def ByteL (l : List Int) : Prop := ∀ x ∈ l, 0 ≤ x ∧ x < 256
theorem valB_byte (v k : Nat) : ByteL (valB v k) := by
  intro x hx
  unfold valB at hx
  obtain ⟨i, _, rfl⟩ := List.mem_map.1 hx
  omega
theorem encI_byte {i : InsD} (h : i.Wf) : ByteL (encI i) := by
  intro x hx
  have ho := h.op
  unfold encI at hx
  simp only [List.mem_cons, List.mem_append] at hx
  rcases hx with rfl | hx | hx
  · omega
  · split at hx
    · simp at hx; subst hx; omega
    · simp at hx
  · split at hx
    · exact valB_byte _ _ x hx
    · simp at hx
theorem encL_byte {l : List InsD} (h : ∀ i ∈ l, i.Wf) : ByteL (encL l) := by
  intro x hx
  obtain ⟨i, hi, hx⟩ := List.mem_flatMap.1 hx
  exact encI_byte (h i hi) x hx
theorem byte_inj {x y : Int} (hx : 0 ≤ x ∧ x < 256) (hy : 0 ≤ y ∧ y < 256) (h : UInt8.ofNat x.toNat = UInt8.ofNat y.toNat) : x = y := by
  have := congrArg UInt8.toNat h
  simp at this
  omega
theorem map_inj {a b : List Int} (ha : ByteL a) (hb : ByteL b) (h : a.map (fun n : Int => UInt8.ofNat n.toNat) = b.map (fun n : Int => UInt8.ofNat n.toNat)) : a = b := by
  induction a generalizing b with
  | nil => cases b with
    | nil => rfl
    | cons y b => simp at h
  | cons x a ih => cases b with
    | nil => simp at h
    | cons y b =>
      simp only [List.map_cons, List.cons.injEq] at h
      rw [byte_inj (ha x (by simp)) (hb y (by simp)) h.1, ih (fun z hz => ha z (by simp [hz])) (fun z hz => hb z (by simp [hz])) h.2]
/-- Texts of bytes are alike just where the bytes are. -/
theorem str_inj {a b : List Int} (ha : ByteL a) (hb : ByteL b) : strOfNums a = strOfNums b ↔ a = b := by
  constructor
  · intro h
    have := congrArg (fun s => s.data.toList) h
    simp only [strOfNums_data] at this
    exact map_inj ha hb this
  · intro h; rw [h]

theorem encI_head {i j : InsD} {r s : List Int} (h : encI i ++ r = encI j ++ s) : i.op = j.op := by
  unfold encI at h
  simp only [List.cons_append, List.cons.injEq] at h
  exact h.1
theorem encI_inj {i j : InsD} (hi : rightI i = true) (hj : rightI j = true) (wi : i.Wf) (wj : j.Wf) (h : encI i = encI j) : i = j := by
  have ho : i.op = j.op := encI_head (r := []) (s := []) (by simpa using h)
  obtain ⟨o, a, v⟩ := i
  obtain ⟨o', a', v'⟩ := j
  simp only at ho
  subst ho
  have hvi := wi.val
  have hvj := wj.val
  unfold Wf64 at hvi hvj
  simp only at hvi hvj
  unfold encI at h
  simp only [List.cons.injEq, true_and] at h
  cases hp : argP o with
  | true =>
    have h1 := right_argC hi hp
    have h2 := right_argC hj hp
    have hv := arg_val hp
    rw [hp, hv] at h
    simp at h h1 h2
    obtain ⟨_, _, rfl⟩ := h1
    obtain ⟨_, _, rfl⟩ := h2
    have : a = a' := by omega
    rw [this]
  | false =>
    have h1 := right_none hi hp
    have h2 := right_none hj hp
    simp only at h1 h2
    subst h1 h2
    cases hv : valP o with
    | true =>
      rw [hp, hv] at h
      simp only [Bool.false_eq_true, if_false, if_true, List.nil_append] at h
      have := valB_inj (by omega) (by omega) h
      have : v = v' := by omega
      rw [this]
    | false =>
      have h1 := right_noval hi hv
      have h2 := right_noval hj hv
      simp only at h1 h2
      subst h1 h2
      rfl
/-- One's bytes begin another's: then they are the same. -/
theorem encI_pre {i j : InsD} {s : List Int} (hi : rightI i = true) (hj : rightI j = true) (wi : i.Wf) (wj : j.Wf) (h : encI j = encI i ++ s) : i = j := by
  have ho : i.op = j.op := encI_head (r := s) (s := []) (by simpa using h.symm)
  have hl := congrArg List.length h
  rw [List.length_append, encI_width, encI_width, ho] at hl
  have : s = [] := List.eq_nil_of_length_eq_zero (by omega)
  subst this
  exact encI_inj hi hj wi wj (by simpa using h.symm)

end Go.Proofs.YtcbkafbchpjnoaaGreatDoor

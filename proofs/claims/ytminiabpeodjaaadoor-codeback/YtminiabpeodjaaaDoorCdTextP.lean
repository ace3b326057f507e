/-
  package code: WHAT Parse SAYS OF WHAT Print TELLS. Plain data: no walk.
-/
import Derived.Test.YtminiabpeodjaaaDoorCdPrint
import Derived.Test.YtminiabpeodjaaaDoorCdRRead
import Derived.Test.YtminiabpeodjaaaDoorAllA
namespace Go.Proofs.YtminiabpeodjaaaDoor
set_option linter.unusedVariables false
set_option linter.unusedSimpArgs false
open Go.RowKit

theorem len_size (s : ByteArray) : s.data.toList.length = s.size := by rw [Array.length_toList]; rfl
theorem extract_list (s : ByteArray) (a b : Nat) : (s.extract a b).data.toList = (s.data.toList.drop a).take (b - a) := by
  rw [ByteArray.data_extract, Array.toList_extract, List.extract_eq_take_drop]
/-- A text whose bytes are these. -/
theorem get_toList (s : ByteArray) (j : Nat) (hj : j < s.size) : s.get! j = s.data.toList[j]'(by rw [len_size]; exact hj) := by
  exact (get_at s j hj).trans rfl
theorem blank_split {wd rest : ByteArray} (hw : ∀ c ∈ wd.data.toList, c.toNat ≠ 32) : blankAt (wd ++ ⟨#[32]⟩ ++ rest) = some wd.size := by
  have hsz : (wd ++ ⟨#[32]⟩ ++ rest).size = wd.size + 1 + rest.size := by rw [ByteArray.size_append, ByteArray.size_append]; rfl
  have hdat : (wd ++ ⟨#[32]⟩ ++ rest).data.toList = wd.data.toList ++ [32] ++ rest.data.toList := by simp
  have hl := len_size wd
  refine blank_some (by omega) ?_ ?_
  · rw [get_toList _ _ (by omega)]
    simp only [hdat]
    rw [List.getElem_append_left (by rw [List.length_append, hl]; simp), List.getElem_append_right (by omega)]
    simp
  · intro j hj
    rw [get_toList _ _ (by omega)]
    simp only [hdat]
    rw [List.getElem_append_left (by rw [List.length_append, hl]; omega), List.getElem_append_left (by omega)]
    exact hw _ (List.getElem_mem _)
theorem blank_no {wd : ByteArray} (hw : ∀ c ∈ wd.data.toList, c.toNat ≠ 32) : blankAt wd = none := by
  refine blank_none fun j hj => ?_
  rw [get_toList _ _ hj]
  exact hw _ (List.getElem_mem _)
theorem cut_split {wd rest : ByteArray} (hw : ∀ c ∈ wd.data.toList, c.toNat ≠ 32) : cutW (wd ++ ⟨#[32]⟩ ++ rest) = wd ∧ cutR (wd ++ ⟨#[32]⟩ ++ rest) = rest := by
  unfold cutW cutR
  rw [blank_split hw]
  have hsz : (wd ++ ⟨#[32]⟩ ++ rest).size = wd.size + 1 + rest.size := by rw [ByteArray.size_append, ByteArray.size_append]; rfl
  have hl := len_size wd
  have hr := len_size rest
  have hdat : (wd ++ ⟨#[32]⟩ ++ rest).data.toList = wd.data.toList ++ [32] ++ rest.data.toList := by simp
  constructor
  · apply ba_ext
    rw [extract_list, hdat, List.drop_zero, List.append_assoc, List.take_append_of_le_length (by omega), List.take_of_length_le (by omega)]
  · apply ba_ext
    rw [extract_list, hdat, List.drop_append_of_le_length (by rw [List.length_append, hl]; simp), List.drop_of_length_le (by rw [List.length_append, hl]; simp), List.nil_append, List.take_of_length_le (by omega)]

theorem words_plain : ∀ k < 29, ∀ c ∈ (wordB k).data.toList, c.toNat ≠ 32 := by decide +kernel
theorem wordP_plain (o : Int) : ∀ c ∈ (wordP o).data.toList, c.toNat ≠ 32 := by
  unfold wordP
  split
  · intro c hc; simp at hc
  · intro c hc
    exact words_plain o.toNat (by omega) c hc
theorem opOf_word {o : Int} (h0 : 0 ≤ o) (h1 : o ≤ 28) : opOf (wordP o).data.toList = some o := by
  obtain ⟨k, rfl⟩ := Int.eq_ofNat_of_zero_le h0
  have e : wordP (k : Int) = wordB k := by unfold wordP; rw [if_neg (by omega), Int.toNat_natCast]
  have hb := byK_hit (k := k) (by omega) 29 (by omega) (Nat.le_refl _)
  unfold opOf
  rw [e, hb]
  rfl
theorem num_argT : ∀ k < 64, numOk (argT (k : Nat)) = true ∧ numN (argT (k : Nat)) = (k : Nat) := by decide +kernel
theorem right_op {i : InsD} (h : rightI i = true) : i.op ≤ 28 := by
  simp only [rightI, Bool.and_eq_true, decide_eq_true_eq, Bool.or_eq_true] at h
  exact h.1.1.1.1.1
theorem right_val {i : InsD} (h : rightI i = true) : rightB i.val = true := by
  simp only [rightI, Bool.and_eq_true, decide_eq_true_eq, Bool.or_eq_true] at h
  exact h.2

/-- WHAT IS READ OF WHAT WAS WRITTEN IS IT. -/
theorem parse_print {i : InsD} (h : rightI i = true) (hw : i.Wf) : parseP (printP i) = some i := by
  have ho := right_op h
  have hop := opOf_word hw.op.1 ho
  have hpl := wordP_plain i.op
  unfold parseP printP
  cases ha : argP i.op with
  | true =>
    obtain ⟨c1, c2⟩ := cut_split (rest := argT i.arg) hpl
    have hv := arg_not_val ha
    have hr := right_arg h ha
    obtain ⟨k, hk⟩ := Int.eq_ofNat_of_zero_le hr.1
    have hn := num_argT k (by omega)
    rw [← hk] at hn
    have hsd : saidP (wordP i.op) (argT i.arg) true = (i, true) := by
      unfold saidP
      rw [hop]
      simp only [ha, hv, Bool.true_or, bne_self_eq_false, Bool.false_eq_true, if_false, if_true, hn.1, hn.2]
      obtain ⟨o, a, v⟩ := i
      simp only at hr
      rw [hr.2.2]
    simp only [if_true]
    rw [c1, c2, blank_split hpl, Option.isSome_some, hsd]
    simp [h]
  | false =>
    cases hv : valP i.op with
    | true =>
      obtain ⟨c1, c2⟩ := cut_split (rest := hexT i.val) hpl
      have ha0 := right_none h ha
      have hrb := right_val h
      unfold rightB at hrb
      have hrb' := of_decide_eq_true hrb
      have hwv := hw.val
      have hx : ofB i.val.toNat = i.val.toNat := by unfold Wf64 at hwv; omega
      have hp := parse_hex i.val.toNat (by have := hwv.rt; rw [hx] at this; exact this) hx
      have hT : hexT i.val = ⟨(hexS i.val.toNat 16).toArray⟩ := by unfold hexT; rw [hx]
      have hsd : saidP (wordP i.op) (hexT i.val) true = (i, true) := by
        unfold saidP
        rw [hop]
        simp only [ha, hv, Bool.or_true, bne_self_eq_false, Bool.false_eq_true, if_false, if_true, hT, hp, Option.getD_some, Option.isSome_some]
        obtain ⟨o, a, v⟩ := i
        simp only at ha0 hrb' hx hwv ⊢
        subst ha0
        have : ((v.toNat : Nat) : Int) = v := by unfold Wf64 at hwv; omega
        rw [this]
      simp only [if_true, Bool.false_eq_true, if_false]
      rw [c1, c2, blank_split hpl, Option.isSome_some, hsd]
      simp [h]
    | false =>
      have ha0 := right_none h ha
      have hv0 := right_noval h hv
      have hb := blank_no hpl
      have c1 : cutW (wordP i.op) = wordP i.op := by unfold cutW; rw [hb]
      have hsd : ∀ r, saidP (wordP i.op) r false = (i, true) := by
        intro r
        unfold saidP
        rw [hop]
        simp only [ha, hv, Bool.or_self, bne_self_eq_false, Bool.false_eq_true, if_false]
        obtain ⟨o, a, v⟩ := i
        simp only at ha0 hv0
        rw [ha0, hv0]
      simp only [Bool.false_eq_true, if_false]
      rw [hb, c1, Option.isSome_none, hsd]
      simp [h]

end Go.Proofs.YtminiabpeodjaaaDoor

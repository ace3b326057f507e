/-
  package code: WHAT Print TELLS OF WHAT Parse SAYS; THE DOCUMENT's WAY OF READING A TEXT IS THE SAME. Plain data: no walk.
-/
import Derived.Test.YtminiabpeodjaaaDoorCdRDig
namespace Go.Proofs.YtminiabpeodjaaaDoor
set_option linter.unusedVariables false
set_option linter.unusedSimpArgs false
open Go.RowKit

theorem opOf_inv {x : List UInt8} {o : Int} (h : opOf x = some o) : x = (wordP o).data.toList ∧ 0 ≤ o ∧ o ≤ 28 := by
  have key : ∀ n, n ≤ 29 → ∀ v, byK n x = some v → ∃ k : Nat, v = .int .u8 (k : Int) ∧ k < n ∧ x = (wordB k).data.toList := by
    intro n
    induction n with
    | zero => intro _ v hv; simp [byK] at hv
    | succ n ih =>
      intro hn v hv
      rw [byK_succ] at hv
      unfold updS at hv
      split at hv
      · rename_i hx
        simp at hv; exact ⟨n, hv.symm, by omega, hx⟩
      · obtain ⟨k, e, hk, hx⟩ := ih (by omega) v hv; exact ⟨k, e, by omega, hx⟩
  have hb := byK_op x
  rw [h] at hb
  obtain ⟨k, e, hk, hx⟩ := key 29 (Nat.le_refl _) _ hb
  simp at e
  subst e
  refine ⟨?_, by omega, by omega⟩
  have e : wordP (k : Int) = wordB k := by unfold wordP; rw [if_neg (by omega), Int.toNat_natCast]
  rw [e]; exact hx

theorem split_of {s : ByteArray} {p : Nat} (h : blankAt s = some p) : s = cutW s ++ ⟨#[32]⟩ ++ cutR s ∧ p < s.size ∧ (cutW s).size = p ∧ s.extract p s.size = ⟨#[32]⟩ ++ cutR s := by
  have h0 := h
  unfold blankAt at h0
  rw [List.find?_eq_some_iff_getElem] at h0
  obtain ⟨h1, i, hi, hip, _⟩ := h0
  simp at hip
  subst hip
  have hlt : i < s.size := by simpa using hi
  have hc : (s.get! i).toNat = 32 := by simpa using h1
  have hc2 : s.data.toList[i]'(by rw [len_size]; exact hlt) = 32 := by
    rw [← get_toList s i hlt]
    apply UInt8.toNat_inj.1
    exact hc
  have hW : (cutW s).data.toList = s.data.toList.take i := by unfold cutW; rw [h]; simp only [extract_list, List.drop_zero, Nat.sub_zero]
  have hR : (cutR s).data.toList = s.data.toList.drop (i + 1) := by
    unfold cutR; rw [h]; simp only [extract_list]
    rw [List.take_of_length_le (by rw [List.length_drop, len_size]; omega)]
  have hd : s.data.toList.drop i = 32 :: s.data.toList.drop (i + 1) := by
    rw [List.drop_eq_getElem_cons (by rw [len_size]; exact hlt), hc2]
  refine ⟨?_, hlt, ?_, ?_⟩
  · apply ba_ext
    have : (cutW s ++ ⟨#[32]⟩ ++ cutR s).data.toList = (cutW s).data.toList ++ [32] ++ (cutR s).data.toList := by simp
    rw [this, hW, hR, List.append_assoc]
    show s.data.toList = s.data.toList.take i ++ (32 :: s.data.toList.drop (i + 1))
    rw [← hd, List.take_append_drop]
  · rw [← len_size, hW, List.length_take, len_size]; omega
  · apply ba_ext
    have : ((ByteArray.mk #[32]) ++ cutR s).data.toList = [32] ++ (cutR s).data.toList := by simp
    rw [this, hR, extract_list, hd, List.take_of_length_le (by simp only [List.length_cons, List.length_drop, len_size]; omega)]
    rfl

theorem numK_one (s : ByteArray) (n : Nat) (h : numK s 1 = some n) : 48 ≤ (s.get! 0).toNat ∧ (s.get! 0).toNat ≤ 57 ∧ n = (s.get! 0).toNat - 48 := by
  simp only [numK] at h
  split at h
  · cases h
  · rename_i h1
    split at h
    · cases h
    · simp only [Option.some.injEq] at h
      omega
theorem numK_step (s : ByteArray) (k n : Nat) (h : numK s (k + 1) = some n) : ∃ m, numK s k = some m ∧ 48 ≤ (s.get! k).toNat ∧ (s.get! k).toNat ≤ 57 ∧ ¬ (0 < k ∧ m = 0) ∧ n = 10 * m + ((s.get! k).toNat - 48) ∧ n ≤ 63 := by
  unfold numK at h
  split at h
  · cases h
  · rename_i m hm
    split at h
    · cases h
    · rename_i h1
      split at h
      · cases h
      · simp only [Option.some.injEq] at h
        exact ⟨m, hm, by omega, by omega, by omega, by omega, by omega⟩
theorem num_inv {r : ByteArray} (h : numOk r = true) : ∃ n : Nat, numN r = n ∧ n < 64 ∧ r = argT (n : Nat) := by
  unfold numOk at h
  unfold numN
  cases hk : numK r r.size with
  | none => rw [hk] at h; cases h
  | some n =>
    rw [hk] at h
    have hs0 : r.size ≠ 0 := by simpa using h
    have hn63 := numK_le r _ n hk
    refine ⟨n, rfl, by omega, ?_⟩
    rw [dT_arg n (by omega)]
    have hl := len_size r
    by_cases h1 : r.size = 1
    · rw [h1] at hk
      obtain ⟨a1, a2, a3⟩ := numK_one r n hk
      rw [if_pos (by omega)]
      apply ba_ext
      have hg := get_toList r 0 (by omega)
      match hr : r.data.toList, hl with
      | [c], _ =>
        simp only [hr, List.getElem_cons_zero] at hg
        rw [hg] at a1 a2 a3
        show [c] = [UInt8.ofNat (48 + n % 10)]
        have : 48 + n % 10 = c.toNat := by omega
        rw [this]
        simp
      | [], q => simp at q; omega
      | _ :: _ :: _, q => simp at q; omega
    · obtain ⟨k, hkk⟩ : ∃ k, r.size = k + 2 := ⟨r.size - 2, by omega⟩
      rw [hkk] at hk
      by_cases h2 : k = 0
      · subst h2
        obtain ⟨m, hm, b1, b2, b3, b4, b5⟩ := numK_step r 1 n hk
        obtain ⟨a1, a2, a3⟩ := numK_one r m hm
        rw [if_neg (by omega)]
        apply ba_ext
        have hg0 := get_toList r 0 (by omega)
        have hg1 := get_toList r 1 (by omega)
        match hr : r.data.toList, hl with
        | [c, d], _ =>
          simp only [hr, List.getElem_cons_zero, List.getElem_cons_succ] at hg0 hg1
          rw [hg0] at a1 a2 a3
          rw [hg1] at b1 b2 b4
          show [c, d] = [UInt8.ofNat (48 + n / 10 % 10), UInt8.ofNat (48 + n % 10)]
          have e1 : 48 + n / 10 % 10 = c.toNat := by omega
          have e2 : 48 + n % 10 = d.toNat := by omega
          rw [e1, e2]
          simp
        | [], q => simp at q; omega
        | [_], q => simp at q; omega
        | _ :: _ :: _ :: _, q => simp at q; omega
      · exfalso
        have hge : ∀ j, 2 ≤ j → ∀ m, numK r j = some m → 10 ≤ m := by
          intro j
          induction j with
          | zero => intro h; omega
          | succ j ih =>
            intro hj m hm
            obtain ⟨m', hm', _, _, b3, b4, _⟩ := numK_step r j m hm
            omega
        obtain ⟨m, hm, _, _, _, b4, b5⟩ := numK_step r (k + 1) n hk
        have := hge (k + 1) (by omega) m hm
        omega
theorem argT_inj {m n : Nat} (hm : m < 64) (hn : n < 64) (h : argT (m : Nat) = argT (n : Nat)) : m = n := by
  have h1 := (num_argT m hm).2
  have h2 := (num_argT n hn).2
  rw [h] at h1
  omega

/-- WHAT Print TELLS OF WHAT Parse SAYS IS THE TEXT. -/
theorem print_parse {s : ByteArray} {i : InsD} (h : parseP s = some i) : rightI i = true ∧ printP i = s ∧ opOf (cutW s).data.toList = some i.op := by
  unfold parseP at h
  split at h
  · rename_i hc
    simp only [Bool.and_eq_true] at hc
    simp only [Option.some.injEq] at h
    rw [h] at hc
    obtain ⟨hok, hri⟩ := hc
    refine ⟨hri, ?_⟩
    unfold saidP at h hok
    cases ho : opOf (cutW s).data.toList with
    | none => rw [ho] at hok; cases hok
    | some o =>
      rw [ho] at h hok
      simp only at h hok
      obtain ⟨hw1, hw2, hw3⟩ := opOf_inv ho
      have hW : cutW s = wordP o := ba_ext hw1
      by_cases hm : (blankAt s).isSome = (argP o || valP o)
      · rw [if_neg (by simp [hm])] at h hok
        cases ha : argP o with
        | true =>
          rw [ha] at h hok hm
          simp only [if_true] at h hok
          simp only [Bool.true_or] at hm
          obtain ⟨p, hp⟩ := Option.isSome_iff_exists.1 hm
          obtain ⟨n, e1, e2, e3⟩ := num_inv hok
          rw [← h]
          refine ⟨?_, rfl⟩
          unfold printP
          simp only [ha, if_true]
          have := (split_of hp).1
          rw [hW] at this
          rw [e1, ← e3]
          exact this.symm
        | false =>
          rw [ha] at h hok hm
          simp only [Bool.false_eq_true, if_false, Bool.false_or] at h hok hm
          cases hv : valP o with
          | true =>
            rw [hv] at h hok hm
            simp only [if_true] at h hok
            obtain ⟨p, hp⟩ := Option.isSome_iff_exists.1 hm
            obtain ⟨v, hpv⟩ := Option.isSome_iff_exists.1 hok
            rw [hpv] at h
            rw [← h]
            refine ⟨?_, rfl⟩
            unfold printP
            simp only [ha, hv, if_true, Bool.false_eq_true, if_false, Option.getD_some]
            have := (split_of hp).1
            rw [hW] at this
            have h5 := (parseV_some hpv).2
            unfold hexT
            rw [Int.toNat_natCast, h5]
            exact this.symm
          | false =>
            rw [hv] at h hok hm
            simp only [Bool.false_eq_true, if_false] at h
            rw [← h]
            refine ⟨?_, rfl⟩
            unfold printP
            simp only [ha, hv, Bool.false_eq_true, if_false]
            rw [← hW]
            unfold cutW
            have : blankAt s = none := by simpa using hm
            rw [this]
      · rw [if_pos (by simpa using hm)] at hok
        cases hok
  · cases h

/-- What stands behind the word, with its blank. -/
def restB (s : ByteArray) : ByteArray := match blankAt s with | some p => s.extract p s.size | none => ⟨#[]⟩
/-- The last number below n whose digits stand there. -/
def argF (r : ByteArray) : Nat → Int
  | 0 => 0
  | n + 1 => if r = ⟨#[32]⟩ ++ argT (n : Nat) then (n : Int) else argF r n
theorem argF_hit {r : ByteArray} {m : Nat} (hm : m < 64) (hr : r = ⟨#[32]⟩ ++ argT (m : Nat)) : ∀ n, m < n → n ≤ 64 → argF r n = m
  | 0, h, _ => by omega
  | n + 1, h, h2 => by
    unfold argF
    by_cases he : r = ⟨#[32]⟩ ++ argT (n : Nat)
    · rw [if_pos he]
      have : argT (n : Nat) = argT (m : Nat) := by
        rw [he] at hr
        have h3 := congrArg (fun s => s.data.toList) hr
        simp at h3
        exact ba_ext (by simpa using h3)
      rw [argT_inj (by omega) hm this]
    · rw [if_neg he]
      have : m ≠ n := fun q => he (by rw [← q]; exact hr)
      exact argF_hit hm hr n (by omega) (by omega)
theorem argF_le (r : ByteArray) : ∀ n, n ≤ 64 → 0 ≤ argF r n ∧ argF r n ≤ 63
  | 0, _ => by simp [argF]
  | n + 1, h => by
    unfold argF
    split
    · omega
    · exact argF_le r n (by omega)
/-- The instruction that the document tries. -/
def refX (s : ByteArray) (o : Int) : InsD := ⟨o, if argP o then argF (restB s) 64 else 0, if valP o && decide ((restB s).size = 17) then ((parseV (cutR s)).getD 0 : Nat) else 0⟩
theorem refX_wf (s : ByteArray) {o : Int} (h0 : 0 ≤ o) (h1 : o ≤ 28) : (refX s o).Wf := by
  have ha := argF_le (restB s) 64 (Nat.le_refl _)
  refine ⟨by simp only [refX]; omega, ?_, ?_⟩
  · simp only [refX]; split <;> omega
  · simp only [refX]
    unfold Wf64
    split
    · cases hp : parseV (cutR s) with
      | none => simp
      | some n => have := peOf_lt (parseV_some hp).1; simp; omega
    · simp
theorem ref_parse {s : ByteArray} {o : Int} (ho : opOf (cutW s).data.toList = some o) : (if rightI (refX s o) = true ∧ printP (refX s o) = s then some (refX s o) else none) = parseP s := by
  obtain ⟨_, h0, h1⟩ := opOf_inv ho
  split
  · rename_i hc
    have := parse_print hc.1 (refX_wf s h0 h1)
    rw [hc.2] at this
    exact this.symm
  · rename_i hc
    cases hp : parseP s with
    | none => rfl
    | some i =>
      exfalso
      obtain ⟨p1, p2, p3⟩ := print_parse hp
      have hio : i.op = o := by rw [ho] at p3; simpa using p3.symm
      have hx : refX s o = i := by
        obtain ⟨io, ia, iv⟩ := i
        simp only at hio
        subst hio
        have hpl := wordP_plain io
        unfold printP at p2
        simp only at p2
        unfold refX
        cases ha : argP io with
        | true =>
          have hv := arg_not_val ha
          have hr := right_arg p1 ha
          simp only at hr
          obtain ⟨k, hk⟩ := Int.eq_ofNat_of_zero_le hr.1
          rw [ha] at p2
          simp only [if_true] at p2
          have hb : blankAt s = some (wordP io).size := by rw [← p2]; exact blank_split hpl
          have hrb : restB s = ⟨#[32]⟩ ++ argT ia := by
            have h5 := (split_of hb).2.2.2
            have h6 := (cut_split (rest := argT ia) hpl).2
            rw [p2] at h6
            unfold restB
            rw [hb]
            simp only
            rw [h6] at h5
            rw [← (split_of hb).2.2.1]
            rw [← (split_of hb).2.2.1] at h5
            exact h5
          have hf := argF_hit (r := restB s) (m := k) (by omega) (by rw [hrb, hk]) 64 (by omega) (Nat.le_refl _)
          simp only [hv, if_true, Bool.false_and, Bool.false_eq_true, if_false, hf]
          rw [hk, hr.2.2]
        | false =>
          have ha0 := right_none p1 ha
          simp only at ha0
          rw [ha] at p2
          simp only [Bool.false_eq_true, if_false] at p2
          cases hv : valP io with
          | true =>
            rw [hv] at p2
            simp only [if_true] at p2
            have hb : blankAt s = some (wordP io).size := by rw [← p2]; exact blank_split hpl
            have hcr : cutR s = hexT iv := by have h6 := (cut_split (rest := hexT iv) hpl).2; rw [p2] at h6; exact h6
            have hrz : (restB s).size = 17 := by
              unfold restB
              rw [hb]
              simp only
              have h5 := (split_of hb).2.2.2
              rw [h5, ByteArray.size_append, hcr, hexT_size]
              rfl
            have hsv : saidP (cutW s) (cutR s) (blankAt s).isSome = (⟨io, 0, ((parseV (cutR s)).getD 0 : Nat)⟩, (parseV (cutR s)).isSome) := by
              unfold saidP
              rw [ho, hb]
              simp only [ha, hv, Option.isSome_some, Bool.or_true, bne_self_eq_false, Bool.false_eq_true, if_false, if_true]
            unfold parseP at hp
            rw [hsv] at hp
            split at hp
            · simp only [Option.some.injEq, InsD.mk.injEq] at hp
              simp only [hrz, decide_true, Bool.and_self, if_true, Bool.false_eq_true, if_false]
              rw [hp.2.2, ha0]
            · cases hp
          | false =>
            have hv0 := right_noval p1 hv
            simp only at hv0
            simp only [Bool.false_and, Bool.false_eq_true, if_false]
            rw [ha0, hv0]
      exact hc ⟨by rw [hx]; exact p1, by rw [hx]; exact p2⟩

end Go.Proofs.YtminiabpeodjaaaDoor

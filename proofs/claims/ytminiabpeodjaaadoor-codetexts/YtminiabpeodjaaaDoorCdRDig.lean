/-
  THE DOCUMENT's Digits AND Print BY THEIR CONTRACTS.
-/
import Derived.Test.YtminiabpeodjaaaDoorCdTextP
import Derived.Test.YtminiabpeodjaaaDoorVfRRight
namespace Go.Proofs.YtminiabpeodjaaaDoor
set_option linter.unusedVariables false
set_option linter.unusedSimpArgs false
open Go.RowKit
attribute [local go_sem] Oper.semAt_some

theorem str_ne' {s t : ByteArray} (h : ¬ s = t) : (s.toList == t.toList) = false ∧ ¬ s.toList = t.toList := by
  have h2 : ¬ s.toList = t.toList := fun q => h (by
    have e1 : s.toList = s.data.toList := by simp [ByteArray.toList_eq]
    have e2 : t.toList = t.data.toList := by simp [ByteArray.toList_eq]
    rw [e1, e2] at q
    exact ba_ext q)
  exact ⟨by simpa using h2, h2⟩

theorem not_empty {s : ByteArray} (h : s.size ≠ 0) : (s.toList == []) = false ∧ ¬ s.toList = [] ∧ ¬ s = ⟨#[]⟩ ∧ (s.toList == (ByteArray.mk #[]).toList) = false := by
  have h1 : ¬ s = ⟨#[]⟩ := fun e => h (by rw [e]; rfl)
  have h2 := (str_ne' h1).2
  have e : (ByteArray.mk #[]).toList = [] := by simp [ByteArray.toList_eq]
  rw [e] at h2 ⊢
  exact ⟨by simpa using h2, h2, h1, by simpa using h2⟩
/-- The last j digits of a number. -/
def dT (n : Nat) : Nat → ByteArray
  | 0 => ⟨#[]⟩
  | 1 => ⟨#[UInt8.ofNat (48 + n % 10)]⟩
  | _ => ⟨#[UInt8.ofNat (48 + n / 10 % 10), UInt8.ofNat (48 + n % 10)]⟩
theorem dT_arg : ∀ n < 64, argT (n : Nat) = dT n (if n < 10 then 1 else 2) := by decide +kernel
theorem ten_cut : ∀ e < 10, (ByteArray.mk #[48, 49, 50, 51, 52, 53, 54, 55, 56, 57]).extract e (e + 1) = ⟨#[UInt8.ofNat (48 + e)]⟩ := by decide +kernel

set_option maxRecDepth 100000 in
set_option maxHeartbeats 1000000 in
theorem rdigits_any (n : Int) (h0 : 0 ≤ n) (h1 : n ≤ 63) (w : World) : Calls Tryd.prog 41 #[.int .i64 n] w fun e w' => e = .returned (.string (argT n)) ∧ w = w' := by
  obtain ⟨k, rfl⟩ := Int.eq_ofNat_of_zero_le h0
  rw [dT_arg k (by omega)]
  have hk : k < 64 := by omega
  obtain ⟨R, hR⟩ : ∃ R, R = dT k (if k < 10 then 1 else 2) := ⟨_, rfl⟩
  rw [← hR]
  have HR : Hid _ := hR
  clear h0 h1 hR
  go_enter Tryd.func41, Tryd.ntmps41
  go_wp2_with fail
  go_loopw [0, 3] (fun vn vo wr => ∃ j : Nat, j ≤ 2 ∧ vn = .int .i64 ((k / 10 ^ j : Nat) : Int) ∧ vo = .string (dT k j) ∧ (j = 2 → 10 ≤ k) ∧ wr = w) (fun _ vo _ => 3 - (match vo with | .string s => s.size | _ => 0))
  case atStart => exact ⟨0, by omega, by simp, rfl, by omega, rfl⟩
  case round =>
    obtain ⟨j, hj, rfl, rfl, h2, rfl⟩ := hrel
    rcases (show j = 0 ∨ j = 1 ∨ j = 2 by omega) with rfl | rfl | rfl
    · have hc := ten_cut (k % 10) (by omega)
      have HC : Hid _ := hc
      have e0 : ((k / 10 ^ 0 : Nat) : Int) = k := by simp
      rw [e0]
      have d0 : (0 : Int) ≤ (k : Int) % 10 := by omega
      have d1 : (k : Int) % 10 < 10 := by omega
      have hm1 : ((k : Int) % 10).toNat = k % 10 := by omega
      have hm2 : ((k : Int) % 10 + 1).toNat = k % 10 + 1 := by omega
      have HM1 : Hid _ := hm1
      have HM2 : Hid _ := hm2
      have hnl : ¬ 9223372036854775807 < min ((k : Int) % 10 + 1).toNat 10 - ((k : Int) % 10).toNat + (ByteArray.mk #[]).size := by show ¬ _ < _ + 0; omega
      clear hc e0 hm1 hm2 h2
      by_cases hz : k = 0
      · subst hz
        simp only [dT]
        go_wp2
        go_roundw
        case rel => exact ⟨1, by omega, rfl, rfl, by omega, by simp⟩
        case measure => decide
      · have hz1 : (0 : Int) < k := by omega
        simp only [dT]
        go_wp2
        go_roundw
        case rel =>
          refine ⟨1, by omega, by simp, ?_, by omega, by simp⟩
          rw [HC.out]
          rfl
        case measure =>
          rw [HC.out]
          show 3 - 1 < 3 - 0
          omega
    · by_cases hz : 10 ≤ k
      · have hc := ten_cut (k / 10 % 10) (by omega)
        have HC : Hid _ := hc
        have e0 : ((k / 10 ^ 1 : Nat) : Int) = (k / 10 : Nat) := by simp
        rw [e0]
        have e3 : k / 10 % 10 = k / 10 := by omega
        obtain ⟨q, hq⟩ : ∃ q, q = k / 10 := ⟨_, rfl⟩
        have hq0 : 0 < q := by omega
        have hq1 : q < 10 := by omega
        rw [← hq]
        have hqp : (0 : Int) < q := by omega
        have HQ : Hid (q = k / 10) := hq
        have d0 : (0 : Int) ≤ (q : Int) % 10 := by omega
        have d1 : (q : Int) % 10 < 10 := by omega
        have HM1 : Hid (((q : Int) % 10).toNat = k / 10 % 10) := by show _ = _; omega
        have HM2 : Hid (((q : Int) % 10 + 1).toNat = k / 10 % 10 + 1) := by show _ = _; omega
        have hts : (dT k 1).size = 1 := rfl
        obtain ⟨t1, ht1⟩ : ∃ t1, t1 = dT k 1 := ⟨_, rfl⟩
        rw [← ht1] at hts ⊢
        have HT1 : Hid _ := ht1
        have hnl : ¬ 9223372036854775807 < min ((q : Int) % 10 + 1).toNat 10 - ((q : Int) % 10).toNat + t1.size := by omega
        have HCQ : Hid ((ByteArray.mk #[48, 49, 50, 51, 52, 53, 54, 55, 56, 57]).extract (q % 10) (q % 10 + 1) = ⟨#[UInt8.ofNat (48 + k / 10 % 10)]⟩) := by show _ = _; rw [hq]; exact hc
        have HQ2 : Hid ((q : Int) / 10 = ((k / 10 ^ 2 : Nat) : Int)) := by show _ = _; omega
        clear hc e0 h2 hq e3 ht1
        go_wp2
        go_roundw
        case rel =>
          refine ⟨2, by omega, ?_, ?_, fun _ => hz, by simp⟩
          · rw [← HQ2.out]
          · rw [HCQ.out, HT1.out]
            rfl
        case measure =>
          rw [HCQ.out]
          show 3 - (ByteArray.mk #[UInt8.ofNat (48 + k / 10 % 10)] ++ t1).size < 3 - t1.size
          rw [ByteArray.size_append, hts]
          show 3 - (1 + 1) < 3 - 1
          omega
      · have e0 : ((k / 10 ^ 1 : Nat) : Int) = 0 := by
          have : k / 10 ^ 1 = 0 := by omega
          rw [this]; rfl
        rw [e0]
        have hlt : k < 10 := by omega
        have HRR := HR.out
        rw [if_pos hlt] at HRR
        rw [← HRR]
        obtain ⟨n1, n2, n3, n4⟩ := not_empty (s := R) (by rw [HRR]; show 1 ≠ 0; omega)
        clear h2 HRR
        go_wp2
        go_ret
        exact ⟨rfl, rfl⟩
    · have hz := h2 rfl
      have e0 : ((k / 10 ^ 2 : Nat) : Int) = 0 := by
        have : k / 10 ^ 2 = 0 := by omega
        rw [this]; rfl
      rw [e0]
      have hlt : ¬ k < 10 := by omega
      have HRR := HR.out
      rw [if_neg hlt] at HRR
      rw [← HRR]
      obtain ⟨n1, n2, n3, n4⟩ := not_empty (s := R) (by rw [HRR]; show 2 ≠ 0; omega)
      clear h2 HRR
      go_wp2
      go_ret
      exact ⟨rfl, rfl⟩

end Go.Proofs.YtminiabpeodjaaaDoor

/-
  package trace, the document's: Busiest BY ITS CONTRACT.
-/
import Derived.Test.YtmiaibpdeofokaaGreatDoorTrBusy
namespace Go.Proofs.YtmiaibpdeofokaaGreatDoor
set_option linter.unusedVariables false
set_option linter.unusedSimpArgs false
open Go.RowKit Go.Maps
attribute [local go_sem] Oper.semAt_some

/-- How many the one with the most has, of the first t. -/
def msN (F : Nat → Int) (t : Nat) : Int := if t = 0 then 0 else F (bsN F t)
theorem msN_step {F : Nat → Int} (hF : ∀ j, 0 ≤ F j) (t : Nat) : (bsN F (t + 1) = if F t > msN F t then t else bsN F t) ∧ (msN F (t + 1) = if F t > msN F t then F t else msN F t) := by
  cases t with
  | zero =>
    have := hF 0
    unfold msN bsN
    simp [bsN]
    omega
  | succ t =>
    have e : bsN F (t + 1 + 1) = if F (t + 1) > F (bsN F (t + 1)) then t + 1 else bsN F (t + 1) := rfl
    refine ⟨by unfold msN; rw [e]; simp, ?_⟩
    unfold msN
    simp only [Nat.add_eq_zero_iff, Nat.succ_ne_zero, and_false, if_false]
    rw [e]
    split <;> rfl

set_option maxRecDepth 100000 in
set_option maxHeartbeats 2000000 in
theorem rbusiest_any {w : World} {ao : Option Addr} {cap : Nat} {l : List EvD} (hr : EvRow w (.slice ao l.length cap) l) (hl : l.length ≤ 1000) :
    Calls Tryz.prog 14 #[.slice ao l.length cap] w fun e w' => e = .returned (.tuple #[.int .i64 (busyS l).1, .bool (busyS l).2]) ∧ w' = w := by
  obtain ⟨N, hN⟩ : ∃ N, N = l.length := ⟨_, rfl⟩
  have HN : Hid (N = l.length) := hN
  have HR : Hid (EvRow w (.slice ao l.length cap) l) := hr
  obtain ⟨r, hrr⟩ : ∃ r, r = busyS l := ⟨_, rfl⟩
  have HRR : Hid (r = (((bsN (tmN l) 12 : Nat) : Int), decide (msN (tmN l) 12 > 0))) := hrr
  rw [← hrr]
  rw [← hN] at hl ⊢
  clear hN hr hrr
  have HLE : Hid (∀ t, 0 ≤ tmN l t ∧ tmN l t ≤ N) := fun t => by rw [HN.out]; exact tmN_le l t
  obtain ⟨F, hF⟩ : ∃ F, F = tmN l := ⟨_, rfl⟩
  have HF : Hid (F = tmN l) := hF
  rw [← hF] at HRR HLE
  clear hF
  go_enter Tryz.func14, Tryz.ntmps14
  go_wp2_with fail
  go_loopw [4, 5, 6] (fun a m i wr => ∃ t : Nat, i = .int .i64 t ∧ t ≤ 12 ∧ a = .int .i64 (bsN F t : Nat) ∧ m = .int .i64 (msN F t) ∧ wr = w) (fun _ _ i _ => 12 - (intOf i).toNat)
  case atStart => exact ⟨0, rfl, Nat.zero_le _, rfl, rfl, rfl⟩
  case round =>
    obtain ⟨t, rfl, ht, rfl, rfl, rfl⟩ := hrel
    by_cases ht12 : t < 12
    · have h1 : (t : Int) < 12 := by omega
      have HS : Hid _ := msN_step (fun j => (HLE.out j).1) t
      obtain ⟨b0, hb0⟩ : ∃ b0, b0 = bsN F t := ⟨_, rfl⟩
      obtain ⟨m0, hm0⟩ : ∃ m0, m0 = msN F t := ⟨_, rfl⟩
      rw [← hb0, ← hm0] at HS ⊢
      clear hb0 hm0
      go_wp2_with fail
      go_loopw [7, 8] (fun n i wv => ∃ k : Nat, i = .int .i64 k ∧ k ≤ N ∧ n = .int .i64 (tmN (l.take k) t) ∧ wv = wr) (fun _ i _ => N - (intOf i).toNat)
      case atStart => exact ⟨0, rfl, Nat.zero_le _, rfl, rfl⟩
      case round =>
        obtain ⟨k, rfl, hk, rfl, hww⟩ := hrel
        subst hww
        by_cases hlt : k < N
        · have h1k : (k : Int) < N := by omega
          have h0 : (0 : Int) ≤ k := by omega
          have hkl : k < l.length := by rw [← HN.out]; exact hlt
          obtain ⟨g, off, rfl, hg, m0, m1, m2, m3⟩ := HR.out.one k hkl
          have hsn := tmN_snoc (t := t) hkl
          have hbn := tmN_le (l.take k) t
          have hbk := take_le' l k
          have hw : IntKind.i64.wrap (tmN (l.take k) t + 1) = tmN (l.take k) t + 1 := by rw [IntKind.wrap_i64]; omega
          obtain ⟨e, he⟩ : ∃ e, e = l[k] := ⟨_, rfl⟩
          rw [← he] at m0 m1 m2 m3 hsn
          have HSN : Hid _ := hsn
          clear he hsn hbn hbk
          generalize tmN (l.take k) t = n0 at *
          by_cases h2 : e.k = 2
          · have p2 : (e.k == 2) = true := by simpa using h2
            have q2 : tchB e = true := by unfold tchB; simp [h2]
            by_cases h4 : e.t = t
            · have p4 : (e.t == (t : Int)) = true := by simpa using h4
              have HE : Hid (tmN (l.take (k + 1)) t = n0 + 1) := by show _ = _; rw [HSN.out, if_pos ⟨q2, h4⟩]
              clear HSN
              go_wp2
              go_roundw
              case rel => exact ⟨k + 1, by go_num, by omega, by rw [HE.out], trivial⟩
              case measure => simp [intOf]; omega
            · have p4 : (e.t == (t : Int)) = false := by simpa using h4
              have HE : Hid (tmN (l.take (k + 1)) t = n0) := by show _ = _; rw [HSN.out, if_neg (fun h => h4 h.2)]; omega
              clear HSN
              go_wp2
              go_roundw
              case rel => exact ⟨k + 1, by go_num, by omega, by rw [HE.out], trivial⟩
              case measure => simp [intOf]; omega
          · have p2 : (e.k == 2) = false := by simpa using h2
            by_cases h3 : e.k = 3
            · have p3 : (e.k == 3) = true := by simpa using h3
              have q2 : tchB e = true := by unfold tchB; simp [h3]
              by_cases h4 : e.t = t
              · have p4 : (e.t == (t : Int)) = true := by simpa using h4
                have HE : Hid (tmN (l.take (k + 1)) t = n0 + 1) := by show _ = _; rw [HSN.out, if_pos ⟨q2, h4⟩]
                clear HSN
                go_wp2
                go_roundw
                case rel => exact ⟨k + 1, by go_num, by omega, by rw [HE.out], trivial⟩
                case measure => simp [intOf]; omega
              · have p4 : (e.t == (t : Int)) = false := by simpa using h4
                have HE : Hid (tmN (l.take (k + 1)) t = n0) := by show _ = _; rw [HSN.out, if_neg (fun h => h4 h.2)]; omega
                clear HSN
                go_wp2
                go_roundw
                case rel => exact ⟨k + 1, by go_num, by omega, by rw [HE.out], trivial⟩
                case measure => simp [intOf]; omega
            · have p3 : (e.k == 3) = false := by simpa using h3
              have q2 : ¬ tchB e = true := by unfold tchB; simp [h2, h3]
              have HE : Hid (tmN (l.take (k + 1)) t = n0) := by show _ = _; rw [HSN.out, if_neg (fun h => q2 h.1)]; omega
              clear HSN
              go_wp2
              go_roundw
              case rel => exact ⟨k + 1, by go_num, by omega, by rw [HE.out], trivial⟩
              case measure => simp [intOf]; omega
        · obtain rfl : k = N := by omega
          have hall : l.take k = l := by rw [HN.out, List.take_length]
          have hft : tmN (l.take k) t = F t := by rw [hall, HF.out]
          rw [hft]
          clear hall hft
          by_cases hgt : F t > m0
          · have HA : Hid (bsN F (t + 1) = t ∧ msN F (t + 1) = F t) := ⟨HS.out.1.trans (if_pos hgt), HS.out.2.trans (if_pos hgt)⟩
            generalize F t = f0 at *
            go_wp2
            go_roundw
            case rel => exact ⟨t + 1, by go_num, by omega, by rw [HA.out.1], by rw [HA.out.2], trivial⟩
            case measure => simp [intOf]; omega
          · have HA : Hid (bsN F (t + 1) = b0 ∧ msN F (t + 1) = m0) := ⟨HS.out.1.trans (if_neg hgt), HS.out.2.trans (if_neg hgt)⟩
            generalize F t = f0 at *
            go_wp2
            go_roundw
            case rel => exact ⟨t + 1, by go_num, by omega, by rw [HA.out.1], by rw [HA.out.2], trivial⟩
            case measure => simp [intOf]; omega
    · obtain rfl : t = 12 := by omega
      generalize msN F 12 = m0 at *
      generalize bsN F 12 = b0 at *
      go_wp2_with fail
      go_ret2
      rw [HRR.out]
      exact ⟨rfl, rfl⟩

end Go.Proofs.YtmiaibpdeofokaaGreatDoor

/-
  THE DOCUMENT'S ReadWord BY ITS CONTRACT.
-/
import Derived.Test.YtminiabpeodjaaaDoorCdRWord
namespace Go.Proofs.YtminiabpeodjaaaDoor
set_option linter.unusedVariables false
set_option linter.unusedSimpArgs false
open Go.RowKit
attribute [local go_sem] Oper.semAt_some

theorem wordB_inj : ∀ i < 29, ∀ j < 29, (wordB i).data.toList = (wordB j).data.toList → i = j := by decide +kernel
theorem byK_hit {k : Nat} (hk : k < 29) : ∀ n, k < n → n ≤ 29 → byK n (wordB k).data.toList = some (.int .u8 (k : Int))
  | 0, h, _ => by omega
  | n + 1, h, hn => by
    rw [byK_succ]
    unfold updS
    by_cases e : k = n
    · subst e; simp
    · rw [if_neg (fun q => e (wordB_inj k hk n (by omega) q)), byK_hit hk n (by omega) (by omega)]
theorem byK_miss {x : List UInt8} : ∀ n, (∀ j < n, x ≠ (wordB j).data.toList) → byK n x = none
  | 0, _ => rfl
  | n + 1, h => by
    rw [byK_succ]
    unfold updS
    rw [if_neg (h n (by omega)), byK_miss n (fun j hj => h j (by omega))]
theorem ba_ext {a b : ByteArray} (h : a.data.toList = b.data.toList) : a = b := by
  obtain ⟨x⟩ := a
  obtain ⟨y⟩ := b
  have : x = y := by simpa using h
  rw [this]

set_option maxRecDepth 100000 in
set_option maxHeartbeats 1000000 in
theorem rreadWord_any (s : ByteArray) (w : World) : Calls Tryd.prog 15 #[.string s] w fun e w' => e = .returned (.tuple #[(byK 29 s.data.toList).getD (.int .u8 0), .bool (byK 29 s.data.toList).isSome]) ∧ Touch w w' [] := by
  obtain ⟨v, hv⟩ : ∃ v, v = (byK 29 s.data.toList).getD (.int .u8 0) := ⟨_, rfl⟩
  obtain ⟨ok, hok⟩ : ∃ ok, ok = (byK 29 s.data.toList).isSome := ⟨_, rfl⟩
  rw [← hv, ← hok]
  have HV : Hid _ := hv
  have HOK : Hid _ := hok
  clear hv hok
  go_enter Tryd.func15, Tryd.ntmps15
  go_wp2_with fail
  go_loopw [4] (fun i wr => ∃ k : Nat, i = .int .u8 k ∧ k ≤ 29 ∧ (∀ j < k, s.data.toList ≠ (wordB j).data.toList) ∧ Touch w wr []) (fun i _ => 29 - (intOf i).toNat)
  case atStart => exact ⟨0, rfl, Nat.zero_le _, fun j hj => by omega, Touch.refl _ _⟩
  case round =>
    obtain ⟨k, rfl, hk, hm, hT⟩ := hrel
    have HT : Hid _ := hT
    by_cases hlt : k < 29
    · have hwd : HidC _ _ _ _ _ := ⟨rword_any (k : Int) (by omega) (by omega) wr⟩
      have e : wordP (k : Int) = wordB k := by unfold wordP; rw [if_neg (by omega), Int.toNat_natCast]
      rw [e] at hwd
      have hk28 : (k : Int) ≤ 28 := by omega
      have hkw : IntKind.u8.wrap ((k : Int) + 1) = (k : Int) + 1 := by rw [IntKind.wrap_u8]; omega
      by_cases he : s.data.toList = (wordB k).data.toList
      · have hb := byK_hit hlt 29 hlt (Nat.le_refl _)
        rw [← he] at hb
        have HE : Hid (v = .int .u8 (k : Int) ∧ ok = true) := ⟨by rw [HV.out, hb]; rfl, by rw [HOK.out, hb]; rfl⟩
        have hs : wordB k = s := ba_ext he.symm
        rw [hs] at hwd
        clear e he hb hs hm hT
        go_wp2_with fail
        refine hwd.out.mono ?_
        rintro e w2 ⟨rfl, t2⟩
        have T2 : Hid (Touch w w2 []) := HT.out.trans t2 (by simp)
        clear hwd t2
        go_wp2
        refine bodyPost_ret (v := .tuple #[.int .u8 (k : Int), .bool true]) (by simp [results, Tryd.results15, go_sem]) rfl ?_
        rw [HE.out.1, HE.out.2]
        exact ⟨rfl, T2.out⟩
      · have HM : Hid (∀ j < k + 1, s.data.toList ≠ (wordB j).data.toList) := fun j hj => by
          rcases Nat.lt_succ_iff_lt_or_eq.1 hj with q | q
          · exact hm j q
          · rw [q]; exact he
        have htl : ¬ (wordB k).toList = s.toList := fun q => he (by
          have e1 : s.toList = s.data.toList := by simp [ByteArray.toList_eq]
          have e2 : (wordB k).toList = (wordB k).data.toList := by simp [ByteArray.toList_eq]
          rw [← e1, ← e2, q])
        have hne : ¬ wordB k = s := fun q => he (by rw [q])
        generalize wordB k = t at hwd htl hne
        have htl2 : ¬ s.toList = t.toList := fun q => htl q.symm
        have hb1 : (t.toList == s.toList) = false := by simpa using htl
        clear e he hm hT
        go_wp2_with fail
        refine hwd.out.mono ?_
        rintro e w2 ⟨rfl, t2⟩
        have T2 : Hid (Touch w w2 []) := HT.out.trans t2 (by simp)
        clear hwd t2
        go_wp2
        go_roundw
        case rel => exact ⟨k + 1, rfl, by omega, HM.out, T2.out⟩
        case measure => simp only [intOf]; omega
    · obtain rfl : k = 29 := by omega
      have hb := byK_miss 29 hm
      have HE : Hid (v = .int .u8 0 ∧ ok = false) := ⟨by rw [HV.out, hb]; rfl, by rw [HOK.out, hb]; rfl⟩
      clear hb hm hT
      go_wp2
      refine bodyPost_ret (v := .tuple #[.int .u8 0, .bool false]) (by simp [results, Tryd.results15, go_sem]) rfl ?_
      rw [HE.out.1, HE.out.2]
      exact ⟨rfl, HT.out⟩

end Go.Proofs.YtminiabpeodjaaaDoor

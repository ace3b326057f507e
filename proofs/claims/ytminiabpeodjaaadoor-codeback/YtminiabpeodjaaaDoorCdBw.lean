/-
  package code: byWord BY ITS CONTRACT.
-/
import Derived.Test.YtminiabpeodjaaaDoorCdBy
import Derived.Deep.MidRow
namespace Go.Proofs.YtminiabpeodjaaaDoor
set_option linter.unusedVariables false
set_option linter.unusedSimpArgs false
open Go.RowKit Go.Maps
attribute [local go_sem] Oper.semAt_some

theorem Tryd.info_wordsT : (Tryd.prog.info? 58).map (·.size) = some 29 := by kernel_rfl
def wordsL : List Value := (List.range 29).map fun k => Value.string (wordB k)
theorem wordsL_at {w : World} (h : Wds w) (j : Nat) (v : Value) (hv : wordsL[j]? = some v) : w.cell? ((⟨0, 0, none⟩ : Addr).add j) = some v := by
  unfold wordsL at hv
  rw [List.getElem?_map, Option.map_eq_some_iff] at hv
  obtain ⟨i, hi, rfl⟩ := hv
  have hj : j < 29 := by
    have := (List.getElem?_eq_some_iff.1 hi).1
    simpa using this
  have : i = j := by
    rw [List.getElem?_range hj] at hi
    simpa using hi.symm
  subst this
  rw [Addr.add_lit, Nat.zero_add]
  exact h.at' i hj
theorem words_range {w : World} (h : Wds w) : w.rangeAt 0 0 wordsL := by
  intro j v hv
  have q := wordsL_at h j v hv
  rw [Addr.add_lit] at q
  simpa using q
theorem wordsL_index (k : Nat) (hk : k < 29) (W : World) : (Instr.index 58 (.agg wordsL.toArray) (.int .i64 (k : Int))).run Tryd.prog W = .ok (.string (wordB k)) W := by
  refine str_index _ (wordB k) k hk ?_ W
  unfold wordsL
  simp [hk]

set_option maxRecDepth 100000 in
set_option maxHeartbeats 2000000 in
theorem byWord_any {w : World} (h : Wds w) : Calls Tryd.prog 31 #[] w fun e w' => ∃ b, e = .returned (.map (some b)) ∧ MapS w' b 29 (byK 29) ∧ Touch w w' [] := by
  have hmm := make_words
  have T1 : Hid (Touch w (w.alloc (.map #[] 0)) []) := (Touch.refl w []).alloc _
  have M0 : Hid (MapS (w.alloc (.map #[] 0)) w.heap.size 0 (byK 0)) := MapS.made w
  have hw1 : Wds (w.alloc (.map #[] 0)) := h.touch T1.out (by simp)
  have HR : Hid ((w.alloc (.map #[] 0)).rangeAt 0 0 wordsL) := words_range hw1
  have hll : wordsL.length = 29 := by unfold wordsL; simp
  have HI : Hid ((Tryd.prog.info? 58).map (·.size) = some wordsL.length) := by show _ = _; rw [hll]; exact Tryd.info_wordsT
  have HIX : Hid (∀ (k : Nat), k < 29 → ∀ W : World, (Instr.index 58 (.agg wordsL.toArray) (.int .i64 (k : Int))).run Tryd.prog W = .ok (.string (wordB k)) W) := wordsL_index
  clear h hw1 hll
  generalize wordsL = C at *
  go_enter Tryd.func31, Tryd.ntmps31
  go_wp2_with (refine wpList_load_mid rfl 58 _ rfl 0 0 rfl C _ HR.out Tryd.underlying58 rfl HI.out ?_)
  generalize C.toArray = CA at *
  go_wp2_with fail
  go_loopw [6] (fun i wr => ∃ k : Nat, i = .int .i64 k ∧ k ≤ 29 ∧ MapS wr w.heap.size k (byK k) ∧ Touch w wr []) (fun i _ => 29 - (intOf i).toNat)
  case atStart => exact ⟨0, rfl, Nat.zero_le _, M0.out, T1.out⟩
  case round =>
    obtain ⟨k, rfl, hk, hM, hT⟩ := hrel
    clear T1 M0 HR HI
    by_cases hlt : k < 29
    · obtain ⟨w', hup, hM', hg⟩ := hM.store (t := 54) Tryd.underlying54 (by unfold maxLen; omega) (wordB_size k hlt) (.int .u8 (k : Int))
      rw [← byK_succ] at hM'
      have HM : Hid _ := hM'
      have HT : Hid (Touch w w' []) := hT.grown hg (fun q hq => .inr (by simp at hq; omega))
      have hix := HIX.out k hlt
      generalize wordB k = s at *
      have hk0 : (0 : Int) ≤ k := by omega
      have hk1 : (k : Int) < 29 := by omega
      have hkw : IntKind.i64.wrap ((k : Int) + 1) = (k : Int) + 1 := by rw [IntKind.wrap_i64]; omega
      have hku : IntKind.u8.wrap (k : Int) = (k : Int) := by rw [IntKind.wrap_u8]; omega
      clear hM hT hM' hg HIX
      go_wp2
      go_roundw
      case rel => exact ⟨k + 1, rfl, by omega, HM.out, HT.out⟩
      case measure => simp [intOf]; omega
    · obtain rfl : k = 29 := by omega
      have HM : Hid _ := hM
      have HT : Hid _ := hT
      clear hM hT
      go_wp2
      go_ret
      exact ⟨_, rfl, HM.out, HT.out⟩

end Go.Proofs.YtminiabpeodjaaaDoor

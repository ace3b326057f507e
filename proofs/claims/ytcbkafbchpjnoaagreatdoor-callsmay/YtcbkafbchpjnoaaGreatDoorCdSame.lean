/-
  THE DOCUMENT's Same OF INSTRUCTIONS THAT ARE THE SAME; AN ARGUMENT OF BYTES.
-/
import Derived.Test.YtcbkafbchpjnoaaGreatDoorCdFew
import Derived.Deep.QuietTactic
import Derived.BigQuiet
namespace Go.Proofs.YtcbkafbchpjnoaaGreatDoor
set_option linter.unusedVariables false
set_option linter.unusedSimpArgs false
open Go.RowKit
attribute [local go_sem] Oper.semAt_some

set_option maxRecDepth 100000 in
set_option maxHeartbeats 1000000 in
theorem rsame_eq {w : World} {ao bo : Option Addr} {n ca cb : Nat} {l : List InsD} (ha : InsIn w ao n ca l) (hb : InsIn w bo n cb l) (hn : n ≤ 1000) :
    Calls Tryz.prog 12 #[.slice ao n ca, .slice bo n cb] w fun e w' => e = .returned (.bool true) ∧ Touch w w' [] := by
  have HA : Hid (∀ W, Touch w W [] → ∀ k (hk : k < l.length), ∃ g off, ao = some ⟨g, off, none⟩ ∧ W.cell? ⟨g, off + k * 3, none⟩ = some (.int .u8 l[k].op) ∧ W.cell? ⟨g, off + k * 3 + 1, none⟩ = some (.int .i64 l[k].arg) ∧ W.cell? ⟨g, off + k * 3 + 2, none⟩ = some (.int .u64 l[k].val)) := fun W t k hk => ins_at (show InsRowC w (.slice ao l.length ca) l from ha.row) t (by simp) k hk
  have HB : Hid (∀ W, Touch w W [] → ∀ k (hk : k < l.length), ∃ g off, bo = some ⟨g, off, none⟩ ∧ W.cell? ⟨g, off + k * 3, none⟩ = some (.int .u8 l[k].op) ∧ W.cell? ⟨g, off + k * 3 + 1, none⟩ = some (.int .i64 l[k].arg) ∧ W.cell? ⟨g, off + k * 3 + 2, none⟩ = some (.int .u64 l[k].val)) := fun W t k hk => ins_at (show InsRowC w (.slice bo l.length cb) l from hb.row) t (by simp) k hk
  have HN : Hid (n = l.length) := ha.len
  clear ha hb
  go_enter Tryz.func12, Tryz.ntmps12
  go_wp2_with fail
  go_loopw [5] (fun vi wr => ∃ k : Nat, vi = .int .i64 k ∧ k ≤ n ∧ Touch w wr []) (fun vi _ => n - (intOf vi).toNat)
  case atStart => exact ⟨0, rfl, Nat.zero_le _, Touch.refl _ _⟩
  case round =>
    obtain ⟨k, rfl, hk, hT⟩ := hrel
    have HT : Hid _ := hT
    by_cases hlt : k < n
    · have h1 : (k : Int) < n := by omega
      have h0 : (0 : Int) ≤ k := by omega
      have hkl : k < l.length := by rw [← HN.out]; exact hlt
      obtain ⟨g, off, rfl, a0, a1, a2⟩ := HA.out wr hT k hkl
      obtain ⟨g', off', rfl, b0, b1, b2⟩ := HB.out wr hT k hkl
      generalize l[k] = i at *
      obtain ⟨io, ia, iv⟩ := i
      simp only at a0 a1 a2 b0 b1 b2
      clear hT
      go_wp2_with fail
      go_quiet (fail)
      go_wp2
      go_roundw
      case rel => exact ⟨k + 1, by go_num, by omega, HT.out.drewN _⟩
      case measure => simp [intOf]; omega
    · have h1 : ¬ (k : Int) < n := by omega
      clear hT
      go_wp2
      go_ret
      exact ⟨rfl, HT.out⟩

end Go.Proofs.YtcbkafbchpjnoaaGreatDoor

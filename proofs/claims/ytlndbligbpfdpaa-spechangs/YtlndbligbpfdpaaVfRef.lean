/-
  THE DOCUMENT'S closes, opens, arms BY THEIR CONTRACTS; THREE ROWS OF NUMBERS.
-/
import Derived.Test.YtlndbligbpfdpaaVfLive
import Derived.Test.YtlndbligbpfdpaaAppendSrc
namespace Go.Proofs.Ytlndbligbpfdpaa
set_option linter.unusedVariables false
set_option linter.unusedSimpArgs false
open Go.RowKit
attribute [local go_sem] Oper.semAt_some

def rclV (o : Int) : Int := if o = 22 then 21 else if o = 24 then 23 else if o = 25 then 24 else 0
set_option maxRecDepth 100000 in
theorem rcloses_any (o : Int) (w : World) : Calls Try.prog 80 #[.int .u8 o] w fun e w' => e = .returned (.int .u8 (rclV o)) ∧ w = w' := by
  rcases (show o = 22 ∨ o = 24 ∨ o = 25 ∨ (o ≠ 22 ∧ o ≠ 24 ∧ o ≠ 25) by omega) with rfl | rfl | rfl | ⟨h1, h2, h3⟩
  all_goals try (
    go_enter Try.func80, Try.ntmps80
    go_wp2
    go_ret
    exact ⟨rfl, rfl⟩)
  have e : rclV o = 0 := by simp [rclV, *]
  have b1 : (o == 22) = false := by simpa using h1
  have b2 : (o == 24) = false := by simpa using h2
  have b3 : (o == 25) = false := by simpa using h3
  rw [e]
  go_enter Try.func80, Try.ntmps80
  go_wp2
  go_ret
  exact ⟨rfl, rfl⟩
set_option maxRecDepth 100000 in
theorem ropens_any (o : Int) (w : World) : Calls Try.prog 81 #[.int .u8 o] w fun e w' => e = .returned (.bool (opensV o)) ∧ w = w' := by
  have e : opensV o = (o == 21 || o == 23 || o == 24) := by unfold opensV; rw [Bool.eq_iff_iff]; simp; omega
  rw [e]
  rcases (show o = 21 ∨ o = 23 ∨ o = 24 ∨ (o ≠ 21 ∧ o ≠ 23 ∧ o ≠ 24) by omega) with rfl | rfl | rfl | ⟨h1, h2, h3⟩
  all_goals try (
    go_enter Try.func81, Try.ntmps81
    go_wp2
    go_ret
    exact ⟨rfl, rfl⟩)
  all_goals (
    go_enter Try.func81, Try.ntmps81
    go_wp2
    go_ret
    exact ⟨by simp [*], rfl⟩)

/-- Open places as they lie in the document's list. -/
def opRow (op : List Nat) : List Int := op.reverse.map Int.ofNat
theorem opRow_len (op : List Nat) : (opRow op).length = op.length := by simp [opRow]
theorem opRow_cons (t : Nat) (r : List Nat) : opRow (t :: r) = opRow r ++ [(t : Int)] := by simp [opRow]
theorem opRow_at {op : List Nat} {j : Nat} (h : j < op.length) : ∃ t, t ∈ op ∧ (opRow op)[j]? = some (t : Int) ∧ op.reverse[j]? = some t := by
  have hj : j < op.reverse.length := by simpa using h
  exact ⟨op.reverse[j], by simp, by unfold opRow; rw [List.getElem?_map, List.getElem?_eq_getElem hj]; rfl, List.getElem?_eq_getElem hj⟩
def armsK (l : List InsD) (op : List Nat) (k : Nat) : Nat := ((op.reverse.take k).filter fun t => decide (opAt l t ≠ 21)).length
theorem armsK_all (l : List InsD) (op : List Nat) : armsK l op op.length = armsV l op := by
  unfold armsK armsV
  rw [List.take_of_length_le (by simp), List.filter_reverse, List.length_reverse]
theorem armsK_succ (l : List InsD) {op : List Nat} {k t : Nat} (h : op.reverse[k]? = some t) : armsK l op (k + 1) = armsK l op k + (if opAt l t ≠ 21 then 1 else 0) := by
  unfold armsK
  obtain ⟨hk, e⟩ := List.getElem?_eq_some_iff.1 h
  rw [List.take_succ_eq_append_getElem hk, e, List.filter_append, List.length_append]
  by_cases hq : opAt l t = 21 <;> simp [hq]
theorem armsK_le (l : List InsD) (op : List Nat) (k : Nat) : armsK l op k ≤ k := by
  unfold armsK
  exact Nat.le_trans (List.length_filter_le _ _) (by rw [List.length_take]; omega)

set_option maxRecDepth 100000 in
set_option maxHeartbeats 1000000 in
theorem arms_any {w : World} {ao : Option Addr} {N cap B : Nat} {l : List InsD} {ap : Option Addr} {cp M : Nat} {op : List Nat} (hN : N = l.length) (hn : N ≤ 900) (hr : InsV w (.slice ao N cap) l) (ho : intOwnV w B (.slice ap M cp) (opRow op)) (hM : M = op.length) (hop : ∀ t ∈ op, t < N) (hl : op.length ≤ 1000) :
    Calls Try.prog 79 #[.slice ao N cap, .slice ap M cp] w fun e w' => e = .returned (.int .i64 (armsV l op)) ∧ w = w' := by
  have HR : Hid _ := hr
  have HO : Hid _ := ho
  have HN : Hid _ := hN
  have HM : Hid _ := hM
  have HOP : Hid _ := hop
  have hm : M ≤ 1000 := by omega
  clear hr ho hN hM hop hl
  go_enter Try.func79, Try.ntmps79
  go_wp2_with fail
  go_loopw [5, 6] (fun v i wr => ∃ k : Nat, i = .int .i64 k ∧ k ≤ M ∧ v = .int .i64 (armsK l op k) ∧ wr = w) (fun _ i _ => M - (intOf i).toNat)
  case atStart => exact ⟨0, rfl, Nat.zero_le _, rfl, rfl⟩
  case round =>
    obtain ⟨k, rfl, hk, rfl, rfl⟩ := hrel
    have hle := armsK_le l op k
    by_cases hlt : k < M
    · obtain ⟨t, ht, e1, e2⟩ := opRow_at (op := op) (j := k) (by rw [← HM.out]; exact hlt)
      have htN := HOP.out t ht
      have hr0 := HR.out
      rw [HN.out] at hr0
      obtain ⟨g, off, rfl, hg, c0, c1, c2⟩ := insv_at hr0 t (by rw [← HN.out]; exact htN)
      have hlo : (opRow op).length = M := by rw [opRow_len, HM.out]
      obtain ⟨gp, cp', hap⟩ := Go.Joins.ownsRow_form HO.out (by rw [hlo]; omega)
      rw [hlo] at hap
      simp only [Value.slice.injEq, true_and] at hap
      obtain ⟨rfl, rfl⟩ := hap
      have hO2 : intOwnV wr B (.slice (some ⟨gp, 0, none⟩) M cp) (opRow op) := HO.out
      unfold intOwnV at hO2
      rw [hlo] at hO2
      have d0 := hO2.cellAt k (by omega)
      rw [List.getElem?_map, e1] at d0
      simp only [Option.map_some] at d0
      have HS := armsK_succ l e2
      have HSH : Hid _ := HS
      generalize opAt l t = o at *
      have hkM : (k : Int) < M := by omega
      have hk0 : (0 : Int) ≤ k := by omega
      have hkw : IntKind.i64.wrap ((k : Int) + 1) = (k : Int) + 1 := by rw [IntKind.wrap_i64]; omega
      have htN' : (t : Int) < N := by omega
      have ht0 : (0 : Int) ≤ t := by omega
      generalize armsK l op k = q at *
      have hqw : IntKind.i64.wrap ((q : Int) + 1) = (q : Int) + 1 := by rw [IntKind.wrap_i64]; omega
      clear hr0 hO2 hlo c1 c2 HS e1 e2 ht
      by_cases ho : o = 21
      · have HQ : Hid (armsK l op (k + 1) = q) := by show _ = _; rw [HSH.out]; simp [ho]
        subst ho
        clear HSH
        go_wp2
        go_roundw
        case rel => exact ⟨k + 1, rfl, by omega, by rw [HQ.out], by first | rfl | trivial⟩
        case measure => simp [intOf]; omega
      · have HQ : Hid (armsK l op (k + 1) = q + 1) := by show _ = _; rw [HSH.out]; simp [ho]
        have ho' : (o == 21) = false := by simpa using ho
        clear HSH
        go_wp2
        go_roundw
        case rel => exact ⟨k + 1, rfl, by omega, by rw [HQ.out]; rfl, by first | rfl | trivial⟩
        case measure => simp [intOf]; omega
    · obtain rfl : k = M := by omega
      go_wp2
      go_ret
      refine ⟨?_, rfl⟩
      rw [← armsK_all, ← HM.out]; rfl

end Go.Proofs.Ytlndbligbpfdpaa

/-
  package verify: Depths BY ITS CONTRACT.
-/
import Derived.Test.YtonjbldnhbbdjaaVfWalk
namespace Go.Proofs.Ytonjbldnhbbdjaa
set_option linter.unusedVariables false
set_option linter.unusedSimpArgs false
open Go.RowKit
attribute [local go_sem] Oper.semAt_some

/-- What was opened is open, or something is wrong, or its Arg is a place. -/
theorem opened_right {l : List InsD} : ∀ i k, k < i → opensV (opAt l k) = true → k ∈ (runV true mayV l i).op ∨ (runV true mayV l i).wr ≠ none ∨ (0 ≤ argAt l k ∧ argAt l k < i)
  | 0, k, hk, _ => by omega
  | i + 1, k, hk, ho => by
    have hs1 : ∀ k, k < i → opensV (opAt l k) = true → k ∈ (step1V true l i (runV true mayV l i)).op ∨ (step1V true l i (runV true mayV l i)).wr ≠ none ∨ (0 ≤ argAt l k ∧ argAt l k < (i : Int) + 1) := by
      intro k hk ho
      have ih := opened_right i k hk ho
      unfold step1V
      split
      · unfold shutV
        split
        · right; left; exact blame_some _ _
        · rename_i t r e
          split
          · rename_i hc
            show k ∈ r ∨ (if true = true ∧ argAt l t ≠ (i : Int) then blameV t (runV true mayV l i).wr else (runV true mayV l i).wr) ≠ none ∨ _
            by_cases ha : argAt l t = (i : Int)
            · rw [if_neg (by simp [ha])]
              rw [e] at ih
              rcases ih with h | h | h
              · rcases List.mem_cons.1 h with rfl | h
                · right; right; omega
                · left; exact h
              · right; left; exact h
              · right; right; omega
            · rw [if_pos ⟨rfl, ha⟩]
              right; left; exact blame_some _ _
          · right; left; exact blame_some _ _
      · rcases ih with h | h | h
        · exact .inl h
        · exact .inr (.inl h)
        · exact .inr (.inr (by omega))
    show k ∈ (stepV true mayV l i (runV true mayV l i)).op ∨ (stepV true mayV l i (runV true mayV l i)).wr ≠ none ∨ _
    unfold stepV
    by_cases hop : opensV (opAt l i) = true
    · rw [if_pos hop]
      rcases Nat.lt_succ_iff_lt_or_eq.1 hk with hlt | rfl
      · rcases hs1 k hlt ho with h | h | h
        · left; simp [beginV, h]
        · right; left
          unfold beginV
          simp only
          split
          · exact h
          · exact blame_some _ _
        · right; right; omega
      · left; simp [beginV]
    · rw [if_neg hop]
      rcases Nat.lt_succ_iff_lt_or_eq.1 hk with hlt | rfl
      · rcases hs1 k hlt ho with h | h | h
        · exact .inl h
        · exact .inr (.inl h)
        · exact .inr (.inr (by omega))
      · exact absurd ho hop
theorem arg_right {l : List InsD} (h : regV l = none) {k : Nat} (hk : k < l.length) (ho : opensV (opAt l k) = true) : 0 ≤ argAt l k ∧ argAt l k < l.length := by
  unfold regV endV at h
  split at h
  · simp at h
  · rename_i hw
    rcases opened_right l.length k hk ho with q | q | q
    · cases hp : (runV true mayV l l.length).op with
      | nil => rw [hp] at q; simp at q
      | cons t r => rw [hp] at h; simp at h
    · exact absurd hw q
    · exact q

/-- What Depths answers. -/
def DepPost (w : World) (l : List InsD) (e : Ending) (w' : World) : Prop :=
  ∃ v, e = .returned (.tuple #[v, .int .i64 (depV l).2.1, .int .i64 (depV l).1]) ∧ intOwnV w' w.heap.size v (depV l).2.2 ∧ Touch w w' []
theorem rounds_nil {l : List InsD} : ∀ n D G, (roundsV l n D G).1 ≠ 0 → (roundsV l n D G).2.2 = []
  | 0, D, G, h => by simp [roundsV] at h
  | n + 1, D, G, h => by
    unfold roundsV at h ⊢
    split
    · rename_i e; rw [e] at h; simp at h
    · rename_i i e
      rw [e] at h
      simp only at h
      split
      · rfl
      · rename_i hq
        rw [if_neg hq] at h
        exact rounds_nil n _ _ h

theorem rounds_zero {l : List InsD} : ∀ n D G, (roundsV l n D G).1 = 0 → (roundsV l n D G).2.1 = 0
  | 0, D, G, h => rfl
  | n + 1, D, G, h => by
    unfold roundsV at h ⊢
    split
    · rfl
    · rename_i i e
      rw [e] at h
      simp only at h
      split
      · rename_i hq; rw [if_pos hq] at h; exact absurd h hq
      · rename_i hq
        rw [if_neg hq] at h
        exact rounds_zero n _ _ h

set_option maxRecDepth 100000 in
set_option maxHeartbeats 1000000 in
theorem depths_any {w : World} {ao : Option Addr} {N cap : Nat} {l : List InsD} (hN : N = l.length) (hn : N ≤ 900) (hr : InsV w (.slice ao N cap) l) :
    Calls Try.prog 18 #[.slice ao N cap] w (DepPost w l) := by
  have hrg : HidC _ _ _ _ _ := ⟨regions_any hN hn hr⟩
  have HR : Hid _ := hr
  have HN : Hid _ := hN
  clear hr hN
  cases hreg : regV l with
  | some k =>
    have e1 : ansK (runV true mayV l l.length) = k := by unfold ansK; rw [show endV (runV true mayV l l.length) = some k from hreg]
    have e2 : ansE (runV true mayV l l.length) = 8 := by unfold ansE; rw [show endV (runV true mayV l l.length) = some k from hreg]
    have e3 : depV l = (8, k, []) := by unfold depV; rw [hreg]
    have HP : Hid (∀ w', Touch w w' [] → DepPost w l (.returned (.tuple #[.slice none 0 0, .int .i64 k, .int .i64 8])) w') := fun w' t => by
      unfold DepPost; rw [e3]; exact ⟨_, rfl, World.ownsRow_nil _ _ _ _, t⟩
    unfold RegPost at hrg
    rw [e1, e2] at hrg
    clear e1 e2 e3 hreg
    go_enter Try.func18, Try.ntmps18
    go_wp2_with fail
    refine hrg.out.mono ?_
    rintro e w1 ⟨v, rfl, _, t1⟩
    clear hrg
    have T1 : Hid _ := t1
    clear t1
    go_wp2
    refine bodyPost_ret (v := .tuple #[.slice none 0 0, .int .i64 k, .int .i64 8]) (by simp [results, Try.results18, go_sem]) rfl ?_
    exact HP.out _ T1.out
  | none =>
    have e1 : ansK (runV true mayV l l.length) = 0 := by unfold ansK; rw [show endV (runV true mayV l l.length) = none from hreg]
    have e2 : ansE (runV true mayV l l.length) = 0 := by unfold ansE; rw [show endV (runV true mayV l l.length) = none from hreg]
    have e3 : depV l = roundsV l l.length (beginD l.length) (List.replicate l.length false) := by unfold depV; rw [hreg]
    have HA : Hid (∀ k, k < l.length → opAt l k = 23 ∨ opAt l k = 24 → -1000 ≤ argAt l k ∧ argAt l k ≤ 1000) := fun k hk q => by
      have := arg_right hreg hk (by unfold opensV; rcases q with q | q <;> simp [q])
      have := HN.out
      omega
    have HE : Hid (depV l = roundsV l l.length (beginD l.length) (List.replicate l.length false)) := e3
    unfold RegPost at hrg
    rw [e1, e2] at hrg
    clear e1 e2 e3 hreg
    have hwy : Hid (∀ W, HidC _ _ _ W _) := fun W => ⟨ways_any (w := W) (ao := ao) (N := N) (cap := cap) hn⟩
    go_enter Try.func18, Try.ntmps18
    go_wp2_with fail
    refine hrg.out.mono ?_
    rintro e w1 ⟨v, rfl, _, t1⟩
    clear hrg
    have T1 : Hid _ := t1
    clear t1
    go_wp2_with fail
    refine (hwy.out w1).out.mono ?_
    rintro e w2 ⟨rfl, hW2, t2⟩
    have hT2 : Touch w w2 [] := T1.out.trans t2 (by simp)
    have hwk : HidC _ _ _ _ _ := ⟨walk_any (RES := depV l) (D0 := beginD N) (G0 := List.replicate l.length false) hW2 HN.out hn (SRow.keep HR.out hT2 (by simp)) (fun hne q hq => by have := SRow.block HR.out hne q hq; have := T1.out.size; omega) HA.out (by rw [HN.out]; exact begin_inv l) (by rw [HE.out, ← fin_begin, HN.out])⟩
    have HT2 : Hid _ := hT2
    clear hwy hW2 t2 hT2
    go_wp2_with fail
    refine hwk.out.mono ?_
    rintro e w3 ⟨rfl, t3, hr3⟩
    clear hwk
    have HT3 : Hid (Touch w w3 []) := HT2.out.trans t3 (fun x hx => .inr (by simp at hx; have := T1.out.size; omega))
    have HNIL : Hid ((depV l).1 ≠ 0 → (depV l).2.2 = []) := fun q => by rw [HE.out] at q ⊢; exact rounds_nil _ _ _ q
    have HPOST : Hid (∀ v, intOwnV w3 w.heap.size v (depV l).2.2 → DepPost w l (.returned (.tuple #[v, .int .i64 (depV l).2.1, .int .i64 (depV l).1])) w3) := fun v q => ⟨v, rfl, q, HT3.out⟩
    generalize hdv : depV l = r at *
    obtain ⟨re, ri, rD⟩ := r
    by_cases hre : re = 0
    · have hre' : (re == 0) = true := by simpa using hre
      have hW3 := hr3 hre
      have d1 : w3.cell? ⟨w1.heap.size + 1, 1, none⟩ = some (.slice (some ⟨w1.heap.size, 0, none⟩) N N) := by unfold World.cell?; rw [hW3.st]; rfl
      have HOW : Hid (intOwnV w3 w.heap.size (.slice (some ⟨w1.heap.size, 0, none⟩) N N) rD) := by
        refine ⟨by simp, .inr ⟨w1.heap.size, N, _, ?_, T1.out.size, hW3.row, ?_, by unfold maxLen; omega, ?_, ?_⟩⟩
        · rw [hW3.len]
        · rw [hW3.len]; exact Nat.le_refl _
        · simp [hW3.len]
        · simp [List.take_of_length_le]
      have HRI : Hid (ri = 0) := by
        show ri = 0
        have q := rounds_zero l.length (beginD l.length) (List.replicate l.length false) (by rw [← HE.out]; exact hre)
        rw [← HE.out] at q
        exact q
      subst hre
      clear hr3 hW3 t3
      go_wp2
      refine bodyPost_ret (v := .tuple #[.slice (some ⟨w1.heap.size, 0, none⟩) N N, .int .i64 0, .int .i64 0]) (by simp [results, Try.results18, go_sem]) rfl ?_
      have q := HPOST.out _ HOW.out
      simp only [HRI.out] at q
      exact q
    · have hre' : (re == 0) = false := by simpa using hre
      clear hr3 t3
      go_wp2
      refine bodyPost_ret (v := .tuple #[.slice none 0 0, .int .i64 ri, .int .i64 re]) (by simp [results, Try.results18, go_sem]) rfl ?_
      exact HPOST.out _ (by
        have q : rD = [] := HNIL.out hre
        show intOwnV _ _ _ rD
        rw [q]; exact World.ownsRow_nil _ _ _ _)

end Go.Proofs.Ytonjbldnhbbdjaa

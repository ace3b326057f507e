/-
  package verify: around, mayBegin, begin BY THEIR CONTRACTS.
-/
import Derived.Test.YtonjbldnhbbdjaaVfMatch
namespace Go.Proofs.Ytonjbldnhbbdjaa
set_option linter.unusedVariables false
set_option linter.unusedSimpArgs false
open Go.RowKit
attribute [local go_sem] Oper.semAt_some

/-- A matching as it lies. -/
structure MAt (B : Nat) (l : List InsD) (w : World) (b : Nat) (vo vi : Value) (s : MD) (xs : List Int) : Prop where
  st : w.heap[b]? = some (.cells #[vo, vi, wrC s.wr, wrF s.wr] 56 (0, 0))
  op : brOwn w B vo (brRow l s.op)
  inn : w.ownsRow B 3 1 vi xs.length (xs.map (Value.int .i64))
theorem kind_ne {w : World} {B n k : Nat} {e T : TypeId} {v : Value} {xs : List Value} {b : Nat} {cs : Array Value} {f : Nat × Nat} (h : w.ownsRow B e n v k xs) (hb : w.heap[b]? = some (.cells cs T f)) (ht : e ≠ T) : v.ownBlock ≠ some b := fun hv => by
  obtain ⟨c, fz, h1⟩ := Lib.ownsRow_kind h b hv
  rw [hb] at h1
  simp only [Option.some.injEq, Obj.cells.injEq] at h1
  exact ht h1.2.1.symm
theorem MAt.nb {B : Nat} {l : List InsD} {w : World} {b : Nat} {vo vi : Value} {s : MD} {xs : List Int} (h : MAt B l w b vo vi s xs) : vo.ownBlock ≠ some b := kind_ne h.op h.st (by decide)
theorem MAt.ni {B : Nat} {l : List InsD} {w : World} {b : Nat} {vo vi : Value} {s : MD} {xs : List Int} (h : MAt B l w b vo vi s xs) : vi.ownBlock ≠ some b := kind_ne h.inn h.st (by decide)
theorem MAt.nn {B : Nat} {l : List InsD} {w : World} {b : Nat} {vo vi : Value} {s : MD} {xs : List Int} (h : MAt B l w b vo vi s xs) : ∀ g, vi.ownBlock = some g → vo.ownBlock ≠ some g := fun g hg hv => by
  obtain ⟨c, fz, h1⟩ := Lib.ownsRow_kind h.inn g hg
  exact kind_ne h.op h1 (by decide) hv
theorem MAt.keep {B : Nat} {l : List InsD} {w w' : World} {b : Nat} {vo vi : Value} {s : MD} {xs : List Int} {S : List Nat} (h : MAt B l w b vo vi s xs) (t : Touch w w' S) (hS : ∀ x ∈ S, x ≠ b ∧ vo.ownBlock ≠ some x ∧ vi.ownBlock ≠ some x) : MAt B l w' b vo vi s xs :=
  ⟨(t.block b (lt_of_heap h.st) (fun hs => (hS b hs).1 rfl)).trans h.st, ownsRow_touch h.op t (fun g hg hs => (hS g hs).2.1 hg), ownsRow_touch h.inn t (fun g hg hs => (hS g hs).2.2 hg)⟩
theorem MAt.keep0 {B : Nat} {l : List InsD} {w w' : World} {b : Nat} {vo vi : Value} {s : MD} {xs : List Int} (h : MAt B l w b vo vi s xs) (t : Touch w w' []) : MAt B l w' b vo vi s xs := h.keep t (by simp)
/-- What a call leaves. -/
def MPost (B : Nat) (l : List InsD) (w : World) (b : Nat) (vo vi : Value) (s : MD) (xs : List Int) (e : Ending) (w' : World) : Prop :=
  ∃ vo', e = .returned (.tuple #[]) ∧ MAt B l w' b vo' vi s xs ∧ Touch w w' (b :: vo.ownBlock.toList) ∧ (∀ g, vo'.ownBlock = some g → vo.ownBlock = some g ∨ w.heap.size ≤ g)

set_option maxRecDepth 100000 in
theorem around_any {B : Nat} {l : List InsD} {w : World} {b : Nat} {vo vi : Value} {s : MD} {xs : List Int} (h : MAt B l w b vo vi s xs) (hl : s.op.length ≤ 1000) :
    Calls Try.prog 39 #[.pointer (some ⟨b, 0, none⟩)] w fun e w' => e = .returned (.int .i64 (topV s.op)) ∧ Touch w w' [] := by
  have ht : HidC _ _ _ _ _ := ⟨vtop_any h.st h.op hl⟩
  clear h
  obtain ⟨op, wr⟩ := s
  cases op with
  | nil =>
    simp only [topB] at ht
    go_enter Try.func39, Try.ntmps39
    go_wp2_with fail
    refine ht.out.mono ?_
    rintro e w1 ⟨rfl, t1⟩
    have T1 : Hid _ := t1
    clear ht t1
    have hd : decide (([] : List Nat) ≠ []) = false := by simp
    rw [hd]
    go_wp2
    go_ret
    exact ⟨rfl, T1.out.alloc _⟩
  | cons t r =>
    simp only [topB] at ht
    go_enter Try.func39, Try.ntmps39
    go_wp2_with fail
    refine ht.out.mono ?_
    rintro e w1 ⟨rfl, t1⟩
    have T1 : Hid _ := t1
    clear ht t1
    have hd : decide ((t :: r : List Nat) ≠ []) = true := by simp
    rw [hd]
    go_wp2
    go_ret
    exact ⟨rfl, T1.out.alloc _⟩

set_option maxRecDepth 100000 in
theorem may_any {B : Nat} {l : List InsD} {w : World} {b : Nat} {vo vi : Value} {s : MD} {xs : List Int} (h : MAt B l w b vo vi s xs) (hl : s.op.length ≤ 1000) (o : Int) :
    Calls Try.prog 54 #[.pointer (some ⟨b, 0, none⟩), .int .u8 o] w fun e w' => e = .returned (.bool (mayV o s.op)) ∧ w = w' := by
  obtain ⟨ao, cap, hv⟩ := owns_slice h.op
  have c0 : w.cell? ⟨b, 0, none⟩ = some (.slice ao s.op.length cap) := by rw [← brRow_len l, ← hv]; simp [World.cell?, h.st]
  have hs : HidC _ _ _ _ _ := ⟨size_any c0⟩
  clear h hv c0
  generalize hn : s.op.length = n at *
  rcases (show o = 21 ∨ o = 23 ∨ (o ≠ 21 ∧ o ≠ 23) by omega) with rfl | rfl | ⟨h1, h2⟩
  · have e : mayV 21 s.op = ((n : Int) == 0) := by
      simp only [mayV, hn, if_true]
      rw [Bool.eq_iff_iff]; simp
    rw [e]
    go_enter Try.func54, Try.ntmps54
    go_wp2_with fail
    refine hs.out.mono ?_
    rintro e w1 ⟨rfl, rfl⟩
    clear hs
    go_wp2
    go_ret
    exact ⟨rfl, rfl⟩
  · by_cases h0 : 0 < n
    · have hi : (0 : Int) < n := by omega
      have e : mayV 23 s.op = decide ((n : Int) ≤ 4) := by
        simp only [mayV, hn]
        rw [Bool.eq_iff_iff]; simp; omega
      rw [e]
      clear h0
      go_enter Try.func54, Try.ntmps54
      go_wp2_with fail
      refine hs.out.mono ?_
      rintro e w1 ⟨rfl, rfl⟩
      go_wp2_with fail
      refine hs.out.mono ?_
      rintro e w1 ⟨rfl, rfl⟩
      clear hs
      go_wp2
      go_ret
      exact ⟨rfl, rfl⟩
    · have hi : ¬ (0 : Int) < n := by omega
      have e : mayV 23 s.op = false := by
        simp only [mayV, hn]
        rw [Bool.eq_iff_iff]; simp; omega
      rw [e]
      clear h0
      go_enter Try.func54, Try.ntmps54
      go_wp2_with fail
      refine hs.out.mono ?_
      rintro e w1 ⟨rfl, rfl⟩
      clear hs
      go_wp2
      go_ret
      exact ⟨rfl, rfl⟩
  · have e : mayV o s.op = true := by simp [mayV, h1, h2]
    rw [e]
    go_enter Try.func54, Try.ntmps54
    go_wp2
    go_ret
    exact ⟨rfl, rfl⟩

end Go.Proofs.Ytonjbldnhbbdjaa

/-
  The document's lock, BY ITS CONTRACTS.
-/
import Derived.Test.YtghommnjnmlmmaaSeqRest
namespace Go.Proofs.Ytghommnjnmlmmaa
set_option linter.unusedVariables false
set_option linter.unusedSimpArgs false
open Go.RowKit

/-- The document's lock. -/
structure RLk (w : World) (b : Nat) (s : SLk) : Prop where
  st : w.heap[b]? = some (.cells #[.int .u64 s.c, .bool (decide (s.c % 2 = 1)), .int .i64 s.o] 57 (0, 0))

theorem RLk.touch {w w' : World} {b : Nat} {s : SLk} {S : List Nat} (h : RLk w b s) (t : Touch w w' S) (hS : b ∉ S) : RLk w' b s := ⟨(t.block b (lt_of_heap h.st) hS).trans h.st⟩
theorem RLk.cells {w : World} {b : Nat} {s : SLk} (h : RLk w b s) : w.cell? ⟨b, 0, none⟩ = some (.int .u64 s.c) ∧ w.cell? ⟨b, 1, none⟩ = some (.bool (decide (s.c % 2 = 1))) ∧ w.cell? ⟨b, 2, none⟩ = some (.int .i64 s.o) := by
  simp [World.cell?, h.st]
theorem RLk.frozen {w : World} {b : Nat} {s : SLk} (h : RLk w b s) (j : Nat) : w.frozen? ⟨b, j, none⟩ = false := by simp [World.frozen?, h.st]

theorem RLk.set {w : World} {b : Nat} {s : SLk} (h : RLk w b s) (c' o' : Int) (d : Bool) (hd : d = decide (c' % 2 = 1)) :
    RLk (((w.setCell ⟨b, 1, none⟩ (.bool d)).setCell ⟨b, 2, none⟩ (.int .i64 o')).setCell ⟨b, 0, none⟩ (.int .u64 c')) b ⟨c', o'⟩ := by
  subst hd
  refine ⟨?_⟩
  simp [World.setCell, Array.getElem?_modify, h.st]
theorem RLk.setT (w : World) (b : Nat) (x y z : Value) : Touch w (((w.setCell ⟨b, 1, none⟩ x).setCell ⟨b, 2, none⟩ y).setCell ⟨b, 0, none⟩ z) [b] :=
  (((Touch.refl w [b]).setCell (.inl (by simp)) _).setCell (.inl (by simp)) _).setCell (.inl (by simp)) _

theorem rlnew_any (w : World) : Calls Try.prog 22 #[] w fun x w' => x = .returned (.pointer (some ⟨w.heap.size, 0, none⟩)) ∧ RLk w' w.heap.size ⟨0, 0⟩ ∧ w' = w.alloc (.cells #[.int .u64 0, .bool false, .int .i64 0] 57) := by
  go_enter Try.func22, Try.ntmps22
  go_wp2
  go_ret
  exact ⟨by simp, ⟨heap_alloc_new w _⟩, rfl⟩

theorem rsnap_any (b : Nat) (s : SLk) (w : World) (h : RLk w b s) :
    Calls Try.prog 34 #[.pointer (some ⟨b, 0, none⟩)] w fun x w' => x = .returned (.tuple #[.int .u64 (snapS s).1, .int .i64 (snapS s).2]) ∧ w = w' := by
  obtain ⟨c0, c1, c2⟩ := h.cells
  unfold snapS
  by_cases h2 : s.c % 2 = 1
  · rw [if_pos h2]
    go_enter Try.func34, Try.ntmps34
    go_wp2
    go_ret2
    exact ⟨rfl, rfl⟩
  · rw [if_neg h2]
    go_enter Try.func34, Try.ntmps34
    go_wp2
    go_ret2
    exact ⟨rfl, rfl⟩

/-- What a call leaves. -/
def RPost (b : Nat) (w : World) (r : Int × SLk) (x : Ending) (w' : World) : Prop := x = .returned (.int .i64 r.1) ∧ RLk w' b r.2 ∧ Touch w w' [b]

set_option maxRecDepth 100000 in
theorem rtry_any (b : Nat) (s : SLk) (owner at' : Int) (hc : 0 ≤ s.c) (w : World) (h : RLk w b s) :
    Calls Try.prog 35 #[.pointer (some ⟨b, 0, none⟩), .int .i64 owner, .int .u64 at'] w (RPost b w (tryS s owner at')) := by
  obtain ⟨c0, c1, c2⟩ := h.cells
  have f0 := h.frozen 0
  have f1 := h.frozen 1
  have f2 := h.frozen 2
  unfold tryS
  have HH : Hid _ := h
  clear h
  by_cases h0 : 0 ≤ owner
  · by_cases h1 : owner < 4
    · rw [if_neg (by simp [h0, h1])]
      by_cases h2 : s.c % 2 = 1
      · rw [if_pos h2]
        go_enter Try.func35, Try.ntmps35
        go_wp2
        go_ret
        exact ⟨rfl, HH.out, Touch.refl _ _⟩
      · rw [if_neg h2]
        by_cases h3 : s.c = at'
        · rw [if_neg (by simp [h3])]
          subst h3
          by_cases h4 : s.c < 1099511627775
          · rw [if_neg (by simp [h4])]
            go_enter Try.func35, Try.ntmps35
            go_wp2
            go_ret
            exact ⟨rfl, HH.out.set _ _ _ (by simp; omega), RLk.setT _ _ _ _ _⟩
          · rw [if_pos h4]
            go_enter Try.func35, Try.ntmps35
            go_wp2
            go_ret
            exact ⟨rfl, HH.out, Touch.refl _ _⟩
        · rw [if_pos h3]
          go_enter Try.func35, Try.ntmps35
          go_wp2
          go_ret
          exact ⟨rfl, HH.out, Touch.refl _ _⟩
    · rw [if_pos (by omega)]
      go_enter Try.func35, Try.ntmps35
      go_wp2
      go_ret
      exact ⟨rfl, HH.out, Touch.refl _ _⟩
  · rw [if_pos (by omega)]
    go_enter Try.func35, Try.ntmps35
    go_wp2
    go_ret
    exact ⟨rfl, HH.out, Touch.refl _ _⟩

theorem rhas_any (b : Nat) (s : SLk) (owner : Int) (w : World) (h : RLk w b s) :
    Calls Try.prog 40 #[.pointer (some ⟨b, 0, none⟩), .int .i64 owner] w fun x w' => x = .returned (.int .i64 (if s.c % 2 = 1 ∧ s.o = owner then 0 else 8)) ∧ w = w' := by
  obtain ⟨c0, c1, c2⟩ := h.cells
  by_cases h2 : s.c % 2 = 1
  · by_cases h3 : s.o = owner
    · rw [if_pos ⟨h2, h3⟩]
      go_enter Try.func40, Try.ntmps40
      go_wp2
      go_ret
      exact ⟨rfl, rfl⟩
    · rw [if_neg (fun h => h3 h.2)]
      have h3' : (s.o == owner) = false := by simpa using h3
      go_enter Try.func40, Try.ntmps40
      go_wp2
      go_ret
      exact ⟨rfl, rfl⟩
  · rw [if_neg (fun h => h2 h.1)]
    go_enter Try.func40, Try.ntmps40
    go_wp2
    go_ret
    exact ⟨rfl, rfl⟩

set_option maxRecDepth 100000 in
theorem runlock_any (b : Nat) (s : SLk) (owner : Int) (hc : 0 ≤ s.c) (h1 : s.c ≤ 1099511627776) (w : World) (h : RLk w b s) :
    Calls Try.prog 36 #[.pointer (some ⟨b, 0, none⟩), .int .i64 owner] w (RPost b w (leaveS s owner (s.c + 1))) := by
  obtain ⟨c0, c1, c2⟩ := h.cells
  have f0 := h.frozen 0
  have f1 := h.frozen 1
  have f2 := h.frozen 2
  have hh := rhas_any b s owner w h
  unfold leaveS
  by_cases hd : s.c % 2 = 1 ∧ s.o = owner
  · rw [if_pos hd] at hh ⊢
    have hs := h.set (s.c + 1) 0 false (by have := hd.1; simp; omega)
    have HS : Hid _ := hs
    obtain ⟨h2, h3⟩ := hd
    have hc1 : 1 ≤ s.c := by omega
    clear h hs
    go_enter Try.func36, Try.ntmps36
    go_wp2_with fail
    refine hh.mono ?_
    rintro x w1 ⟨rfl, rfl⟩
    clear hh
    go_wp2
    go_ret
    exact ⟨rfl, HS.out, RLk.setT _ _ _ _ _⟩
  · rw [if_neg hd] at hh ⊢
    have HH : Hid _ := h
    clear h hd
    go_enter Try.func36, Try.ntmps36
    go_wp2_with fail
    refine hh.mono ?_
    rintro x w1 ⟨rfl, rfl⟩
    clear hh
    go_wp2
    go_ret
    exact ⟨rfl, HH.out, Touch.refl _ _⟩

set_option maxRecDepth 100000 in
theorem rbreak_any (b : Nat) (s : SLk) (owner : Int) (hc : 0 ≤ s.c) (h1 : s.c ≤ 1099511627776) (w : World) (h : RLk w b s) :
    Calls Try.prog 37 #[.pointer (some ⟨b, 0, none⟩), .int .i64 owner] w (RPost b w (leaveS s owner (s.c - 1))) := by
  obtain ⟨c0, c1, c2⟩ := h.cells
  have f0 := h.frozen 0
  have f1 := h.frozen 1
  have f2 := h.frozen 2
  have hh := rhas_any b s owner w h
  unfold leaveS
  by_cases hd : s.c % 2 = 1 ∧ s.o = owner
  · rw [if_pos hd] at hh ⊢
    have hs := h.set (s.c - 1) 0 false (by have := hd.1; simp; omega)
    have HS : Hid _ := hs
    obtain ⟨h2, h3⟩ := hd
    have hc1 : 1 ≤ s.c := by omega
    clear h hs
    go_enter Try.func37, Try.ntmps37
    go_wp2_with fail
    refine hh.mono ?_
    rintro x w1 ⟨rfl, rfl⟩
    clear hh
    go_wp2
    go_ret
    exact ⟨rfl, HS.out, RLk.setT _ _ _ _ _⟩
  · rw [if_neg hd] at hh ⊢
    have HH : Hid _ := h
    clear h hd
    go_enter Try.func37, Try.ntmps37
    go_wp2_with fail
    refine hh.mono ?_
    rintro x w1 ⟨rfl, rfl⟩
    clear hh
    go_wp2
    go_ret
    exact ⟨rfl, HH.out, Touch.refl _ _⟩

theorem rcount_any (b : Nat) (s : SLk) (w : World) (h : RLk w b s) : Calls Try.prog 24 #[.pointer (some ⟨b, 0, none⟩)] w fun x w' => x = .returned (.int .u64 s.c) ∧ w = w' := by
  obtain ⟨c0, c1, c2⟩ := h.cells
  go_enter Try.func24, Try.ntmps24
  go_wp2
  go_ret
  exact ⟨rfl, rfl⟩
theorem rsince_any (b : Nat) (s : SLk) (at' : Int) (w : World) (h : RLk w b s) : Calls Try.prog 25 #[.pointer (some ⟨b, 0, none⟩), .int .u64 at'] w fun x w' => x = .returned (.bool (s.c == at')) ∧ w = w' := by
  obtain ⟨c0, c1, c2⟩ := h.cells
  go_enter Try.func25, Try.ntmps25
  go_wp2
  go_ret
  exact ⟨rfl, rfl⟩
theorem rowner_any (b : Nat) (s : SLk) (w : World) (h : RLk w b s) : Calls Try.prog 23 #[.pointer (some ⟨b, 0, none⟩)] w fun x w' => x = .returned (.tuple #[.int .i64 (ownS s).1, .bool (ownS s).2]) ∧ w = w' := by
  obtain ⟨c0, c1, c2⟩ := h.cells
  unfold ownS
  by_cases h2 : s.c % 2 = 1
  · rw [if_pos h2]
    go_enter Try.func23, Try.ntmps23
    go_wp2
    go_ret2
    exact ⟨rfl, rfl⟩
  · rw [if_neg h2]
    go_enter Try.func23, Try.ntmps23
    go_wp2
    go_ret2
    exact ⟨rfl, rfl⟩
theorem rfork_any (b : Nat) (s : SLk) (w : World) (h : RLk w b s) : Calls Try.prog 19 #[.pointer (some ⟨b, 0, none⟩)] w fun x w' => ∃ f, w.heap.size ≤ f ∧ x = .returned (.pointer (some ⟨f, 0, none⟩)) ∧ RLk w' f s ∧ Touch w w' [] := by
  obtain ⟨c0, c1, c2⟩ := h.cells
  go_enter Try.func19, Try.ntmps19
  go_wp2
  go_ret
  exact ⟨w.heap.size, Nat.le_refl _, by simp, ⟨heap_alloc_new w _⟩, (Touch.refl w []).alloc _⟩

end Go.Proofs.Ytghommnjnmlmmaa

/-
  package stripes' Lock, Unlock, Restore, Tick BY THEIR CONTRACTS.
-/
import Derived.Test.YthkphhjhgkclfaaDoorStripesChange
namespace Go.Proofs.YthkphhjhgkclfaaDoor
set_option linter.unusedVariables false
set_option linter.unusedSimpArgs false
open Go.RowKit

theorem tlock_ext {w : World} {b : Nat} {now : Int} {ws : List Int} (h : TObj w b now ws) (G : Good now ws) (S : Sh w) (o s : Int) : Calls Tryd.prog 16 #[ptr b, .int .i64 o, .int .i64 s] w fun e w' => e = .returned (.int .i64 (lockS ws o s).1) ∧ TObj w' b now (lockS ws o s).2 ∧ Touch w w' [b] := by
  have t0 := (Touch.refl w []).alloc (.cells #[.int .i64 o] 3)
  have c0 : (w.alloc (.cells #[.int .i64 o] 3)).cell? ⟨w.heap.size, 0, none⟩ = some (.int .i64 o) := by simp only [World.cell?, heap_alloc_new]; rfl
  have HC := change_lock (h.touch t0 (by simp)) G s w.heap.size (fun n => lockP n o) (fun n W hn t => lock1_any w.heap.size n o hn W ((S.touch t0 (by simp)).touch t (by simp)) ((t.cell (by simp) (by simp)).trans c0))
  have HT : Hid _ := t0
  unfold lockS
  generalize (if inS ws s then putS ws s (lockP (wordAt ws s) o) else (2, ws)) = r at *
  clear S h c0 t0
  go_enter Tryd.func16, Tryd.ntmps16
  go_wp2_with fail
  refine HC.mono ?_
  rintro e w1 ⟨rfl, h1, t1⟩
  clear HC
  have HO : Hid _ := h1
  clear h1
  go_wp2
  go_ret
  exact ⟨by simp, HO.out, (HT.out.mono (by simp)).trans t1 (by simp)⟩

theorem trestore_ext {w : World} {b : Nat} {now : Int} {ws : List Int} (h : TObj w b now ws) (G : Good now ws) (S : Sh w) (o s : Int) : Calls Tryd.prog 18 #[ptr b, .int .i64 o, .int .i64 s] w fun e w' => e = .returned (.int .i64 (restoreS ws o s).1) ∧ TObj w' b now (restoreS ws o s).2 ∧ Touch w w' [b] := by
  have t0 := (Touch.refl w []).alloc (.cells #[.int .i64 o] 3)
  have c0 : (w.alloc (.cells #[.int .i64 o] 3)).cell? ⟨w.heap.size, 0, none⟩ = some (.int .i64 o) := by simp only [World.cell?, heap_alloc_new]; rfl
  have HC := change_restore (h.touch t0 (by simp)) G s w.heap.size (fun n => restoreP n o) (fun n W hn t => restore1_any w.heap.size n o hn W ((S.touch t0 (by simp)).touch t (by simp)) ((t.cell (by simp) (by simp)).trans c0))
  have HT : Hid _ := t0
  unfold restoreS
  generalize (if inS ws s then putS ws s (restoreP (wordAt ws s) o) else (2, ws)) = r at *
  clear S h c0 t0
  go_enter Tryd.func18, Tryd.ntmps18
  go_wp2_with fail
  refine HC.mono ?_
  rintro e w1 ⟨rfl, h1, t1⟩
  clear HC
  have HO : Hid _ := h1
  clear h1
  go_wp2
  go_ret
  exact ⟨by simp, HO.out, (HT.out.mono (by simp)).trans t1 (by simp)⟩

theorem unlockS_eq (now : Int) (ws : List Int) (o s v : Int) : unlockS now ws o s v = if inS ws s then putS ws s (if now < v then (0, 2) else unlockP (wordAt ws s) o v) else (2, ws) := by
  unfold unlockS
  split
  · split
    · simp [putS]
    · rfl
  · rfl

theorem tunlock_ext {w : World} {b : Nat} {now : Int} {ws : List Int} (h : TObj w b now ws) (G : Good now ws) (S : Sh w) (o s v : Int) (hv : 0 ≤ v) : Calls Tryd.prog 17 #[ptr b, .int .i64 o, .int .i64 s, .int .u64 v] w fun e w' => e = .returned (.int .i64 (unlockS now ws o s v).1) ∧ TObj w' b now (unlockS now ws o s v).2 ∧ Touch w w' [b] := by
  have t0 := (((Touch.refl w []).alloc (.cells #[ptr b] 23)).alloc (.cells #[.int .i64 o] 3)).alloc (.cells #[.int .u64 v] 31)
  generalize hW : (((w.alloc (.cells #[ptr b] 23)).alloc (.cells #[.int .i64 o] 3)).alloc (.cells #[.int .u64 v] 31)) = W0 at t0
  have q1 : W0.heap[w.heap.size]? = some (.cells #[ptr b] 23 (0, 0)) := by
    rw [← hW, heap_alloc_old _ _ (by simp; omega), heap_alloc_old _ _ (by simp), heap_alloc_new]
  have q2 : W0.heap[w.heap.size + 1]? = some (.cells #[.int .i64 o] 3 (0, 0)) := by
    have := heap_alloc_new (w.alloc (.cells #[ptr b] 23)) (.cells #[.int .i64 o] 3)
    rw [World.size_alloc] at this
    rw [← hW, heap_alloc_old _ _ (by simp), this]
  have q3 : W0.heap[w.heap.size + 1 + 1]? = some (.cells #[.int .u64 v] 31 (0, 0)) := by
    have := heap_alloc_new ((w.alloc (.cells #[ptr b] 23)).alloc (.cells #[.int .i64 o] 3)) (.cells #[.int .u64 v] 31)
    rw [World.size_alloc, World.size_alloc] at this
    rw [← hW, this]
  have k1 : W0.cell? ⟨w.heap.size, 0, none⟩ = some (ptr b) := by simp [World.cell?, q1]
  have k2 : W0.cell? ⟨w.heap.size + 1, 0, none⟩ = some (.int .i64 o) := by simp [World.cell?, q2]
  have k3 : W0.cell? ⟨w.heap.size + 1 + 1, 0, none⟩ = some (.int .u64 v) := by simp [World.cell?, q3]
  have hT := h.touch t0 (by simp)
  have S0 := S.touch t0 (by simp)
  have HC := change_unlock hT G s (w.heap.size + 1 + 1) w.heap.size (w.heap.size + 1) (fun n => if now < v then (0, 2) else unlockP n o v)
    (fun n W hn t => unlock1_any (w.heap.size + 1 + 1) w.heap.size (w.heap.size + 1) b now n o v hn hv W (S0.touch t (by simp)) ((t.cell (lt_of_heap q3) (by simp)).trans k3) ((t.cell (lt_of_heap q1) (by simp)).trans k1) ((t.cell (lt_of_heap q2) (by simp)).trans k2) ((t.cell hT.lt (by simp)).trans hT.cNow))
  rw [unlockS_eq]
  generalize (if inS ws s then putS ws s (if now < v then (0, 2) else unlockP (wordAt ws s) o v) else (2, ws)) = r at *
  have HT : Hid _ := t0
  clear S h t0 q1 q2 q3 k1 k2 k3 hT S0
  subst hW
  go_enter Tryd.func17, Tryd.ntmps17
  go_wp2_with fail
  refine HC.mono ?_
  rintro e w1 ⟨rfl, h1, t1⟩
  clear HC
  have HO : Hid _ := h1
  clear h1
  go_wp2
  go_ret
  exact ⟨by simp, HO.out, (HT.out.mono (by simp)).trans t1 (by simp)⟩

/-- What Tick comes to: the answer, the clock. -/
def tickS (now : Int) : (Int × Int) × Int := (nextP now, if (nextP now).2 = 0 then (nextP now).1 else now)

theorem nextP_err {v : Int} (h : ¬ (nextP v).2 = 0) : (nextP v).1 = 0 := by
  unfold nextP at *
  split
  · rfl
  · rw [if_neg ‹_›] at h
    split
    · rfl
    · rw [if_neg ‹_›] at h; simp at h

theorem tick1_any {w : World} {b : Nat} {now : Int} {ws : List Int} (h : TObj w b now ws) (G : Good now ws) : Calls Tryd.prog 49 #[ptr b] w fun e w' => e = .returned (two (tickS now).1) ∧ TObj w' b (tickS now).2 ws ∧ Touch w w' [b] := by
  unfold tickS
  have c0 := h.cNow
  have hfr := h.frozen
  have hn := next_ext now G.c0 w
  have he := nextP_err (v := now)
  have HN : Hid _ := h.setNow (nextP now).1
  have HO : Hid _ := h
  clear h
  generalize nextP now = r at *
  obtain ⟨r1, r2⟩ := r
  simp only at he hn HN ⊢
  by_cases h0 : r2 = 0
  · subst h0
    rw [if_pos rfl]
    go_enter Tryd.func49, Tryd.ntmps49
    go_wp2_with fail
    refine hn.mono ?_
    rintro e w1 ⟨rfl, rfl⟩
    clear hn
    go_wp2
    go_ret2
    exact ⟨by simp, HN.out, (Touch.refl _ _).setCell (.inl (by simp)) _⟩
  · have h0' : (r2 == 0) = false := by simpa using h0
    rw [if_neg h0]
    have e1 := he h0
    subst e1
    go_enter Tryd.func49, Tryd.ntmps49
    go_wp2_with fail
    refine hn.mono ?_
    rintro e w1 ⟨rfl, rfl⟩
    clear hn
    go_wp2
    go_ret2
    exact ⟨by simp, HO.out, Touch.refl _ _⟩

theorem ttick_ext {w : World} {b : Nat} {now : Int} {ws : List Int} (h : TObj w b now ws) (G : Good now ws) : Calls Tryd.prog 24 #[ptr b] w fun e w' => e = .returned (two (tickS now).1) ∧ TObj w' b (tickS now).2 ws ∧ Touch w w' [b] := by
  have HC := tick1_any h G
  generalize tickS now = r at *
  clear h
  go_enter Tryd.func24, Tryd.ntmps24
  go_wp2_with fail
  refine HC.mono ?_
  rintro e w1 ⟨rfl, h1, t1⟩
  clear HC
  have HO : Hid _ := h1
  clear h1
  go_wp2
  go_ret2
  exact ⟨by simp, HO.out, t1⟩

end Go.Proofs.YthkphhjhgkclfaaDoor

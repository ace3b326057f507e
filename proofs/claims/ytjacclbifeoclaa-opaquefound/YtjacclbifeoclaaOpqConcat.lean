/-
  slices.Grow OF nil, slices.Concat OF TWO, AT []int, BY THEIR CONTRACTS.
-/
import Derived.Test.YtjacclbifeoclaaOpqBase
namespace Go.Proofs.Ytjacclbifeoclaa
set_option linter.unusedVariables false
set_option linter.unusedSimpArgs false
open Go.RowKit Go.Maps
attribute [local go_sem] Oper.semAt_some

set_option maxRecDepth 100000 in
set_option maxHeartbeats 1000000 in
theorem grow_nil (w : World) (n : Nat) (hn : n ≤ 100000) : Calls Try.prog 64 #[.slice none 0 0, .int .i64 n] w (IntsPost w []) := by
  by_cases h0 : n = 0
  · subst h0
    go_enter Try.func64, Try.ntmps64
    go_wp2
    go_ret
    exact ⟨_, rfl, World.ownsRow_nil _ _ _ _, Touch.refl _ _⟩
  · obtain ⟨i0, hi, hz0, hz1, hz2⟩ := info_partsO Try.info_int
    have hrun := Lib.run_append_nil_zeros (P := Try.prog) w 24 3 24 3 i0 _ .i64 .i64 Try.underlying24 Try.underlying3 hi hz0 n (by omega) (by omega) (by omega) (by rw [hz2]; omega)
    have hown : intOwn (w.drew.alloc (.cells (Builtin.zeroCells (Value.int .i64 0).cells n ++ Builtin.zeroCells (Value.int .i64 0).cells (grownCap w n 0 3 - n)) 3)) w.heap.size (.slice (some ⟨w.heap.size, 0, none⟩) 0 (grownCap w n 0 3)) [] := by
      refine ⟨by simp, .inr ⟨w.heap.size, grownCap w n 0 3, _, rfl, Nat.le_refl _, heap_alloc_new _ _, Nat.zero_le _, grownCap_le_maxLen _ _ _ _ (by unfold maxLen; omega), ?_, by simp⟩⟩
      have := grownCap_ge w n 0 3
      simp [Builtin.zeroCells, Value.cells]
      omega
    have HO : Hid _ := hown
    have HT : Hid (Touch w (w.drew.alloc (.cells (Builtin.zeroCells (Value.int .i64 0).cells n ++ Builtin.zeroCells (Value.int .i64 0).cells (grownCap w n 0 3 - n)) 3)) []) := ((Touch.refl w []).drew).alloc _
    have hc0 : (0 : Int) ≤ (grownCap w n 0 3 : Int) := by omega
    have hc1 := grownCap_ge w n 0 3
    clear hown
    generalize grownCap w n 0 3 = c at *
    generalize w.drew.alloc (.cells (Builtin.zeroCells (Value.int .i64 0).cells n ++ Builtin.zeroCells (Value.int .i64 0).cells (c - n)) 3) = W at *
    have h1 : (0 : Int) < n := by omega
    have h2 : ¬ (n : Int) < 0 := by omega
    go_enter Try.func64, Try.ntmps64
    go_wp2_with (at_builtin; refine Lib.wpList_append_run _ rfl _ _ _ _ rfl _ _ rfl rfl _ _ hrun ?_)
    go_ret
    exact ⟨_, rfl, HO.out, HT.out⟩

set_option maxRecDepth 100000 in
set_option maxHeartbeats 2000000 in
theorem concat_two {w : World} {g : Nat} {v1 v2 : Value} {l1 l2 : List Int} (hg0 : w.cell? ⟨g, 0, none⟩ = some v1) (hg1 : w.cell? ⟨g, 1, none⟩ = some v2) (h1 : IRow w v1 l1) (h2 : IRow w v2 l2) (hl1 : l1.length ≤ 10000) (hl2 : l2.length ≤ 10000) :
    Calls Try.prog 43 #[.slice (some ⟨g, 0, none⟩) 2 2] w (IntsPost w (l1 ++ l2)) := by
  have hlg := World.block_lt_of_cell? w _ hg0
  have H1 : Hid (IRow w v1 l1) := h1
  have H2 : Hid (IRow w v2 l2) := h2
  obtain ⟨a1, c1, rfl⟩ := h1.form
  obtain ⟨a2, c2, rfl⟩ := h2.form
  obtain ⟨n1, hn1⟩ : ∃ n, n = l1.length := ⟨_, rfl⟩
  obtain ⟨n2, hn2⟩ : ∃ n, n = l2.length := ⟨_, rfl⟩
  have HN1 : Hid _ := hn1
  have HN2 : Hid _ := hn2
  rw [← hn1] at hg0 hl1 H1
  rw [← hn2] at hg1 hl2 H2
  clear h1 h2 hn1 hn2
  obtain ⟨i0, hi, hz0, hz1, hz2⟩ := info_partsO Try.info_int
  go_enter Try.func43, Try.ntmps43
  go_wp2_with fail
  go_loopw [3, 11] (fun s i wr => ((i = .int .i64 0 ∧ s = .int .i64 0) ∨ (i = .int .i64 1 ∧ s = .int .i64 n1) ∨ (i = .int .i64 2 ∧ s = .int .i64 ((n1 + n2 : Nat) : Int))) ∧ wr = w) (fun _ i _ => 2 - (intOf i).toNat)
  case atStart => exact ⟨.inl ⟨rfl, rfl⟩, rfl⟩
  case round =>
    obtain ⟨hc, hwr⟩ := hrel
    subst wr
    rcases hc with ⟨rfl, rfl⟩ | ⟨rfl, rfl⟩ | ⟨rfl, rfl⟩
    · have e1 : ¬ (n1 : Int) < 0 := by omega
      go_wp2
      go_roundw
      case rel => exact ⟨.inr (.inl ⟨rfl, rfl⟩), by simp⟩
      case measure => simp [intOf]
    · have e1 : ¬ (n1 : Int) + n2 < 0 := by omega
      go_wp2
      go_roundw
      case rel => exact ⟨.inr (.inr ⟨rfl, by go_num⟩), by simp⟩
      case measure => simp [intOf]
    · have hgr := grow_nil w (n1 + n2) (by omega)
      go_wp2_with fail
      refine hgr.mono ?_
      rintro e w1 ⟨v0, rfl, o0, t1⟩
      have g0 := (t1.cell (p := ⟨g, 0, none⟩) hlg (by simp)).trans hg0
      have g1 := (t1.cell (p := ⟨g, 1, none⟩) hlg (by simp)).trans hg1
      have O0 : Hid (intOwn w1 w.heap.size v0 []) := o0
      have HT1 : Hid (Touch w w1 []) := t1
      have hlg1 : g < w1.heap.size := Nat.lt_of_lt_of_le hlg t1.size
      clear hgr hg0 hg1 o0 t1
      go_wp2_with fail
      go_loopw [6, 27] (fun s i wx => ((i = .int .i64 0 ∧ intOwn wx w.heap.size s [] ∧ Touch w1 wx []) ∨ (i = .int .i64 1 ∧ intOwn wx w.heap.size s l1 ∧ Touch w wx [] ∧ wx.cell? ⟨g, 1, none⟩ = some (.slice a2 n2 c2)) ∨ (i = .int .i64 2 ∧ intOwn wx w.heap.size s (l1 ++ l2) ∧ Touch w wx []))) (fun _ i _ => 2 - (intOf i).toNat)
      case atStart => exact .inl ⟨rfl, O0.out, Touch.refl _ _⟩
      case round =>
        rcases hrel with ⟨rfl, o1, t1⟩ | ⟨rfl, o1, t1, g1⟩ | ⟨rfl, o1, t1⟩
        · have d0 := (t1.cell (p := ⟨g, 0, none⟩) hlg1 (by simp)).trans g0
          have d1 := (t1.cell (p := ⟨g, 1, none⟩) hlg1 (by simp)).trans g1
          have t2 := HT1.out.trans t1 (by simp)
          have r1 := SRow.keep (HN1.out ▸ H1.out) t2 (by simp)
          have hsz := t2.size
          obtain ⟨v', w2, hrun, h2, h3, h4⟩ := run_app (P := Try.prog) (cells := fun x : Int => [Value.int .i64 x]) 24 24 3 i0 _ 1 8 Try.underlying24 hi hz0 hz1 hz2 rfl (by decide) (fun _ => rfl) (by simp [Value.oneCell']) o1 r1 (by have := HN1.out; simp; omega) (by decide) (by omega)
          have hob : ∀ k, _ = some k → w.heap.size ≤ k := fun k hk => (o1.lt k hk).1
          have t3 : Touch w w2 [] := t2.grown h3 (fun k hk => .inr (hob k hk))
          have d2 : w2.cell? ⟨g, 1, none⟩ = some (.slice a2 n2 c2) := by
            have t4 : Touch wr w2 (Value.ownBlock _).toList := (Touch.refl wr _).grown h3 (fun k hk => .inl (by rw [hk]; simp))
            rw [← d1]
            exact t4.cell (p := ⟨g, 1, none⟩) (Nat.lt_of_lt_of_le hlg1 t1.size) (fun hk => by have := hob g (by simpa using hk); omega)
          have H3 : Hid (intOwn w2 w.heap.size v' l1) := by
            show World.ownsRow _ _ _ _ _ _ _
            simpa [flat_one] using h2
          have HT3 : Hid _ := t3
          rw [← HN1.out] at hrun
          obtain ⟨ao', cap', rfl⟩ := owns_slice H3.out
          obtain ⟨ao1, cap1, rfl⟩ := owns_slice o1
          clear o1 t1 t2 r1 h2 h3 h4 t3 g0 g1 hob
          generalize l1.length = m at *
          go_wp2_with (at_builtin; refine Lib.wpList_append_run _ rfl _ _ _ _ rfl _ _ rfl rfl _ _ hrun ?_)
          go_roundw
          case rel => exact .inr (.inl ⟨rfl, H3.out, HT3.out, d2⟩)
          case measure => simp [intOf]
        · have r1 := SRow.keep (HN2.out ▸ H2.out) t1 (by simp)
          have hsz := t1.size
          obtain ⟨v', w2, hrun, h2, h3, h4⟩ := run_app (P := Try.prog) (cells := fun x : Int => [Value.int .i64 x]) 24 24 3 i0 _ 1 8 Try.underlying24 hi hz0 hz1 hz2 rfl (by decide) (fun _ => rfl) (by simp [Value.oneCell']) o1 r1 (by have := HN1.out; have := HN2.out; simp; omega) (by decide) (by omega)
          have t3 : Touch w w2 [] := t1.grown h3 (fun k hk => .inr (o1.lt k hk).1)
          have H3 : Hid (intOwn w2 w.heap.size v' (l1 ++ l2)) := by
            show World.ownsRow _ _ _ _ _ _ _
            simpa [flat_one] using h2
          have HT3 : Hid _ := t3
          rw [← HN2.out] at hrun
          obtain ⟨ao', cap', rfl⟩ := owns_slice H3.out
          obtain ⟨ao1, cap1, rfl⟩ := owns_slice o1
          clear o1 t1 r1 h2 h3 h4 t3
          generalize (l1 ++ l2).length = m at *
          generalize l1.length = m1 at *
          go_wp2_with (at_builtin; refine Lib.wpList_append_run _ rfl _ _ _ _ rfl _ _ rfl rfl _ _ hrun ?_)
          go_roundw
          case rel => exact .inr (.inr ⟨rfl, H3.out, HT3.out⟩)
          case measure => simp [intOf]
        · obtain ⟨ao1, cap1, rfl⟩ := owns_slice o1
          have H3 : Hid (intOwn wr w.heap.size (.slice ao1 (l1 ++ l2).length cap1) (l1 ++ l2)) := o1
          have HT3 : Hid _ := t1
          clear o1 t1
          generalize (l1 ++ l2).length = m at H3 ⊢
          go_wp2
          go_ret
          exact ⟨_, rfl, H3.out, HT3.out⟩

end Go.Proofs.Ytjacclbifeoclaa

/-
  package rowlockref02's calls BY THEIR CONTRACTS: Do whatever the op, New, Word, Steps, Words, Log.
-/
import Derived.Test.YtcoacfdbcinapaaCellsRefDo
namespace Go.Proofs.Ytcoacfdbcinapaa
set_option linter.unusedVariables false
set_option linter.unusedSimpArgs false
open Go.RowKit

theorem touch_six {a w : World} {S : List Nat} (h : Touch a w S) {p : Nat} (hp : p ∈ S ∨ a.heap.size ≤ p) (v0 v1 v2 v3 v4 v5 : Value) :
    Touch a ((((((w.setCell ⟨p, 0, none⟩ v0).setCell ⟨p, 1, none⟩ v1).setCell ⟨p, 2, none⟩ v2).setCell ⟨p, 3, none⟩ v3).setCell ⟨p, 4, none⟩ v4).setCell ⟨p, 5, none⟩ v5) S :=
  (((((h.setCell hp _).setCell hp _).setCell hp _).setCell hp _).setCell hp _).setCell hp _

set_option maxRecDepth 100000 in
set_option maxHeartbeats 800000 in
theorem rdo_range (b n cap : Nat) (ao : Option Addr) (w : World) (hb : w.cell? ⟨b, 0, none⟩ = some (.slice ao n cap)) (hn : n ≤ maxLen) (o : OpD) (hi : o.cell < 0 ∨ (n : Int) ≤ o.cell) :
    Calls Try.prog 25 #[.pointer (some ⟨b, 0, none⟩), o.val] w fun e w' => e = .returned (.tuple #[DoneD.zero.val, .int .i64 2]) ∧ Touch w w' [] := by
  unfold maxLen at hn
  obtain ⟨k, c, a, bb⟩ := o
  simp only [OpD.val] at *
  have S0 : ∀ o1 o2, ((w.alloc o1).alloc o2).cell? ⟨b, 0, none⟩ = _ := fun o1 o2 => cell_alloc (cell_alloc hb o1) o2
  by_cases h0 : c < 0
  · have h0' : decide (c < 0) = true := by simpa using h0
    clear hi
    go_enter Try.func25, Try.ntmps25
    go_wp2_with fail
    go_quiet (fail)
    go_wp2
    exact bodyPost_ret (v := .tuple #[DoneD.zero.val, .int .i64 2]) (by simp [results, Try.results25, go_sem, DoneD.zero]) rfl ⟨rfl, touch_six ((((Touch.refl _ _).alloc _).alloc _).drewN _) (.inr (by omega)) _ _ _ _ _ _⟩
  · have h0' : decide (c < 0) = false := by simpa using h0
    have h1 : (n : Int) ≤ c := by omega
    clear hi
    go_enter Try.func25, Try.ntmps25
    go_wp2_with fail
    go_quiet (fail)
    go_wp2
    exact bodyPost_ret (v := .tuple #[DoneD.zero.val, .int .i64 2]) (by simp [results, Try.results25, go_sem, DoneD.zero]) rfl ⟨rfl, touch_six ((((Touch.refl _ _).alloc _).alloc _).drewN _) (.inr (by omega)) _ _ _ _ _ _⟩

set_option maxRecDepth 100000 in
set_option maxHeartbeats 400000 in
theorem rdo_form (b n cap j : Nat) (ao : Option Addr) (w : World) (hb : w.cell? ⟨b, 0, none⟩ = some (.slice ao n cap)) (hj : j < n) (hn : n ≤ maxLen) (o : OpD) (hoc : o.cell = j) (hk : o.kind < 1 ∨ 4 < o.kind) :
    Calls Try.prog 25 #[.pointer (some ⟨b, 0, none⟩), o.val] w fun e w' => e = .returned (.tuple #[DoneD.zero.val, .int .i64 3]) ∧ Touch w w' [] := by
  unfold maxLen at hn
  obtain ⟨k, c, a, bb⟩ := o
  simp only at hoc hk
  subst hoc
  simp only [OpD.val] at *
  have S0 : ∀ o1 o2, ((w.alloc o1).alloc o2).cell? ⟨b, 0, none⟩ = _ := fun o1 o2 => cell_alloc (cell_alloc hb o1) o2
  have hj0' : decide ((j : Int) < 0) = false := by simp
  have hj1 : (j : Int) < n := by omega
  by_cases h0 : k < 1
  · clear hk
    go_enter Try.func25, Try.ntmps25
    go_wp2_with fail
    go_quiet (fail)
    go_wp2
    exact bodyPost_ret (v := .tuple #[DoneD.zero.val, .int .i64 3]) (by simp [results, Try.results25, go_sem, DoneD.zero]) rfl ⟨rfl, touch_six ((((Touch.refl _ _).alloc _).alloc _).drewN _) (.inr (by omega)) _ _ _ _ _ _⟩
  · have h1 : 4 < k := by omega
    clear hk
    go_enter Try.func25, Try.ntmps25
    go_wp2_with fail
    go_quiet (fail)
    go_wp2
    exact bodyPost_ret (v := .tuple #[DoneD.zero.val, .int .i64 3]) (by simp [results, Try.results25, go_sem, DoneD.zero]) rfl ⟨rfl, touch_six ((((Touch.refl _ _).alloc _).alloc _).drewN _) (.inr (by omega)) _ _ _ _ _ _⟩

set_option maxRecDepth 100000 in
set_option maxHeartbeats 400000 in
theorem rdo_space (b g n cap j : Nat) (x : Int) (w : World) (hb : w.cell? ⟨b, 0, none⟩ = some (.slice (some ⟨g, 0, none⟩) n cap)) (hj : j < n) (hn : n ≤ maxLen) (hx : w.cell? ⟨g, j, none⟩ = some (.int .u64 x)) (hx0 : 0 ≤ x) (hx1 : x < 18446744073709551616)
    (o : OpD) (ho : o.Wf) (hoc : o.cell = j) (hk : o.kind = 4) (hs : 18446744073709551616 ≤ x + o.a) :
    Calls Try.prog 25 #[.pointer (some ⟨b, 0, none⟩), o.val] w fun e w' => e = .returned (.tuple #[DoneD.zero.val, .int .i64 4]) ∧ Touch w w' [] := by
  unfold maxLen at hn
  have ha0 := ho.a0
  have ha1 := ho.a1
  obtain ⟨k, c, a, bb⟩ := o
  simp only at hoc hk hs ha0 ha1
  subst hoc hk
  simp only [OpD.val] at *
  have S0 : ∀ o1 o2, ((w.alloc o1).alloc o2).cell? ⟨b, 0, none⟩ = _ := fun o1 o2 => cell_alloc (cell_alloc hb o1) o2
  have CJ : ∀ o1 o2, ((w.alloc o1).alloc o2).cell? ⟨g, j, none⟩ = _ := fun o1 o2 => cell_alloc (cell_alloc hx o1) o2
  have hj0' : decide ((j : Int) < 0) = false := by simp
  have hj1 : (j : Int) < n := by omega
  have hj2 : (0 : Int) ≤ j := by omega
  go_enter Try.func25, Try.ntmps25
  go_wp2_with fail
  go_quiet (fail)
  go_wp2_with fail
  go_quiet (fail)
  go_wp2
  exact bodyPost_ret (v := .tuple #[DoneD.zero.val, .int .i64 4]) (by simp [results, Try.results25, go_sem, DoneD.zero]) rfl ⟨rfl, (touch_six ((((Touch.refl _ _).alloc _).alloc _).drewN _) (.inr (by omega)) _ _ _ _ _ _).alloc _⟩

/-- Do, whatever the op. -/
theorem rdo_any {B b : Nat} {w : World} {vw vl : Value} {ws : List Int} {lg : List DoneD} (h : CObj 66 B w b vw vl ws lg) (hB : B ≤ w.heap.size) (o : OpD) (ho : o.Wf) (hn : ws.length ≤ 32) (hlg : lg.length ≤ 1000) :
    Calls Try.prog 25 #[.pointer (some ⟨b, 0, none⟩), o.val] w fun e w' => ∃ vw' vl',
      e = .returned (.tuple #[(doStep ws lg o).1.val, .int .i64 (doStep ws lg o).2.1]) ∧
      CObj 66 B w' b vw' vl' (doStep ws lg o).2.2.1 (doStep ws lg o).2.2.2 ∧ Touch w w' (foot b vw vl) ∧ ∀ k ∈ foot b vw' vl', k ∈ foot b vw vl ∨ w.heap.size ≤ k := by
  obtain ⟨g, cap, hvw, hcell, hfz, hBg, hgl, hcap, hcm, hgb⟩ := h.words
  obtain ⟨s0, s1, f0, f1⟩ := cells_two h.st
  by_cases hi : 0 ≤ o.cell ∧ o.cell < ws.length
  · obtain ⟨j, hj⟩ : ∃ j : Nat, o.cell = j := ⟨o.cell.toNat, by omega⟩
    have hjl : j < ws.length := by omega
    have hjn : o.cell.toNat = j := by omega
    by_cases he : (outc o (ws.getD j 0)).2.2 = 0
    · have e : doStep ws lg o = (⟨o, ws.getD j 0, (outc o (ws.getD j 0)).2.1⟩, 0, ws.set j (outc o (ws.getD j 0)).1, lg ++ [⟨o, ws.getD j 0, (outc o (ws.getD j 0)).2.1⟩]) := by
        unfold doStep; rw [if_pos hi, hjn]; simp only [he, if_true]
      rw [e]
      exact rdo_ok h hB o ho hn hlg j hjl hj he
    · have e : doStep ws lg o = (DoneD.zero, (outc o (ws.getD j 0)).2.2, ws, lg) := by
        unfold doStep; rw [if_pos hi, hjn]; simp only [he, if_false]
      rw [e]
      have hw := h.wds.getD j
      have hm : ws.length ≤ maxLen := by unfold maxLen; omega
      have hk0 := ho.k0
      by_cases hk : o.kind < 1 ∨ 4 < o.kind
      · have e3 : (outc o (ws.getD j 0)).2.2 = 3 := by
          unfold outc
          rw [if_neg (by omega), if_neg (by omega), if_neg (by omega), if_neg (by omega)]
        rw [e3]
        refine (rdo_form b ws.length cap j (some ⟨g, 0, none⟩) w (by rw [← hvw]; exact s0) hjl hm o hj hk).mono fun e' w' ⟨h1, h2⟩ => ?_
        exact ⟨vw, vl, h1, h.keep h2 (by simp), h2.mono (by simp), fun k hk => .inl hk⟩
      · have hk4 : o.kind = 4 := by
          by_cases q1 : o.kind = 1
          · exact absurd (by simp [outc, q1]) he
          by_cases q2 : o.kind = 2
          · exact absurd (by simp [outc, q2]) he
          by_cases q3 : o.kind = 3
          · exact absurd (by unfold outc; simp [q3]; split <;> rfl) he
          omega
        have hs : 18446744073709551616 ≤ ws.getD j 0 + o.a := by
          by_cases hc : ws.getD j 0 + o.a < 18446744073709551616
          · exact absurd (by unfold outc; rw [if_neg (by omega), if_neg (by omega), if_neg (by omega), if_pos hk4, if_pos hc]) he
          · omega
        have e4 : (outc o (ws.getD j 0)).2.2 = 4 := by
          unfold outc
          rw [if_neg (by omega), if_neg (by omega), if_neg (by omega), if_pos hk4, if_neg (by omega)]
        rw [e4]
        refine (rdo_space b g ws.length cap j (ws.getD j 0) w (by rw [← hvw]; exact s0) hjl hm (hcell j hjl) hw.1 hw.2 o ho hj hk4 hs).mono fun e' w' ⟨h1, h2⟩ => ?_
        exact ⟨vw, vl, h1, h.keep h2 (by simp), h2.mono (by simp), fun k hk => .inl hk⟩
  · have e : doStep ws lg o = (DoneD.zero, 2, ws, lg) := by unfold doStep; rw [if_neg hi]
    rw [e]
    refine (rdo_range b ws.length cap (some ⟨g, 0, none⟩) w (by rw [← hvw]; exact s0) (by unfold maxLen; omega) o (by omega)).mono fun e' w' ⟨h1, h2⟩ => ?_
    exact ⟨vw, vl, h1, h.keep h2 (by simp), h2.mono (by simp), fun k hk => .inl hk⟩

theorem rnew_ok (B : Nat) (w : World) (n : Nat) (hn : 0 < n) (hm : n ≤ 32) (hB : B ≤ w.heap.size) :
    Calls Try.prog 27 #[.int .i64 n] w (NewPost 66 B w n) := by
  have hmk := make_u64 n (by omega)
  have h1 : ¬ (n : Int) < 1 := by omega
  have h2 : ¬ (32 : Int) < n := by omega
  have hO := new_obj 66 B w n hn hm hB (by decide) (by decide)
  have HO : Hid _ := hO
  clear hO
  go_enter Try.func27, Try.ntmps27
  go_wp2
  go_ret
  refine ⟨_, _, rfl, HO.out, ((Touch.refl _ _).alloc _).alloc _, ?_⟩
  intro k hk
  rw [mem_foot] at hk
  simp [Value.ownBlock] at hk
  omega

theorem rword_in (b g n cap j : Nat) (x : Int) (w : World) (hb : w.cell? ⟨b, 0, none⟩ = some (.slice (some ⟨g, 0, none⟩) n cap)) (hj : j < n) (hn : n ≤ maxLen) (hx : w.cell? ⟨g, j, none⟩ = some (.int .u64 x)) :
    Calls Try.prog 28 #[.pointer (some ⟨b, 0, none⟩), .int .i64 j] w fun e w' => e = .returned (.tuple #[.int .u64 x, .int .i64 0]) ∧ w = w' := by
  unfold maxLen at hn
  have h1 : ¬ (j : Int) < 0 := by omega
  have h2 : (j : Int) < n := by omega
  go_enter Try.func28, Try.ntmps28
  go_wp2
  go_ret2
  exact ⟨rfl, rfl⟩

theorem rword_out (b n cap : Nat) (ao : Option Addr) (i : Int) (w : World) (hb : w.cell? ⟨b, 0, none⟩ = some (.slice ao n cap)) (hi : i < 0 ∨ (n : Int) ≤ i) (hn : n ≤ maxLen) :
    Calls Try.prog 28 #[.pointer (some ⟨b, 0, none⟩), .int .i64 i] w fun e w' => e = .returned (.tuple #[.int .u64 0, .int .i64 2]) ∧ w = w' := by
  unfold maxLen at hn
  rcases Int.lt_or_le i 0 with h | h
  · go_enter Try.func28, Try.ntmps28
    go_wp2
    go_ret2
    exact ⟨rfl, rfl⟩
  · have h1 : ¬ i < 0 := by omega
    have h2 : (n : Int) ≤ i := by omega
    clear hi
    go_enter Try.func28, Try.ntmps28
    go_wp2
    go_ret2
    exact ⟨rfl, rfl⟩

theorem rsteps_any (b n cap : Nat) (ao : Option Addr) (w : World) (hb : w.cell? ⟨b, 1, none⟩ = some (.slice ao n cap)) :
    Calls Try.prog 32 #[.pointer (some ⟨b, 0, none⟩)] w fun e w' => e = .returned (.int .i64 n) ∧ w = w' := by
  go_enter Try.func32, Try.ntmps32
  go_wp2
  go_ret
  exact ⟨rfl, rfl⟩

end Go.Proofs.Ytcoacfdbcinapaa

/-
  What both sets tell of all that was read, BY THEIR CONTRACTS: List, Newest, Len; and whether lists are the same.
-/
import Derived.Test.YtbiinldodhkkbaaReadsLive
import Derived.Test.YtbiinldodhkkbaaSameInts
import Derived.Lib.SliceRun
namespace Go.Proofs.Ytbiinldodhkkbaa
set_option linter.unusedVariables false
set_option linter.unusedSimpArgs false
open Go.RowKit Go.Maps

/-- A list of its own. -/
def ListPost (w : World) (L : List EntD) (x : Ending) (w' : World) : Prop :=
  ∃ v, x = .returned v ∧ w'.ownsRow w.heap.size 41 3 v L.length (L.flatMap EntD.cells) ∧ Touch w w' []

theorem eqNilEnt (w : World) (a : Option Addr) (n c : Nat) : (binOp .eql 22 (.slice a n c) (.slice none 0 0)).run Try.prog w = .ok (.bool a.isNone) w := Lib.run_eql_slice_nil w _ _ a n c 0 0 Try.underlying22

theorem clone_nil (w : World) : Calls Try.prog 38 #[.slice none 0 0] w (ListPost w []) := by
  have hq := eqNilEnt
  go_enter Try.func38, Try.ntmps38
  go_wp2
  go_ret
  exact ⟨_, rfl, World.ownsRow_nil _ _ _ _, Touch.refl _ _⟩

set_option maxRecDepth 100000 in
theorem clone_some {B : Nat} {w : World} {g cap : Nat} {L : List EntD} (hown : w.ownsRow B 41 3 (.slice (some ⟨g, 0, none⟩) L.length cap) L.length (L.flatMap EntD.cells)) (hn : L.length ≤ 8) :
    Calls Try.prog 38 #[.slice (some ⟨g, 0, none⟩) L.length cap] w (ListPost w L) := by
  unfold ListPost
  have hq := eqNilEnt
  obtain ⟨i0, hi0, hz0, hz1, hz2⟩ := info_parts Try.info_ent
  have h1 : Hid (∀ u ∈ L.flatMap EntD.cells, u.oneCell' = true) := ent_one
  have e1 := empty_row w 41 3
  have hl1 : 0 + L.length ≤ maxLen := by unfold maxLen; omega
  have hl2 : (0 + L.length) * 24 ≤ 140737488355328 := by omega
  generalize L.flatMap EntD.cells = xs at *
  generalize L.length = n at *
  go_enter Try.func38, Try.ntmps38
  go_wp2_with (at_builtin; refine wpList_append_src rfl _ _ 22 rfl w.heap.size 41 i0 _ 3 24 Try.underlying22 hi0 hz0 hz1 hz2 rfl (by omega) w.heap.size 0 0 [] rfl e1 (.slice (some ⟨g, 0, none⟩) n cap) B n xs rfl (hown.alloc _) h1.out hl1 hl2 (by simp) ?_)
  intro g' cap' w1 hown1 hgrow1 hat1 hlt1
  try simp only [Nat.zero_add, List.nil_append] at hown1
  have t1 : Touch w w1 [] := ((Touch.refl w []).alloc _).grown hgrow1 (fun q hq => .inr (by simp at hq; omega))
  have HO : Hid (w1.ownsRow w.heap.size 41 3 _ n xs) := hown1
  clear e1 hgrow1 hown1
  go_wp2
  go_ret
  exact ⟨_, rfl, by simpa using HO.out, t1⟩

set_option maxRecDepth 100000 in
theorem list_any {B : Nat} {w : World} {b m : Nat} {vl : Value} {L : List EntD} (h : RdSet B w b m vl L) : Calls Try.prog 23 #[.pointer (some ⟨b, 0, none⟩)] w (ListPost w L) := by
  have hc : Calls Try.prog 38 #[vl] w (ListPost w L) := by
    rcases h.own.2 with ⟨e, h0⟩ | ⟨g, cap, cur, e, _⟩
    · have hL : L = [] := List.eq_nil_of_length_eq_zero h0
      rw [hL, e]; exact clone_nil w
    · have ho := h.own
      rw [e] at ho ⊢
      exact clone_some ho h.sl.len
  obtain ⟨al, cl, rfl⟩ := RdSet.owns_form h.own
  obtain ⟨c0, c1, f0, f1⟩ := h.cells
  clear h
  go_enter Try.func23, Try.ntmps23
  go_wp2_with fail
  refine hc.mono ?_
  rintro x w1 ⟨v, rfl, ho, t⟩
  clear hc
  go_wp2
  go_ret
  exact ⟨v, rfl, ho, t⟩

set_option maxRecDepth 100000 in
theorem rlist_any {B : Nat} {w : World} {b : Nat} {vl : Value} {L : List EntD} (h : RfSet B w b vl L) : Calls Try.prog 29 #[.pointer (some ⟨b, 0, none⟩)] w (ListPost w L) := by
  unfold ListPost
  obtain ⟨c0, f0⟩ := h.cells
  have hown := h.own
  have hn := h.sl.len
  obtain ⟨i0, hi0, hz0, hz1, hz2⟩ := info_parts Try.info_ent
  have h1 : Hid (∀ u ∈ L.flatMap EntD.cells, u.oneCell' = true) := ent_one
  have S0 := fun o => cell_alloc c0 o
  have e1 := empty_row w 41 3
  have hl1 : 0 + L.length ≤ maxLen := by unfold maxLen; omega
  have hl2 : (0 + L.length) * 24 ≤ 140737488355328 := by omega
  generalize L.flatMap EntD.cells = xs at *
  generalize L.length = n at *
  clear h
  go_enter Try.func29, Try.ntmps29
  go_wp2_with (at_builtin; refine wpList_append_src rfl _ _ 22 rfl w.heap.size 41 i0 _ 3 24 Try.underlying22 hi0 hz0 hz1 hz2 rfl (by omega) w.heap.size 0 0 [] rfl e1 vl B n xs rfl (hown.alloc _) h1.out hl1 hl2 (by simp) ?_)
  intro g' cap' w1 hown1 hgrow1 hat1 hlt1
  try simp only [Nat.zero_add, List.nil_append] at hown1
  have t1 : Touch w w1 [] := ((Touch.refl w []).alloc _).grown hgrow1 (fun q hq => .inr (by simp at hq; omega))
  have HO : Hid (w1.ownsRow w.heap.size 41 3 _ n xs) := hown1
  clear e1 hgrow1 hown1 S0
  go_wp2
  go_ret
  exact ⟨_, rfl, by simpa using HO.out, t1⟩

theorem rlen_any {B : Nat} {w : World} {b : Nat} {vl : Value} {L : List EntD} (h : RfSet B w b vl L) : Calls Try.prog 33 #[.pointer (some ⟨b, 0, none⟩)] w fun x w' => x = .returned (.int .i64 L.length) ∧ w = w' := by
  obtain ⟨al, cl, rfl⟩ := RdSet.owns_form h.own
  obtain ⟨c0, f0⟩ := h.cells
  go_enter Try.func33, Try.ntmps33
  go_wp2
  go_ret
  exact ⟨rfl, rfl⟩

set_option maxRecDepth 100000 in
set_option maxHeartbeats 1000000 in
theorem rnewest_any {B : Nat} {w : World} {b : Nat} {vl : Value} {L : List EntD} (h : RfSet B w b vl L) :
    Calls Try.prog 32 #[.pointer (some ⟨b, 0, none⟩)] w fun x w' => x = .returned (.int .u64 (newE L)) ∧ w = w' := by
  obtain ⟨al, cl, rfl⟩ := RdSet.owns_form h.own
  obtain ⟨c0, f0⟩ := h.cells
  obtain ⟨N, hN⟩ : ∃ N, N = L.length := ⟨_, rfl⟩
  have HN : Hid (N = L.length) := hN
  have hrow := EntRow.of_owns h.own
  rw [← hN] at c0
  have h8 := h.sl.len
  rw [← hN] at h8
  clear h hN
  go_enter Try.func32, Try.ntmps32
  go_wp2_with fail
  go_loopw [3, 4] (fun v i wr => ∃ k : Nat, i = .int .i64 k ∧ k ≤ N ∧ v = .int .u64 (newE (L.take k)) ∧ wr = w) (fun _ i _ => N - (intOf i).toNat)
  case atStart => exact ⟨0, rfl, Nat.zero_le _, rfl, rfl⟩
  case round =>
    obtain ⟨k, rfl, hk, rfl, rfl⟩ := hrel
    by_cases hlt : k < N
    · have hlt' : (k : Int) < N := by omega
      have hkl : k < L.length := by rw [← HN.out]; exact hlt
      obtain ⟨g, off, rfl, hg, m0, m1, m2⟩ := EntRow.three hrow k hkl
      have hsn := newE_snoc hkl
      obtain ⟨e, he⟩ : ∃ e, e = L[k] := ⟨_, rfl⟩
      rw [← he] at m0 m1 m2 hsn
      obtain ⟨t, x, r⟩ := e
      simp only at m0 m1 m2 hsn
      generalize newE (L.take k) = n at *
      by_cases hnr : n < r
      · rw [if_pos hnr] at hsn
        have HSN : Hid _ := hsn
        clear hrow he hsn
        go_wp2
        go_roundw
        case rel => exact ⟨k + 1, by go_num, by omega, by rw [HSN.out], trivial⟩
        case measure => simp [intOf]; omega
      · rw [if_neg hnr] at hsn
        have HSN : Hid _ := hsn
        clear hrow he hsn
        go_wp2
        go_roundw
        case rel => exact ⟨k + 1, by go_num, by omega, by rw [HSN.out], trivial⟩
        case measure => simp [intOf]; omega
    · obtain rfl : k = N := by omega
      have he : L.take k = L := List.take_of_length_le (by rw [← HN.out]; exact Nat.le_refl _)
      rw [he]
      clear he
      go_wp2
      go_ret
      exact ⟨rfl, rfl⟩

set_option maxRecDepth 100000 in
set_option maxHeartbeats 1000000 in
theorem sameEnts (B1 B2 : Nat) (va vb : Value) (L : List EntD) (w : World) (hn : L.length ≤ 1000) (ha : w.ownsRow B1 41 3 va L.length (L.flatMap EntD.cells)) (hb : w.ownsRow B2 41 3 vb L.length (L.flatMap EntD.cells)) :
    Calls Try.prog 28 #[va, vb] w fun e w' => e = .returned (.bool true) ∧ Touch w w' [] := by
  have ra := EntRow.of_owns ha
  have rb := EntRow.of_owns hb
  obtain ⟨ao, ca, rfl⟩ := RdSet.owns_form ha
  obtain ⟨bo, cb, rfl⟩ := RdSet.owns_form hb
  obtain ⟨n, hlen⟩ : ∃ n, n = L.length := ⟨_, rfl⟩
  have HL : Hid (n = L.length) := hlen
  rw [← hlen] at hn ⊢
  clear ha hb hlen
  go_enter Try.func28, Try.ntmps28
  go_wp2_with fail
  go_loopw [5] (fun i wr => ∃ k : Nat, i = .int .i64 k ∧ k ≤ n ∧ Touch w wr []) (fun i _ => n - (intOf i).toNat)
  case atStart => exact ⟨0, rfl, Nat.zero_le _, Touch.refl _ _⟩
  case round =>
    obtain ⟨k, rfl, hk, t⟩ := hrel
    by_cases hlt : k < n
    · have h1 : (k : Int) < n := by omega
      have hkl : k < L.length := by rw [← HL.out]; exact hlt
      obtain ⟨ga, oa, rfl, hga, a0, a1, a2⟩ := EntRow.three ra k hkl
      obtain ⟨gb, ob, rfl, hgb, b0, b1, b2⟩ := EntRow.three rb k hkl
      obtain ⟨e, he⟩ : ∃ e, e = L[k] := ⟨_, rfl⟩
      rw [← he] at a0 a1 a2 b0 b1 b2
      obtain ⟨z0, z1, z2⟩ := e
      simp only at a0 a1 a2 b0 b1 b2
      have x0 := (t.cell (p := ⟨ga, oa + k * 3, none⟩) hga (by simp)).trans a0
      have x1 := (t.cell (p := ⟨ga, oa + k * 3 + 1, none⟩) hga (by simp)).trans a1
      have x2 := (t.cell (p := ⟨ga, oa + k * 3 + 2, none⟩) hga (by simp)).trans a2
      have y0 := (t.cell (p := ⟨gb, ob + k * 3, none⟩) hgb (by simp)).trans b0
      have y1 := (t.cell (p := ⟨gb, ob + k * 3 + 1, none⟩) hgb (by simp)).trans b1
      have y2 := (t.cell (p := ⟨gb, ob + k * 3 + 2, none⟩) hgb (by simp)).trans b2
      clear he ra rb a0 a1 a2 b0 b1 b2
      go_wp2_with fail
      go_quiet (fail)
      go_wp2
      go_roundw
      case rel => exact ⟨k + 1, by go_num, by omega, t.drewN _⟩
      case measure => simp [intOf]; omega
    · clear ra rb
      go_wp2
      go_ret
      exact ⟨rfl, t⟩

end Go.Proofs.Ytbiinldodhkkbaa

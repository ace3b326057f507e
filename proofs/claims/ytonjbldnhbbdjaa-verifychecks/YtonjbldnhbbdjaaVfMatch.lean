/-
  package verify: closes, closerOf, blame, around, mayBegin BY THEIR CONTRACTS.
-/
import Derived.Test.YtonjbldnhbbdjaaVfStack
namespace Go.Proofs.Ytonjbldnhbbdjaa
set_option linter.unusedVariables false
set_option linter.unusedSimpArgs false
open Go.RowKit
attribute [local go_sem] Oper.semAt_some

/-- Instructions that can be read. -/
abbrev InsV := SRow 3 InsD.cells
theorem insv_at {w : World} {ao : Option Addr} {cap : Nat} {l : List InsD} (h : InsV w (.slice ao l.length cap) l) (k : Nat) (hk : k < l.length) :
    ∃ g off, ao = some ⟨g, off, none⟩ ∧ g < w.heap.size ∧ w.cell? ⟨g, off + k * 3, none⟩ = some (.int .u8 (opAt l k)) ∧ w.cell? ⟨g, off + k * 3 + 1, none⟩ = some (.int .i64 (argAt l k)) ∧ w.cell? ⟨g, off + k * 3 + 2, none⟩ = some (.int .u64 l[k].val) := by
  obtain ⟨g, off, e, hg, hc⟩ := SRow.at h k hk
  have h0 := hc 0 (by omega)
  have h1 := hc 1 (by omega)
  have h2 := hc 2 (by omega)
  rw [opAt_get hk, argAt_get hk]
  exact ⟨g, off, e, hg, by simpa [InsD.cells] using h0, by simpa [InsD.cells] using h1, by simpa [InsD.cells] using h2⟩

set_option maxRecDepth 100000 in
theorem closes_any (o : Int) (w : World) : Calls Try.prog 40 #[.int .u8 o] w fun e w' => e = .returned (.bool (closesV o)) ∧ w = w' := by
  rcases (show o = 22 ∨ o = 24 ∨ o = 25 ∨ (o ≠ 22 ∧ o ≠ 24 ∧ o ≠ 25) by omega) with rfl | rfl | rfl | ⟨h1, h2, h3⟩
  · show Calls _ _ _ _ fun e w' => e = .returned (.bool true) ∧ w = w'
    go_enter Try.func40, Try.ntmps40
    go_wp2
    go_ret
    exact ⟨rfl, rfl⟩
  · show Calls _ _ _ _ fun e w' => e = .returned (.bool true) ∧ w = w'
    go_enter Try.func40, Try.ntmps40
    go_wp2
    go_ret
    exact ⟨rfl, rfl⟩
  · show Calls _ _ _ _ fun e w' => e = .returned (.bool true) ∧ w = w'
    go_enter Try.func40, Try.ntmps40
    go_wp2
    go_ret
    exact ⟨rfl, rfl⟩
  · have e : closesV o = false := by simp [closesV, *]
    have b1 : (o == 22) = false := by simpa using h1
    have b2 : (o == 24) = false := by simpa using h2
    have b3 : (o == 25) = false := by simpa using h3
    rw [e]
    go_enter Try.func40, Try.ntmps40
    go_wp2
    go_ret
    exact ⟨rfl, rfl⟩

set_option maxRecDepth 100000 in
theorem closer_any (o : Int) (w : World) : Calls Try.prog 42 #[.int .u8 o] w fun e w' => e = .returned (.tuple #[.int .u8 (closerV o), .bool (opensV o)]) ∧ w = w' := by
  rcases (show o = 21 ∨ o = 23 ∨ o = 24 ∨ (o ≠ 21 ∧ o ≠ 23 ∧ o ≠ 24) by omega) with rfl | rfl | rfl | ⟨h1, h2, h3⟩
  · show Calls _ _ _ _ fun e w' => e = .returned (.tuple #[.int .u8 22, .bool true]) ∧ w = w'
    go_enter Try.func42, Try.ntmps42
    go_wp2
    refine bodyPost_ret (v := .tuple #[.int .u8 22, .bool true]) (by simp [results, Try.results42, go_sem]) rfl ?_
    exact ⟨rfl, rfl⟩
  · show Calls _ _ _ _ fun e w' => e = .returned (.tuple #[.int .u8 24, .bool true]) ∧ w = w'
    go_enter Try.func42, Try.ntmps42
    go_wp2
    refine bodyPost_ret (v := .tuple #[.int .u8 24, .bool true]) (by simp [results, Try.results42, go_sem]) rfl ?_
    exact ⟨rfl, rfl⟩
  · show Calls _ _ _ _ fun e w' => e = .returned (.tuple #[.int .u8 25, .bool true]) ∧ w = w'
    go_enter Try.func42, Try.ntmps42
    go_wp2
    refine bodyPost_ret (v := .tuple #[.int .u8 25, .bool true]) (by simp [results, Try.results42, go_sem]) rfl ?_
    exact ⟨rfl, rfl⟩
  · have e : closerV o = 0 := by simp [closerV, *]
    have e' : opensV o = false := by simp [opensV, *]
    rw [e, e']
    go_enter Try.func42, Try.ntmps42
    go_wp2
    refine bodyPost_ret (v := .tuple #[.int .u8 0, .bool false]) (by simp [results, Try.results42, go_sem]) rfl ?_
    exact ⟨rfl, rfl⟩

/-- The cell and the flag of the least place that is wrong. -/
def wrC (wr : Option Nat) : Value := .int .i64 (match wr with | none => 0 | some j => (j : Int))
def wrF (wr : Option Nat) : Value := .bool wr.isSome

set_option maxRecDepth 100000 in
theorem vblame_any {w : World} {b : Nat} {vo vi : Value} {T : TypeId} (wr : Option Nat) (k : Nat) (h : w.heap[b]? = some (.cells #[vo, vi, wrC wr, wrF wr] T (0, 0))) :
    Calls Try.prog 27 #[.pointer (some ⟨b, 0, none⟩), .int .i64 k] w fun e w' => e = .returned (.tuple #[]) ∧ w'.heap[b]? = some (.cells #[vo, vi, wrC (blameV k wr), wrF (blameV k wr)] T (0, 0)) ∧ Touch w w' [b] := by
  have c2 : w.cell? ⟨b, 2, none⟩ = some (wrC wr) := by simp [World.cell?, h]
  have c3 : w.cell? ⟨b, 3, none⟩ = some (wrF wr) := by simp [World.cell?, h]
  have f2 : w.frozen? ⟨b, 2, none⟩ = false := by simp [World.frozen?, h]
  have f3 : w.frozen? ⟨b, 3, none⟩ = false := by simp [World.frozen?, h]
  have hw1 : ((w.setCell ⟨b, 2, none⟩ (.int .i64 k)).setCell ⟨b, 3, none⟩ (.bool true)).heap[b]? = some (.cells #[vo, vi, .int .i64 k, .bool true] T (0, 0)) := by
    rw [heap_setCell_same _ _ _ _ _ _ (heap_setCell_same _ _ _ _ _ _ h)]; rfl
  have t1 : Touch w ((w.setCell ⟨b, 2, none⟩ (.int .i64 k)).setCell ⟨b, 3, none⟩ (.bool true)) [b] := ((Touch.refl w [b]).setCell (.inl (by simp)) _).setCell (.inl (by simp)) _
  have c3' : (w.setCell ⟨b, 2, none⟩ (.int .i64 k)).cell? ⟨b, 3, none⟩ = some (wrF wr) := by simp [World.cell?, heap_setCell_same _ _ _ _ _ _ h]
  have f3' : (w.setCell ⟨b, 2, none⟩ (.int .i64 k)).frozen? ⟨b, 3, none⟩ = false := by simp [World.frozen?, heap_setCell_same _ _ _ _ _ _ h]
  have HW : Hid _ := hw1
  have HT : Hid _ := t1
  have H0 : Hid _ := h
  clear hw1 t1 h
  cases wr with
  | none =>
    simp only [wrC, wrF, Option.isSome] at c2 c3 c3'
    go_enter Try.func27, Try.ntmps27
    go_wp2
    go_end0
    exact ⟨rfl, HW.out, HT.out⟩
  | some j =>
    simp only [wrC, wrF, Option.isSome] at c2 c3 c3'
    by_cases hj : k < j
    · have e : blameV k (some j) = some k := by simp [blameV, hj]
      have hj' : (k : Int) < j := by omega
      rw [e]
      clear hj
      go_enter Try.func27, Try.ntmps27
      go_wp2
      go_end0
      exact ⟨rfl, HW.out, HT.out⟩
    · have e : blameV k (some j) = some j := by simp [blameV, hj]
      have hj' : ¬ (k : Int) < j := by omega
      rw [e]
      clear hj
      go_enter Try.func27, Try.ntmps27
      go_wp2
      go_end0
      exact ⟨rfl, H0.out, Touch.refl _ _⟩

/-- Open brackets as they lie: the outermost first. -/
def brRow (l : List InsD) (op : List Nat) : List BrD := op.reverse.map fun (t : Nat) => (⟨(t : Int), closerV (opAt l t)⟩ : BrD)
def topB (l : List InsD) : List Nat → BrD
  | [] => ⟨0, 0⟩
  | t :: _ => ⟨(t : Int), closerV (opAt l t)⟩
theorem brRow_len (l : List InsD) (op : List Nat) : (brRow l op).length = op.length := by simp [brRow]
theorem brRow_cons (l : List InsD) (t : Nat) (r : List Nat) : brRow l (t :: r) = brRow l r ++ [⟨(t : Int), closerV (opAt l t)⟩] := by simp [brRow]

theorem br_flat (xs : List BrD) : (xs.flatMap BrD.cells).length = xs.length * 2 := flat_len (cells := BrD.cells) (n := 2) (fun _ => rfl) xs
theorem vtop_any {w : World} {B b : Nat} {vo v1 v2 v3 : Value} {T : TypeId} {l : List InsD} {op : List Nat} (h : w.heap[b]? = some (.cells #[vo, v1, v2, v3] T (0, 0))) (hr : brOwn w B vo (brRow l op)) (hl : op.length ≤ 1000) :
    Calls Try.prog 26 #[.pointer (some ⟨b, 0, none⟩)] w fun e w' => e = .returned (.tuple #[.agg #[.int .i64 (topB l op).at_, .int .u8 (topB l op).cl], .bool (decide (op ≠ []))]) ∧ Touch w w' [] := by
  have c0 : w.cell? ⟨b, 0, none⟩ = some vo := by simp [World.cell?, h]
  cases op with
  | nil =>
    obtain ⟨ao, cap, e⟩ := owns_slice hr
    rw [e, brRow_len] at c0
    exact (top_none c0).mono (fun e w' h => by simpa [topB] using h)
  | cons t r =>
    obtain ⟨g, cap, e⟩ := Go.Joins.ownsRow_form hr (by rw [brRow_len]; simp)
    have hlen : (brRow l (t :: r)).length = r.length + 1 := by rw [brRow_len]; rfl
    rw [hlen] at e
    rw [e] at c0
    have hr' : w.ownsRow B 50 2 (.slice (some ⟨g, 0, none⟩) (r.length + 1) cap) (r.length + 1) ((brRow l (t :: r)).flatMap BrD.cells) := by
      have := hr; unfold brOwn at this; rw [e, hlen] at this; exact this
    have q1 := hr'.cellAt (r.length * 2) (by omega)
    have q2 := hr'.cellAt (r.length * 2 + 1) (by omega)
    have e1 : ((brRow l (t :: r)).flatMap BrD.cells)[r.length * 2]? = some (.int .i64 t) := by
      rw [brRow_cons, List.flatMap_append, List.getElem?_append_right (by rw [br_flat, brRow_len]; exact Nat.le_refl _), br_flat, brRow_len, Nat.sub_self]; rfl
    have e2 : ((brRow l (t :: r)).flatMap BrD.cells)[r.length * 2 + 1]? = some (.int .u8 (closerV (opAt l t))) := by
      rw [brRow_cons, List.flatMap_append, List.getElem?_append_right (by rw [br_flat, brRow_len]; omega), br_flat, brRow_len, show r.length * 2 + 1 - r.length * 2 = 1 by omega]; rfl
    exact (top_some c0 rfl (by simp at hl; omega) (q1.trans e1) (q2.trans e2)).mono (fun e w' h => by simpa [topB] using h)

end Go.Proofs.Ytonjbldnhbbdjaa

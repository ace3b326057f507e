/-
  cells.New BY ITS CONTRACT, and the words that every statement on cells asks (live).
-/
import Derived.Test.YtdaahghlaingaacCellsDo
namespace Go.Proofs.Ytdaahghlaingaac
set_option linter.unusedVariables false
set_option linter.unusedSimpArgs false
open Go.RowKit

theorem made_u64 (n : Nat) : madeCells (Value.cells (.int .u64 0)) (n * 1) = Array.replicate n (.int .u64 0) := by
  apply Array.ext
  · simp [size_madeCells]
  · intro i h1 h2
    simp [madeCells, Value.cells, Nat.mod_one]

theorem make_u64 (n : Nat) (hn : n ≤ 1000) (w : World) : (Instr.makeSlice 43 (.int .i64 n) (.int .i64 n)).run Try.prog w = .ok (.slice (some ⟨w.heap.size, 0, none⟩) n n) (w.alloc (.cells (Array.replicate n (.int .u64 0)) 31)) := by
  obtain ⟨i, hi, hz, hs, hb⟩ := info_parts Try.info_u64
  have e := run_make (P := Try.prog) w 43 31 i (.int .u64 0) Try.underlying43 hi hz .i64 .i64 n n (by omega) (by omega) (by rw [hb]; omega) (by omega)
  rw [e, hs, Int.toNat_natCast, made_u64]

/-- What New lays. -/
theorem new_obj (T B : Nat) (w : World) (n : Nat) (hn : 0 < n) (hm : n ≤ 32) (hB : B ≤ w.heap.size) (tw : T ≠ 31) (tl : T ≠ 35) :
    CObj T B ((w.alloc (.cells (Array.replicate n (.int .u64 0)) 31)).alloc (.cells #[.slice (some ⟨w.heap.size, 0, none⟩) n n, .slice none 0 0] T)) (w.heap.size + 1) (.slice (some ⟨w.heap.size, 0, none⟩) n n) (.slice none 0 0) (List.replicate n 0) [] := by
  have e : List.map (Value.int .u64) (List.replicate n 0) = List.replicate n (.int .u64 0) := by simp
  refine ⟨by omega, ?_, ?_, World.ownsRow_nil _ _ _ _, by simpa using hn, ?_, tw, tl⟩
  · have := heap_alloc_new (w.alloc (.cells (Array.replicate n (.int .u64 0)) 31)) (.cells #[.slice (some ⟨w.heap.size, 0, none⟩) n n, .slice none 0 0] T)
    simpa using this
  · rw [List.length_replicate, e]
    refine World.ownsRow.alloc ⟨by simp, .inr ⟨w.heap.size, n, Array.replicate n (.int .u64 0), rfl, hB, heap_alloc_new w _, Nat.le_refl _, by unfold maxLen; omega, by simp, ?_⟩⟩ _
    rw [List.take_of_length_le (by simp)]
    simp
  · intro x hx
    rw [List.mem_replicate] at hx
    rw [hx.2]; omega

/-- What New leaves. -/
def NewPost (T B : Nat) (w : World) (n : Nat) (e : Ending) (w' : World) : Prop :=
  ∃ b vw, e = .returned (.pointer (some ⟨b, 0, none⟩)) ∧ CObj T B w' b vw (.slice none 0 0) (List.replicate n 0) [] ∧ Touch w w' [] ∧ ∀ k ∈ foot b vw (.slice none 0 0), w.heap.size ≤ k

theorem new_ok (B : Nat) (w : World) (n : Nat) (hn : 0 < n) (hm : n ≤ 32) (hB : B ≤ w.heap.size) :
    Calls Try.prog 18 #[.int .i64 n] w (NewPost 66 B w n) := by
  have hmk := make_u64 n (by omega)
  have h1 : ¬ (n : Int) < 1 := by omega
  have h2 : ¬ (32 : Int) < n := by omega
  have hO := new_obj 66 B w n hn hm hB (by decide) (by decide)
  have HO : Hid _ := hO
  clear hO
  go_enter Try.func18, Try.ntmps18
  go_wp2
  go_ret
  refine ⟨_, _, rfl, HO.out, ((Touch.refl _ _).alloc _).alloc _, ?_⟩
  intro k hk
  rw [mem_foot] at hk
  simp [Value.ownBlock] at hk
  omega

theorem new_nil (n : Int) (w : World) (h : n < 1 ∨ 32 < n) :
    Calls Try.prog 18 #[.int .i64 n] w fun e w' => e = .returned (.pointer none) ∧ w = w' := by
  rcases Int.lt_or_le n 1 with h1 | h1
  · go_enter Try.func18, Try.ntmps18
    go_wp2
    go_ret
    exact ⟨rfl, rfl⟩
  · have h2 : ¬ n < 1 := by omega
    have h3 : 32 < n := by omega
    clear h
    go_enter Try.func18, Try.ntmps18
    go_wp2
    go_ret
    exact ⟨rfl, rfl⟩

/-- A list of length n as a slice value. -/
theorem CObj.logForm {T B : Nat} {w : World} {b : Nat} {vw vl : Value} {ws : List Int} {lg : List DoneD} (h : CObj T B w b vw vl ws lg) : ∃ ao cap, vl = .slice ao lg.length cap := by
  rcases h.log.2 with ⟨rfl, h0⟩ | ⟨g, cap, cur, rfl, _⟩
  · exact ⟨none, 0, by rw [h0]⟩
  · exact ⟨_, _, rfl⟩

/-- What Do leaves, its answer written out. -/
def DoPost (T B b : Nat) (w : World) (vw vl : Value) (d0 d1 d2 d3 d4 : Int) (d5 : Bool) (re : Int) (ws' : List Int) (lg' : List DoneD) (e : Ending) (w' : World) : Prop :=
  ∃ vw' vl', e = .returned (.tuple #[.agg #[.int .u8 d0, .int .i64 d1, .int .u64 d2, .int .u64 d3, .int .u64 d4, .bool d5], .int .i64 re]) ∧ CObj T B w' b vw' vl' ws' lg' ∧ Touch w w' (foot b vw vl) ∧ ∀ k ∈ foot b vw' vl', k ∈ foot b vw vl ∨ w.heap.size ≤ k

theorem do_at {B b : Nat} {w : World} {vw vl : Value} {ws : List Int} {lg : List DoneD} (h : CObj 66 B w b vw vl ws lg) (hB : B ≤ w.heap.size) (k c a bb : Int) (ho : (⟨k, c, a, bb⟩ : OpD).Wf) (hn : ws.length ≤ 32) (hlg : lg.length ≤ 1000)
    {d0 d1 d2 d3 d4 : Int} {d5 : Bool} {re : Int} {ws' : List Int} {lg' : List DoneD} (hr : doStep ws lg ⟨k, c, a, bb⟩ = (⟨⟨d0, d1, d2, d3⟩, d4, d5⟩, re, ws', lg')) :
    Calls Try.prog 11 #[.pointer (some ⟨b, 0, none⟩), .agg #[.int .u8 k, .int .i64 c, .int .u64 a, .int .u64 bb]] w (DoPost 66 B b w vw vl d0 d1 d2 d3 d4 d5 re ws' lg') := by
  have h1 := do_any h hB ⟨k, c, a, bb⟩ ho hn hlg
  rw [hr] at h1
  exact h1

theorem live1 : doStep (List.replicate 2 0) [] ⟨4, 1, 3, 0⟩ = (⟨⟨4, 1, 3, 0⟩, 0, true⟩, 0, [0, 3], [⟨⟨4, 1, 3, 0⟩, 0, true⟩]) := by simp [doStep, outc, List.replicate]
theorem live2 : doStep [0, 3] [⟨⟨4, 1, 3, 0⟩, 0, true⟩] ⟨3, 1, 3, 9⟩ = (⟨⟨3, 1, 3, 9⟩, 3, true⟩, 0, [0, 9], [⟨⟨4, 1, 3, 0⟩, 0, true⟩, ⟨⟨3, 1, 3, 9⟩, 3, true⟩]) := by simp [doStep, outc]

set_option maxRecDepth 100000 in
set_option maxHeartbeats 1600000 in
theorem live_any (w : World) : Calls Try.prog 8 #[] w fun e w' => e = .returned (.bool true) ∧ Below w.heap.size w w' := by
  have hnew := new_ok w.heap.size w 2 (by omega) (by omega) (Nat.le_refl _)
  go_enter Try.func8, Try.ntmps8
  go_wp2_with fail
  refine hnew.mono ?_
  rintro e w1 ⟨b, vw, rfl, ho1, t1, ft1⟩
  clear hnew
  go_wp2_with fail
  refine (do_at ho1 t1.size 4 1 3 0 ⟨by decide, by decide, by decide, by decide, by decide, by decide, by decide, by decide⟩ (by simp) (by simp) live1).mono ?_
  rintro e w2 ⟨vw2, vl2, rfl, ho2, t2, ft2⟩
  go_wp2_with fail
  refine (do_at (ho2.keep ((Touch.refl w2 []).alloc _) (by simp)) (by have := t1.size; have := t2.size; simp; omega) 3 1 3 9 ⟨by decide, by decide, by decide, by decide, by decide, by decide, by decide, by decide⟩ (by simp) (by simp) live2).mono ?_
  rintro e w3 ⟨vw3, vl3, rfl, ho3, t3, ft3⟩
  -- the first answer's block is as it was
  have hs1 := t1.size
  have hs2 := t2.size
  have hs3 := t3.size
  have hA : w3.heap[w2.heap.size]? = some (.cells #[.int .u8 4, .int .i64 1, .int .u64 3, .int .u64 0, .int .u64 0, .bool true] 35 (0, 0)) :=
    (t3.block _ (by simp) (fun hk => by have := (ho2.foot_lt _ hk).2; omega)).trans (heap_alloc_new w2 _)
  simp only [World.size_alloc] at hs3
  have bel : Below w.heap.size w w3 := (t1.below (Nat.le_refl _) (by simp)).trans (((t2.below hs1 (fun k hk => (ho1.foot_lt k hk).1)).alloc (by omega) _).trans (t3.below (by simp; omega) (fun k hk => (ho2.foot_lt k hk).1)))
  obtain ⟨g, cap, rfl, hcell, _, _, hgl, _, _, hgb⟩ := ho3.words
  obtain ⟨ao, cap2, rfl⟩ := ho3.logForm
  obtain ⟨s0, s1, _, _⟩ := cells_two ho3.st
  have hbl := lt_of_heap ho3.st
  have c1 := hcell 1 (by simp)
  have HB : Hid _ := bel
  have HA : Hid _ := hA
  clear ho1 ho2 ho3 t1 t2 t3 ft1 ft2 ft3 hcell bel hA hs1
  simp only [List.length_cons, List.length_nil] at s0 s1
  have s0' : ∀ o, (w3.alloc o).cell? ⟨b, 0, none⟩ = _ := fun o => (World.cell?_alloc_past _ _ _ hbl).trans s0
  have s1' : ∀ o, (w3.alloc o).cell? ⟨b, 1, none⟩ = _ := fun o => (World.cell?_alloc_past _ _ _ hbl).trans s1
  have c1' : ∀ o, (w3.alloc o).cell? ⟨g, 1, none⟩ = _ := fun o => (World.cell?_alloc_past _ _ _ hgl).trans c1
  have a4 : ∀ o, (w3.alloc o).cell? ⟨w2.heap.size, 4, none⟩ = some (.int .u64 0) := fun o => (World.cell?_alloc_past _ _ _ (by show w2.heap.size < w3.heap.size; omega)).trans (cells_done HA.out).1.2.2.2.2.1
  simp only [List.getD_cons_succ, List.getD_cons_zero] at c1 c1'
  go_wp2_with fail
  refine (word_in b g _ cap 1 9 _ (s0' _) (by omega) (by decide) (c1' _)).mono ?_
  rintro e w4 ⟨rfl, rfl⟩
  go_wp2_with fail
  refine (steps_any b _ cap2 ao _ (s1' _)).mono ?_
  rintro e w4 ⟨rfl, rfl⟩
  go_wp2
  go_ret
  exact ⟨rfl, HB.out.alloc (by omega) _⟩

end Go.Proofs.Ytdaahghlaingaac

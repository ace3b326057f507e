/-
  Begin OF package calls AND OF THE DOCUMENT BY THEIR CONTRACTS.
-/
import Derived.Test.YtcbkafbchpjnoaaGreatDoorClRefP
namespace Go.Proofs.YtcbkafbchpjnoaaGreatDoor
set_option linter.unusedVariables false
set_option linter.unusedSimpArgs false
open Go.RowKit
attribute [local go_sem] Oper.semAt_some

theorem Tryz.info_valC : (Tryz.prog.info? 50).map (fun i => (i.zero, i.size, i.bytes)) = some (some (.int .u64 0), 1, 8) := by kernel_rfl
theorem info_partsC {P : Program} {t : TypeId} {z : Value} {s b : Nat} (h : (P.info? t).map (fun i => (i.zero, i.size, i.bytes)) = some (some z, s, b)) : ∃ i, P.info? t = some i ∧ i.zero = some z ∧ i.size = s ∧ i.bytes = b := by
  cases hi : P.info? t with
  | none => rw [hi] at h; cases h
  | some i =>
    rw [hi] at h
    simp only [Option.map_some, Option.some.injEq, Prod.mk.injEq] at h
    exact ⟨i, rfl, h.1, h.2.1, h.2.2⟩
theorem made_valC (n : Nat) : madeCells (Value.cells (.int .u64 0)) (n * 1) = Array.replicate n (.int .u64 0) := by
  apply Array.ext
  · simp [size_madeCells]
  · intro i h1 h2
    simp [madeCells, Value.cells, Nat.mod_one]
theorem make_valC (n : Nat) (hn : n ≤ 1000) (w : World) : (Instr.makeSlice 33 (.int .i64 n) (.int .i64 n)).run Tryz.prog w = .ok (.slice (some ⟨w.heap.size, 0, none⟩) n n) (w.alloc (.cells (Array.replicate n (.int .u64 0)) 50)) := by
  obtain ⟨i, hi, hz, hs, hb⟩ := info_partsC Tryz.info_valC
  have e := run_make (P := Tryz.prog) w 33 50 i (.int .u64 0) Tryz.underlying33 hi hz .i64 .i64 n n (by omega) (by omega) (by rw [hb]; omega) (by omega)
  rw [hs, made_valC] at e
  exact e

/-- The values at first. -/
def begA (k n : Int) : Array Value := if k = 2 then #[.int .u64 (numV n)] else Array.replicate (tvN k n).toNat (.int .u64 0)
def BegP (w : World) (k n : Int) (e : Ending) (w' : World) : Prop :=
  (okO k n = true ∧ ∃ g m, e = .returned (.tuple #[.slice (some ⟨g, 0, none⟩) m m, .int .i64 0]) ∧ (m : Int) = tvN k n ∧ w'.heap[g]? = some (.cells (begA k n) 50 (0, 0)) ∧ w.heap.size ≤ g ∧ Touch w w' []) ∨
  (okO k n = false ∧ e = .returned (.tuple #[.slice none 0 0, .int .i64 3]) ∧ Touch w w' [])

set_option maxRecDepth 100000 in
set_option maxHeartbeats 1000000 in
theorem begin_any (k n : Int) (w : World) : Calls Tryz.prog 13 #[.int .u8 k, .int .i64 n] w (BegP w k n) := by
  have HC : HidC _ _ _ _ _ := ⟨onew_any k n w⟩
  cases ho : okO k n with
  | false =>
    go_enter Tryz.func13, Tryz.ntmps13
    go_wp2_with fail
    refine HC.out.mono ?_
    clear HC
    rintro e w1 (⟨h, b, rfl, ha, hb, t⟩ | ⟨h, rfl, t⟩)
    · rw [ho] at h; cases h
    · have HT : Hid _ := t
      clear t h
      go_wp2
      exact bodyPost_ret (v := .tuple #[.slice none 0 0, .int .i64 3]) (by simp [results, Tryz.results13, go_sem]) rfl (.inr ⟨ho, rfl, HT.out⟩)
  | true =>
    have HO : Hid _ := ho
    have hw := (okO_is k n).1 ho
    have HTV : Hid _ := tv_le ho
    have HTN : Hid (∀ W, HidC Tryz.prog 17 #[.int .u8 k, .int .i64 n] W fun e w' => e = .returned (.int .i64 (tvN k n)) ∧ Touch W w' []) := fun W => ⟨tvars_any k n W⟩
    have HA : Hid (begA k n = if k = 2 then #[.int .u64 (numV n)] else Array.replicate (tvN k n).toNat (.int .u64 0)) := rfl
    obtain ⟨m, hm⟩ : ∃ m : Nat, (m : Int) = tvN k n := ⟨(tvN k n).toNat, by have := HTV.out; omega⟩
    have HM : Hid _ := hm
    have hm6 : m ≤ 6 := by have := HTV.out; omega
    have HMT : Hid ((tvN k n).toNat = m) := by show _ = _; omega
    rw [← hm] at HTN
    by_cases h2 : k = 2
    · subst h2
      have hn9 : 0 ≤ n ∧ n ≤ 9 := by omega
      have hm1 : m = 1 := by have h := hm; unfold tvN at h; rw [ho] at h; simp at h; omega
      subst hm1
      have HIN : Hid (∀ W, HidC Tryz.prog 36 #[.int .i64 n] W fun e w' => e = .returned (.tuple #[.int .u64 (numV n), .bool true]) ∧ Touch W w' []) := fun W => ⟨int_ok n (by omega) (by omega) W⟩
      have HAA : Hid (begA 2 n = #[.int .u64 (numV n)]) := HA.out
      have hmk : ∀ W : World, (Instr.makeSlice 33 (.int .i64 1) (.int .i64 1)).run Tryz.prog W = .ok (.slice (some ⟨W.heap.size, 0, none⟩) 1 1) (W.alloc (.cells (Array.replicate 1 (.int .u64 0)) 50)) := fun W => make_valC 1 (by omega) W
      have HNX : Hid (∀ w2 : World, Touch w w2 [] → Hid (∀ w4, Touch (w2.alloc (.cells (Array.replicate 1 (.int .u64 0)) 50)) w4 [] → Hid (w4.cell? ⟨w2.heap.size, 0, none⟩ = some (.int .u64 0) ∧ w4.frozen? ⟨w2.heap.size, 0, none⟩ = false) ∧ Hid ((w4.setCell ⟨w2.heap.size, 0, none⟩ (.int .u64 (numV n))).heap[w2.heap.size]? = some (.cells #[.int .u64 (numV n)] 50 (0, 0)) ∧ w.heap.size ≤ w2.heap.size ∧ Touch w (w4.setCell ⟨w2.heap.size, 0, none⟩ (.int .u64 (numV n))) []))) := by
        intro w2 t2 w4 t4
        have hn := heap_alloc_new w2 (.cells (Array.replicate 1 (.int .u64 0)) 50)
        have hs : (w2.alloc (.cells (Array.replicate 1 (.int .u64 0)) 50)).heap.size = w2.heap.size + 1 := by simp
        have h4 := (t4.block w2.heap.size (by omega) (by simp)).trans hn
        refine ⟨⟨by unfold World.cell?; rw [h4]; rfl, by unfold World.frozen?; rw [h4]; simp⟩, by rw [heap_setCell_same _ _ _ _ _ _ h4]; rfl, t2.size, ?_⟩
        exact ((t2.alloc _).trans t4 (by simp)).setCell (.inr t2.size) _
      clear hm hw HA ho
      generalize numV n = x at *
      go_enter Tryz.func13, Tryz.ntmps13
      go_wp2_with fail
      refine HC.out.mono ?_
      clear HC
      rintro e w1 (⟨h, b, rfl, ha, hb, t⟩ | ⟨h, rfl, t⟩)
      · have HT : Hid _ := t
        clear t ha h
        go_wp2_with fail
        refine (HTN.out _).out.mono ?_
        rintro e w2 ⟨rfl, t2⟩
        have hnx := HNX.out w2 (HT.out.trans t2 (by simp))
        have HNX2 : Hid _ := hnx
        clear hnx t2 HTN HNX HT
        go_wp2_with fail
        refine (HIN.out _).out.mono ?_
        rintro e w4 ⟨rfl, t4⟩
        obtain ⟨hcz, hfin⟩ := HNX2.out w4 t4
        obtain ⟨z0, z1⟩ := hcz.out
        clear t4 HNX2 HIN hcz
        go_wp2
        obtain ⟨q1, q2, q3⟩ := hfin.out
        exact bodyPost_ret (v := .tuple #[.slice (some ⟨w2.heap.size, 0, none⟩) 1 1, .int .i64 0]) (by simp [results, Tryz.results13, go_sem]) rfl (.inl ⟨HO.out, w2.heap.size, 1, rfl, HM.out, by rw [show begA 2 n = _ from HAA.out]; exact q1, q2, q3⟩)
      · rw [show okO 2 n = true from HO.out] at h; cases h
    · have HAA : Hid (begA k n = Array.replicate m (.int .u64 0)) := by show _ = _; rw [HA.out, if_neg h2, HMT.out]
      have k2 : (k == 2) = false := by simpa using h2
      have hmk := fun W => make_valC m (by omega) W
      clear hm hw HA ho
      go_enter Tryz.func13, Tryz.ntmps13
      go_wp2_with fail
      refine HC.out.mono ?_
      clear HC
      rintro e w1 (⟨h, b, rfl, ha, hb, t⟩ | ⟨h, rfl, t⟩)
      · have HT : Hid _ := t
        clear t ha h
        go_wp2_with fail
        refine (HTN.out _).out.mono ?_
        rintro e w2 ⟨rfl, t2⟩
        have HT2 : Hid (Touch w w2 []) := HT.out.trans t2 (by simp)
        clear t2 HTN HT
        go_wp2
        exact bodyPost_ret (v := .tuple #[.slice (some ⟨w2.heap.size, 0, none⟩) m m, .int .i64 0]) (by simp [results, Tryz.results13, go_sem]) rfl (.inl ⟨HO.out, w2.heap.size, m, rfl, HM.out, by rw [show begA k n = _ from HAA.out]; exact heap_alloc_new w2 _, HT2.out.size, HT2.out.alloc _⟩)
      · rw [show okO k n = true from HO.out] at h; cases h

end Go.Proofs.YtcbkafbchpjnoaaGreatDoor

/-
  package verify: Regions, Blocks BY THEIR CONTRACTS.
-/
import Derived.Test.YtonjbldnhbbdjaaVfOf
namespace Go.Proofs.Ytonjbldnhbbdjaa
set_option linter.unusedVariables false
set_option linter.unusedSimpArgs false
open Go.RowKit
attribute [local go_sem] Oper.semAt_some

abbrev intOwnV (w : World) (B : Nat) (v : Value) (xs : List Int) : Prop := w.ownsRow B 3 1 v xs.length (xs.map (Value.int .i64))
def ansK (s : MD) : Int := match endV s with | some k => (k : Int) | none => 0
def ansE (s : MD) : Int := match endV s with | some _ => 8 | none => 0
def ansI (s : MD) (xs : List Int) : List Int := match endV s with | some _ => [] | none => xs
/-- What Regions answers. -/
def RegPost (w : World) (l : List InsD) (e : Ending) (w' : World) : Prop :=
  ∃ v, e = .returned (.tuple #[v, .int .i64 (ansK (runV true mayV l l.length)), .int .i64 (ansE (runV true mayV l l.length))]) ∧ intOwnV w' w.heap.size v (ansI (runV true mayV l l.length) (insV l l.length)) ∧ Touch w w' []

set_option maxRecDepth 100000 in
set_option maxHeartbeats 1000000 in
theorem regions_any {w : World} {ao : Option Addr} {N cap : Nat} {l : List InsD} (hN : N = l.length) (hn : N ≤ 900) (hr : InsV w (.slice ao N cap) l) :
    Calls Try.prog 11 #[.slice ao N cap] w (RegPost w l) := by
  have hof : HidC _ _ _ _ _ := ⟨vof_any hN hn hr⟩
  have hlen := run_len (args := true) (may := mayV) (l := l) l.length
  have HN : Hid _ := hN
  clear hr
  unfold RegPost
  generalize hsG : runV true mayV l l.length = s at *
  unfold OfPost at hof
  rw [hsG, HN.out.symm] at hof
  rw [HN.out.symm]
  rw [← hN] at hlen
  clear hsG hN
  go_enter Try.func11, Try.ntmps11
  go_wp2_with fail
  refine hof.out.mono ?_
  rintro e w1 ⟨b, vo, vi, rfl, hb, hM, hT⟩
  clear hof
  have HM : Hid _ := hM
  have HT : Hid _ := hT
  have ht : HidC _ _ _ _ _ := ⟨vtop_any hM.st hM.op (by omega)⟩
  clear hM hT
  obtain ⟨op, wr⟩ := s
  go_wp2_with fail
  refine ht.out.mono ?_
  rintro e w2 ⟨rfl, t2⟩
  have tt : Touch w1 (w2.alloc (.cells #[.int .i64 (topB l op).at_, .int .u8 (topB l op).cl] 50)) [] := t2.alloc _
  have hM2 := HM.out.keep0 tt
  have T2 : Hid (Touch w (w2.alloc (.cells #[.int .i64 (topB l op).at_, .int .u8 (topB l op).cl] 50)) []) := HT.out.trans tt (by simp)
  clear ht t2 tt
  cases wr with
  | some j =>
    have HM2 : Hid _ := hM2
    have c2 : (w2.alloc (.cells #[.int .i64 (topB l op).at_, .int .u8 (topB l op).cl] 50)).cell? ⟨b, 2, none⟩ = some (.int .i64 j) := by unfold World.cell?; rw [hM2.st]; rfl
    have c3 : (w2.alloc (.cells #[.int .i64 (topB l op).at_, .int .u8 (topB l op).cl] 50)).cell? ⟨b, 3, none⟩ = some (.bool true) := by unfold World.cell?; rw [hM2.st]; rfl
    clear hM2
    have hT2 := T2
    clear T2
    by_cases ho : op = []
    · have hd : decide (op ≠ []) = false := by simp [ho]
      rw [hd]
      clear ho
      go_wp2_with fail
      go_region
      go_wp2
      refine bodyPost_ret (v := .tuple #[.slice none 0 0, .int .i64 j, .int .i64 8]) (by simp [results, Try.results11, go_sem]) rfl ?_
      exact ⟨_, rfl, World.ownsRow_nil _ _ _ _, hT2.out.drew⟩
    · have hd : decide (op ≠ []) = true := by simp [ho]
      rw [hd]
      clear ho
      go_wp2_with fail
      go_region
      go_wp2
      refine bodyPost_ret (v := .tuple #[.slice none 0 0, .int .i64 j, .int .i64 8]) (by simp [results, Try.results11, go_sem]) rfl ?_
      exact ⟨_, rfl, World.ownsRow_nil _ _ _ _, hT2.out.drew⟩
  | none =>
    cases op with
    | nil =>
      simp only [topB] at hM2 T2
      have HM2 : Hid _ := hM2
      have c1 : (w2.alloc (.cells #[.int .i64 0, .int .u8 0] 50)).cell? ⟨b, 1, none⟩ = some vi := by unfold World.cell?; rw [hM2.st]; rfl
      have c3 : (w2.alloc (.cells #[.int .i64 0, .int .u8 0] 50)).cell? ⟨b, 3, none⟩ = some (.bool false) := by unfold World.cell?; rw [hM2.st]; rfl
      have hiv := hM2.inn
      have hil : (insV l N).length = N := insV_len l N
      rw [hil] at hiv
      obtain ⟨ai, ci, rfl⟩ := owns_slice hiv
      clear hM2 hiv hil
      have hd : decide (([] : List Nat) ≠ []) = false := by simp
      rw [hd]
      simp only [topB]
      go_wp2
      refine bodyPost_ret (v := .tuple #[.slice ai N ci, .int .i64 0, .int .i64 0]) (by simp [results, Try.results11, go_sem]) rfl ?_
      exact ⟨_, rfl, HM2.out.inn, T2.out⟩
    | cons t r =>
      have hbl : HidC _ _ _ _ _ := ⟨mblame_any hM2 t⟩
      have c3 : (w2.alloc (.cells #[.int .i64 (topB l (t :: r)).at_, .int .u8 (topB l (t :: r)).cl] 50)).cell? ⟨b, 3, none⟩ = some (.bool false) := by unfold World.cell?; rw [hM2.st]; rfl
      clear hM2
      have hd : decide ((t :: r : List Nat) ≠ []) = true := by simp
      rw [hd]
      simp only [topB] at hbl c3 ⊢
      go_wp2_with fail
      refine hbl.out.mono ?_
      rintro e w3 ⟨rfl, m3, t3⟩
      have c2' : w3.cell? ⟨b, 2, none⟩ = some (.int .i64 t) := by unfold World.cell?; rw [m3.st]; rfl
      have c3' : w3.cell? ⟨b, 3, none⟩ = some (.bool true) := by unfold World.cell?; rw [m3.st]; rfl
      have T3 : Hid (Touch w w3 []) := T2.out.trans t3 (by simp; omega)
      clear hbl m3 t3
      go_wp2_with fail
      go_region
      go_wp2
      refine bodyPost_ret (v := .tuple #[.slice none 0 0, .int .i64 t, .int .i64 8]) (by simp [results, Try.results11, go_sem]) rfl ?_
      exact ⟨_, rfl, World.ownsRow_nil _ _ _ _, T3.out.drew⟩

end Go.Proofs.Ytonjbldnhbbdjaa

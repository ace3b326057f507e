/-
  package verify: begin BY ITS CONTRACT.
-/
import Derived.Test.YtonjbldnhbbdjaaVfOps
namespace Go.Proofs.Ytonjbldnhbbdjaa
set_option linter.unusedVariables false
set_option linter.unusedSimpArgs false
open Go.RowKit
attribute [local go_sem] Oper.semAt_some

set_option maxRecDepth 100000 in
theorem begin_any {B : Nat} {l : List InsD} {w : World} {b : Nat} {vo vi : Value} {s : MD} {xs : List Int} (h : MAt B l w b vo vi s xs) (hl : s.op.length ≤ 999) (hB : B ≤ w.heap.size) (k : Nat) :
    Calls Try.prog 43 #[.pointer (some ⟨b, 0, none⟩), .int .u8 (opAt l k), .agg #[.int .i64 k, .int .u8 (closerV (opAt l k))]] w (MPost B l w b vo vi (beginV mayV l k s) xs) := by
  obtain ⟨cl, hcl⟩ : ∃ cl, cl = closerV (opAt l k) := ⟨_, rfl⟩
  obtain ⟨o, ho⟩ : ∃ o, o = opAt l k := ⟨_, rfl⟩
  rw [← hcl, ← ho]
  have tB : Touch w (w.alloc (.cells #[.int .i64 k, .int .u8 cl] 50)) [] := (Touch.refl w []).alloc _
  have eB : (w.alloc (.cells #[.int .i64 k, .int .u8 cl] 50)).heap[w.heap.size]? = some (.cells #[.int .i64 k, .int .u8 cl] 50 (0, 0)) := heap_alloc_new w _
  have hM := h.keep0 tB
  have hbl := lt_of_heap h.st
  have hol : ∀ g, vo.ownBlock = some g → g < w.heap.size := fun g hg => (h.op.lt g hg).2
  have hil : ∀ g, vi.ownBlock = some g → g < w.heap.size := fun g hg => (h.inn.lt g hg).2
  have hmay : HidC _ _ _ _ _ := ⟨may_any hM (by omega) o⟩
  have HRow : Hid (brRow l (k :: s.op) = brRow l s.op ++ [⟨(k : Int), cl⟩]) := by rw [hcl]; exact brRow_cons l k s.op
  have hbeg : beginV mayV l k s = ⟨k :: s.op, if mayV o s.op then s.wr else blameV k s.wr⟩ := by rw [ho]; rfl
  rw [hbeg]
  clear h hbeg hcl ho
  -- behind mayBegin (and blame): push
  have HP : Hid (∀ W wr, Touch w W [b] → W.heap[w.heap.size]? = some (.cells #[.int .i64 k, .int .u8 cl] 50 (0, 0)) → MAt B l W b vo vi ⟨s.op, wr⟩ xs → HidC Try.prog 55 #[.pointer (some ⟨b, 0, none⟩), .agg #[.int .i64 k, .int .u8 cl]] W (fun e w' => e = .returned (.tuple #[]) ∧ MPost B l w b vo vi ⟨k :: s.op, wr⟩ xs (.returned (.tuple #[])) w' ∧ w'.cell? ⟨w.heap.size, 0, none⟩ = some (.int .i64 k) ∧ w'.cell? ⟨w.heap.size, 1, none⟩ = some (.int .u8 cl))) := fun W wr tW hq hM => ⟨by
    refine (push_any (B := B) ⟨(k : Int), cl⟩ hM.st hM.op (by rw [brRow_len]; show s.op.length ≤ 1000; omega) (Nat.le_trans hB tW.size) hM.nb).mono ?_
    rintro e w' ⟨vo', rfl, p1, p2, p3, p4⟩
    have hq' : w'.heap[w.heap.size]? = some (.cells #[.int .i64 k, .int .u8 cl] 50 (0, 0)) := (p3.block w.heap.size (lt_of_heap hq) (fun hs => by
      rcases List.mem_cons.1 hs with e | hs
      · omega
      · have := hol _ (by simpa using hs); omega)).trans hq
    refine ⟨rfl, ⟨vo', rfl, ⟨p1, ?_, ?_⟩, ?_, ?_⟩, by unfold World.cell?; rw [hq']; rfl, by unfold World.cell?; rw [hq']; rfl⟩
    · rw [HRow.out]; exact p2
    · exact ownsRow_touch hM.inn p3 (fun g hg hs => by
        rcases List.mem_cons.1 hs with rfl | hs
        · exact hM.ni hg
        · exact hM.nn g hg (by simpa using hs))
    · exact (tW.mono (by simp)).trans p3 (fun x hx => .inl hx)
    · intro g hg
      rcases p4 g hg with e | e
      · exact .inl e
      · exact .inr (Nat.le_trans tW.size e)⟩
  cases hmv : mayV o s.op with
  | true =>
    rw [hmv] at hmay
    have hp := HP.out (w.alloc (.cells #[.int .i64 k, .int .u8 cl] 50)).drew s.wr ((tB.mono (by simp)).drew) eB (hM.keep0 ((Touch.refl _ _).drew))
    have q0 : (w.alloc (.cells #[.int .i64 k, .int .u8 cl] 50)).cell? ⟨w.heap.size, 0, none⟩ = some (.int .i64 k) := by unfold World.cell?; rw [eB]; rfl
    have q1 : (w.alloc (.cells #[.int .i64 k, .int .u8 cl] 50)).cell? ⟨w.heap.size, 1, none⟩ = some (.int .u8 cl) := by unfold World.cell?; rw [eB]; rfl
    clear hM eB tB HP
    simp only [if_true]
    go_enter Try.func43, Try.ntmps43
    go_wp2_with fail
    refine hmay.out.mono ?_
    rintro e w1 ⟨rfl, rfl⟩
    clear hmay
    go_wp2_with fail
    go_region_held3 (fun w' => w'.cell? ⟨w.heap.size, 0, none⟩ = some (.int .i64 k) ∧ w'.cell? ⟨w.heap.size, 1, none⟩ = some (.int .u8 cl)) (first | exact ⟨q0, q1⟩ | exact ⟨r0, r1⟩) (first | (go_at_call 55; refine hp.out.mono ?_; rintro e w4 ⟨rfl, r2, r0, r1⟩))
    go_wp2
    go_end0
    exact r2
  | false =>
    rw [hmv] at hmay
    have hbl : HidC _ _ _ _ _ := ⟨vblame_any s.wr k hM.st⟩
    have q0 : (w.alloc (.cells #[.int .i64 k, .int .u8 cl] 50)).cell? ⟨w.heap.size, 0, none⟩ = some (.int .i64 k) := by unfold World.cell?; rw [eB]; rfl
    have HM : Hid _ := hM
    have HE : Hid _ := eB
    have HTB : Hid _ := tB
    clear hM eB tB
    have ei : (if false = true then s.wr else blameV k s.wr) = blameV k s.wr := by simp
    rw [ei]
    go_enter Try.func43, Try.ntmps43
    go_wp2_with fail
    refine hmay.out.mono ?_
    rintro e w1 ⟨rfl, rfl⟩
    clear hmay
    go_wp2_with fail
    refine hbl.out.mono ?_
    rintro e w2 ⟨rfl, p1, p2⟩
    clear hbl
    have hne : w.heap.size ∉ [b] := by simp; omega
    have hE2 : w2.heap[w.heap.size]? = some (.cells #[.int .i64 k, .int .u8 cl] 50 (0, 0)) := (p2.block w.heap.size (lt_of_heap HE.out) hne).trans HE.out
    have hM2 : MAt B l w2 b vo vi ⟨s.op, blameV k s.wr⟩ xs := ⟨p1, ownsRow_touch HM.out.op p2 (fun g hg hs => by simp at hs; subst hs; exact HM.out.nb hg), ownsRow_touch HM.out.inn p2 (fun g hg hs => by simp at hs; subst hs; exact HM.out.ni hg)⟩
    have hp := HP.out w2.drew (blameV k s.wr) (((HTB.out.mono (by simp)).trans p2 (fun x hx => .inl hx)).drew) hE2 (hM2.keep0 ((Touch.refl _ _).drew))
    have q0' : w2.cell? ⟨w.heap.size, 0, none⟩ = some (.int .i64 k) := by unfold World.cell?; rw [hE2]; rfl
    have q1 : w2.cell? ⟨w.heap.size, 1, none⟩ = some (.int .u8 cl) := by unfold World.cell?; rw [hE2]; rfl
    clear HP hM2 hE2 p1 p2
    go_wp2_with fail
    go_region_held3 (fun w' => w'.cell? ⟨w.heap.size, 0, none⟩ = some (.int .i64 k) ∧ w'.cell? ⟨w.heap.size, 1, none⟩ = some (.int .u8 cl)) (first | exact ⟨q0', q1⟩ | exact ⟨r0, r1⟩) (first | (go_at_call 55; refine hp.out.mono ?_; rintro e w4 ⟨rfl, r2, r0, r1⟩))
    go_wp2
    go_end0
    exact r2

end Go.Proofs.Ytonjbldnhbbdjaa

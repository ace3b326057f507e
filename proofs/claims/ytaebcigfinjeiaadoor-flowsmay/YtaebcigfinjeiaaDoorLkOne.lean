/-
  one OF THE STATEMENTS ON package locks, BY ITS CONTRACT.
-/
import Derived.Test.YtaebcigfinjeiaaDoorLkLaws
namespace Go.Proofs.YtaebcigfinjeiaaDoor
set_option linter.unusedVariables false
set_option linter.unusedSimpArgs false
open Go.RowKit
attribute [local go_sem] Oper.semAt_some

/-- A call in a block of its own. -/
structure BoxC (W : World) (p : Nat) (o a v : Int) : Prop where
  st : W.heap[p]? = some (.cells #[.int .u8 o, .int .i64 a, .int .u64 v] 36 (0, 0))
theorem BoxC.touch {W W' : World} {p : Nat} {o a v : Int} {S : List Nat} (h : BoxC W p o a v) (t : Touch W W' S) (hS : p ∉ S) : BoxC W' p o a v := ⟨(t.block p (lt_of_heap h.st) hS).trans h.st⟩
theorem BoxC.cells {W : World} {p : Nat} {o a v : Int} (h : BoxC W p o a v) : W.cell? ⟨p, 0, none⟩ = some (.int .u8 o) ∧ W.cell? ⟨p, 1, none⟩ = some (.int .i64 a) ∧ W.cell? ⟨p, 2, none⟩ = some (.int .u64 v) :=
  ⟨by unfold World.cell?; rw [h.st]; rfl, by unfold World.cell?; rw [h.st]; rfl, by unfold World.cell?; rw [h.st]; rfl⟩
theorem BoxC.fr {W : World} {p : Nat} {o a v : Int} (h : BoxC W p o a v) (j : Nat) : W.frozen? ⟨p, j, none⟩ = false := by unfold World.frozen?; rw [h.st]; simp
theorem BoxC.new (w : World) (o a v : Int) : BoxC (w.alloc (.cells #[.int .u8 o, .int .i64 a, .int .u64 v] 36)) w.heap.size o a v := ⟨heap_alloc_new w _⟩
theorem BoxC.set0 {W : World} {p : Nat} {o a v : Int} (h : BoxC W p o a v) (x : Int) : BoxC (W.setCell ⟨p, 0, none⟩ (.int .u8 x)) p x a v := ⟨heap_setCell_same _ _ _ _ _ _ h.st⟩
theorem BoxC.set1 {W : World} {p : Nat} {o a v : Int} (h : BoxC W p o a v) (x : Int) : BoxC (W.setCell ⟨p, 1, none⟩ (.int .i64 x)) p o x v := ⟨heap_setCell_same _ _ _ _ _ _ h.st⟩
theorem BoxC.set2 {W : World} {p : Nat} {o a v : Int} (h : BoxC W p o a v) (x : Int) : BoxC (W.setCell ⟨p, 2, none⟩ (.int .u64 x)) p o a x := ⟨heap_setCell_same _ _ _ _ _ _ h.st⟩

theorem shI_zero (l : List InsD) : l.map (shI 0) = l := by
  have : ∀ i : InsD, shI 0 i = i := by
    intro i
    unfold shI
    split
    · rw [Int.add_zero]
    · rfl
  rw [show (shI 0) = id from funext this, List.map_id]
theorem blk_zero (b : List InsD) : blkL 0 b = bodyL b := shI_zero _
theorem may_zero {t u : Int} (t0 : 0 ≤ t) (t1 : t < 12) (u0 : 0 ≤ u) (u1 : u < 4) : mayP 0 t u = true := by unfold mayP; simp [t0, t1, u0, u1]
def oneL (j t u : Int) : List InsD := if j = 0 then bodyL (lockB t u) else if j = 1 then bodyL (unlockB t u) else if j = 2 then bodyL (downB t) else bodyL (upB t)
def OneP (w : World) (j t u : Int) (e : Ending) (w' : World) : Prop :=
  ∃ ao cap, e = .returned (.tuple #[.slice ao (oneL j t u).length cap, .agg #[.int .u8 (j + 1), .int .i64 u, .int .u64 0], .int .i64 0]) ∧ InsIn w' ao (oneL j t u).length cap (oneL j t u) ∧ Touch w w' []

theorem lk_ok {w : World} {L : List InsD} {er : Int} (he : er = 0) {e : Ending} {w' : World} (h : LkP w er L e w') : ∃ ao cap, e = .returned (.tuple #[.slice ao L.length cap, .int .i64 0]) ∧ InsIn w' ao L.length cap L ∧ Touch w w' [] := by
  rcases h with ⟨_, h⟩ | ⟨h, _⟩
  · exact h
  · exact absurd he h

theorem box_apart {W W' : World} {p : Nat} {ao : Option Addr} {cap : Nat} {L : List InsD} (hb : BoxC W p 0 0 0) (hin : InsIn W ao L.length cap L) (h0 : 0 < L.length) (h21 : L[0].op = 21) (t : Touch W W' [p]) : InsIn W' ao L.length cap L := by
  refine ⟨rfl, SRow.keepB hin.row t (fun _ g hg => ?_), hin.le, hin.max, hin.wf⟩
  obtain ⟨g', off, rfl, d0, _, _⟩ := ins_at hin.row (Touch.refl W []) (by simp) 0 h0
  simp only [Value.ownBlock, Option.some.injEq] at hg
  subst hg
  intro hm
  rw [List.mem_singleton] at hm
  subst hm
  rw [h21] at d0
  unfold World.cell? at d0
  rw [hb.st] at d0
  match off, d0 with
  | 0, d0 => simp at d0
  | 1, d0 => simp at d0
  | 2, d0 => simp at d0
  | n + 3, d0 => simp at d0
theorem one_first (j t u : Int) : 0 < (oneL j t u).length ∧ ∀ h : 0 < (oneL j t u).length, (oneL j t u)[0].op = 21 := by
  unfold oneL
  split
  · exact ⟨by simp [bodyL], fun _ => rfl⟩
  · split
    · exact ⟨by simp [bodyL], fun _ => rfl⟩
    · split
      · exact ⟨by simp [bodyL], fun _ => rfl⟩
      · exact ⟨by simp [bodyL], fun _ => rfl⟩

end Go.Proofs.YtaebcigfinjeiaaDoor

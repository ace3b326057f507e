/-
  Fork BY ITS CONTRACT.
-/
import Derived.Test.YtgnfonimnlejbaaMgrLaws
import Derived.Test.YtgnfonimnlejbaaMidMove
namespace Go.Proofs.Ytgnfonimnlejbaa
set_option linter.unusedVariables false
set_option linter.unusedSimpArgs false
open Go.RowKit

theorem Try.size_manager : (Try.prog.info? 59).map (·.size) = some 22 := by kernel_rfl

theorem judgeV_one (k : Int) : (judgeV k).oneCell' = true := by
  unfold judgeV
  split
  · rfl
  · split <;> rfl

abbrev mzero : Array Value := #[.nilIface, .bool false, .bool false, .int .i64 0, .int .i64 0, .int .i64 0, .bool false, .bool false, .int .i64 0, .int .i64 0, .int .i64 0, .bool false, .bool false, .int .i64 0, .int .i64 0, .int .i64 0, .bool false, .bool false, .int .i64 0, .int .i64 0, .int .i64 0, .int .i64 0]

/-- The world under a name, at a list of operations. -/
theorem wpList_name {P : Program} {ops : Array Oper} {l : List Oper} {Q : Exit → Act → World → Prop} {a : Act} {w : World} (h : ∀ W, W = w → wpList P ops Q l a W) : wpList P ops Q l a w := h w rfl

set_option maxRecDepth 100000 in
set_option maxHeartbeats 1600000 in
theorem mfork_any (b : Nat) (M : MD) (w : World) (h : MObj w b M) : Calls Try.prog 11 #[.pointer (some ⟨b, 0, none⟩)] w fun x w' => ∃ f, x = .returned (.pointer (some ⟨f, 0, none⟩)) ∧ w.heap.size ≤ f ∧ MObj w' f M ∧ Touch w w' [] := by
  obtain ⟨C, hC⟩ : ∃ C, C = mcells (judgeV M.k) M := ⟨_, rfl⟩
  have hsz : C.size = 22 := by rw [hC]; rfl
  have h1 : C.all (·.oneCell') = true := by
    rw [hC]
    have hj := judgeV_one M.k
    generalize judgeV M.k = J at hj ⊢
    simp only [mcells]
    rw [Array.all_eq_true_iff_forall_mem]
    intro v hv
    simp only [List.mem_toArray, List.mem_cons, List.not_mem_nil, or_false] at hv
    rcases hv with rfl | rfl | rfl | rfl | rfl | rfl | rfl | rfl | rfl | rfl | rfl | rfl | rfl | rfl | rfl | rfl | rfl | rfl | rfl | rfl | rfl | rfl
    · exact hj
    all_goals rfl
  have hst := h.st
  rw [← hC] at hst
  have hr : w.rangeAt b 0 C.toList := by
    have := World.rangeAt_of_block hst 0 C.size
    simpa using this
  have hi : (Try.prog.info? 59).map (·.size) = some C.toList.length := by rw [Try.size_manager]; simp [hsz]
  have hi2 : (Try.prog.info? 59).map (·.size) = some C.size := by rw [Try.size_manager, hsz]
  have hth : (w.alloc (.cells mzero 59)).there w.heap.size 0 C.size := there_of (heap_alloc_new w _) (by rw [hsz]; rfl)
  have hnew : ((w.alloc (.cells mzero 59)).setCells w.heap.size 0 C.toList).heap[w.heap.size]? = some (.cells C 59 (0, 0)) := by
    have := setCells_whole (heap_alloc_new w (.cells mzero 59)) (A := C.toList) (by simp [hsz])
    rwa [Array.toArray_toList] at this
  have hT : Touch w ((w.alloc (.cells mzero 59)).setCells w.heap.size 0 C.toList) [] := ((Touch.refl w []).alloc _).trans (setCells_touch _ _ _ _) (by intro x hx; simp at hx; omega)
  have HW : Hid (∀ W2, W2 = (w.alloc (.cells mzero 59)).setCells w.heap.size 0 C.toList → MObj W2 w.heap.size M ∧ Touch w W2 []) := fun W2 e => by
    subst e
    exact ⟨⟨by rw [hnew, hC]⟩, hT⟩
  have HI : Hid _ := hi
  have HI2 : Hid _ := hi2
  have HTH : Hid _ := hth
  have HR : Hid (w.rangeAt b 0 C.toList) := hr
  have H1 : Hid _ := h1
  clear hnew hT hC h hst hr h1 hsz hi hi2 hth
  go_enter Try.func11, Try.ntmps11
  go_wp2_with (first | (refine wpList_load_mid rfl 59 _ rfl b 0 rfl C.toList _ HR.out Try.underlying59 rfl HI.out ?_; rw [Array.toArray_toList]) | (refine wpList_store_mid rfl 59 _ _ rfl w.heap.size 0 C rfl rfl HTH.out HI2.out H1.out ?_; refine wpList_name fun W2 hW2 => ?_; obtain ⟨m2, t2⟩ := HW.out W2 hW2; clear hW2))
  go_ret
  exact ⟨_, rfl, Nat.le_refl _, m2, t2⟩

end Go.Proofs.Ytgnfonimnlejbaa

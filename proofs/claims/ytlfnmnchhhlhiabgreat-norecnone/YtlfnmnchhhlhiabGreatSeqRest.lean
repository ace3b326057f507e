/-
  package seqlock's other calls BY THEIR CONTRACTS: New, Snapshot, Count, Owner, Since, Fork; and those of the document's lock.
-/
import Derived.Test.YtlfnmnchhhlhiabGreatSeqCalls
namespace Go.Proofs.YtlfnmnchhhlhiabGreat.Sq
set_option linter.unusedVariables false
set_option linter.unusedSimpArgs false
open Go.RowKit

theorem snew_any (w : World) : Calls Tryz.prog 78 #[] w fun x w' => x = .returned (.pointer (some ⟨w.heap.size, 0, none⟩)) ∧ LObj w' w.heap.size 0 0 ∧ w' = w.alloc (.cells #[.int .u64 0, .int .i64 0] 134) := by
  go_enter Tryz.func78, Tryz.ntmps78
  go_wp2
  go_ret
  exact ⟨by simp, LObj.new w 0 0, rfl⟩

set_option maxRecDepth 100000 in
theorem snap1_ok (p : Nat) (c o x0 : Int) (hc : 0 ≤ c) (h2 : ¬ c % 2 = 1) (w : World) (hp : p < w.heap.size) (cp : w.cell? ⟨p, 0, none⟩ = some (.int .u64 x0)) (fp : w.frozen? ⟨p, 0, none⟩ = false) :
    Calls Tryz.prog 103 #[.agg #[.int .u64 c, .int .i64 o], .pointer (some ⟨p, 0, none⟩)] w fun e w' => e = .returned (.agg #[.int .u64 c, .int .i64 o]) ∧ Touch w w' [p] ∧ w'.cell? ⟨p, 0, none⟩ = some (.int .u64 c) := by
  go_enter Tryz.func103, Tryz.ntmps103
  go_wp2_with fail
  refine (sheld_any c o hc _).mono ?_
  rintro e w1 ⟨rfl, t1⟩
  obtain ⟨L1, L2, T⟩ := made_frame t1
  obtain ⟨a0, a1, _, _⟩ := L1.cells
  obtain ⟨b0, b1, f0, f1⟩ := L2.cells
  have cp1 := (T.cell (p := ⟨p, 0, none⟩) hp (by simp)).trans cp
  have fp1 := (T.frozen (p := ⟨p, 0, none⟩) hp (by simp)).trans fp
  have T1 : Touch w (w1.setCell ⟨p, 0, none⟩ (.int .u64 c)) [p] := (T.mono (by simp)).setCell (.inl (by simp)) _
  have TW : Touch w1 (w1.setCell ⟨p, 0, none⟩ (.int .u64 c)) [p] := (Touch.refl _ _).setCell (.inl (by simp)) _
  have M1 := L1.touch TW (by simp; omega)
  have M2 := L2.touch TW (by simp; omega)
  obtain ⟨m0, m1, _, _⟩ := M1.cells
  obtain ⟨n0, n1, e0, e1⟩ := M2.cells
  have hcp := World.cell?_setCell_same _ _ (.int .u64 c) cp1
  have L3 : Hid _ := M2.set c o
  have HT : Hid _ := (T1.setCell (p := ⟨w.heap.size + 1, 0, none⟩) (.inr (by simp)) (.int .u64 c)).setCell (p := ⟨w.heap.size + 1, 1, none⟩) (.inr (by simp)) (.int .i64 o)
  have HC : Hid (((((w1.setCell ⟨p, 0, none⟩ (.int .u64 c)).setCell ⟨w.heap.size + 1, 0, none⟩ (.int .u64 c)).setCell ⟨w.heap.size + 1, 1, none⟩ (.int .i64 o)).cell? ⟨p, 0, none⟩) = some (.int .u64 c)) := by
    show _ = _
    rw [World.cell?_setCell_other _ _ _ _ (by simp <;> omega), World.cell?_setCell_other _ _ _ _ (by simp <;> omega)]; exact hcp
  have HI : Hid _ := And.intro m0 (And.intro m1 (And.intro n0 (And.intro n1 (And.intro e0 e1))))
  clear t1 L1 L2 T cp M1 M2 TW T1 m0 m1 n0 n1 e0 e1
  go_wp2_with fail
  refine (sneed_yes _ _).mono ?_
  rintro e w2 ⟨rfl, rfl⟩
  go_wp2
  obtain ⟨z0, z1, _, _⟩ := L3.out.cells
  refine bodyPost_ret (v := .agg #[.int .u64 c, .int .i64 o]) ?_ rfl ⟨rfl, HT.out, HC.out⟩
  rw [results_cell rfl]
  go_simp

set_option maxRecDepth 100000 in
theorem snap1_busy (p : Nat) (c o : Int) (hc : 0 ≤ c) (h2 : c % 2 = 1) (w : World) :
    Calls Tryz.prog 103 #[.agg #[.int .u64 c, .int .i64 o], .pointer (some ⟨p, 0, none⟩)] w (Refuses 7 w) := by
  go_enter Tryz.func103, Tryz.ntmps103
  go_wp2_with fail
  refine (sheld_any c o hc _).mono ?_
  rintro e w1 ⟨rfl, t1⟩
  obtain ⟨L1, L2, T⟩ := made_frame t1
  clear t1 L1 L2
  go_wp2_with fail
  refine (sneed_no _ _).mono ?_
  rintro e w2 ⟨rfl, t2⟩
  exact ⟨rfl, rfl, T.trans t2 (by simp)⟩

/-- What Snapshot comes to. -/
def snapS (s : SLk) : Int × Int := if s.c % 2 = 1 then (0, 7) else (s.c, 0)

theorem snap_become (b : Nat) (s : SLk) (hc : 0 ≤ s.c) (w : World) (h : LObj w b s.c s.o) :
    Calls Tryz.prog 102 #[.pointer (some ⟨b, 0, none⟩), .func (.func 103) #[] #[.pointer (some ⟨w.heap.size, 0, none⟩)]] (w.alloc (.cells #[.int .u64 0] 32))
      fun x w' => x = .returned (.int .i64 (snapS s).2) ∧ LObj w' b s.c s.o ∧ Touch w w' [b] ∧ w'.cell? ⟨w.heap.size, 0, none⟩ = some (.int .u64 (snapS s).1) := by
  have hen := enter_of Tryz.func103 (by kernel_rfl) (by kernel_rfl)
  have hT : Touch w (w.alloc (.cells #[.int .u64 0] 32)) [] := (Touch.refl w []).alloc _
  have h1 := h.touch hT (by simp)
  have hbl := lt_of_heap h.st
  have c0 : (w.alloc (.cells #[.int .u64 0] 32)).cell? ⟨w.heap.size, 0, none⟩ = some (.int .u64 0) := by simp [go_sem]
  have f0 : (w.alloc (.cells #[.int .u64 0] 32)).frozen? ⟨w.heap.size, 0, none⟩ = false := by simp [go_sem]
  have hsz : (w.alloc (.cells #[.int .u64 0] 32)).heap.size = w.heap.size + 1 := by simp
  generalize w.alloc (.cells #[.int .u64 0] 32) = W at *
  have hlt : w.heap.size < W.heap.size := by omega
  unfold snapS
  by_cases h2 : s.c % 2 = 1
  · rw [if_pos h2]
    refine (become_no b 103 s.c s.o 7 #[.pointer (some ⟨w.heap.size, 0, none⟩)] W h1 hen (fun w1 t => ?_)).mono ?_
    · exact snap1_busy w.heap.size s.c s.o hc h2 w1
    · rintro x w' ⟨rfl, t⟩
      exact ⟨rfl, h1.touch t (by simp), (hT.trans t (by simp)).mono (by simp), (t.cell (p := ⟨w.heap.size, 0, none⟩) hlt (by simp)).trans c0⟩
  · rw [if_neg h2]
    refine (become_ok b 103 s.c s.o s.c s.o #[.pointer (some ⟨w.heap.size, 0, none⟩)] W h1 hen (fun W => w.heap.size < W.heap.size ∧ W.cell? ⟨w.heap.size, 0, none⟩ = some (.int .u64 s.c)) [w.heap.size] (by simp; omega) (by simp; omega) ?_ (fun w1 t => ?_)).mono ?_
    · intro S w1 w2 hS t ⟨q1, q2⟩
      refine ⟨Nat.lt_of_lt_of_le q1 t.size, (t.cell (p := ⟨w.heap.size, 0, none⟩) q1 ?_).trans q2⟩
      intro hm
      have := hS _ hm
      simp only at this
      omega
    · have hs := t.size
      refine (snap1_ok w.heap.size s.c s.o 0 hc h2 w1 (by omega) ((t.cell (p := ⟨w.heap.size, 0, none⟩) hlt (by simp)).trans c0) ((t.frozen (p := ⟨w.heap.size, 0, none⟩) hlt (by simp)).trans f0)).mono ?_
      rintro x w' ⟨rfl, t', c'⟩
      exact ⟨rfl, t', by have := t'.size; omega, c'⟩
    · rintro x w' ⟨rfl, l, t, _, c'⟩
      exact ⟨rfl, l, (hT.mono (by simp)).trans t (by simp), c'⟩

set_option maxRecDepth 100000 in
theorem snap_any (b : Nat) (s : SLk) (hc : 0 ≤ s.c) (w : World) (h : LObj w b s.c s.o) :
    Calls Tryz.prog 61 #[.pointer (some ⟨b, 0, none⟩)] w fun x w' => x = .returned (.tuple #[.int .u64 (snapS s).1, .int .i64 (snapS s).2]) ∧ LObj w' b s.c s.o ∧ Touch w w' [b] := by
  have hmf : ∀ (fn : Fn) (first cap : Array Value) (w : World), (Instr.makeFunc fn first cap).run Tryz.prog w = .ok (.func fn first cap) w := fun _ _ _ _ => rfl
  have hb := snap_become b s hc w h
  generalize snapS s = R at *
  go_enter Tryz.func61, Tryz.ntmps61
  go_wp2_with fail
  refine hb.mono ?_
  rintro x w1 ⟨rfl, l, t, c'⟩
  clear hb
  go_wp2
  go_ret2
  exact ⟨rfl, l, t⟩

set_option maxRecDepth 100000 in
theorem snap_nil (w : World) :
    Calls Tryz.prog 61 #[.pointer none] w fun x w' => x = .returned (.tuple #[.int .u64 0, .int .i64 1]) ∧ Touch w w' [] := by
  have hmf : ∀ (fn : Fn) (first cap : Array Value) (w : World), (Instr.makeFunc fn first cap).run Tryz.prog w = .ok (.func fn first cap) w := fun _ _ _ _ => rfl
  go_enter Tryz.func61, Tryz.ntmps61
  go_wp2_with fail
  refine (become_nil _ _ _).mono ?_
  rintro x w1 ⟨rfl, t⟩
  have c0 : w1.cell? ⟨w.heap.size, 0, none⟩ = some (.int .u64 0) := (t.cell (p := ⟨w.heap.size, 0, none⟩) (by simp) (by simp)).trans (by simp [go_sem])
  have HT : Hid _ := (((Touch.refl w []).alloc _).trans t (by simp))
  clear t
  go_wp2
  go_ret2
  exact ⟨rfl, HT.out⟩

theorem count_any (b : Nat) (c o : Int) (w : World) (h : LObj w b c o) : Calls Tryz.prog 76 #[.pointer (some ⟨b, 0, none⟩)] w fun x w' => x = .returned (.int .u64 c) ∧ w = w' := by
  obtain ⟨c0, c1, _, _⟩ := h.cells
  go_enter Tryz.func76, Tryz.ntmps76
  go_wp2
  go_ret
  exact ⟨rfl, rfl⟩
theorem count_nil (w : World) : Calls Tryz.prog 76 #[.pointer none] w fun x w' => x = .returned (.int .u64 0) ∧ w = w' := by
  go_enter Tryz.func76, Tryz.ntmps76
  go_wp2
  go_ret
  exact ⟨rfl, rfl⟩
theorem since_any (b : Nat) (c o at' : Int) (w : World) (h : LObj w b c o) : Calls Tryz.prog 175 #[.pointer (some ⟨b, 0, none⟩), .int .u64 at'] w fun x w' => x = .returned (.bool (c == at')) ∧ w = w' := by
  obtain ⟨c0, c1, _, _⟩ := h.cells
  go_enter Tryz.func175, Tryz.ntmps175
  go_wp2
  go_ret
  exact ⟨rfl, rfl⟩
theorem since_nil (at' : Int) (w : World) : Calls Tryz.prog 175 #[.pointer none, .int .u64 at'] w fun x w' => x = .returned (.bool false) ∧ w = w' := by
  go_enter Tryz.func175, Tryz.ntmps175
  go_wp2
  go_ret
  exact ⟨rfl, rfl⟩

/-- What Owner tells. -/
def ownS (s : SLk) : Int × Bool := if s.c % 2 = 1 then (s.o, true) else (0, false)

set_option maxRecDepth 100000 in
theorem owner_any (b : Nat) (s : SLk) (hc : 0 ≤ s.c) (w : World) (h : LObj w b s.c s.o) : Calls Tryz.prog 71 #[.pointer (some ⟨b, 0, none⟩)] w fun x w' => x = .returned (.tuple #[.int .i64 (ownS s).1, .bool (ownS s).2]) ∧ Touch w w' [] := by
  obtain ⟨c0, c1, _, _⟩ := h.cells
  unfold ownS
  by_cases h2 : s.c % 2 = 1
  · rw [if_pos h2]
    go_enter Tryz.func71, Tryz.ntmps71
    go_wp2_with fail
    refine (sheld_any s.c s.o hc _).mono ?_
    rintro x w1 ⟨rfl, t⟩
    obtain ⟨d0, d1, _, _⟩ := (h.touch t (by simp)).cells
    go_wp2
    go_ret2
    exact ⟨rfl, t⟩
  · rw [if_neg h2]
    go_enter Tryz.func71, Tryz.ntmps71
    go_wp2_with fail
    refine (sheld_any s.c s.o hc _).mono ?_
    rintro x w1 ⟨rfl, t⟩
    go_wp2
    go_ret2
    exact ⟨rfl, t⟩
theorem owner_nil (w : World) : Calls Tryz.prog 71 #[.pointer none] w fun x w' => x = .returned (.tuple #[.int .i64 0, .bool false]) ∧ w = w' := by
  go_enter Tryz.func71, Tryz.ntmps71
  go_wp2
  go_ret2
  exact ⟨rfl, rfl⟩

theorem fork_any (b : Nat) (c o : Int) (w : World) (h : LObj w b c o) : Calls Tryz.prog 33 #[.pointer (some ⟨b, 0, none⟩)] w fun x w' => ∃ f, w.heap.size ≤ f ∧ x = .returned (.pointer (some ⟨f, 0, none⟩)) ∧ LObj w' f c o ∧ Touch w w' [] := by
  obtain ⟨c0, c1, _, _⟩ := h.cells
  go_enter Tryz.func33, Tryz.ntmps33
  go_wp2
  go_ret
  exact ⟨w.heap.size, Nat.le_refl _, by simp, LObj.new w c o, (Touch.refl w []).alloc _⟩
theorem fork_nil (w : World) : Calls Tryz.prog 33 #[.pointer none] w fun x w' => x = .returned (.pointer none) ∧ w = w' := by
  go_enter Tryz.func33, Tryz.ntmps33
  go_wp2
  go_ret
  exact ⟨rfl, rfl⟩

end Go.Proofs.YtlfnmnchhhlhiabGreat.Sq

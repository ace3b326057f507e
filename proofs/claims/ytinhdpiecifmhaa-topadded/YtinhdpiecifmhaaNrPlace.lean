/-
  package norec: goOnAtPlace BY ITS CONTRACT.
-/
import Derived.Test.YtinhdpiecifmhaaNrCmp
import Derived.Test.YtinhdpiecifmhaaNrStore
import Derived.Test.YtinhdpiecifmhaaNrLook
import Derived.Test.YtinhdpiecifmhaaNrLock
import Derived.Test.YtinhdpiecifmhaaNrCommit
namespace Go.Proofs.Ytinhdpiecifmhaa.Nr
set_option linter.unusedVariables false
set_option linter.unusedSimpArgs false
open Go.RowKit Go.Maps

set_option maxRecDepth 100000 in
set_option maxHeartbeats 1600000 in
theorem place1_any {w : World} {X : ELoc} {E E' : Eng} {R : RpD} {k : Nat} {l : Loc} {A : Att} (h : At w X E k l A) (hp : A.place = 1)
    (hc : ∀ V, At V X E k l A → Calls Try.prog 55 #[ptr X.e, ptr l.a] V (RPost V X E' R)) :
    Calls Try.prog 35 #[ptr X.e, ptr l.a] w (RPost w X E' R) := by
  have M0 : Hid (Mid w X (w.alloc (rpC rp0)) X) := Mid.start h.h
  have C := HidC.mk (hc _ (h.fresh ((Touch.refl w []).alloc (rpC rp0))))
  have c5 := h.obj.cells.c5
  have hla := lt_of_heap h.obj.st
  clear h hc
  rw [hp] at c5
  go_enter Try.func35, Try.ntmps35
  go_wp2_with fail
  refine C.out.mono ?_
  rintro x w5 ⟨X5, rfl, h5, n5⟩
  have M : Hid (Mid w X w5 X5) := M0.out.next n5
  have HO : Hid _ := h5
  clear C h5 n5 M0 c5
  have HEND : Hid _ := M.out.end HO.out (R)
  clear M HO
  go_wp2_with (refine wpList_store_mid rfl 38 _ _ rfl w.heap.size 0 (rpL (R)).toArray rfl rfl HEND.out.1 Try.size_reply (rp_one _) ?_; refine wpList_name fun W3 hW3 => ?_; obtain ⟨g1, g2, g3⟩ := HEND.out.2 W3 hW3; clear hW3)
  refine bodyPost_ret (v := RpD.val' (R)) (Slot.load g1 _ rfl rfl) rfl ?_
  exact ⟨_, rfl, g2, g3⟩

set_option maxRecDepth 100000 in
set_option maxHeartbeats 1600000 in
theorem place2_any {w : World} {X : ELoc} {E E' : Eng} {R : RpD} {k : Nat} {l : Loc} {A : Att} (h : At w X E k l A) (hp : A.place = 2)
    (hc : ∀ V, At V X E k l A → Calls Try.prog 56 #[ptr X.e, ptr l.a] V (RPost V X E' R)) :
    Calls Try.prog 35 #[ptr X.e, ptr l.a] w (RPost w X E' R) := by
  have M0 : Hid (Mid w X (w.alloc (rpC rp0)) X) := Mid.start h.h
  have C := HidC.mk (hc _ (h.fresh ((Touch.refl w []).alloc (rpC rp0))))
  have c5 := h.obj.cells.c5
  have hla := lt_of_heap h.obj.st
  clear h hc
  rw [hp] at c5
  go_enter Try.func35, Try.ntmps35
  go_wp2_with fail
  refine C.out.mono ?_
  rintro x w5 ⟨X5, rfl, h5, n5⟩
  have M : Hid (Mid w X w5 X5) := M0.out.next n5
  have HO : Hid _ := h5
  clear C h5 n5 M0 c5
  have HEND : Hid _ := M.out.end HO.out (R)
  clear M HO
  go_wp2_with (refine wpList_store_mid rfl 38 _ _ rfl w.heap.size 0 (rpL (R)).toArray rfl rfl HEND.out.1 Try.size_reply (rp_one _) ?_; refine wpList_name fun W3 hW3 => ?_; obtain ⟨g1, g2, g3⟩ := HEND.out.2 W3 hW3; clear hW3)
  refine bodyPost_ret (v := RpD.val' (R)) (Slot.load g1 _ rfl rfl) rfl ?_
  exact ⟨_, rfl, g2, g3⟩

set_option maxRecDepth 100000 in
set_option maxHeartbeats 1600000 in
theorem place3_any {w : World} {X : ELoc} {E E' : Eng} {R : RpD} {k : Nat} {l : Loc} {A : Att} (h : At w X E k l A) (hp : A.place = 3)
    (hc : ∀ V, At V X E k l A → Calls Try.prog 57 #[ptr X.e, ptr l.a] V (RPost V X E' R)) :
    Calls Try.prog 35 #[ptr X.e, ptr l.a] w (RPost w X E' R) := by
  have M0 : Hid (Mid w X (w.alloc (rpC rp0)) X) := Mid.start h.h
  have C := HidC.mk (hc _ (h.fresh ((Touch.refl w []).alloc (rpC rp0))))
  have c5 := h.obj.cells.c5
  have hla := lt_of_heap h.obj.st
  clear h hc
  rw [hp] at c5
  go_enter Try.func35, Try.ntmps35
  go_wp2_with fail
  refine C.out.mono ?_
  rintro x w5 ⟨X5, rfl, h5, n5⟩
  have M : Hid (Mid w X w5 X5) := M0.out.next n5
  have HO : Hid _ := h5
  clear C h5 n5 M0 c5
  have HEND : Hid _ := M.out.end HO.out (R)
  clear M HO
  go_wp2_with (refine wpList_store_mid rfl 38 _ _ rfl w.heap.size 0 (rpL (R)).toArray rfl rfl HEND.out.1 Try.size_reply (rp_one _) ?_; refine wpList_name fun W3 hW3 => ?_; obtain ⟨g1, g2, g3⟩ := HEND.out.2 W3 hW3; clear hW3)
  refine bodyPost_ret (v := RpD.val' (R)) (Slot.load g1 _ rfl rfl) rfl ?_
  exact ⟨_, rfl, g2, g3⟩

set_option maxRecDepth 100000 in
set_option maxHeartbeats 1600000 in
theorem place4_any {w : World} {X : ELoc} {E E' : Eng} {R : RpD} {k : Nat} {l : Loc} {A : Att} (h : At w X E k l A) (hp : A.place = 4)
    (hc : ∀ V, At V X E k l A → Calls Try.prog 58 #[ptr X.e, ptr l.a] V (RPost V X E' R)) :
    Calls Try.prog 35 #[ptr X.e, ptr l.a] w (RPost w X E' R) := by
  have M0 : Hid (Mid w X (w.alloc (rpC rp0)) X) := Mid.start h.h
  have C := HidC.mk (hc _ (h.fresh ((Touch.refl w []).alloc (rpC rp0))))
  have c5 := h.obj.cells.c5
  have hla := lt_of_heap h.obj.st
  clear h hc
  rw [hp] at c5
  go_enter Try.func35, Try.ntmps35
  go_wp2_with fail
  refine C.out.mono ?_
  rintro x w5 ⟨X5, rfl, h5, n5⟩
  have M : Hid (Mid w X w5 X5) := M0.out.next n5
  have HO : Hid _ := h5
  clear C h5 n5 M0 c5
  have HEND : Hid _ := M.out.end HO.out (R)
  clear M HO
  go_wp2_with (refine wpList_store_mid rfl 38 _ _ rfl w.heap.size 0 (rpL (R)).toArray rfl rfl HEND.out.1 Try.size_reply (rp_one _) ?_; refine wpList_name fun W3 hW3 => ?_; obtain ⟨g1, g2, g3⟩ := HEND.out.2 W3 hW3; clear hW3)
  refine bodyPost_ret (v := RpD.val' (R)) (Slot.load g1 _ rfl rfl) rfl ?_
  exact ⟨_, rfl, g2, g3⟩

set_option maxRecDepth 100000 in
set_option maxHeartbeats 1600000 in
theorem place5_any {w : World} {X : ELoc} {E E' : Eng} {R : RpD} {k : Nat} {l : Loc} {A : Att} (h : At w X E k l A) (hp : A.place = 5)
    (hc : ∀ V, At V X E k l A → Calls Try.prog 59 #[ptr X.e, ptr l.a] V (RPost V X E' R)) :
    Calls Try.prog 35 #[ptr X.e, ptr l.a] w (RPost w X E' R) := by
  have M0 : Hid (Mid w X (w.alloc (rpC rp0)) X) := Mid.start h.h
  have C := HidC.mk (hc _ (h.fresh ((Touch.refl w []).alloc (rpC rp0))))
  have c5 := h.obj.cells.c5
  have hla := lt_of_heap h.obj.st
  clear h hc
  rw [hp] at c5
  go_enter Try.func35, Try.ntmps35
  go_wp2_with fail
  refine C.out.mono ?_
  rintro x w5 ⟨X5, rfl, h5, n5⟩
  have M : Hid (Mid w X w5 X5) := M0.out.next n5
  have HO : Hid _ := h5
  clear C h5 n5 M0 c5
  have HEND : Hid _ := M.out.end HO.out (R)
  clear M HO
  go_wp2_with (refine wpList_store_mid rfl 38 _ _ rfl w.heap.size 0 (rpL (R)).toArray rfl rfl HEND.out.1 Try.size_reply (rp_one _) ?_; refine wpList_name fun W3 hW3 => ?_; obtain ⟨g1, g2, g3⟩ := HEND.out.2 W3 hW3; clear hW3)
  refine bodyPost_ret (v := RpD.val' (R)) (Slot.load g1 _ rfl rfl) rfl ?_
  exact ⟨_, rfl, g2, g3⟩

set_option maxRecDepth 100000 in
set_option maxHeartbeats 1600000 in
theorem place6_any {w : World} {X : ELoc} {E E' : Eng} {R : RpD} {k : Nat} {l : Loc} {A : Att} (h : At w X E k l A) (hp : A.place = 6)
    (hc : ∀ V, At V X E k l A → Calls Try.prog 60 #[ptr X.e, ptr l.a] V (RPost V X E' R)) :
    Calls Try.prog 35 #[ptr X.e, ptr l.a] w (RPost w X E' R) := by
  have M0 : Hid (Mid w X (w.alloc (rpC rp0)) X) := Mid.start h.h
  have C := HidC.mk (hc _ (h.fresh ((Touch.refl w []).alloc (rpC rp0))))
  have c5 := h.obj.cells.c5
  have hla := lt_of_heap h.obj.st
  clear h hc
  rw [hp] at c5
  go_enter Try.func35, Try.ntmps35
  go_wp2_with fail
  refine C.out.mono ?_
  rintro x w5 ⟨X5, rfl, h5, n5⟩
  have M : Hid (Mid w X w5 X5) := M0.out.next n5
  have HO : Hid _ := h5
  clear C h5 n5 M0 c5
  have HEND : Hid _ := M.out.end HO.out (R)
  clear M HO
  go_wp2_with (refine wpList_store_mid rfl 38 _ _ rfl w.heap.size 0 (rpL (R)).toArray rfl rfl HEND.out.1 Try.size_reply (rp_one _) ?_; refine wpList_name fun W3 hW3 => ?_; obtain ⟨g1, g2, g3⟩ := HEND.out.2 W3 hW3; clear hW3)
  refine bodyPost_ret (v := RpD.val' (R)) (Slot.load g1 _ rfl rfl) rfl ?_
  exact ⟨_, rfl, g2, g3⟩

set_option maxRecDepth 100000 in
set_option maxHeartbeats 1600000 in
theorem place7_any {w : World} {X : ELoc} {E E' : Eng} {R : RpD} {k : Nat} {l : Loc} {A : Att} (h : At w X E k l A) (hp : A.place = 7)
    (hc : ∀ V, At V X E k l A → Calls Try.prog 61 #[ptr X.e, ptr l.a] V (RPost V X E' R)) :
    Calls Try.prog 35 #[ptr X.e, ptr l.a] w (RPost w X E' R) := by
  have M0 : Hid (Mid w X (w.alloc (rpC rp0)) X) := Mid.start h.h
  have C := HidC.mk (hc _ (h.fresh ((Touch.refl w []).alloc (rpC rp0))))
  have c5 := h.obj.cells.c5
  have hla := lt_of_heap h.obj.st
  clear h hc
  rw [hp] at c5
  go_enter Try.func35, Try.ntmps35
  go_wp2_with fail
  refine C.out.mono ?_
  rintro x w5 ⟨X5, rfl, h5, n5⟩
  have M : Hid (Mid w X w5 X5) := M0.out.next n5
  have HO : Hid _ := h5
  clear C h5 n5 M0 c5
  have HEND : Hid _ := M.out.end HO.out (R)
  clear M HO
  go_wp2_with (refine wpList_store_mid rfl 38 _ _ rfl w.heap.size 0 (rpL (R)).toArray rfl rfl HEND.out.1 Try.size_reply (rp_one _) ?_; refine wpList_name fun W3 hW3 => ?_; obtain ⟨g1, g2, g3⟩ := HEND.out.2 W3 hW3; clear hW3)
  refine bodyPost_ret (v := RpD.val' (R)) (Slot.load g1 _ rfl rfl) rfl ?_
  exact ⟨_, rfl, g2, g3⟩

set_option maxRecDepth 100000 in
set_option maxHeartbeats 1600000 in
theorem place8_any {w : World} {X : ELoc} {E E' : Eng} {R : RpD} {k : Nat} {l : Loc} {A : Att} (h : At w X E k l A) (hp : A.place = 8)
    (hc : ∀ V, At V X E k l A → Calls Try.prog 62 #[ptr X.e, ptr l.a] V (RPost V X E' R)) :
    Calls Try.prog 35 #[ptr X.e, ptr l.a] w (RPost w X E' R) := by
  have M0 : Hid (Mid w X (w.alloc (rpC rp0)) X) := Mid.start h.h
  have C := HidC.mk (hc _ (h.fresh ((Touch.refl w []).alloc (rpC rp0))))
  have c5 := h.obj.cells.c5
  have hla := lt_of_heap h.obj.st
  clear h hc
  rw [hp] at c5
  go_enter Try.func35, Try.ntmps35
  go_wp2_with fail
  refine C.out.mono ?_
  rintro x w5 ⟨X5, rfl, h5, n5⟩
  have M : Hid (Mid w X w5 X5) := M0.out.next n5
  have HO : Hid _ := h5
  clear C h5 n5 M0 c5
  have HEND : Hid _ := M.out.end HO.out (R)
  clear M HO
  go_wp2_with (refine wpList_store_mid rfl 38 _ _ rfl w.heap.size 0 (rpL (R)).toArray rfl rfl HEND.out.1 Try.size_reply (rp_one _) ?_; refine wpList_name fun W3 hW3 => ?_; obtain ⟨g1, g2, g3⟩ := HEND.out.2 W3 hW3; clear hW3)
  refine bodyPost_ret (v := RpD.val' (R)) (Slot.load g1 _ rfl rfl) rfl ?_
  exact ⟨_, rfl, g2, g3⟩

set_option maxRecDepth 100000 in
set_option maxHeartbeats 1600000 in
theorem place9_any {w : World} {X : ELoc} {E E' : Eng} {R : RpD} {k : Nat} {l : Loc} {A : Att} (h : At w X E k l A) (hp : ¬ (1 ≤ A.place ∧ A.place ≤ 8))
    (hc : ∀ V, At V X E k l A → Calls Try.prog 63 #[ptr X.e, ptr l.a] V (RPost V X E' R)) :
    Calls Try.prog 35 #[ptr X.e, ptr l.a] w (RPost w X E' R) := by
  have M0 : Hid (Mid w X (w.alloc (rpC rp0)) X) := Mid.start h.h
  have C := HidC.mk (hc _ (h.fresh ((Touch.refl w []).alloc (rpC rp0))))
  have c5 := h.obj.cells.c5
  have hla := lt_of_heap h.obj.st
  clear h hc
  obtain ⟨q1, q2, q3, q4, q5, q6, q7, q8⟩ : ((A.place == 1) = false) ∧ ((A.place == 2) = false) ∧ ((A.place == 3) = false) ∧ ((A.place == 4) = false) ∧ ((A.place == 5) = false) ∧ ((A.place == 6) = false) ∧ ((A.place == 7) = false) ∧ ((A.place == 8) = false) := by simp; omega
  go_enter Try.func35, Try.ntmps35
  go_wp2_with fail
  refine C.out.mono ?_
  rintro x w5 ⟨X5, rfl, h5, n5⟩
  have M : Hid (Mid w X w5 X5) := M0.out.next n5
  have HO : Hid _ := h5
  clear C h5 n5 M0 c5
  have HEND : Hid _ := M.out.end HO.out (R)
  clear M HO
  go_wp2_with (refine wpList_store_mid rfl 38 _ _ rfl w.heap.size 0 (rpL (R)).toArray rfl rfl HEND.out.1 Try.size_reply (rp_one _) ?_; refine wpList_name fun W3 hW3 => ?_; obtain ⟨g1, g2, g3⟩ := HEND.out.2 W3 hW3; clear hW3)
  refine bodyPost_ret (v := RpD.val' (R)) (Slot.load g1 _ rfl rfl) rfl ?_
  exact ⟨_, rfl, g2, g3⟩

end Go.Proofs.Ytinhdpiecifmhaa.Nr

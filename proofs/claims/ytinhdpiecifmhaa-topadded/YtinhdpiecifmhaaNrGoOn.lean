/-
  package norec: goOn BY ITS CONTRACT.
-/
import Derived.Test.YtinhdpiecifmhaaNrPlace
namespace Go.Proofs.Ytinhdpiecifmhaa.Nr
set_option linter.unusedVariables false
set_option linter.unusedSimpArgs false
open Go.RowKit Go.Maps

set_option maxRecDepth 100000 in
set_option maxHeartbeats 1600000 in
theorem goOn6_any {w : World} {X : ELoc} {E E' : Eng} {R : RpD} {k : Nat} {l : Loc} {A : Att} (h : At w X E k l A) (hp : A.ask.k = 6)
    (hc : ∀ V, At V X E k l A → Calls Try.prog 35 #[ptr X.e, ptr l.a] V (RPost V X E' R)) :
    Calls Try.prog 18 #[ptr X.e, ptr l.a] w (RPost w X E' R) := by
  have hmf : ∀ (fn : Fn) (first cap : Array Value) (w : World), (Instr.makeFunc fn first cap).run Try.prog w = .ok (.func fn first cap) w := fun _ _ _ _ => rfl
  have M0 : Hid (Mid w X (w.alloc (rpC rp0)) X) := Mid.start h.h
  have C := HidC.mk (hc _ (h.fresh ((Touch.refl w []).alloc (rpC rp0))))
  have c2 := h.obj.cells.c2
  have c11 := h.obj.cells.c11
  have hla := lt_of_heap h.obj.st
  clear h hc
  rw [hp] at c2
  go_enter Try.func18, Try.ntmps18
  go_wp2_with fail
  refine C.out.mono ?_
  rintro x w5 ⟨X5, rfl, h5, n5⟩
  have M : Hid (Mid w X w5 X5) := M0.out.next n5
  have HO : Hid _ := h5
  clear C h5 n5 M0 c2 c11
  have HEND : Hid _ := M.out.end HO.out (R)
  clear M HO
  go_wp2_with (refine wpList_store_mid rfl 38 _ _ rfl w.heap.size 0 (rpL (R)).toArray rfl rfl HEND.out.1 Try.size_reply (rp_one _) ?_; refine wpList_name fun W3 hW3 => ?_; obtain ⟨g1, g2, g3⟩ := HEND.out.2 W3 hW3; clear hW3)
  refine bodyPost_ret (v := RpD.val' (R)) (Slot.load g1 _ rfl rfl) rfl ?_
  exact ⟨_, rfl, g2, g3⟩

set_option maxRecDepth 100000 in
set_option maxHeartbeats 1600000 in
theorem goOn2_any {w : World} {X : ELoc} {E E' : Eng} {R : RpD} {k : Nat} {l : Loc} {A : Att} (h : At w X E k l A) (hp : A.ask.k = 2)
    (hc : ∀ V, At V X E k l A → Calls Try.prog 36 #[ptr X.e, ptr l.a] V (RPost V X E' R)) :
    Calls Try.prog 18 #[ptr X.e, ptr l.a] w (RPost w X E' R) := by
  have hmf : ∀ (fn : Fn) (first cap : Array Value) (w : World), (Instr.makeFunc fn first cap).run Try.prog w = .ok (.func fn first cap) w := fun _ _ _ _ => rfl
  have M0 : Hid (Mid w X (w.alloc (rpC rp0)) X) := Mid.start h.h
  have C := HidC.mk (hc _ (h.fresh ((Touch.refl w []).alloc (rpC rp0))))
  have c2 := h.obj.cells.c2
  have c11 := h.obj.cells.c11
  have hla := lt_of_heap h.obj.st
  clear h hc
  rw [hp] at c2
  go_enter Try.func18, Try.ntmps18
  go_wp2_with fail
  refine C.out.mono ?_
  rintro x w5 ⟨X5, rfl, h5, n5⟩
  have M : Hid (Mid w X w5 X5) := M0.out.next n5
  have HO : Hid _ := h5
  clear C h5 n5 M0 c2 c11
  have HEND : Hid _ := M.out.end HO.out (R)
  clear M HO
  go_wp2_with (refine wpList_store_mid rfl 38 _ _ rfl w.heap.size 0 (rpL (R)).toArray rfl rfl HEND.out.1 Try.size_reply (rp_one _) ?_; refine wpList_name fun W3 hW3 => ?_; obtain ⟨g1, g2, g3⟩ := HEND.out.2 W3 hW3; clear hW3)
  refine bodyPost_ret (v := RpD.val' (R)) (Slot.load g1 _ rfl rfl) rfl ?_
  exact ⟨_, rfl, g2, g3⟩

set_option maxRecDepth 100000 in
set_option maxHeartbeats 1600000 in
theorem goOn3_any {w : World} {X : ELoc} {E E' : Eng} {R : RpD} {k : Nat} {l : Loc} {A : Att} (h : At w X E k l A) (hp : A.ask.k = 3)
    (hc : ∀ V, At V X E k l A → Calls Try.prog 37 #[ptr X.e, ptr l.a, .int .u8 4, .func (.func 38) #[ptr l.ob] #[]] V (RPost V X E' R)) :
    Calls Try.prog 18 #[ptr X.e, ptr l.a] w (RPost w X E' R) := by
  have hmf : ∀ (fn : Fn) (first cap : Array Value) (w : World), (Instr.makeFunc fn first cap).run Try.prog w = .ok (.func fn first cap) w := fun _ _ _ _ => rfl
  have M0 : Hid (Mid w X (w.alloc (rpC rp0)) X) := Mid.start h.h
  have C := HidC.mk (hc _ (h.fresh ((Touch.refl w []).alloc (rpC rp0))))
  have c2 := h.obj.cells.c2
  have c11 := h.obj.cells.c11
  have hla := lt_of_heap h.obj.st
  clear h hc
  rw [hp] at c2
  go_enter Try.func18, Try.ntmps18
  go_wp2_with fail
  refine C.out.mono ?_
  rintro x w5 ⟨X5, rfl, h5, n5⟩
  have M : Hid (Mid w X w5 X5) := M0.out.next n5
  have HO : Hid _ := h5
  clear C h5 n5 M0 c2 c11
  have HEND : Hid _ := M.out.end HO.out (R)
  clear M HO
  go_wp2_with (refine wpList_store_mid rfl 38 _ _ rfl w.heap.size 0 (rpL (R)).toArray rfl rfl HEND.out.1 Try.size_reply (rp_one _) ?_; refine wpList_name fun W3 hW3 => ?_; obtain ⟨g1, g2, g3⟩ := HEND.out.2 W3 hW3; clear hW3)
  refine bodyPost_ret (v := RpD.val' (R)) (Slot.load g1 _ rfl rfl) rfl ?_
  exact ⟨_, rfl, g2, g3⟩

set_option maxRecDepth 100000 in
set_option maxHeartbeats 1600000 in
theorem goOn4_any {w : World} {X : ELoc} {E E' : Eng} {R : RpD} {k : Nat} {l : Loc} {A : Att} (h : At w X E k l A) (hp : A.ask.k = 4)
    (hc : ∀ V, At V X E k l A → Calls Try.prog 37 #[ptr X.e, ptr l.a, .int .u8 5, .func (.func 39) #[ptr l.ob] #[]] V (RPost V X E' R)) :
    Calls Try.prog 18 #[ptr X.e, ptr l.a] w (RPost w X E' R) := by
  have hmf : ∀ (fn : Fn) (first cap : Array Value) (w : World), (Instr.makeFunc fn first cap).run Try.prog w = .ok (.func fn first cap) w := fun _ _ _ _ => rfl
  have M0 : Hid (Mid w X (w.alloc (rpC rp0)) X) := Mid.start h.h
  have C := HidC.mk (hc _ (h.fresh ((Touch.refl w []).alloc (rpC rp0))))
  have c2 := h.obj.cells.c2
  have c11 := h.obj.cells.c11
  have hla := lt_of_heap h.obj.st
  clear h hc
  rw [hp] at c2
  go_enter Try.func18, Try.ntmps18
  go_wp2_with fail
  refine C.out.mono ?_
  rintro x w5 ⟨X5, rfl, h5, n5⟩
  have M : Hid (Mid w X w5 X5) := M0.out.next n5
  have HO : Hid _ := h5
  clear C h5 n5 M0 c2 c11
  have HEND : Hid _ := M.out.end HO.out (R)
  clear M HO
  go_wp2_with (refine wpList_store_mid rfl 38 _ _ rfl w.heap.size 0 (rpL (R)).toArray rfl rfl HEND.out.1 Try.size_reply (rp_one _) ?_; refine wpList_name fun W3 hW3 => ?_; obtain ⟨g1, g2, g3⟩ := HEND.out.2 W3 hW3; clear hW3)
  refine bodyPost_ret (v := RpD.val' (R)) (Slot.load g1 _ rfl rfl) rfl ?_
  exact ⟨_, rfl, g2, g3⟩

set_option maxRecDepth 100000 in
set_option maxHeartbeats 1600000 in
theorem goOn5_any {w : World} {X : ELoc} {E E' : Eng} {R : RpD} {k : Nat} {l : Loc} {A : Att} (h : At w X E k l A) (hp : A.ask.k = 5)
    (hc : ∀ V, At V X E k l A → Calls Try.prog 37 #[ptr X.e, ptr l.a, .int .u8 6, .func (.func 40) #[ptr l.ob] #[]] V (RPost V X E' R)) :
    Calls Try.prog 18 #[ptr X.e, ptr l.a] w (RPost w X E' R) := by
  have hmf : ∀ (fn : Fn) (first cap : Array Value) (w : World), (Instr.makeFunc fn first cap).run Try.prog w = .ok (.func fn first cap) w := fun _ _ _ _ => rfl
  have M0 : Hid (Mid w X (w.alloc (rpC rp0)) X) := Mid.start h.h
  have C := HidC.mk (hc _ (h.fresh ((Touch.refl w []).alloc (rpC rp0))))
  have c2 := h.obj.cells.c2
  have c11 := h.obj.cells.c11
  have hla := lt_of_heap h.obj.st
  clear h hc
  rw [hp] at c2
  go_enter Try.func18, Try.ntmps18
  go_wp2_with fail
  refine C.out.mono ?_
  rintro x w5 ⟨X5, rfl, h5, n5⟩
  have M : Hid (Mid w X w5 X5) := M0.out.next n5
  have HO : Hid _ := h5
  clear C h5 n5 M0 c2 c11
  have HEND : Hid _ := M.out.end HO.out (R)
  clear M HO
  go_wp2_with (refine wpList_store_mid rfl 38 _ _ rfl w.heap.size 0 (rpL (R)).toArray rfl rfl HEND.out.1 Try.size_reply (rp_one _) ?_; refine wpList_name fun W3 hW3 => ?_; obtain ⟨g1, g2, g3⟩ := HEND.out.2 W3 hW3; clear hW3)
  refine bodyPost_ret (v := RpD.val' (R)) (Slot.load g1 _ rfl rfl) rfl ?_
  exact ⟨_, rfl, g2, g3⟩

set_option maxRecDepth 100000 in
set_option maxHeartbeats 1600000 in
theorem goOn7_any {w : World} {X : ELoc} {E E' : Eng} {R : RpD} {k : Nat} {l : Loc} {A : Att} (h : At w X E k l A) (hp : A.ask.k = 7)
    (hc : ∀ V, At V X E k l A → Calls Try.prog 41 #[ptr X.e, ptr l.a, .int .u8 4] V (RPost V X E' R)) :
    Calls Try.prog 18 #[ptr X.e, ptr l.a] w (RPost w X E' R) := by
  have hmf : ∀ (fn : Fn) (first cap : Array Value) (w : World), (Instr.makeFunc fn first cap).run Try.prog w = .ok (.func fn first cap) w := fun _ _ _ _ => rfl
  have M0 : Hid (Mid w X (w.alloc (rpC rp0)) X) := Mid.start h.h
  have C := HidC.mk (hc _ (h.fresh ((Touch.refl w []).alloc (rpC rp0))))
  have c2 := h.obj.cells.c2
  have c11 := h.obj.cells.c11
  have hla := lt_of_heap h.obj.st
  clear h hc
  rw [hp] at c2
  go_enter Try.func18, Try.ntmps18
  go_wp2_with fail
  refine C.out.mono ?_
  rintro x w5 ⟨X5, rfl, h5, n5⟩
  have M : Hid (Mid w X w5 X5) := M0.out.next n5
  have HO : Hid _ := h5
  clear C h5 n5 M0 c2 c11
  have HEND : Hid _ := M.out.end HO.out (R)
  clear M HO
  go_wp2_with (refine wpList_store_mid rfl 38 _ _ rfl w.heap.size 0 (rpL (R)).toArray rfl rfl HEND.out.1 Try.size_reply (rp_one _) ?_; refine wpList_name fun W3 hW3 => ?_; obtain ⟨g1, g2, g3⟩ := HEND.out.2 W3 hW3; clear hW3)
  refine bodyPost_ret (v := RpD.val' (R)) (Slot.load g1 _ rfl rfl) rfl ?_
  exact ⟨_, rfl, g2, g3⟩


set_option maxRecDepth 100000 in
set_option maxHeartbeats 3200000 in
theorem goOn1_any {w : World} {X : ELoc} {E E' : Eng} {R : RpD} {k : Nat} {l : Loc} {A : Att} (h : At w X E k l A) (hp : A.ask.k = 1) (ht : -9223372036854775808 ≤ A.ask.t ∧ A.ask.t ≤ 9223372036854775807) (hev : E.ev.length < 100000)
    (hs : ∀ v, getF A.Fs A.ask.t = some v → E' = readE E k A v ∧ R = { rp0 with done := true, val := v })
    (hc : getF A.Fs A.ask.t = none → ∀ V, At V X E k l A → Calls Try.prog 35 #[ptr X.e, ptr l.a] V (RPost V X E' R)) :
    Calls Try.prog 18 #[ptr X.e, ptr l.a] w (RPost w X E' R) := by
  have h1 := h.fresh ((Touch.refl w []).alloc (rpC rp0))
  have M0 : Hid (Mid w X (w.alloc (rpC rp0)) X) := Mid.start h.h
  have c2 := h.obj.cells.c2
  have hla := lt_of_heap h.obj.st
  have GT := fun (V : World) (hV : At V X E k l A) => HidC.mk (get_any hV.obj.lg A.ask.t ht)
  have HC : Hid (getF A.Fs A.ask.t = none → ∀ V, At V X E k l A → Calls Try.prog 35 #[ptr X.e, ptr l.a] V (RPost V X E' R)) := hc
  have HS : Hid (∀ v, getF A.Fs A.ask.t = some v → E' = readE E k A v ∧ R = { rp0 with done := true, val := v }) := hs
  rw [hp] at c2
  clear h hc hs
  go_enter Try.func18, Try.ntmps18
  go_wp2_with fail
  refine wp_name fun W hW => ?_
  have hW' : w.alloc (rpC rp0) = W := hW.symm
  rw [hW'] at h1 M0
  clear hW hW' c2
  obtain ⟨_, _, _, c3, _, _, _, _, _, _, _, c11, _⟩ := h1.obj.cells
  have h1d := h1.fresh ((Touch.refl W []).drew)
  have M1 : Hid (Mid w X W.drew X) := M0.out.fresh ((Touch.refl W []).drew)
  clear h1 M0
  go_region_held3 (fun w' => w'.cell? ⟨l.a, 3, none⟩ = some (.int .i64 A.ask.t) ∧ w'.cell? ⟨l.a, 11, none⟩ = some (ptr l.ob)) ((first | exact ⟨c3, c11⟩ | exact ⟨k3, k11⟩)) ((go_at_call 33; refine (GT _ h1d).out.mono ?_; rintro e w3 ⟨rfl, t3⟩; have a3 := h1d.fresh t3; obtain ⟨_, _, _, k3, _, _, _, _, _, _, _, k11, _⟩ := a3.obj.cells))
  rename_i hHeld
  have M3 : Hid (Mid w X w3 X) := M1.out.fresh t3
  clear hHeld GT M1 h1d t3 c3 c11 k3 k11
  cases hgf : getF A.Fs A.ask.t with
  | none =>
    have C := HidC.mk (HC.out hgf w3 a3)
    clear HC HS a3 hgf
    simp only [Option.getD_none, Option.isSome_none]
    go_wp2_with fail
    refine C.out.mono ?_
    rintro x w5 ⟨X5, rfl, h5, n5⟩
    have M : Hid (Mid w X w5 X5) := M3.out.next n5
    have HO : Hid _ := h5
    clear C h5 n5 M3
    have HEND : Hid _ := M.out.end HO.out (R)
    clear M HO
    go_wp2_with (refine wpList_store_mid rfl 38 _ _ rfl w.heap.size 0 (rpL (R)).toArray rfl rfl HEND.out.1 Try.size_reply (rp_one _) ?_; refine wpList_name fun W3 hW3 => ?_; obtain ⟨g1, g2, g3⟩ := HEND.out.2 W3 hW3; clear hW3)
    refine bodyPost_ret (v := RpD.val' (R)) (Slot.load g1 _ rfl rfl) rfl ?_
    exact ⟨_, rfl, g2, g3⟩
  | some v =>
    obtain ⟨e1, e2⟩ := HS.out v hgf
    subst e1 e2
    have HR := HidC.mk (hasRead_any a3 v hev)
    clear HC HS a3 hgf
    simp only [Option.getD_some, Option.isSome_some]
    go_wp2_with fail
    refine HR.out.mono ?_
    rintro x w5 ⟨X5, rfl, h5, n5⟩
    have M : Hid (Mid w X w5 X5) := M3.out.next n5
    have HO : Hid _ := h5
    clear HR h5 n5 M3
    have HEND : Hid _ := M.out.end HO.out ({ rp0 with done := true, val := v })
    clear M HO
    go_wp2_with (refine wpList_store_mid rfl 38 _ _ rfl w.heap.size 0 (rpL ({ rp0 with done := true, val := v })).toArray rfl rfl HEND.out.1 Try.size_reply (rp_one _) ?_; refine wpList_name fun W3 hW3 => ?_; obtain ⟨g1, g2, g3⟩ := HEND.out.2 W3 hW3; clear hW3)
    refine bodyPost_ret (v := RpD.val' ({ rp0 with done := true, val := v })) (Slot.load g1 _ rfl rfl) rfl ?_
    exact ⟨_, rfl, g2, g3⟩

end Go.Proofs.Ytinhdpiecifmhaa.Nr

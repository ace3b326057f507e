/-
  package norec: try, takeLock, unlock BY THEIR CONTRACTS.
-/
import Derived.Test.YtinhdpiecifmhaaNrSteps
namespace Go.Proofs.Ytinhdpiecifmhaa.Nr
set_option linter.unusedVariables false
set_option linter.unusedSimpArgs false
open Go.RowKit Go.Maps

def tryE (E : Eng) (k : Nat) (A : Att) : RpD × Eng :=
  if lenF A.Fs = 0 then ({ rp0 with done := true, ended := true }, commitE (tellE E A 7 0 0) k A)
  else (rp0, (tellE E A 7 0 0).put k (some (movedA A 4)))

set_option maxRecDepth 100000 in
set_option maxHeartbeats 3200000 in
theorem try_any {w : World} {X : ELoc} {E : Eng} {k : Nat} {l : Loc} {A : Att} (h : At w X E k l A) (hk : k < 4) (hthr : A.thr = k) (hev : E.ev.length < 90000) :
    Calls Try.prog 57 #[ptr X.e, ptr l.a] w (RPost w X (tryE E k A).2 (tryE E k A).1) := by
  have h1 := h.fresh ((Touch.refl w []).alloc (rpC rp0))
  have M : Hid (Mid w X (w.alloc (rpC rp0)) X) := Mid.start h.h
  have TL := HidC.mk (tell_any h1 7 0 0 (by omega))
  have HAT : Hid (X.at' k = some l) := h.hl
  have HA : Hid (E.th k = some A) := h.hA
  have h4 : lenF A.Fs = 0 → tryE E k A = ({ rp0 with done := true, ended := true }, commitE (tellE E A 7 0 0) k A) := fun e => if_pos e
  have h5 : ¬ lenF A.Fs = 0 → tryE E k A = (rp0, (tellE E A 7 0 0).put k (some (movedA A 4))) := fun e => if_neg e
  have H4 : Hid _ := h4
  have H5 : Hid _ := h5
  generalize tryE E k A = RR at *
  clear h h1 h4 h5
  go_enter Try.func57, Try.ntmps57
  go_wp2_with fail
  refine TL.out.mono ?_
  rintro e w3 hL3
  obtain ⟨X3, rfl, h3, n3, q1, q2⟩ := LPost.next hL3
  have M3 : Hid (Mid w X w3 X3) := M.out.next n3
  have a3 : At w3 X3 (tellE E A 7 0 0) k l A := ⟨h3, by rw [q1]; exact HAT.out, HA.out⟩
  have LN := HidC.mk (len_any a3.obj.lg)
  have c11 := a3.obj.cells.c11
  have HA3 : Hid (At w3 X3 (tellE E A 7 0 0) k l A) := a3
  clear hL3 TL h3 n3 q1 M a3
  go_wp2_with fail
  refine LN.out.mono ?_
  rintro e w4 ⟨rfl, t4⟩
  have M4 : Hid (Mid w X w4 X3) := M3.out.fresh t4
  have a4 := HA3.out.fresh t4
  clear LN M3 HA3 c11 t4
  by_cases hz : lenF A.Fs = 0
  · have e := H4.out hz
    subst e
    have hz' : ((lenF A.Fs : Nat) : Int) = 0 := by omega
    have CM := HidC.mk (commit_any a4 hk hthr (by simp only [tellE, noteE, List.length_append, List.length_cons, List.length_nil]; omega))
    rw [q2] at CM
    clear H4 H5 a4
    rw [hz']
    go_wp2_with fail
    refine CM.out.mono ?_
    rintro x w5 ⟨X5, rfl, h5, n5⟩
    have M : Hid (Mid w X w5 X5) := M4.out.next n5
    have HO : Hid _ := h5
    clear CM h5 n5 M4
    have HEND : Hid _ := M.out.end HO.out ({ rp0 with done := true, ended := true })
    clear M HO
    go_wp2_with (refine wpList_store_mid rfl 38 _ _ rfl w.heap.size 0 (rpL ({ rp0 with done := true, ended := true })).toArray rfl rfl HEND.out.1 Try.size_reply (rp_one _) ?_; refine wpList_name fun W3 hW3 => ?_; obtain ⟨g1, g2, g3⟩ := HEND.out.2 W3 hW3; clear hW3)
    refine bodyPost_ret (v := RpD.val' ({ rp0 with done := true, ended := true })) (Slot.load g1 _ rfl rfl) rfl ?_
    exact ⟨_, rfl, g2, g3⟩
  · have e := H5.out hz
    subst e
    have MV := HidC.mk (moveTo_any a4 4)
    have hz' : (((lenF A.Fs : Nat) : Int) == 0) = false := by simp; omega
    clear H4 H5 a4
    go_wp2_with fail
    refine MV.out.mono ?_
    rintro x w5 ⟨rfl, h5, n5⟩
    have M : Hid (Mid w X w5 X3) := M4.out.next n5
    have HO : Hid _ := h5
    clear MV h5 n5 M4
    have HEND : Hid _ := M.out.end HO.out (rp0)
    clear M HO
    go_wp2_with (refine wpList_store_mid rfl 38 _ _ rfl w.heap.size 0 (rpL (rp0)).toArray rfl rfl HEND.out.1 Try.size_reply (rp_one _) ?_; refine wpList_name fun W3 hW3 => ?_; obtain ⟨g1, g2, g3⟩ := HEND.out.2 W3 hW3; clear hW3)
    refine bodyPost_ret (v := RpD.val' (rp0)) (Slot.load g1 _ rfl rfl) rfl ?_
    exact ⟨_, rfl, g2, g3⟩

end Go.Proofs.Ytinhdpiecifmhaa.Nr

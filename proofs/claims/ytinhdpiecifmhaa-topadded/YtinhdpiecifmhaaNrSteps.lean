/-
  package norec: write, frame, noteValue BY THEIR CONTRACTS.
-/
import Derived.Test.YtinhdpiecifmhaaNrLog
namespace Go.Proofs.Ytinhdpiecifmhaa.Nr
set_option linter.unusedVariables false
set_option linter.unusedSimpArgs false
open Go.RowKit Go.Maps

/-- What is asked for can be asked for. -/
structure AskOk (n : Nat) (a : AskD) : Prop where
  t : -9223372036854775808 ≤ a.t ∧ a.t ≤ 9223372036854775807
  v : Wf64 a.v
  rd : a.k = 1 → 0 ≤ a.t ∧ a.t < n

def writeE (E : Eng) (k : Nat) (A : Att) : RpD × Eng :=
  let r := putS A.Fs A.ask.t A.ask.v
  let A1 : Att := { A with Fs := r.2 }
  if r.1 = 4 then ({ rp0 with done := true, ended := true, why := 2 }, abortE (E.put k (some A1)) k A1 2)
  else ({ rp0 with done := true }, (tellE (E.put k (some A1)) A1 3 A.ask.t A.ask.v).put k (some (doneA A1)))

set_option maxRecDepth 100000 in
set_option maxHeartbeats 3200000 in
theorem write_any {w : World} {X : ELoc} {E : Eng} {k : Nat} {l : Loc} {A : Att} (h : At w X E k l A) (hk : k < 4) (hthr : A.thr = k) (hnum : A.num < E.pg.length) (hpg : E.pg.length ≤ 64) (hev : E.ev.length < 100000)
    (ht : -9223372036854775808 ≤ A.ask.t ∧ A.ask.t ≤ 9223372036854775807) (hv : Wf64 A.ask.v) :
    Calls Try.prog 36 #[ptr X.e, ptr l.a] w (RPost w X (writeE E k A).2 (writeE E k A).1) := by
  have h1 := h.fresh ((Touch.refl w []).alloc (rpC rp0))
  have M : Hid (Mid w X (w.alloc (rpC rp0)) X) := Mid.start h.h
  have PT := fun (V : World) (hV : At V X E k l A) => HidC.mk (put_any hV.obj.lg A.ask.t A.ask.v ht hv)
  obtain ⟨r, hr⟩ : ∃ r, r = putS A.Fs A.ask.t A.ask.v := ⟨_, rfl⟩
  have h4 : r.1 = 4 → writeE E k A = ({ rp0 with done := true, ended := true, why := 2 }, abortE (E.put k (some { A with Fs := r.2 })) k { A with Fs := r.2 } 2) := fun e => by rw [hr] at e ⊢; exact if_pos e
  have h5 : ¬ r.1 = 4 → writeE E k A = ({ rp0 with done := true }, (tellE (E.put k (some { A with Fs := r.2 })) { A with Fs := r.2 } 3 A.ask.t A.ask.v).put k (some (doneA { A with Fs := r.2 }))) := fun e => by rw [hr] at e ⊢; exact if_neg e
  have H4 : Hid _ := h4
  have H5 : Hid _ := h5
  generalize writeE E k A = RR at *
  rw [← hr] at PT
  clear h4 h5 hr h
  go_enter Try.func36, Try.ntmps36
  go_wp2_with fail
  refine wp_name fun W hW => ?_
  have hW' : w.alloc (rpC rp0) = W := hW.symm
  rw [hW'] at h1 M
  clear hW hW'
  obtain ⟨_, _, _, c3, c4, _, _, _, _, _, _, c11, _⟩ := h1.obj.cells
  have h1d := h1.fresh ((Touch.refl W []).drew)
  have M1 : Hid (Mid w X W.drew X) := M.out.fresh ((Touch.refl W []).drew)
  clear h1 M
  go_region_held3 (fun w' => w'.cell? ⟨l.a, 3, none⟩ = some (.int .i64 A.ask.t) ∧ w'.cell? ⟨l.a, 4, none⟩ = some (.int .u64 A.ask.v) ∧ w'.cell? ⟨l.a, 11, none⟩ = some (ptr l.ob)) ((first | exact ⟨c3, c4, c11⟩ | exact ⟨k3, k4, k11⟩)) ((go_at_call 64; refine (PT _ h1d).out.mono ?_; rintro e w3 ⟨ch', rfl, p3, t3, f3⟩; obtain ⟨h3, n3⟩ := h1d.log p3 t3 f3; obtain ⟨_, _, _, k3, k4, _, _, _, _, _, _, k11, _⟩ := h3.obj.cells))
  have M2 : Hid (Mid w X w3 (X.put k (some { l with ch := ch' }))) := M1.out.next n3
  clear M1 n3 PT c3 c4 c11 h1d p3 t3 f3
  rename_i hHeld
  clear hHeld
  have hxe : (X.put k (some { l with ch := ch' })).e = X.e := rfl
  have hla : ({ l with ch := ch' } : Loc).a = l.a := rfl
  have hpg3 : (E.put k (some { A with Fs := r.2 })).pg = E.pg := rfl
  have hev3 : (E.put k (some { A with Fs := r.2 })).ev = E.ev := rfl
  generalize X.put k (some { l with ch := ch' }) = X3 at *
  generalize ({ l with ch := ch' } : Loc) = l3 at *
  generalize E.put k (some { A with Fs := r.2 }) = E3 at *
  obtain ⟨A3, hA3⟩ : ∃ A3 : Att, A3 = { A with Fs := r.2 } := ⟨_, rfl⟩
  rw [← hA3] at h3 H4 H5
  have t3 : A3.thr = k := by rw [hA3]; exact hthr
  have m3 : A3.num < E3.pg.length := by rw [hA3, hpg3]; exact hnum
  clear hA3
  by_cases hr4 : r.1 = 4
  · have AB := HidC.mk (abort_any h3 hk t3 m3 (by rw [hpg3]; exact hpg) (by rw [hev3]; exact hev) 2)
    rw [hxe, hla] at AB
    have e := H4.out hr4
    subst e
    clear H4 H5 h3
    go_wp2_with fail
    refine AB.out.mono ?_
    rintro x w5 ⟨X5, rfl, h5, n5⟩
    have M : Hid (Mid w X w5 X5) := M2.out.next n5
    have HO : Hid _ := h5
    clear AB h5 n5 M2 k3 k4 k11
    have HEND : Hid _ := M.out.end HO.out ({ rp0 with done := true, ended := true, why := 2 })
    clear M HO
    go_wp2_with (refine wpList_store_mid rfl 38 _ _ rfl w.heap.size 0 (rpL ({ rp0 with done := true, ended := true, why := 2 })).toArray rfl rfl HEND.out.1 Try.size_reply (rp_one _) ?_; refine wpList_name fun W3 hW3 => ?_; obtain ⟨g1, g2, g3⟩ := HEND.out.2 W3 hW3; clear hW3)
    refine bodyPost_ret (v := RpD.val' ({ rp0 with done := true, ended := true, why := 2 })) (Slot.load g1 _ rfl rfl) rfl ?_
    exact ⟨_, rfl, g2, g3⟩
  · have e := H5.out hr4
    subst e
    have hr4' : (r.1 == 4) = false := by simpa using hr4
    clear H4 H5 hr4
    go_wp2_with fail
    have h3d := h3.fresh ((Touch.refl w3 []).drew)
    have M3 : Hid (Mid w X w3.drew X3) := M2.out.fresh ((Touch.refl w3 []).drew)
    have HL3 : Hid (X3.at' k = some l3) := h3.hl
    have HA3 : Hid (E3.th k = some A3) := h3.hA
    have a3 := h3.obj.cells
    have HC : Hid (∀ V X' E', EObj V X' E' → X'.at' = X3.at' → E'.th = E3.th → V.cell? ⟨l.a, 3, none⟩ = some (.int .i64 A3.ask.t) ∧ V.cell? ⟨l.a, 4, none⟩ = some (.int .u64 A3.ask.v)) := fun V X' E' hV e1 e2 => by
      have := (At.obj (k := k) ⟨hV, by rw [e1]; exact h3.hl, by rw [e2]; exact h3.hA⟩).cells
      rw [hla] at this
      exact ⟨this.c3, this.c4⟩
    have hat3 : A3.ask.t = A.ask.t := by have := a3.c3; rw [hla, k3] at this; simpa using this.symm
    have hav3 : A3.ask.v = A.ask.v := by have := a3.c4; rw [hla, k4] at this; simpa using this.symm
    rw [hat3, hav3] at HC
    have TL := HidC.mk (tell_any h3d 3 A.ask.t A.ask.v (by rw [hev3]; exact hev))
    rw [hxe, hla] at TL
    clear h3 h3d M2 a3 k11 hat3 hav3
    go_region_held3 (fun w' => w'.cell? ⟨l.a, 3, none⟩ = some (.int .i64 A.ask.t) ∧ w'.cell? ⟨l.a, 4, none⟩ = some (.int .u64 A.ask.v)) ((first | exact ⟨k3, k4⟩ | exact ⟨j3, j4⟩)) ((go_at_call 53; refine TL.out.mono ?_; rintro e w4 hL4; obtain ⟨X4, rfl, h4, n4, q1, q2⟩ := LPost.next hL4; obtain ⟨j3, j4⟩ := HC.out w4 X4 _ h4 q1 rfl))
    have M4 : Hid (Mid w X w4 X4) := M3.out.next n4
    have DN := HidC.mk (done_any (k := k) (l := l3) (A := A3) ⟨h4, by rw [q1]; exact HL3.out, HA3.out⟩ 0)
    rw [hla] at DN
    rename_i hHeld
    clear hHeld hL4 TL HC k3 k4 j3 j4 h4 n4 q1 q2 M3 HL3 HA3
    go_wp2_with fail
    refine DN.out.mono ?_
    rintro x w5 ⟨rfl, h5, n5⟩
    have M : Hid (Mid w X w5 X4) := M4.out.next n5
    have HO : Hid _ := h5
    clear DN h5 n5 M4
    have HEND : Hid _ := M.out.end HO.out ({ rp0 with done := true, val := 0 })
    clear M HO
    go_wp2_with (refine wpList_store_mid rfl 38 _ _ rfl w.heap.size 0 (rpL ({ rp0 with done := true, val := 0 })).toArray rfl rfl HEND.out.1 Try.size_reply (rp_one _) ?_; refine wpList_name fun W3 hW3 => ?_; obtain ⟨g1, g2, g3⟩ := HEND.out.2 W3 hW3; clear hW3)
    refine bodyPost_ret (v := RpD.val' ({ rp0 with done := true, val := 0 })) (Slot.load g1 _ rfl rfl) rfl ?_
    exact ⟨_, rfl, g2, g3⟩

/-! ### Frames -/
def frameE (E : Eng) (k : Nat) (A : Att) (kind : Int) (Fs' : List Fr) : Eng := (tellE (E.put k (some { A with Fs := Fs' })) { A with Fs := Fs' } kind 0 0).put k (some (doneA { A with Fs := Fs' }))

set_option maxRecDepth 100000 in
set_option maxHeartbeats 3200000 in
theorem frame_any {w : World} {X : ELoc} {E : Eng} {k : Nat} {l : Loc} {A : Att} (h : At w X E k l A) (hev : E.ev.length < 100000) (kind : Int) (fn : Nat) (r : Int × List Fr)
    (hen : ∀ W a, (callFunc fn a).run Try.prog W = .ok (.enter fn a) W) (hfn : ∀ W ch, PLog 0 W l.ob ch A.Fs → Calls Try.prog fn #[ptr l.ob] W (OpPost 0 W l.ob ch r)) :
    Calls Try.prog 37 #[ptr X.e, ptr l.a, .int .u8 kind, .func (.func fn) #[ptr l.ob] #[]] w (RPost w X (frameE E k A kind r.2) { rp0 with done := true }) := by
  have h1 := h.fresh ((Touch.refl w []).alloc (rpC rp0))
  have M : Hid (Mid w X (w.alloc (rpC rp0)) X) := Mid.start h.h
  have FN := HidC.mk (hfn _ _ h1.obj.lg)
  clear hfn h
  unfold frameE
  go_enter Try.func37, Try.ntmps37
  go_wp2_with fail
  refine FN.out.mono ?_
  rintro e w3 ⟨ch', rfl, p3, t3, f3⟩
  obtain ⟨h3, n3⟩ := h1.log p3 t3 f3
  have M2 : Hid (Mid w X w3 (X.put k (some { l with ch := ch' }))) := M.out.next n3
  have TL := HidC.mk (tell_any h3 kind 0 0 hev)
  have HL3 : Hid ((X.put k (some { l with ch := ch' })).at' k = some { l with ch := ch' }) := h3.hl
  have HA3 : Hid ((E.put k (some { A with Fs := r.2 })).th k = some { A with Fs := r.2 }) := h3.hA
  clear FN M n3 p3 t3 f3 h1 h3
  go_wp2_with fail
  refine TL.out.mono ?_
  rintro e w4 hL4
  obtain ⟨X4, rfl, h4, n4, q1, q2⟩ := LPost.next hL4
  have M4 : Hid (Mid w X w4 X4) := M2.out.next n4
  have DN := HidC.mk (done_any (k := k) (l := { l with ch := ch' }) (A := { A with Fs := r.2 }) ⟨h4, by rw [q1]; exact HL3.out, HA3.out⟩ 0)
  clear hL4 TL h4 n4 q1 q2 M2 HL3 HA3
  go_wp2_with fail
  refine DN.out.mono ?_
  rintro x w5 ⟨rfl, h5, n5⟩
  have M : Hid (Mid w X w5 X4) := M4.out.next n5
  have HO : Hid _ := h5
  clear DN h5 n5 M4
  have HEND : Hid _ := M.out.end HO.out ({ rp0 with done := true, val := 0 })
  clear M HO
  go_wp2_with (refine wpList_store_mid rfl 38 _ _ rfl w.heap.size 0 (rpL ({ rp0 with done := true, val := 0 })).toArray rfl rfl HEND.out.1 Try.size_reply (rp_one _) ?_; refine wpList_name fun W3 hW3 => ?_; obtain ⟨g1, g2, g3⟩ := HEND.out.2 W3 hW3; clear hW3)
  refine bodyPost_ret (v := RpD.val' ({ rp0 with done := true, val := 0 })) (Slot.load g1 _ rfl rfl) rfl ?_
  exact ⟨_, rfl, g2, g3⟩

end Go.Proofs.Ytinhdpiecifmhaa.Nr

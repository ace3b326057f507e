/-
  package norec: noteValue, readNoted BY THEIR CONTRACTS.
-/
import Derived.Test.YtinhdpiecifmhaaNrSteps
namespace Go.Proofs.Ytinhdpiecifmhaa.Nr
set_option linter.unusedVariables false
set_option linter.unusedSimpArgs false
open Go.RowKit Go.Maps

theorem EObj.hpAt {w : World} {X : ELoc} {E : Eng} (h : EObj w X E) (i : Nat) (hi : i < E.hp.length) : ∃ g cap, X.vh = .slice (some ⟨g, 0, none⟩) E.hp.length cap ∧ w.cell? ⟨g, i, none⟩ = some (.int .u64 E.hp[i]) ∧ w.frozen? ⟨g, i, none⟩ = false := by
  obtain ⟨g, cap, hv⟩ := row_some h.hp (by omega)
  have hrow := h.hp
  rw [hv] at hrow
  obtain ⟨a, b⟩ := row_at hrow i (by simpa using hi)
  exact ⟨g, cap, hv, by simpa using a, b⟩

def valA (A : Att) (v : Int) : Att := { A with val := v }
def noteValueE (E : Eng) (k : Nat) (A : Att) : Eng := E.put k (some (movedA (valA A (E.hp.getD A.ask.t.toNat 0)) 2))

set_option maxRecDepth 100000 in
set_option maxHeartbeats 3200000 in
theorem noteValue_any {w : World} {X : ELoc} {E : Eng} {k : Nat} {l : Loc} {A : Att} (h : At w X E k l A) (hr : 0 ≤ A.ask.t ∧ A.ask.t < E.hp.length) (hn : E.hp.length ≤ 12) :
    Calls Try.prog 55 #[ptr X.e, ptr l.a] w (RPost w X (noteValueE E k A) rp0) := by
  obtain ⟨i, hi⟩ : ∃ i : Nat, (i : Int) = A.ask.t := ⟨A.ask.t.toNat, by omega⟩
  have hil : i < E.hp.length := by omega
  have hgd : E.hp.getD A.ask.t.toNat 0 = E.hp[i] := by
    have : A.ask.t.toNat = i := by omega
    rw [this]; simp [List.getD_eq_getElem?_getD, List.getElem?_eq_getElem hil]
  unfold noteValueE
  rw [hgd]
  obtain ⟨v, hvv⟩ : ∃ v, v = E.hp[i] := ⟨_, rfl⟩
  rw [← hvv]
  have h1 := h.fresh ((Touch.refl w []).alloc (rpC rp0))
  have M : Hid (Mid w X (w.alloc (rpC rp0)) X) := Mid.start h.h
  clear h hgd
  go_enter Try.func55, Try.ntmps55
  go_wp2_with fail
  refine wp_name fun W hW => ?_
  have hW' : w.alloc (rpC rp0) = W := hW.symm
  rw [hW'] at h1 M
  clear hW hW'
  obtain ⟨_, _, e2, _, _⟩ := h1.h.cells
  obtain ⟨g, cap, hv, hcell, _⟩ := h1.h.hpAt i hil
  rw [← hvv] at hcell
  clear hvv
  rw [hv] at e2
  have ac := h1.obj.cells
  have c3 := ac.c3
  have c7 := ac.c7
  have f7 := ac.f 7
  rw [← hi] at c3
  have hst := set_cell h1.obj.st 7 (.int .u64 v)
  have t : Touch W (W.setCell ⟨l.a, 7, none⟩ (.int .u64 v)) [l.a] := (Touch.refl W _).setCell (.inl (by simp)) _
  obtain ⟨r1, r2⟩ := h1.h.setA (A' := valA A v) h1.hl h1.hA rfl rfl hst t
  have td : Touch (W.setCell ⟨l.a, 7, none⟩ (.int .u64 v)) (W.setCell ⟨l.a, 7, none⟩ (.int .u64 v)).drew [] := (Touch.refl _ []).drew
  have M2 : Hid (Mid w X (W.setCell ⟨l.a, 7, none⟩ (.int .u64 v)).drew X) := (M.out.next r2).fresh td
  have MV := HidC.mk (moveTo_any (k := k) (l := l) (A := valA A v) ⟨r1.fresh td, h1.hl, put_th _ _ _⟩ 2)
  rw [put_put] at MV
  have hi0 : 0 ≤ (i : Int) := by omega
  have hi1 : (i : Int) < (E.hp.length : Int) := by omega
  clear hst t r1 r2 td ac h1 M hr hv hi
  go_region
  clear c3 c7 f7 e2 hcell
  go_wp2_with fail
  refine MV.out.mono ?_
  rintro x w5 ⟨rfl, h5, n5⟩
  have M : Hid (Mid w X w5 X) := M2.out.next n5
  have HO : Hid _ := h5
  clear MV h5 n5 M2
  have HEND : Hid _ := M.out.end HO.out (rp0)
  clear M HO
  go_wp2_with (refine wpList_store_mid rfl 38 _ _ rfl w.heap.size 0 (rpL (rp0)).toArray rfl rfl HEND.out.1 Try.size_reply (rp_one _) ?_; refine wpList_name fun W3 hW3 => ?_; obtain ⟨g1, g2, g3⟩ := HEND.out.2 W3 hW3; clear hW3)
  refine bodyPost_ret (v := RpD.val' (rp0)) (Slot.load g1 _ rfl rfl) rfl ?_
  exact ⟨_, rfl, g2, g3⟩

/-! ### readNoted -/
def entOf (A : Att) : Rd.EntD := ⟨A.ask.t, A.val, 0⟩
def readNotedE (E : Eng) (k : Nat) (A : Att) : RpD × Eng :=
  if ¬ E.lk.c = (E.pg.getD A.num ⟨0, false, 0⟩).s then (rp0, E.put k (some (movedA (backA A 1) 7)))
  else
    let r := Rd.addE A.L (entOf A)
    let A1 : Att := { A with L := r.2 }
    if r.1 = 4 then ({ rp0 with done := true, ended := true, why := 2 }, abortE (E.put k (some A1)) k A1 2)
    else ({ rp0 with done := true, val := A.val }, readE (E.put k (some A1)) k A1 A.val)

set_option maxRecDepth 100000 in
set_option maxHeartbeats 3200000 in
theorem readNoted_any {w : World} {X : ELoc} {E : Eng} {k : Nat} {l : Loc} {A : Att} (h : At w X E k l A) (hk : k < 4) (hthr : A.thr = k) (hnum : A.num < E.pg.length) (hpg : E.pg.length ≤ 64) (hev : E.ev.length < 100000)
    (ht : -9223372036854775808 ≤ A.ask.t ∧ A.ask.t ≤ 9223372036854775807) (hv : Wf64 A.val) :
    Calls Try.prog 56 #[ptr X.e, ptr l.a] w (RPost w X (readNotedE E k A).2 (readNotedE E k A).1) := by
  have h1 := h.fresh ((Touch.refl w []).alloc (rpC rp0))
  have M : Hid (Mid w X (w.alloc (rpC rp0)) X) := Mid.start h.h
  have hgd : E.pg.getD A.num ⟨0, false, 0⟩ = E.pg[A.num] := by simp [List.getD_eq_getElem?_getD, List.getElem?_eq_getElem hnum]
  have AD := fun (V : World) (hV : At V X E k l A) => HidC.mk (Rd.add_any hV.obj.rd (Nat.zero_le _) (entOf A) ⟨ht, hv, by unfold entOf; exact ⟨by simp, by simp⟩⟩)
  obtain ⟨r, hr⟩ : ∃ r, r = Rd.addE A.L (entOf A) := ⟨_, rfl⟩
  have h3 : ¬ E.lk.c = E.pg[A.num].s → readNotedE E k A = (rp0, E.put k (some (movedA (backA A 1) 7))) := fun e => by unfold readNotedE; rw [hgd, if_pos e]
  have h4 : E.lk.c = E.pg[A.num].s → r.1 = 4 → readNotedE E k A = ({ rp0 with done := true, ended := true, why := 2 }, abortE (E.put k (some { A with L := r.2 })) k { A with L := r.2 } 2) := fun e e' => by unfold readNotedE; rw [hgd, if_neg (fun q => q e)]; simp only [← hr]; rw [if_pos e']
  have h5 : E.lk.c = E.pg[A.num].s → ¬ r.1 = 4 → readNotedE E k A = ({ rp0 with done := true, val := A.val }, readE (E.put k (some { A with L := r.2 })) k { A with L := r.2 } A.val) := fun e e' => by unfold readNotedE; rw [hgd, if_neg (fun q => q e)]; simp only [← hr]; rw [if_neg e']
  have H3 : Hid _ := h3
  have H4 : Hid _ := h4
  have H5 : Hid _ := h5
  generalize readNotedE E k A = RR at *
  rw [← hr] at AD
  have SO := fun (V : World) (hV : EObj V X E) => HidC.mk (snapshotOf_any X E A.num hnum hpg V hV)
  have SI := fun (V : World) (s : Int) (hV : EObj V X E) => HidC.mk (Sq.since_any X.lk E.lk.c E.lk.o s V hV.lk)
  obtain ⟨sn, hsn⟩ : ∃ s, s = E.pg[A.num].s := ⟨_, rfl⟩
  rw [← hsn] at SO H3 H4 H5
  clear h3 h4 h5 hr h hgd hsn
  go_enter Try.func56, Try.ntmps56
  go_wp2_with fail
  refine wp_name fun W hW => ?_
  have hW' : w.alloc (rpC rp0) = W := hW.symm
  rw [hW'] at h1 M
  clear hW hW'
  obtain ⟨_, _, _, e3, _⟩ := h1.h.cells
  have ac := h1.obj.cells
  have c9 := ac.c9
  have h1d := h1.fresh ((Touch.refl W []).drew)
  have hEd := h1d.h
  have M1 : Hid (Mid w X W.drew X) := M.out.fresh ((Touch.refl W []).drew)
  clear M
  go_region_held3 (fun w' => w'.cell? ⟨X.e, 3, none⟩ = some (ptr X.lk) ∧ w'.cell? ⟨l.a, 9, none⟩ = some (.int .i64 A.num)) ((exact ⟨e3, c9⟩)) ((first | (go_at_call 72; refine (SO _ hEd).out.mono ?_; rintro e w1 ⟨rfl, rfl⟩) | (go_at_call 71; refine (SI _ sn hEd).out.mono ?_; rintro e w1 ⟨rfl, rfl⟩)))
  rename_i hHeld
  clear hHeld SO SI
  by_cases hc : E.lk.c = sn
  · have hc' : (E.lk.c == sn) = true := by simpa using hc
    have c10 := ac.c10
    have c3 := ac.c3
    have c7 := ac.c7
    clear ac H3 h1 hEd
    simp only [hc', Bool.not_true]
    go_wp2_with fail
    have h2d := h1d.fresh ((Touch.refl W.drew []).drew)
    have M2 : Hid (Mid w X W.drew.drew X) := M1.out.fresh ((Touch.refl W.drew []).drew)
    clear h1d M1
    simp only [Rd.EntD.v, entOf] at AD
    go_region_held3 (fun w' => w'.cell? ⟨l.a, 10, none⟩ = some (ptr l.rb) ∧ w'.cell? ⟨l.a, 3, none⟩ = some (.int .i64 A.ask.t) ∧ w'.cell? ⟨l.a, 7, none⟩ = some (.int .u64 A.val)) ((first | exact ⟨c10, c3, c7⟩ | exact ⟨k10, k3, k7⟩)) ((go_at_call 74; refine (AD _ h2d).out.mono ?_; rintro e w3 ⟨vl', rfl, p3, t3, f3⟩; obtain ⟨h3, n3⟩ := h2d.reads p3 t3 f3; obtain ⟨_, _, _, k3, _, _, _, k7, _, _, k10, _, _⟩ := h3.obj.cells))
    have M3 : Hid (Mid w X w3 (X.put k (some { l with rv := vl' }))) := M2.out.next n3
    rename_i hHeld2
    clear hHeld2 M2 n3 AD c3 c7 c10 h2d p3 t3 f3
    have hxe : (X.put k (some { l with rv := vl' })).e = X.e := rfl
    have hla : ({ l with rv := vl' } : Loc).a = l.a := rfl
    have hpg3 : (E.put k (some { A with L := r.2 })).pg = E.pg := rfl
    have hev3 : (E.put k (some { A with L := r.2 })).ev = E.ev := rfl
    generalize X.put k (some { l with rv := vl' }) = X3 at *
    generalize ({ l with rv := vl' } : Loc) = l3 at *
    generalize E.put k (some { A with L := r.2 }) = E3 at *
    by_cases hr4 : r.1 = 4
    · have AB := HidC.mk (abort_any h3 hk hthr (by rw [hpg3]; exact hnum) (by rw [hpg3]; exact hpg) (by rw [hev3]; exact hev) 2)
      rw [hxe, hla] at AB
      have e := H4.out hc hr4
      subst e
      clear H4 H5 h3
      rw [hr4]
      go_wp2_with fail
      refine AB.out.mono ?_
      rintro x w5 ⟨X5, rfl, h5, n5⟩
      have M : Hid (Mid w X w5 X5) := M3.out.next n5
      have HO : Hid _ := h5
      clear AB h5 n5 M3 k3 k7 k10
      have HEND : Hid _ := M.out.end HO.out ({ rp0 with done := true, ended := true, why := 2 })
      clear M HO
      go_wp2_with (refine wpList_store_mid rfl 38 _ _ rfl w.heap.size 0 (rpL ({ rp0 with done := true, ended := true, why := 2 })).toArray rfl rfl HEND.out.1 Try.size_reply (rp_one _) ?_; refine wpList_name fun W3 hW3 => ?_; obtain ⟨g1, g2, g3⟩ := HEND.out.2 W3 hW3; clear hW3)
      refine bodyPost_ret (v := RpD.val' ({ rp0 with done := true, ended := true, why := 2 })) (Slot.load g1 _ rfl rfl) rfl ?_
      exact ⟨_, rfl, g2, g3⟩
    · have e := H5.out hc hr4
      subst e
      have hr4' : (r.1 == 4) = false := by simpa using hr4
      have HR := HidC.mk (hasRead_any h3 A.val (by rw [hev3]; exact hev))
      rw [hxe, hla] at HR
      clear H4 H5 hr4 h3
      simp only [hr4']
      go_wp2_with fail
      refine HR.out.mono ?_
      rintro x w5 ⟨X5, rfl, h5, n5⟩
      have M : Hid (Mid w X w5 X5) := M3.out.next n5
      have HO : Hid _ := h5
      clear HR h5 n5 M3 k3 k7 k10
      have HEND : Hid _ := M.out.end HO.out ({ rp0 with done := true, val := A.val })
      clear M HO
      go_wp2_with (refine wpList_store_mid rfl 38 _ _ rfl w.heap.size 0 (rpL ({ rp0 with done := true, val := A.val })).toArray rfl rfl HEND.out.1 Try.size_reply (rp_one _) ?_; refine wpList_name fun W3 hW3 => ?_; obtain ⟨g1, g2, g3⟩ := HEND.out.2 W3 hW3; clear hW3)
      refine bodyPost_ret (v := RpD.val' ({ rp0 with done := true, val := A.val })) (Slot.load g1 _ rfl rfl) rfl ?_
      exact ⟨_, rfl, g2, g3⟩
  · have e := H3.out hc
    subst e
    have hc' : (E.lk.c == sn) = false := by simpa using hc
    have LA := HidC.mk (lookAgain_any h1d 1)
    clear H3 H4 H5 AD h1 h1d hEd ac
    simp only [hc', Bool.not_false]
    go_wp2_with fail
    refine LA.out.mono ?_
    rintro x w5 ⟨rfl, h5, n5⟩
    have M : Hid (Mid w X w5 X) := M1.out.next n5
    have HO : Hid _ := h5
    clear LA h5 n5 M1
    have HEND : Hid _ := M.out.end HO.out (rp0)
    clear M HO
    go_wp2_with (refine wpList_store_mid rfl 38 _ _ rfl w.heap.size 0 (rpL (rp0)).toArray rfl rfl HEND.out.1 Try.size_reply (rp_one _) ?_; refine wpList_name fun W3 hW3 => ?_; obtain ⟨g1, g2, g3⟩ := HEND.out.2 W3 hW3; clear hW3)
    refine bodyPost_ret (v := RpD.val' (rp0)) (Slot.load g1 _ rfl rfl) rfl ?_
    exact ⟨_, rfl, g2, g3⟩

end Go.Proofs.Ytinhdpiecifmhaa.Nr

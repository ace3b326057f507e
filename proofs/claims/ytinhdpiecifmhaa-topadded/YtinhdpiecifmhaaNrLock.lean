/-
  package norec: takeLock, unlock BY THEIR CONTRACTS.
-/
import Derived.Test.YtinhdpiecifmhaaNrSteps
namespace Go.Proofs.Ytinhdpiecifmhaa.Nr
set_option linter.unusedVariables false
set_option linter.unusedSimpArgs false
open Go.RowKit Go.Maps

def lockE (E : Eng) (s : Sq.SLk) : Eng := { E with lk := s }
theorem EObj.setLk {w w' : World} {X : ELoc} {E : Eng} (h : EObj w X E) {s : Sq.SLk} (hl : Sq.LObj w' X.lk s.c s.o) (t : Touch w w' [X.lk]) : EObj w' X (lockE E s) ∧ Next w X w' X := by
  have hno : ∀ c, c ≠ 4 → ∀ x ∈ X.foot c, x ∉ [X.lk] := fun c hc x hx hs => h.ap c 4 hc x hx (by simpa [ELoc.foot] using hs)
  refine ⟨⟨(t.block _ (lt_of_heap h.st) (hno 0 (by omega) _ (by simp [ELoc.foot]))).trans h.st, ownsRow_touch h.ev t (fun q hq => hno 1 (by omega) q (by simp [ELoc.foot, hq])), ownsRow_touch h.pg t (fun q hq => hno 2 (by omega) q (by simp [ELoc.foot, hq])), ownsRow_touch h.hp t (fun q hq => hno 3 (by omega) q (by simp [ELoc.foot, hq])), hl, fun k => (h.at' k).keep t (hno (k + 5) (by omega)), h.ap⟩, Next.same t (fun x hx => .inl ⟨4, by simpa [ELoc.foot] using hx⟩)⟩

def takeLockE (E : Eng) (k : Nat) (A : Att) : RpD × Eng :=
  let p := E.pg.getD A.num ⟨0, false, 0⟩
  let r := Sq.tryS E.lk k p.s
  if r.1 = 0 then (rp0, (pageE (lockE E r.2) A.num { p with wr := true }).put k (some (movedA A 5)))
  else if r.1 = 4 then ({ rp0 with done := true, ended := true, why := 2 }, abortE (lockE E r.2) k A 2)
  else (rp0, (lockE E r.2).put k (some (movedA (backA A 4) 7)))

set_option maxRecDepth 100000 in
set_option maxHeartbeats 3200000 in
theorem takeLock_any {w : World} {X : ELoc} {E : Eng} {k : Nat} {l : Loc} {A : Att} (h : At w X E k l A) (hk : k < 4) (hthr : A.thr = k) (hnum : A.num < E.pg.length) (hpg : E.pg.length ≤ 64) (hev : E.ev.length < 100000) (hc : 0 ≤ E.lk.c) :
    Calls Try.prog 58 #[ptr X.e, ptr l.a] w (RPost w X (takeLockE E k A).2 (takeLockE E k A).1) := by
  have h1 := h.fresh ((Touch.refl w []).alloc (rpC rp0))
  have M : Hid (Mid w X (w.alloc (rpC rp0)) X) := Mid.start h.h
  have hgd : E.pg.getD A.num ⟨0, false, 0⟩ = E.pg[A.num] := by simp [List.getD_eq_getElem?_getD, List.getElem?_eq_getElem hnum]
  have SO := fun (V : World) (hV : EObj V X E) => HidC.mk (snapshotOf_any X E A.num hnum hpg V hV)
  have TR := fun (V : World) (hV : EObj V X E) => HidC.mk (Sq.try_any X.lk E.lk k E.pg[A.num].s hc V hV.lk)
  obtain ⟨r, hr⟩ : ∃ r, r = Sq.tryS E.lk k E.pg[A.num].s := ⟨_, rfl⟩
  have h3 : r.1 = 0 → takeLockE E k A = (rp0, (pageE (lockE E r.2) A.num { E.pg[A.num] with wr := true }).put k (some (movedA A 5))) := fun e => by unfold takeLockE; simp only [hgd, ← hr]; rw [if_pos e]
  have h4 : r.1 = 4 → takeLockE E k A = ({ rp0 with done := true, ended := true, why := 2 }, abortE (lockE E r.2) k A 2) := fun e => by unfold takeLockE; simp only [hgd, ← hr]; rw [if_neg (by omega), if_pos e]
  have h5 : ¬ r.1 = 0 → ¬ r.1 = 4 → takeLockE E k A = (rp0, (lockE E r.2).put k (some (movedA (backA A 4) 7))) := fun e e' => by unfold takeLockE; simp only [hgd, ← hr]; rw [if_neg e, if_neg e']
  have H3 : Hid _ := h3
  have H4 : Hid _ := h4
  have H5 : Hid _ := h5
  generalize takeLockE E k A = RR at *
  rw [← hr] at TR
  have DC : Hid (∀ (V : World), EObj V X (lockE E r.2) → HidC Try.prog 78 #[ptr X.e, .int .i64 A.num] V fun x w' => x = .returned (.tuple #[]) ∧ EObj w' X (pageE (lockE E r.2) A.num { E.pg[A.num] with wr := true }) ∧ Next V X w' X) := fun V hV => HidC.mk (decide_any X (lockE E r.2) A.num hnum hpg V hV)
  obtain ⟨sn, hsn⟩ : ∃ s, s = E.pg[A.num].s := ⟨_, rfl⟩
  rw [← hsn] at SO TR
  clear h3 h4 h5 hr h hgd hsn
  go_enter Try.func58, Try.ntmps58
  go_wp2_with fail
  refine wp_name fun W hW => ?_
  have hW' : w.alloc (rpC rp0) = W := hW.symm
  rw [hW'] at h1 M
  clear hW hW'
  obtain ⟨_, _, _, e3, _⟩ := h1.h.cells
  have ac := h1.obj.cells
  have c9 := ac.c9
  have c8 := ac.c8
  rw [hthr] at c8
  have h1d := h1.fresh ((Touch.refl W []).drew)
  have hEd := h1d.h
  have M1 : Hid (Mid w X W.drew X) := M.out.fresh ((Touch.refl W []).drew)
  have HLK : Hid (∀ V, At V X (lockE E r.2) k l A → V.cell? ⟨X.e, 3, none⟩ = some (ptr X.lk) ∧ V.cell? ⟨l.a, 9, none⟩ = some (.int .i64 A.num) ∧ V.cell? ⟨l.a, 8, none⟩ = some (.int .i64 k)) := fun V hV => ⟨hV.h.cells.2.2.2.1, hV.obj.cells.c9, by rw [← hthr]; exact hV.obj.cells.c8⟩
  have HAT : Hid (X.at' k = some l) := h1.hl
  have HA : Hid (E.th k = some A) := h1.hA
  clear M h1 ac
  go_region_held3 (fun w' => w'.cell? ⟨X.e, 3, none⟩ = some (ptr X.lk) ∧ w'.cell? ⟨l.a, 9, none⟩ = some (.int .i64 A.num) ∧ w'.cell? ⟨l.a, 8, none⟩ = some (.int .i64 k)) ((first | exact ⟨e3, c9, c8⟩ | exact HLK.out _ a3)) ((first | (go_at_call 72; refine (SO _ hEd).out.mono ?_; rintro e w1 ⟨rfl, rfl⟩) | (go_at_call 77; refine (TR _ hEd).out.mono ?_; rintro e w3 ⟨rfl, l3, t3⟩; obtain ⟨o3, n3⟩ := hEd.setLk l3 t3; have a3 : At w3 X (lockE E r.2) k l A := ⟨o3, HAT.out, HA.out⟩)))
  rename_i hHeld
  have M2 : Hid (Mid w X w3 X) := M1.out.next n3
  clear hHeld SO TR M1 n3 o3 hEd h1d l3 t3 e3 c9 c8
  by_cases hr0 : r.1 = 0
  · have e := H3.out hr0
    subst e
    obtain ⟨k3, k9, k8⟩ := HLK.out _ a3
    have a3d := a3.fresh ((Touch.refl w3 []).drew)
    have D1 := DC.out _ a3d.h
    have M3 : Hid (Mid w X w3.drew X) := M2.out.fresh ((Touch.refl w3 []).drew)
    have HC9 : Hid (∀ V E', EObj V X E' → E'.th = E.th → V.cell? ⟨l.a, 9, none⟩ = some (.int .i64 A.num)) := fun V E' hV e2 => (At.obj (k := k) ⟨hV, HAT.out, by rw [e2]; exact HA.out⟩).cells.c9
    clear H3 H4 H5 a3 a3d M2 DC HLK k3 k8
    rw [hr0]
    go_wp2_with fail
    go_region_held3 (fun w' => w'.cell? ⟨l.a, 9, none⟩ = some (.int .i64 A.num)) ((first | exact k9 | exact j9)) ((go_at_call 78; refine D1.out.mono ?_; rintro e w4 ⟨rfl, h4, n4⟩; have j9 := HC9.out w4 _ h4 rfl))
    rename_i hHeld
    have M4 : Hid (Mid w X w4 X) := M3.out.next n4
    have MV := HidC.mk (moveTo_any (k := k) (l := l) (A := A) ⟨h4, HAT.out, HA.out⟩ 5)
    clear hHeld D1 M3 n4 h4 j9 k9 HC9
    go_wp2_with fail
    refine MV.out.mono ?_
    rintro x w5 ⟨rfl, h5, n5⟩
    have M : Hid (Mid w X w5 X) := M4.out.next n5
    have HO : Hid _ := h5
    clear MV h5 n5 M4
    have HEND : Hid _ := M.out.end HO.out (rp0)
    clear M HO
    go_wp2_with (refine wpList_store_mid rfl 38 _ _ rfl w.heap.size 0 (rpL (rp0)).toArray rfl rfl HEND.out.1 Try.size_reply (rp_one _) ?_; refine wpList_name fun W3 hW3 => ?_; obtain ⟨g1, g2, g3⟩ := HEND.out.2 W3 hW3; clear hW3)
    refine bodyPost_ret (v := RpD.val' (rp0)) (Slot.load g1 _ rfl rfl) rfl ?_
    exact ⟨_, rfl, g2, g3⟩
  · by_cases hr4 : r.1 = 4
    · have e := H4.out hr4
      subst e
      have AB := HidC.mk (abort_any a3 hk hthr hnum hpg hev 2)
      clear H3 H4 H5 a3 DC HLK hr0
      rw [hr4]
      go_wp2_with fail
      refine AB.out.mono ?_
      rintro x w5 ⟨X5, rfl, h5, n5⟩
      have M : Hid (Mid w X w5 X5) := M2.out.next n5
      have HO : Hid _ := h5
      clear AB h5 n5 M2
      have HEND : Hid _ := M.out.end HO.out ({ rp0 with done := true, ended := true, why := 2 })
      clear M HO
      go_wp2_with (refine wpList_store_mid rfl 38 _ _ rfl w.heap.size 0 (rpL ({ rp0 with done := true, ended := true, why := 2 })).toArray rfl rfl HEND.out.1 Try.size_reply (rp_one _) ?_; refine wpList_name fun W3 hW3 => ?_; obtain ⟨g1, g2, g3⟩ := HEND.out.2 W3 hW3; clear hW3)
      refine bodyPost_ret (v := RpD.val' ({ rp0 with done := true, ended := true, why := 2 })) (Slot.load g1 _ rfl rfl) rfl ?_
      exact ⟨_, rfl, g2, g3⟩
    · have e := H5.out hr0 hr4
      subst e
      have LA := HidC.mk (lookAgain_any a3 4)
      have hr0' : (r.1 == 0) = false := by simpa using hr0
      have hr4' : (r.1 == 4) = false := by simpa using hr4
      clear H3 H4 H5 a3 DC HLK hr0 hr4
      go_wp2_with fail
      refine LA.out.mono ?_
      rintro x w5 ⟨rfl, h5, n5⟩
      have M : Hid (Mid w X w5 X) := M2.out.next n5
      have HO : Hid _ := h5
      clear LA h5 n5 M2
      have HEND : Hid _ := M.out.end HO.out (rp0)
      clear M HO
      go_wp2_with (refine wpList_store_mid rfl 38 _ _ rfl w.heap.size 0 (rpL (rp0)).toArray rfl rfl HEND.out.1 Try.size_reply (rp_one _) ?_; refine wpList_name fun W3 hW3 => ?_; obtain ⟨g1, g2, g3⟩ := HEND.out.2 W3 hW3; clear hW3)
      refine bodyPost_ret (v := RpD.val' (rp0)) (Slot.load g1 _ rfl rfl) rfl ?_
      exact ⟨_, rfl, g2, g3⟩

def unlockE (E : Eng) (k : Nat) (A : Att) : Eng := commitE (lockE E (Sq.leaveS E.lk k (E.lk.c + 1)).2) k A

set_option maxRecDepth 100000 in
set_option maxHeartbeats 3200000 in
theorem unlock_any {w : World} {X : ELoc} {E : Eng} {k : Nat} {l : Loc} {A : Att} (h : At w X E k l A) (hk : k < 4) (hthr : A.thr = k) (hev : E.ev.length < 100000) (hc : 0 ≤ E.lk.c) (hc1 : E.lk.c ≤ 1099511627776) :
    Calls Try.prog 60 #[ptr X.e, ptr l.a] w (RPost w X (unlockE E k A) { rp0 with done := true, ended := true }) := by
  have h1 := h.fresh ((Touch.refl w []).alloc (rpC rp0))
  have M : Hid (Mid w X (w.alloc (rpC rp0)) X) := Mid.start h.h
  have UL := fun (V : World) (hV : EObj V X E) => HidC.mk (Sq.unlock_any X.lk E.lk k hc hc1 V hV.lk)
  unfold unlockE
  generalize Sq.leaveS E.lk k (E.lk.c + 1) = r at *
  clear h
  go_enter Try.func60, Try.ntmps60
  go_wp2_with fail
  refine wp_name fun W hW => ?_
  have hW' : w.alloc (rpC rp0) = W := hW.symm
  rw [hW'] at h1 M
  clear hW hW'
  obtain ⟨_, _, _, e3, _⟩ := h1.h.cells
  have c8 := h1.obj.cells.c8
  rw [hthr] at c8
  have h1d := h1.fresh ((Touch.refl W []).drew)
  have hEd := h1d.h
  have M1 : Hid (Mid w X W.drew X) := M.out.fresh ((Touch.refl W []).drew)
  have HLK : Hid (∀ V, At V X (lockE E r.2) k l A → V.cell? ⟨X.e, 3, none⟩ = some (ptr X.lk) ∧ V.cell? ⟨l.a, 8, none⟩ = some (.int .i64 k)) := fun V hV => ⟨hV.h.cells.2.2.2.1, by rw [← hthr]; exact hV.obj.cells.c8⟩
  have HAT : Hid (X.at' k = some l) := h1.hl
  have HA : Hid (E.th k = some A) := h1.hA
  clear M h1
  go_region_held3 (fun w' => w'.cell? ⟨X.e, 3, none⟩ = some (ptr X.lk) ∧ w'.cell? ⟨l.a, 8, none⟩ = some (.int .i64 k)) ((first | exact ⟨e3, c8⟩ | exact HLK.out _ a3)) ((go_at_call 80; refine (UL _ hEd).out.mono ?_; rintro e w3 ⟨rfl, l3, t3⟩; obtain ⟨o3, n3⟩ := hEd.setLk l3 t3; have a3 : At w3 X (lockE E r.2) k l A := ⟨o3, HAT.out, HA.out⟩))
  rename_i hHeld
  have M2 : Hid (Mid w X w3 X) := M1.out.next n3
  have CM := HidC.mk (commit_any a3 hk hthr hev)
  clear hHeld UL M1 n3 o3 hEd h1d l3 t3 e3 c8 a3 HLK
  go_wp2_with fail
  refine CM.out.mono ?_
  rintro x w5 ⟨X5, rfl, h5, n5⟩
  have M : Hid (Mid w X w5 X5) := M2.out.next n5
  have HO : Hid _ := h5
  clear CM h5 n5 M2
  have HEND : Hid _ := M.out.end HO.out ({ rp0 with done := true, ended := true })
  clear M HO
  go_wp2_with (refine wpList_store_mid rfl 38 _ _ rfl w.heap.size 0 (rpL ({ rp0 with done := true, ended := true })).toArray rfl rfl HEND.out.1 Try.size_reply (rp_one _) ?_; refine wpList_name fun W3 hW3 => ?_; obtain ⟨g1, g2, g3⟩ := HEND.out.2 W3 hW3; clear hW3)
  refine bodyPost_ret (v := RpD.val' ({ rp0 with done := true, ended := true })) (Slot.load g1 _ rfl rfl) rfl ?_
  exact ⟨_, rfl, g2, g3⟩

end Go.Proofs.Ytinhdpiecifmhaa.Nr

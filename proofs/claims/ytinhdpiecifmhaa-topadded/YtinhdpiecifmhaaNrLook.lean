/-
  package norec: noteCount, settle BY THEIR CONTRACTS.
-/
import Derived.Test.YtinhdpiecifmhaaNrSteps
namespace Go.Proofs.Ytinhdpiecifmhaa.Nr
set_option linter.unusedVariables false
set_option linter.unusedSimpArgs false
open Go.RowKit Go.Maps

def countA (A : Att) (c : Int) : Att := { A with count := c }
def noteCountE (E : Eng) (k : Nat) (A : Att) : RpD × Eng :=
  if (Sq.ownS E.lk).2 = true then ({ rp0 with busy := true, own := (Sq.ownS E.lk).1 }, E) else (rp0, E.put k (some (movedA (countA A E.lk.c) 8)))

set_option maxRecDepth 100000 in
set_option maxHeartbeats 3200000 in
theorem noteCount_any {w : World} {X : ELoc} {E : Eng} {k : Nat} {l : Loc} {A : Att} (h : At w X E k l A) (hc : 0 ≤ E.lk.c) :
    Calls Try.prog 61 #[ptr X.e, ptr l.a] w (RPost w X (noteCountE E k A).2 (noteCountE E k A).1) := by
  have h1 := h.fresh ((Touch.refl w []).alloc (rpC rp0))
  have M : Hid (Mid w X (w.alloc (rpC rp0)) X) := Mid.start h.h
  obtain ⟨_, _, _, e3, _⟩ := h.h.cells
  have hxe := lt_of_heap h.h.st
  have OW := HidC.mk (Sq.owner_any X.lk E.lk hc _ h1.h.lk)
  have h4 : (Sq.ownS E.lk).2 = true → noteCountE E k A = ({ rp0 with busy := true, own := (Sq.ownS E.lk).1 }, E) := fun e => if_pos e
  have h5 : ¬ (Sq.ownS E.lk).2 = true → noteCountE E k A = (rp0, E.put k (some (movedA (countA A E.lk.c) 8))) := fun e => if_neg e
  have H4 : Hid _ := h4
  have H5 : Hid _ := h5
  generalize noteCountE E k A = RR at *
  generalize Sq.ownS E.lk = o at *
  obtain ⟨o1, o2⟩ := o
  clear h h4 h5
  go_enter Try.func61, Try.ntmps61
  go_wp2_with fail
  refine OW.out.mono ?_
  rintro e w3 ⟨rfl, t3⟩
  have a3 := h1.fresh t3
  have M3 : Hid (Mid w X w3 X) := M.out.fresh t3
  clear OW M h1 t3 e3 hxe
  cases o2 with
  | true =>
    have e := H4.out rfl
    subst e
    have M := M3
    have HO : Hid _ := a3.h
    clear H4 H5 a3 M3
    have HEND : Hid _ := M.out.end HO.out ({ rp0 with busy := true, own := o1 })
    clear M HO
    go_wp2_with (refine wpList_store_mid rfl 38 _ _ rfl w.heap.size 0 (rpL ({ rp0 with busy := true, own := o1 })).toArray rfl rfl HEND.out.1 Try.size_reply (rp_one _) ?_; refine wpList_name fun W3 hW3 => ?_; obtain ⟨g1, g2, g3⟩ := HEND.out.2 W3 hW3; clear hW3)
    refine bodyPost_ret (v := RpD.val' ({ rp0 with busy := true, own := o1 })) (Slot.load g1 _ rfl rfl) rfl ?_
    exact ⟨_, rfl, g2, g3⟩
  | false =>
    have e := H5.out (by decide)
    subst e
    obtain ⟨_, _, _, e3, _⟩ := a3.h.cells
    have CT := HidC.mk (Sq.count_any X.lk E.lk.c E.lk.o w3 a3.h.lk)
    have ac := a3.obj.cells
    have c0 := ac.c0
    have f0 := ac.f 0
    have hst := set_cell a3.obj.st 0 (.int .u64 E.lk.c)
    have t : Touch w3 (w3.setCell ⟨l.a, 0, none⟩ (.int .u64 E.lk.c)) [l.a] := (Touch.refl w3 _).setCell (.inl (by simp)) _
    obtain ⟨r1, r2⟩ := a3.h.setA (A' := countA A E.lk.c) a3.hl a3.hA rfl rfl hst t
    have M4 : Hid (Mid w X (w3.setCell ⟨l.a, 0, none⟩ (.int .u64 E.lk.c)) X) := M3.out.next r2
    have MV := HidC.mk (moveTo_any (k := k) (l := l) (A := countA A E.lk.c) ⟨r1, a3.hl, put_th _ _ _⟩ 8)
    rw [put_put] at MV
    clear H4 H5 a3 M3 ac hst t r1 r2
    go_wp2_with fail
    refine CT.out.mono ?_
    rintro e w4 ⟨rfl, rfl⟩
    clear CT
    go_wp2_with fail
    refine MV.out.mono ?_
    rintro x w5 ⟨rfl, h5, n5⟩
    have M : Hid (Mid w X w5 X) := M4.out.next n5
    have HO : Hid _ := h5
    clear MV h5 n5 M4 c0 f0
    have HEND : Hid _ := M.out.end HO.out (rp0)
    clear M HO
    go_wp2_with (refine wpList_store_mid rfl 38 _ _ rfl w.heap.size 0 (rpL (rp0)).toArray rfl rfl HEND.out.1 Try.size_reply (rp_one _) ?_; refine wpList_name fun W3 hW3 => ?_; obtain ⟨g1, g2, g3⟩ := HEND.out.2 W3 hW3; clear hW3)
    refine bodyPost_ret (v := RpD.val' (rp0)) (Slot.load g1 _ rfl rfl) rfl ?_
    exact ⟨_, rfl, g2, g3⟩

def settleE (E : Eng) (k : Nat) (A : Att) : Eng :=
  if ¬ E.lk.c = A.count then E.put k (some (movedA A 7))
  else (pageE E A.num { E.pg.getD A.num ⟨0, false, 0⟩ with s := A.count }).put k (some (movedA A A.back))

set_option maxRecDepth 100000 in
set_option maxHeartbeats 3200000 in
theorem settle_any {w : World} {X : ELoc} {E : Eng} {k : Nat} {l : Loc} {A : Att} (h : At w X E k l A) (hnum : A.num < E.pg.length) (hpg : E.pg.length ≤ 64) :
    Calls Try.prog 63 #[ptr X.e, ptr l.a] w (RPost w X (settleE E k A) rp0) := by
  have h1 := h.fresh ((Touch.refl w []).alloc (rpC rp0))
  have M : Hid (Mid w X (w.alloc (rpC rp0)) X) := Mid.start h.h
  have hgd : E.pg.getD A.num ⟨0, false, 0⟩ = E.pg[A.num] := by simp [List.getD_eq_getElem?_getD, List.getElem?_eq_getElem hnum]
  have SI := fun (V : World) (hV : EObj V X E) => HidC.mk (Sq.since_any X.lk E.lk.c E.lk.o A.count V hV.lk)
  have RN : Hid (∀ (V : World), EObj V X E → HidC Try.prog 84 #[ptr X.e, .int .i64 A.num, .int .u64 A.count] V fun x w' => x = .returned (.tuple #[]) ∧ EObj w' X (pageE E A.num { E.pg[A.num] with s := A.count }) ∧ Next V X w' X) := fun V hV => HidC.mk (renew_any X E A.num hnum hpg A.count V hV)
  have h4 : ¬ E.lk.c = A.count → settleE E k A = E.put k (some (movedA A 7)) := fun e => if_pos e
  have h5 : E.lk.c = A.count → settleE E k A = (pageE E A.num { E.pg[A.num] with s := A.count }).put k (some (movedA A A.back)) := fun e => by unfold settleE; rw [if_neg (fun q => q e), hgd]
  have H4 : Hid _ := h4
  have H5 : Hid _ := h5
  generalize settleE E k A = RR at *
  clear h h4 h5 hgd
  go_enter Try.func63, Try.ntmps63
  go_wp2_with fail
  refine wp_name fun W hW => ?_
  have hW' : w.alloc (rpC rp0) = W := hW.symm
  rw [hW'] at h1 M
  clear hW hW'
  obtain ⟨_, _, _, e3, _⟩ := h1.h.cells
  have ac := h1.obj.cells
  have c0 := ac.c0
  have c9 := ac.c9
  have h1d := h1.fresh ((Touch.refl W []).drew)
  have hEd := h1d.h
  have M1 : Hid (Mid w X W.drew X) := M.out.fresh ((Touch.refl W []).drew)
  have HAT : Hid (X.at' k = some l) := h1.hl
  have HA : Hid (E.th k = some A) := h1.hA
  clear M h1
  go_region_held3 (fun w' => w'.cell? ⟨X.e, 3, none⟩ = some (ptr X.lk) ∧ w'.cell? ⟨l.a, 0, none⟩ = some (.int .u64 A.count)) ((exact ⟨e3, c0⟩)) ((go_at_call 71; refine (SI _ hEd).out.mono ?_; rintro e w1 ⟨rfl, rfl⟩))
  rename_i hHeld
  clear hHeld SI
  by_cases hc : E.lk.c = A.count
  · have e := H5.out hc
    subst e
    have hc' : (E.lk.c == A.count) = true := by simpa using hc
    have h2d := h1d.fresh ((Touch.refl W.drew []).drew)
    have R1 := RN.out _ h2d.h
    have M2 : Hid (Mid w X W.drew.drew X) := M1.out.fresh ((Touch.refl W.drew []).drew)
    have HC9 : Hid (∀ V E', EObj V X E' → E'.th = E.th → V.cell? ⟨l.a, 9, none⟩ = some (.int .i64 A.num) ∧ V.cell? ⟨l.a, 0, none⟩ = some (.int .u64 A.count) ∧ V.cell? ⟨l.a, 1, none⟩ = some (.int .i64 A.back)) := fun V E' hV e2 => by
      have := (At.obj (k := k) ⟨hV, HAT.out, by rw [e2]; exact HA.out⟩).cells
      exact ⟨this.c9, this.c0, this.c1⟩
    clear H4 H5 h1d h2d hEd M1 RN ac e3
    simp only [hc', Bool.not_true]
    go_wp2_with fail
    go_region_held3 (fun w' => w'.cell? ⟨l.a, 9, none⟩ = some (.int .i64 A.num) ∧ w'.cell? ⟨l.a, 0, none⟩ = some (.int .u64 A.count)) ((first | exact ⟨c9, c0⟩ | exact ⟨j9, j0⟩)) ((go_at_call 84; refine R1.out.mono ?_; rintro e w4 ⟨rfl, h4, n4⟩; obtain ⟨j9, j0, j1⟩ := HC9.out w4 _ h4 rfl))
    rename_i hHeld
    have M4 : Hid (Mid w X w4 X) := M2.out.next n4
    have a4 : At w4 X _ k l A := ⟨h4, HAT.out, HA.out⟩
    have a4d := a4.fresh ((Touch.refl w4 []).drew)
    have M5 : Hid (Mid w X w4.drew X) := M4.out.fresh ((Touch.refl w4 []).drew)
    have MV := HidC.mk (moveTo_any a4d A.back)
    clear hHeld R1 M2 n4 h4 j9 j0 c9 c0 a4 a4d M4
    go_wp2_with fail
    have HB1 : Hid (∀ V E', EObj V X E' → E'.th k = some (movedA A A.back) → V.cell? ⟨l.a, 1, none⟩ = some (.int .i64 A.back)) := fun V E' hV e2 => (At.obj (k := k) (A := movedA A A.back) ⟨hV, HAT.out, e2⟩).cells.c1
    have hner : ¬ w.heap.size = l.a := fun e => M5.out.f (k + 5) l.a (by simp only [ELoc.foot]; rw [HAT.out]; simp [lfoot, Loc.foot]) e.symm
    have hner' : ¬ l.a = w.heap.size := fun e => hner e.symm
    clear HC9
    refine wp_region_held_drew (S := (fun w' => w'.cell? ⟨l.a, 1, none⟩ = some (.int .i64 A.back))) (by kernel_rfl) j1 (fun hHeld => ?_)
    refine wpAnyH_take (i := 0) (v := (.pointer (some ⟨l.a, 0, none⟩))) rfl (by kernel_rfl) (by kernel_rfl) (by kernel_rfl) (fun _ _ _ h => h) (Or.inl ⟨by rfl, ?_⟩) hHeld ?_
    · intro w' hSw
      try simp only [Act.put, List.getElem_toArray, List.getElem_cons_succ, List.getElem_cons_zero, List.setIfInBounds_toArray, List.set_cons_zero, List.set_cons_succ]
      go_simp
    try simp only [Act.put, List.getElem_toArray, List.getElem_cons_succ, List.getElem_cons_zero, List.setIfInBounds_toArray, List.set_cons_zero, List.set_cons_succ]
    refine wpAnyH_take (i := 1) (v := (.pointer (some ⟨l.a, 0, none⟩))) rfl (by kernel_rfl) (by kernel_rfl) (by kernel_rfl) (fun _ _ _ h => h) (Or.inl ⟨by rfl, ?_⟩) hHeld ?_
    · intro w' hSw
      try simp only [Act.put, List.getElem_toArray, List.getElem_cons_succ, List.getElem_cons_zero, List.setIfInBounds_toArray, List.set_cons_zero, List.set_cons_succ]
      go_simp
    try simp only [Act.put, List.getElem_toArray, List.getElem_cons_succ, List.getElem_cons_zero, List.setIfInBounds_toArray, List.set_cons_zero, List.set_cons_succ]
    refine wpAnyH_take (i := 2) (v := (.pointer (some ⟨l.a, 0, none⟩))) rfl (by kernel_rfl) (by kernel_rfl) (by kernel_rfl) (fun _ _ _ h => h) (Or.inl ⟨by rfl, ?_⟩) hHeld ?_
    · intro w' hSw
      try simp only [Act.put, List.getElem_toArray, List.getElem_cons_succ, List.getElem_cons_zero, List.setIfInBounds_toArray, List.set_cons_zero, List.set_cons_succ]
      go_simp
    try simp only [Act.put, List.getElem_toArray, List.getElem_cons_succ, List.getElem_cons_zero, List.setIfInBounds_toArray, List.set_cons_zero, List.set_cons_succ]
    refine wpAnyH_take (i := 3) (v := (.pointer (some ⟨l.a, 0, none⟩))) rfl (by kernel_rfl) (by kernel_rfl) (by kernel_rfl) (fun _ _ _ h => h) (Or.inl ⟨by rfl, ?_⟩) hHeld ?_
    · intro w' hSw
      try simp only [Act.put, List.getElem_toArray, List.getElem_cons_succ, List.getElem_cons_zero, List.setIfInBounds_toArray, List.set_cons_zero, List.set_cons_succ]
      go_simp
    try simp only [Act.put, List.getElem_toArray, List.getElem_cons_succ, List.getElem_cons_zero, List.setIfInBounds_toArray, List.set_cons_zero, List.set_cons_succ]
    refine wpAnyH_take (i := 4) (v := (.pointer (some ⟨l.a, 0, none⟩))) rfl (by kernel_rfl) (by kernel_rfl) (by kernel_rfl) (fun _ _ _ h => h) (Or.inl ⟨by rfl, ?_⟩) hHeld ?_
    · intro w' hSw
      try simp only [Act.put, List.getElem_toArray, List.getElem_cons_succ, List.getElem_cons_zero, List.setIfInBounds_toArray, List.set_cons_zero, List.set_cons_succ]
      go_simp
    try simp only [Act.put, List.getElem_toArray, List.getElem_cons_succ, List.getElem_cons_zero, List.setIfInBounds_toArray, List.set_cons_zero, List.set_cons_succ]
    refine wpAnyH_take (i := 5) (v := (.pointer (some ⟨l.a, 0, none⟩))) rfl (by kernel_rfl) (by kernel_rfl) (by kernel_rfl) (fun _ _ _ h => h) (Or.inl ⟨by rfl, ?_⟩) hHeld ?_
    · intro w' hSw
      try simp only [Act.put, List.getElem_toArray, List.getElem_cons_succ, List.getElem_cons_zero, List.setIfInBounds_toArray, List.set_cons_zero, List.set_cons_succ]
      go_simp
    try simp only [Act.put, List.getElem_toArray, List.getElem_cons_succ, List.getElem_cons_zero, List.setIfInBounds_toArray, List.set_cons_zero, List.set_cons_succ]
    refine wpAnyH_take (i := 6) (v := (.pointer (some ⟨l.a, 0, none⟩))) rfl (by kernel_rfl) (by kernel_rfl) (by kernel_rfl) (fun _ _ _ h => h) (Or.inl ⟨by rfl, ?_⟩) hHeld ?_
    · intro w' hSw
      try simp only [Act.put, List.getElem_toArray, List.getElem_cons_succ, List.getElem_cons_zero, List.setIfInBounds_toArray, List.set_cons_zero, List.set_cons_succ]
      go_simp
    try simp only [Act.put, List.getElem_toArray, List.getElem_cons_succ, List.getElem_cons_zero, List.setIfInBounds_toArray, List.set_cons_zero, List.set_cons_succ]
    refine wpAnyH_take (i := 7) (v := (.pointer (some ⟨l.a, 1, none⟩))) rfl (by kernel_rfl) (by kernel_rfl) (by kernel_rfl) (fun _ _ _ h => h) (Or.inl ⟨by rfl, ?_⟩) hHeld ?_
    · intro w' hSw
      try simp only [Act.put, List.getElem_toArray, List.getElem_cons_succ, List.getElem_cons_zero, List.setIfInBounds_toArray, List.set_cons_zero, List.set_cons_succ]
      go_simp
    try simp only [Act.put, List.getElem_toArray, List.getElem_cons_succ, List.getElem_cons_zero, List.setIfInBounds_toArray, List.set_cons_zero, List.set_cons_succ]
    refine wpAnyH_take (i := 8) (v := (.int .i64 A.back)) rfl (by kernel_rfl) (by kernel_rfl) (by kernel_rfl) (fun _ _ _ h => h) (Or.inl ⟨by rfl, ?_⟩) hHeld ?_
    · intro w' hSw
      try simp only [Act.put, List.getElem_toArray, List.getElem_cons_succ, List.getElem_cons_zero, List.setIfInBounds_toArray, List.set_cons_zero, List.set_cons_succ]
      go_simp
    try simp only [Act.put, List.getElem_toArray, List.getElem_cons_succ, List.getElem_cons_zero, List.setIfInBounds_toArray, List.set_cons_zero, List.set_cons_succ]
    clear hHeld
    refine wpAnyH_ready (rs := [9]) (by kernel_rfl) (by simp) (AllReadyH.cons rfl (fun K hK => ?_) AllReadyH.nil)
    rw [if_pos (by rfl)]
    go_wp2_with fail
    refine MV.out.mono ?_
    rintro e w5 ⟨rfl, h5, n5⟩
    have i1 := HB1.out w5 _ h5 (put_th _ _ _)
    have HEND : Hid _ := (M5.out.next n5).end h5 rp0
    clear MV
    refine hK.out _ _ i1 (fun hHeld => ?_)
    clear hK
    try simp only [Act.put, List.getElem_toArray, List.getElem_cons_succ, List.getElem_cons_zero, List.setIfInBounds_toArray, List.set_cons_zero, List.set_cons_succ]
    clear hHeld
    refine wpAnyH_ready (rs := [10]) (by kernel_rfl) (by simp) (AllReadyH.cons rfl (fun K hK => ?_) AllReadyH.nil)
    rw [if_pos (by rfl)]
    refine wp_store_mid 38 _ _ rfl w.heap.size 0 (rpL rp0).toArray rfl rfl HEND.out.1 Try.size_reply (rp_one _) ?_
    have hk1 := ((setCells_touch w.heap.size (rpL rp0) 0 w5).cell (p := ⟨l.a, 1, none⟩) (World.block_lt_of_cell? w5 _ i1) (by simp; exact hner')).trans i1
    obtain ⟨g1, g2, g3⟩ := HEND.out.2 _ rfl
    generalize w5.setCells w.heap.size 0 (rpL rp0).toArray.toList = W6 at *
    refine hK.out _ _ hk1 (fun hHeld => ?_)
    clear hK
    try simp only [Act.put, List.getElem_toArray, List.getElem_cons_succ, List.getElem_cons_zero, List.setIfInBounds_toArray, List.set_cons_zero, List.set_cons_succ]
    clear hHeld
    refine wpAnyH_done (by kernel_rfl) ?_ _
    clear i1 hk1 h5 n5 HEND M5 HB1 j1
    go_wp2_with fail
    refine bodyPost_ret (v := rp0.val') (Slot.load g1 _ rfl rfl) rfl ?_
    exact ⟨_, rfl, g2, g3⟩
  · have e := H4.out hc
    subst e
    have hc' : (E.lk.c == A.count) = false := by simpa using hc
    have MV := HidC.mk (moveTo_any h1d 7)
    clear H4 H5 h1d hEd ac RN c0 c9 e3
    simp only [hc', Bool.not_false]
    go_wp2_with fail
    refine MV.out.mono ?_
    rintro x w5 ⟨rfl, h5, n5⟩
    have M : Hid (Mid w X w5 X) := M1.out.next n5
    have HO : Hid _ := h5
    clear MV h5 n5 M1
    have HEND : Hid _ := M.out.end HO.out (rp0)
    clear M HO
    go_wp2_with (refine wpList_store_mid rfl 38 _ _ rfl w.heap.size 0 (rpL (rp0)).toArray rfl rfl HEND.out.1 Try.size_reply (rp_one _) ?_; refine wpList_name fun W3 hW3 => ?_; obtain ⟨g1, g2, g3⟩ := HEND.out.2 W3 hW3; clear hW3)
    refine bodyPost_ret (v := RpD.val' (rp0)) (Slot.load g1 _ rfl rfl) rfl ?_
    exact ⟨_, rfl, g2, g3⟩

end Go.Proofs.Ytinhdpiecifmhaa.Nr

/-
  CodeUnlike, WALKED.
-/
import Derived.Test.YtoaajheneojfjaaDoorCdOne
import Derived.Deep.RegionHeld3
import Derived.BigQuiet
namespace Go.Proofs.YtoaajheneojfjaaDoor
set_option linter.unusedVariables false
set_option linter.unusedSimpArgs false
open Go.RowKit
attribute [local go_sem] Oper.semAt_some

/-- An instruction in a block of its own. -/
structure InsAt (w : World) (b : Nat) (i : InsD) : Prop where
  c0 : w.cell? ⟨b, 0, none⟩ = some (.int .u8 i.op)
  c1 : w.cell? ⟨b, 1, none⟩ = some (.int .i64 i.arg)
  c2 : w.cell? ⟨b, 2, none⟩ = some (.int .u64 i.val)
theorem InsAt.lt {w : World} {b : Nat} {i : InsD} (h : InsAt w b i) : b < w.heap.size := World.block_lt_of_cell? w _ h.c0
theorem InsAt.keep {w w' : World} {b : Nat} {i : InsD} (h : InsAt w b i) (t : Touch w w' []) : InsAt w' b i :=
  ⟨(t.cell (p := ⟨b, 0, none⟩) h.lt (by simp)).trans h.c0, (t.cell (p := ⟨b, 1, none⟩) h.lt (by simp)).trans h.c1, (t.cell (p := ⟨b, 2, none⟩) h.lt (by simp)).trans h.c2⟩
theorem insAt_new (w : World) (i : InsD) : InsAt (w.alloc (.cells #[.int .u8 i.op, .int .i64 i.arg, .int .u64 i.val] 26)) w.heap.size i := by
  have h0 := heap_alloc_new w (.cells #[.int .u8 i.op, .int .i64 i.arg, .int .u64 i.val] 26)
  exact ⟨by unfold World.cell?; rw [h0]; rfl, by unfold World.cell?; rw [h0]; rfl, by unfold World.cell?; rw [h0]; rfl⟩

theorem str_ne {s t : ByteArray} (h : ¬ s = t) : (s.toList == t.toList) = false ∧ ¬ s.toList = t.toList := by
  have h2 : ¬ s.toList = t.toList := fun q => h (by
    have e1 : s.toList = s.data.toList := by simp [ByteArray.toList_eq]
    have e2 : t.toList = t.data.toList := by simp [ByteArray.toList_eq]
    rw [e1, e2] at q
    exact ba_ext q)
  exact ⟨by simpa using h2, h2⟩

set_option maxRecDepth 100000 in
set_option maxHeartbeats 1000000 in
theorem unlike_any {w : World} (h : Wds w) (i j : InsD) (wi : i.Wf) (wj : j.Wf) :
    Calls Tryd.prog 7 #[i.v, j.v] w fun e w' => e = .returned (.bool true) ∧ Touch w w' [] := by
  have tB : Touch w (w.alloc (.cells #[.int .u8 i.op, .int .i64 i.arg, .int .u64 i.val] 26)) [] := (Touch.refl w []).alloc _
  have aI := insAt_new w i
  generalize hQ0 : w.alloc (.cells #[.int .u8 i.op, .int .i64 i.arg, .int .u64 i.val] 26) = Q0 at *
  have eQ0 : Q0.heap.size = w.heap.size + 1 := by rw [← hQ0]; simp
  have tC : Touch Q0 (Q0.alloc (.cells #[.int .u8 j.op, .int .i64 j.arg, .int .u64 j.val] 26)) [] := (Touch.refl Q0 []).alloc _
  have aJ := insAt_new Q0 j
  have aI' := aI.keep tC
  generalize hQ : Q0.alloc (.cells #[.int .u8 j.op, .int .i64 j.arg, .int .u64 j.val] 26) = Q at *
  rw [eQ0] at aJ
  have HTQ : Hid (Touch w Q []) := tB.trans tC (by simp)
  have HQ : Hid ((w.alloc (.cells #[.int .u8 i.op, .int .i64 i.arg, .int .u64 i.val] 26)).alloc (.cells #[.int .u8 j.op, .int .i64 j.arg, .int .u64 j.val] 26) = Q) := by show _ = _; rw [hQ0, hQ]
  have HI : Hid (∀ W, Touch Q W [] → InsAt W w.heap.size i) := fun W t => aI'.keep t
  have HJ : Hid (∀ W, Touch Q W [] → InsAt W (w.heap.size + 1) j) := fun W t => aJ.keep t
  have HWD : Hid (∀ W, Touch Q W [] → HidC Tryd.prog 16 #[] W fun e w' => e = .returned (.bool true) ∧ Touch W w' []) := fun W t => ⟨live_any (h.touch (HTQ.out.trans t (by simp)) (by simp))⟩
  have eQ : Q.heap.size = w.heap.size + 1 + 1 := by rw [← hQ]; simp [eQ0]
  have HE1 : HidC _ _ _ _ _ := ⟨encode_one Q i wi⟩
  rw [eQ] at HE1
  have HE2 : Hid (∀ W, HidC Tryd.prog 21 #[.slice (some ⟨W.heap.size, 0, none⟩) 1 1] (W.alloc (.cells #[.int .u8 j.op, .int .i64 j.arg, .int .u64 j.val] 26)) (OnePost W (rightI j) (encI j).length (encI j))) := fun W => ⟨encode_one W j wj⟩
  have HRI : Hid (∀ W, HidC Tryd.prog 17 #[i.v] W fun e w' => e = .returned (.bool (rightI i)) ∧ Touch W w' []) := fun W => ⟨cright_any i W⟩
  have HRJ : Hid (∀ W, HidC Tryd.prog 17 #[j.v] W fun e w' => e = .returned (.bool (rightI j)) ∧ Touch W w' []) := fun W => ⟨cright_any j W⟩
  have HSAME : Hid (rightI i = true → rightI j = true → (strOfNums (encI i) = strOfNums (encI j) ↔ i = j)) := fun ri rj => ⟨fun e => encI_inj ri rj wi wj ((str_inj (encI_byte wi) (encI_byte wj)).1 e), fun e => by rw [e]⟩
  have HPRE : Hid (rightI i = true → rightI j = true → (encI i).length ≤ (encI j).length → (strOfNums ((encI j).take (encI i).length) = strOfNums (encI i) ↔ i = j)) := fun ri rj hle => by
    rw [str_inj (fun x hx => encI_byte wj x (List.mem_of_mem_take hx)) (encI_byte wi)]
    exact ⟨fun e => encI_pre (s := (encI j).drop (encI i).length) ri rj wi wj (by rw [← e, List.length_take, Nat.min_eq_left hle, List.take_append_drop]), fun e => by rw [e]; simp⟩
  have HEQ : Hid (i = j → (encI i).length = (encI j).length) := fun e => by rw [e]
  generalize rightI i = ri at *
  generalize rightI j = rj at *
  generalize encI i = li at *
  generalize encI j = lj at *
  generalize hni : li.length = ni at *
  generalize hnj : lj.length = nj at *
  have ei := HI.out Q (Touch.refl _ _)
  have ej := HJ.out Q (Touch.refl _ _)
  obtain ⟨o, a, v⟩ := i
  obtain ⟨p, b, u⟩ := j
  simp only [InsD.v] at *
  obtain ⟨i0, i1, i2⟩ := ei
  obtain ⟨j0, j1, j2⟩ := ej
  clear eQ h wi wj tB aI eQ0 tC aJ aI' hQ0 hQ hni hnj
  go_enter Tryd.func7, Tryd.ntmps7
  go_wp2_with fail
  rw [HQ.out]
  clear HQ
  refine HE1.out.mono ?_
  clear HE1
  rintro e w1 (⟨hri, ao, cap, rfl, B1, t1⟩ | ⟨hri, rfl, t1⟩)
  · have e0 := HJ.out w1 t1
    clear j0 j1 j2
    obtain ⟨j0, j1, j2⟩ := e0
    have HT1 : Hid _ := t1
    have HB1 : Hid _ := B1
    subst hri
    clear t1 B1
    clear i0 i1 i2
    go_wp2_with fail
    refine (HE2.out _).out.mono ?_
    clear HE2
    rintro e w2 (⟨hrj, bo, cbp, rfl, B2, t2⟩ | ⟨hrj, rfl, t2⟩)
    · subst hrj
      have T2 : Touch Q w2 [] := HT1.out.trans t2 (by simp)
      have B12 := HB1.out.keep t2
      have hsa := fun n => (B12.keep ((Touch.refl w2 []).drewN n)).str
      have HSTA : Hid (∀ W, Touch w2 W [] → (convert 39 9 (.slice ao ni cap)).run Tryd.prog W = .ok (.string (strOfNums li)) W) := fun W t => (B12.keep t).str
      have HSTB : Hid (∀ W, Touch w2 W [] → (convert 39 9 (.slice bo nj cbp)).run Tryd.prog W = .ok (.string (strOfNums lj)) W) := fun W t => (B2.keep t).str
      have HSA : Hid _ := HSAME.out (by simp) (by simp)
      have HPR : Hid _ := HPRE.out (by simp) (by simp)
      have HT2 : Hid _ := T2
      have HTQ2 : Hid _ := T2
      generalize strOfNums li = sa at *
      generalize strOfNums lj = sb at *
      clear HSAME HPRE HRI HRJ j0 j1 j2 t2 T2 HB1 HT1
      by_cases he : InsD.mk o a v = InsD.mk p b u
      · have e1 := HSA.out.2 he
        have e2 := HEQ.out he
        subst e1 e2
        have HPR' := (HPR.out (Nat.le_refl _)).2 he
        simp only [InsD.mk.injEq] at he
        obtain ⟨rfl, rfl, rfl⟩ := he
        have hn1 : (ni : Int) ≤ ni := by omega
        have B3 := B2.take ni (Nat.le_refl _)
        have hsb := fun n => (B3.keep ((Touch.refl w2 []).drewN n)).str
        rw [HPR'] at hsb
        have hc1 : (ni : Int) ≤ cbp := by have := B2.le; omega
        have hc2 : ni ≤ cbp := by have := B2.le; omega
        clear B2 B3 HPR B12 HPR' HSA HEQ
        go_wp2_with fail
        go_quiet (fail)
        clear hsa hsb
        go_wp2_with fail
        refine wp_name fun W3 hW3 => ?_
        have T2 : Touch w2 W3 [] := by rw [hW3]; exact (Touch.refl w2 []).drewN _
        have hd : Touch w2 W3.drew [] := T2.drew
        have hdQ : Touch Q W3.drew [] := HT2.out.trans hd (by simp)
        have HALL : Hid (∀ W, Touch w2 W [] → ((W.cell? ⟨w.heap.size, 0, none⟩ = some (.int .u8 o) ∧ W.cell? ⟨w.heap.size, 1, none⟩ = some (.int .i64 a) ∧ W.cell? ⟨w.heap.size, 2, none⟩ = some (.int .u64 v)) ∧ (W.cell? ⟨w.heap.size + 1, 0, none⟩ = some (.int .u8 o) ∧ W.cell? ⟨w.heap.size + 1, 1, none⟩ = some (.int .i64 a) ∧ W.cell? ⟨w.heap.size + 1, 2, none⟩ = some (.int .u64 v))) ∧ ((convert 39 9 (.slice ao ni cap)).run Tryd.prog W = .ok (.string sa) W ∧ (convert 39 9 (.slice bo ni cbp)).run Tryd.prog W = .ok (.string sa) W)) := fun W t => by
          have q1 := HI.out _ (HT2.out.trans t (by simp))
          have q2 := HJ.out _ (HT2.out.trans t (by simp))
          exact ⟨⟨⟨q1.c0, q1.c1, q1.c2⟩, ⟨q2.c0, q2.c1, q2.c2⟩⟩, ⟨HSTA.out _ t, HSTB.out _ t⟩⟩
        clear hW3 T2 HI HJ HSTA HSTB HT2
        go_region_held3 (fun w' => ((w'.cell? ⟨w.heap.size, 0, none⟩ = some (.int .u8 o) ∧ w'.cell? ⟨w.heap.size, 1, none⟩ = some (.int .i64 a) ∧ w'.cell? ⟨w.heap.size, 2, none⟩ = some (.int .u64 v)) ∧ (w'.cell? ⟨w.heap.size + 1, 0, none⟩ = some (.int .u8 o) ∧ w'.cell? ⟨w.heap.size + 1, 1, none⟩ = some (.int .i64 a) ∧ w'.cell? ⟨w.heap.size + 1, 2, none⟩ = some (.int .u64 v))) ∧ ((convert 39 9 (.slice ao ni cap)).run Tryd.prog w' = .ok (.string sa) w' ∧ (convert 39 9 (.slice bo ni cbp)).run Tryd.prog w' = .ok (.string sa) w')) ((first | exact HALL.out _ hd | exact HALL.out _ t3)) ((first
            | (go_at_call 16; refine (HWD.out _ hdQ).out.mono ?_; rintro e w3 ⟨rfl, t3'⟩; have t3 : Touch w2 w3 [] := hd.trans t3' (by simp))))
        go_wp2
        go_ret
        exact ⟨rfl, HTQ.out.trans (HTQ2.out.trans t3 (by simp)) (by simp)⟩
      · have hab : ¬ sa = sb := fun e => he (HSA.out.1 e)
        obtain ⟨hab2, hab3⟩ := str_ne hab
        rcases Classical.em (o = p) with ho | ho
        · subst ho
          rcases Classical.em (a = b) with ha | ha
          · subst ha
            have hv : ¬ v = u := fun e => he (by rw [e])
            have hv2 : (v == u) = false := by simpa using hv
            clear HSA HEQ
            by_cases hn : ni ≤ nj
            · have hn1 : (ni : Int) ≤ nj := by omega
              have B3 := B2.take ni hn
              have hsb := fun n => (B3.keep ((Touch.refl w2 []).drewN n)).str
              have hsc0 : ¬ strOfNums (lj.take ni) = sa := fun e => he ((HPR.out hn).1 e)
              generalize strOfNums (lj.take ni) = sc at *
              obtain ⟨hsc, hsc2⟩ := str_ne hsc0
              have hc1 : (ni : Int) ≤ cbp := by have := B2.le; omega
              have hc2 : ni ≤ cbp := by have := B2.le; omega
              clear B2 B3 HPR B12 he hn
              go_wp2_with fail
              go_quiet (fail)
              clear hsa hsb
              go_wp2_with fail
              refine wp_name fun W3 hW3 => ?_
              have T2 : Touch w2 W3 [] := by rw [hW3]; exact (Touch.refl w2 []).drewN _
              have hd : Touch w2 W3.drew [] := T2.drew
              have hdQ : Touch Q W3.drew [] := HT2.out.trans hd (by simp)
              have HALL : Hid (∀ W, Touch w2 W [] → ((W.cell? ⟨w.heap.size, 0, none⟩ = some (.int .u8 o) ∧ W.cell? ⟨w.heap.size, 1, none⟩ = some (.int .i64 a) ∧ W.cell? ⟨w.heap.size, 2, none⟩ = some (.int .u64 v)) ∧ (W.cell? ⟨w.heap.size + 1, 0, none⟩ = some (.int .u8 o) ∧ W.cell? ⟨w.heap.size + 1, 1, none⟩ = some (.int .i64 a) ∧ W.cell? ⟨w.heap.size + 1, 2, none⟩ = some (.int .u64 u))) ∧ ((convert 39 9 (.slice ao ni cap)).run Tryd.prog W = .ok (.string sa) W ∧ (convert 39 9 (.slice bo nj cbp)).run Tryd.prog W = .ok (.string sb) W)) := fun W t => by
                have q1 := HI.out _ (HT2.out.trans t (by simp))
                have q2 := HJ.out _ (HT2.out.trans t (by simp))
                exact ⟨⟨⟨q1.c0, q1.c1, q1.c2⟩, ⟨q2.c0, q2.c1, q2.c2⟩⟩, ⟨HSTA.out _ t, HSTB.out _ t⟩⟩
              clear hW3 T2 HI HJ HSTA HSTB HT2
              go_region_held3 (fun w' => ((w'.cell? ⟨w.heap.size, 0, none⟩ = some (.int .u8 o) ∧ w'.cell? ⟨w.heap.size, 1, none⟩ = some (.int .i64 a) ∧ w'.cell? ⟨w.heap.size, 2, none⟩ = some (.int .u64 v)) ∧ (w'.cell? ⟨w.heap.size + 1, 0, none⟩ = some (.int .u8 o) ∧ w'.cell? ⟨w.heap.size + 1, 1, none⟩ = some (.int .i64 a) ∧ w'.cell? ⟨w.heap.size + 1, 2, none⟩ = some (.int .u64 u))) ∧ ((convert 39 9 (.slice ao ni cap)).run Tryd.prog w' = .ok (.string sa) w' ∧ (convert 39 9 (.slice bo nj cbp)).run Tryd.prog w' = .ok (.string sb) w')) ((first | exact HALL.out _ hd | exact HALL.out _ t3)) ((first
                  | (go_at_call 16; refine (HWD.out _ hdQ).out.mono ?_; rintro e w3 ⟨rfl, t3'⟩; have t3 : Touch w2 w3 [] := hd.trans t3' (by simp))))
              go_wp2
              go_ret
              exact ⟨rfl, HTQ.out.trans (HTQ2.out.trans t3 (by simp)) (by simp)⟩
            · have hn1 : ¬ ((ni : Int) ≤ nj) := by omega
              have hn2 : decide ((ni : Int) ≤ nj) = false := decide_eq_false hn1
              have hn3 : decide (ni ≤ nj) = false := decide_eq_false hn
              have hsb := hsa
              clear B2 HPR B12 he
              go_wp2_with fail
              go_quiet (fail)
              clear hsa hsb
              go_wp2_with fail
              refine wp_name fun W3 hW3 => ?_
              have T2 : Touch w2 W3 [] := by rw [hW3]; exact (Touch.refl w2 []).drewN _
              have hd : Touch w2 W3.drew [] := T2.drew
              have hdQ : Touch Q W3.drew [] := HT2.out.trans hd (by simp)
              have HALL : Hid (∀ W, Touch w2 W [] → ((W.cell? ⟨w.heap.size, 0, none⟩ = some (.int .u8 o) ∧ W.cell? ⟨w.heap.size, 1, none⟩ = some (.int .i64 a) ∧ W.cell? ⟨w.heap.size, 2, none⟩ = some (.int .u64 v)) ∧ (W.cell? ⟨w.heap.size + 1, 0, none⟩ = some (.int .u8 o) ∧ W.cell? ⟨w.heap.size + 1, 1, none⟩ = some (.int .i64 a) ∧ W.cell? ⟨w.heap.size + 1, 2, none⟩ = some (.int .u64 u))) ∧ ((convert 39 9 (.slice ao ni cap)).run Tryd.prog W = .ok (.string sa) W ∧ (convert 39 9 (.slice bo nj cbp)).run Tryd.prog W = .ok (.string sb) W)) := fun W t => by
                have q1 := HI.out _ (HT2.out.trans t (by simp))
                have q2 := HJ.out _ (HT2.out.trans t (by simp))
                exact ⟨⟨⟨q1.c0, q1.c1, q1.c2⟩, ⟨q2.c0, q2.c1, q2.c2⟩⟩, ⟨HSTA.out _ t, HSTB.out _ t⟩⟩
              clear hW3 T2 HI HJ HSTA HSTB HT2
              go_region_held3 (fun w' => ((w'.cell? ⟨w.heap.size, 0, none⟩ = some (.int .u8 o) ∧ w'.cell? ⟨w.heap.size, 1, none⟩ = some (.int .i64 a) ∧ w'.cell? ⟨w.heap.size, 2, none⟩ = some (.int .u64 v)) ∧ (w'.cell? ⟨w.heap.size + 1, 0, none⟩ = some (.int .u8 o) ∧ w'.cell? ⟨w.heap.size + 1, 1, none⟩ = some (.int .i64 a) ∧ w'.cell? ⟨w.heap.size + 1, 2, none⟩ = some (.int .u64 u))) ∧ ((convert 39 9 (.slice ao ni cap)).run Tryd.prog w' = .ok (.string sa) w' ∧ (convert 39 9 (.slice bo nj cbp)).run Tryd.prog w' = .ok (.string sb) w')) ((first | exact HALL.out _ hd | exact HALL.out _ t3)) ((first
                  | (go_at_call 16; refine (HWD.out _ hdQ).out.mono ?_; rintro e w3 ⟨rfl, t3'⟩; have t3 : Touch w2 w3 [] := hd.trans t3' (by simp))))
              go_wp2
              go_ret
              exact ⟨rfl, HTQ.out.trans (HTQ2.out.trans t3 (by simp)) (by simp)⟩
          · have ha2 : (a == b) = false := by simpa using ha
            clear HSA HEQ
            by_cases hn : ni ≤ nj
            · have hn1 : (ni : Int) ≤ nj := by omega
              have B3 := B2.take ni hn
              have hsb := fun n => (B3.keep ((Touch.refl w2 []).drewN n)).str
              have hsc0 : ¬ strOfNums (lj.take ni) = sa := fun e => he ((HPR.out hn).1 e)
              generalize strOfNums (lj.take ni) = sc at *
              obtain ⟨hsc, hsc2⟩ := str_ne hsc0
              have hc1 : (ni : Int) ≤ cbp := by have := B2.le; omega
              have hc2 : ni ≤ cbp := by have := B2.le; omega
              clear B2 B3 HPR B12 he hn
              go_wp2_with fail
              go_quiet (fail)
              clear hsa hsb
              go_wp2_with fail
              refine wp_name fun W3 hW3 => ?_
              have T2 : Touch w2 W3 [] := by rw [hW3]; exact (Touch.refl w2 []).drewN _
              have hd : Touch w2 W3.drew [] := T2.drew
              have hdQ : Touch Q W3.drew [] := HT2.out.trans hd (by simp)
              have HALL : Hid (∀ W, Touch w2 W [] → ((W.cell? ⟨w.heap.size, 0, none⟩ = some (.int .u8 o) ∧ W.cell? ⟨w.heap.size, 1, none⟩ = some (.int .i64 a) ∧ W.cell? ⟨w.heap.size, 2, none⟩ = some (.int .u64 v)) ∧ (W.cell? ⟨w.heap.size + 1, 0, none⟩ = some (.int .u8 o) ∧ W.cell? ⟨w.heap.size + 1, 1, none⟩ = some (.int .i64 b) ∧ W.cell? ⟨w.heap.size + 1, 2, none⟩ = some (.int .u64 u))) ∧ ((convert 39 9 (.slice ao ni cap)).run Tryd.prog W = .ok (.string sa) W ∧ (convert 39 9 (.slice bo nj cbp)).run Tryd.prog W = .ok (.string sb) W)) := fun W t => by
                have q1 := HI.out _ (HT2.out.trans t (by simp))
                have q2 := HJ.out _ (HT2.out.trans t (by simp))
                exact ⟨⟨⟨q1.c0, q1.c1, q1.c2⟩, ⟨q2.c0, q2.c1, q2.c2⟩⟩, ⟨HSTA.out _ t, HSTB.out _ t⟩⟩
              clear hW3 T2 HI HJ HSTA HSTB HT2
              go_region_held3 (fun w' => ((w'.cell? ⟨w.heap.size, 0, none⟩ = some (.int .u8 o) ∧ w'.cell? ⟨w.heap.size, 1, none⟩ = some (.int .i64 a) ∧ w'.cell? ⟨w.heap.size, 2, none⟩ = some (.int .u64 v)) ∧ (w'.cell? ⟨w.heap.size + 1, 0, none⟩ = some (.int .u8 o) ∧ w'.cell? ⟨w.heap.size + 1, 1, none⟩ = some (.int .i64 b) ∧ w'.cell? ⟨w.heap.size + 1, 2, none⟩ = some (.int .u64 u))) ∧ ((convert 39 9 (.slice ao ni cap)).run Tryd.prog w' = .ok (.string sa) w' ∧ (convert 39 9 (.slice bo nj cbp)).run Tryd.prog w' = .ok (.string sb) w')) ((first | exact HALL.out _ hd | exact HALL.out _ t3)) ((first
                  | (go_at_call 16; refine (HWD.out _ hdQ).out.mono ?_; rintro e w3 ⟨rfl, t3'⟩; have t3 : Touch w2 w3 [] := hd.trans t3' (by simp))))
              go_wp2
              go_ret
              exact ⟨rfl, HTQ.out.trans (HTQ2.out.trans t3 (by simp)) (by simp)⟩
            · have hn1 : ¬ ((ni : Int) ≤ nj) := by omega
              have hn2 : decide ((ni : Int) ≤ nj) = false := decide_eq_false hn1
              have hn3 : decide (ni ≤ nj) = false := decide_eq_false hn
              have hsb := hsa
              clear B2 HPR B12 he
              go_wp2_with fail
              go_quiet (fail)
              clear hsa hsb
              go_wp2_with fail
              refine wp_name fun W3 hW3 => ?_
              have T2 : Touch w2 W3 [] := by rw [hW3]; exact (Touch.refl w2 []).drewN _
              have hd : Touch w2 W3.drew [] := T2.drew
              have hdQ : Touch Q W3.drew [] := HT2.out.trans hd (by simp)
              have HALL : Hid (∀ W, Touch w2 W [] → ((W.cell? ⟨w.heap.size, 0, none⟩ = some (.int .u8 o) ∧ W.cell? ⟨w.heap.size, 1, none⟩ = some (.int .i64 a) ∧ W.cell? ⟨w.heap.size, 2, none⟩ = some (.int .u64 v)) ∧ (W.cell? ⟨w.heap.size + 1, 0, none⟩ = some (.int .u8 o) ∧ W.cell? ⟨w.heap.size + 1, 1, none⟩ = some (.int .i64 b) ∧ W.cell? ⟨w.heap.size + 1, 2, none⟩ = some (.int .u64 u))) ∧ ((convert 39 9 (.slice ao ni cap)).run Tryd.prog W = .ok (.string sa) W ∧ (convert 39 9 (.slice bo nj cbp)).run Tryd.prog W = .ok (.string sb) W)) := fun W t => by
                have q1 := HI.out _ (HT2.out.trans t (by simp))
                have q2 := HJ.out _ (HT2.out.trans t (by simp))
                exact ⟨⟨⟨q1.c0, q1.c1, q1.c2⟩, ⟨q2.c0, q2.c1, q2.c2⟩⟩, ⟨HSTA.out _ t, HSTB.out _ t⟩⟩
              clear hW3 T2 HI HJ HSTA HSTB HT2
              go_region_held3 (fun w' => ((w'.cell? ⟨w.heap.size, 0, none⟩ = some (.int .u8 o) ∧ w'.cell? ⟨w.heap.size, 1, none⟩ = some (.int .i64 a) ∧ w'.cell? ⟨w.heap.size, 2, none⟩ = some (.int .u64 v)) ∧ (w'.cell? ⟨w.heap.size + 1, 0, none⟩ = some (.int .u8 o) ∧ w'.cell? ⟨w.heap.size + 1, 1, none⟩ = some (.int .i64 b) ∧ w'.cell? ⟨w.heap.size + 1, 2, none⟩ = some (.int .u64 u))) ∧ ((convert 39 9 (.slice ao ni cap)).run Tryd.prog w' = .ok (.string sa) w' ∧ (convert 39 9 (.slice bo nj cbp)).run Tryd.prog w' = .ok (.string sb) w')) ((first | exact HALL.out _ hd | exact HALL.out _ t3)) ((first
                  | (go_at_call 16; refine (HWD.out _ hdQ).out.mono ?_; rintro e w3 ⟨rfl, t3'⟩; have t3 : Touch w2 w3 [] := hd.trans t3' (by simp))))
              go_wp2
              go_ret
              exact ⟨rfl, HTQ.out.trans (HTQ2.out.trans t3 (by simp)) (by simp)⟩
        · have ho2 : (o == p) = false := by simpa using ho
          clear HSA HEQ
          by_cases hn : ni ≤ nj
          · have hn1 : (ni : Int) ≤ nj := by omega
            have B3 := B2.take ni hn
            have hsb := fun n => (B3.keep ((Touch.refl w2 []).drewN n)).str
            have hsc0 : ¬ strOfNums (lj.take ni) = sa := fun e => he ((HPR.out hn).1 e)
            generalize strOfNums (lj.take ni) = sc at *
            obtain ⟨hsc, hsc2⟩ := str_ne hsc0
            have hc1 : (ni : Int) ≤ cbp := by have := B2.le; omega
            have hc2 : ni ≤ cbp := by have := B2.le; omega
            clear B2 B3 HPR B12 he hn
            go_wp2_with fail
            go_quiet (fail)
            clear hsa hsb
            go_wp2_with fail
            refine wp_name fun W3 hW3 => ?_
            have T2 : Touch w2 W3 [] := by rw [hW3]; exact (Touch.refl w2 []).drewN _
            have hd : Touch w2 W3.drew [] := T2.drew
            have hdQ : Touch Q W3.drew [] := HT2.out.trans hd (by simp)
            have HALL : Hid (∀ W, Touch w2 W [] → ((W.cell? ⟨w.heap.size, 0, none⟩ = some (.int .u8 o) ∧ W.cell? ⟨w.heap.size, 1, none⟩ = some (.int .i64 a) ∧ W.cell? ⟨w.heap.size, 2, none⟩ = some (.int .u64 v)) ∧ (W.cell? ⟨w.heap.size + 1, 0, none⟩ = some (.int .u8 p) ∧ W.cell? ⟨w.heap.size + 1, 1, none⟩ = some (.int .i64 b) ∧ W.cell? ⟨w.heap.size + 1, 2, none⟩ = some (.int .u64 u))) ∧ ((convert 39 9 (.slice ao ni cap)).run Tryd.prog W = .ok (.string sa) W ∧ (convert 39 9 (.slice bo nj cbp)).run Tryd.prog W = .ok (.string sb) W)) := fun W t => by
              have q1 := HI.out _ (HT2.out.trans t (by simp))
              have q2 := HJ.out _ (HT2.out.trans t (by simp))
              exact ⟨⟨⟨q1.c0, q1.c1, q1.c2⟩, ⟨q2.c0, q2.c1, q2.c2⟩⟩, ⟨HSTA.out _ t, HSTB.out _ t⟩⟩
            clear hW3 T2 HI HJ HSTA HSTB HT2
            go_region_held3 (fun w' => ((w'.cell? ⟨w.heap.size, 0, none⟩ = some (.int .u8 o) ∧ w'.cell? ⟨w.heap.size, 1, none⟩ = some (.int .i64 a) ∧ w'.cell? ⟨w.heap.size, 2, none⟩ = some (.int .u64 v)) ∧ (w'.cell? ⟨w.heap.size + 1, 0, none⟩ = some (.int .u8 p) ∧ w'.cell? ⟨w.heap.size + 1, 1, none⟩ = some (.int .i64 b) ∧ w'.cell? ⟨w.heap.size + 1, 2, none⟩ = some (.int .u64 u))) ∧ ((convert 39 9 (.slice ao ni cap)).run Tryd.prog w' = .ok (.string sa) w' ∧ (convert 39 9 (.slice bo nj cbp)).run Tryd.prog w' = .ok (.string sb) w')) ((first | exact HALL.out _ hd | exact HALL.out _ t3)) ((first
                | (go_at_call 16; refine (HWD.out _ hdQ).out.mono ?_; rintro e w3 ⟨rfl, t3'⟩; have t3 : Touch w2 w3 [] := hd.trans t3' (by simp))))
            go_wp2
            go_ret
            exact ⟨rfl, HTQ.out.trans (HTQ2.out.trans t3 (by simp)) (by simp)⟩
          · have hn1 : ¬ ((ni : Int) ≤ nj) := by omega
            have hn2 : decide ((ni : Int) ≤ nj) = false := decide_eq_false hn1
            have hn3 : decide (ni ≤ nj) = false := decide_eq_false hn
            have hsb := hsa
            clear B2 HPR B12 he
            go_wp2_with fail
            go_quiet (fail)
            clear hsa hsb
            go_wp2_with fail
            refine wp_name fun W3 hW3 => ?_
            have T2 : Touch w2 W3 [] := by rw [hW3]; exact (Touch.refl w2 []).drewN _
            have hd : Touch w2 W3.drew [] := T2.drew
            have hdQ : Touch Q W3.drew [] := HT2.out.trans hd (by simp)
            have HALL : Hid (∀ W, Touch w2 W [] → ((W.cell? ⟨w.heap.size, 0, none⟩ = some (.int .u8 o) ∧ W.cell? ⟨w.heap.size, 1, none⟩ = some (.int .i64 a) ∧ W.cell? ⟨w.heap.size, 2, none⟩ = some (.int .u64 v)) ∧ (W.cell? ⟨w.heap.size + 1, 0, none⟩ = some (.int .u8 p) ∧ W.cell? ⟨w.heap.size + 1, 1, none⟩ = some (.int .i64 b) ∧ W.cell? ⟨w.heap.size + 1, 2, none⟩ = some (.int .u64 u))) ∧ ((convert 39 9 (.slice ao ni cap)).run Tryd.prog W = .ok (.string sa) W ∧ (convert 39 9 (.slice bo nj cbp)).run Tryd.prog W = .ok (.string sb) W)) := fun W t => by
              have q1 := HI.out _ (HT2.out.trans t (by simp))
              have q2 := HJ.out _ (HT2.out.trans t (by simp))
              exact ⟨⟨⟨q1.c0, q1.c1, q1.c2⟩, ⟨q2.c0, q2.c1, q2.c2⟩⟩, ⟨HSTA.out _ t, HSTB.out _ t⟩⟩
            clear hW3 T2 HI HJ HSTA HSTB HT2
            go_region_held3 (fun w' => ((w'.cell? ⟨w.heap.size, 0, none⟩ = some (.int .u8 o) ∧ w'.cell? ⟨w.heap.size, 1, none⟩ = some (.int .i64 a) ∧ w'.cell? ⟨w.heap.size, 2, none⟩ = some (.int .u64 v)) ∧ (w'.cell? ⟨w.heap.size + 1, 0, none⟩ = some (.int .u8 p) ∧ w'.cell? ⟨w.heap.size + 1, 1, none⟩ = some (.int .i64 b) ∧ w'.cell? ⟨w.heap.size + 1, 2, none⟩ = some (.int .u64 u))) ∧ ((convert 39 9 (.slice ao ni cap)).run Tryd.prog w' = .ok (.string sa) w' ∧ (convert 39 9 (.slice bo nj cbp)).run Tryd.prog w' = .ok (.string sb) w')) ((first | exact HALL.out _ hd | exact HALL.out _ t3)) ((first
                | (go_at_call 16; refine (HWD.out _ hdQ).out.mono ?_; rintro e w3 ⟨rfl, t3'⟩; have t3 : Touch w2 w3 [] := hd.trans t3' (by simp))))
            go_wp2
            go_ret
            exact ⟨rfl, HTQ.out.trans (HTQ2.out.trans t3 (by simp)) (by simp)⟩
    · subst hrj
      have T2 : Touch Q w2 [] := HT1.out.trans t2 (by simp)
      clear j0 j1 j2 t2
      go_wp2_with fail
      refine (HWD.out _ T2).out.mono ?_
      rintro e w3 ⟨rfl, t3⟩
      have T3 : Touch Q w3 [] := T2.trans t3 (by simp)
      have e3 := HI.out w3 T3
      obtain ⟨k0, k1, k2⟩ := e3
      clear t3 T2
      go_wp2_with fail
      refine (HRI.out _).out.mono ?_
      rintro e w4 ⟨rfl, t4⟩
      have T4 : Touch Q w4 [] := T3.trans t4 (by simp)
      have e4 := HJ.out w4 T4
      obtain ⟨l0, l1, l2⟩ := e4
      clear t4 T3 k0 k1 k2
      go_wp2_with fail
      refine (HRJ.out _).out.mono ?_
      rintro e w5 ⟨rfl, t5⟩
      have T5 : Touch Q w5 [] := T4.trans t5 (by simp)
      clear t5 T4 l0 l1 l2
      go_wp2
      go_ret
      exact ⟨rfl, HTQ.out.trans T5 (by simp)⟩
  · have e0 := HJ.out w1 t1
    clear j0 j1 j2
    obtain ⟨j0, j1, j2⟩ := e0
    have HT1 : Hid _ := t1
    subst hri
    clear t1
    clear i0 i1 i2
    go_wp2_with fail
    refine (HE2.out _).out.mono ?_
    clear HE2
    rintro e w2 (⟨hrj, bo, cbp, rfl, B2, t2⟩ | ⟨hrj, rfl, t2⟩)
    · subst hrj
      have T2 : Touch Q w2 [] := HT1.out.trans t2 (by simp)
      clear j0 j1 j2 t2
      go_wp2_with fail
      refine (HWD.out _ T2).out.mono ?_
      rintro e w3 ⟨rfl, t3⟩
      have T3 : Touch Q w3 [] := T2.trans t3 (by simp)
      have e3 := HI.out w3 T3
      obtain ⟨k0, k1, k2⟩ := e3
      clear t3 T2
      go_wp2_with fail
      refine (HRI.out _).out.mono ?_
      rintro e w4 ⟨rfl, t4⟩
      have T4 : Touch Q w4 [] := T3.trans t4 (by simp)
      have e4 := HJ.out w4 T4
      obtain ⟨l0, l1, l2⟩ := e4
      clear t4 T3 k0 k1 k2
      go_wp2_with fail
      refine (HRJ.out _).out.mono ?_
      rintro e w5 ⟨rfl, t5⟩
      have T5 : Touch Q w5 [] := T4.trans t5 (by simp)
      clear t5 T4 l0 l1 l2
      go_wp2
      go_ret
      exact ⟨rfl, HTQ.out.trans T5 (by simp)⟩
    · subst hrj
      have T2 : Touch Q w2 [] := HT1.out.trans t2 (by simp)
      clear j0 j1 j2 t2
      go_wp2_with fail
      refine (HWD.out _ T2).out.mono ?_
      rintro e w3 ⟨rfl, t3⟩
      have T3 : Touch Q w3 [] := T2.trans t3 (by simp)
      have e3 := HI.out w3 T3
      obtain ⟨k0, k1, k2⟩ := e3
      clear t3 T2
      go_wp2_with fail
      refine (HRI.out _).out.mono ?_
      rintro e w4 ⟨rfl, t4⟩
      have T4 : Touch Q w4 [] := T3.trans t4 (by simp)
      have e4 := HJ.out w4 T4
      obtain ⟨l0, l1, l2⟩ := e4
      clear t4 T3 k0 k1 k2
      go_wp2_with fail
      refine (HRJ.out _).out.mono ?_
      rintro e w5 ⟨rfl, t5⟩
      have T5 : Touch Q w5 [] := T4.trans t5 (by simp)
      clear t5 T4 l0 l1 l2
      go_wp2
      go_ret
      exact ⟨rfl, HTQ.out.trans T5 (by simp)⟩

end Go.Proofs.YtoaajheneojfjaaDoor

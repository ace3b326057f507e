/-
  THE DOCUMENT's Decode BY ITS CONTRACT.
-/
import Derived.Test.YtoaajheneojfjaaDoorCdDecG
import Derived.Test.YtoaajheneojfjaaDoorVfRRight
namespace Go.Proofs.YtoaajheneojfjaaDoor
set_option linter.unusedVariables false
set_option linter.unusedSimpArgs false
open Go.RowKit
attribute [local go_sem] Oper.semAt_some

theorem fit_arg {o x : Int} {r : List Int} (hap : argP o = true) : fitOf (o :: x :: r) = ⟨o, x, 0⟩ := by
  have hvp := arg_val hap
  unfold fitOf; simp only [List.getD_cons_zero, hap, hvp]; simp
theorem fit_bare {o : Int} {r : List Int} (hap : argP o = false) (hvp : valP o = false) : fitOf (o :: r) = ⟨o, 0, 0⟩ := by
  unfold fitOf; simp only [List.getD_cons_zero, hap, hvp]; simp
theorem fit_val {o : Int} {r : List Int} (hap : argP o = false) (hvp : valP o = true) : fitOf (o :: r) = ⟨o, 0, (valN (r.take 8) : Int)⟩ := by
  unfold fitOf; simp only [List.getD_cons_zero, hap, hvp]; simp

/-- An instruction in a block of its own. -/
structure BoxI (W : World) (p : Nat) (o a v : Int) : Prop where
  st : W.heap[p]? = some (.cells #[.int .u8 o, .int .i64 a, .int .u64 v] 26 (0, 0))
theorem BoxI.touch {W W' : World} {p : Nat} {o a v : Int} {S : List Nat} (h : BoxI W p o a v) (t : Touch W W' S) (hS : p ∉ S) : BoxI W' p o a v := ⟨(t.block p (lt_of_heap h.st) hS).trans h.st⟩
theorem BoxI.cells {W : World} {p : Nat} {o a v : Int} (h : BoxI W p o a v) : W.cell? ⟨p, 0, none⟩ = some (.int .u8 o) ∧ W.cell? ⟨p, 1, none⟩ = some (.int .i64 a) ∧ W.cell? ⟨p, 2, none⟩ = some (.int .u64 v) :=
  ⟨by unfold World.cell?; rw [h.st]; rfl, by unfold World.cell?; rw [h.st]; rfl, by unfold World.cell?; rw [h.st]; rfl⟩
theorem BoxI.fr {W : World} {p : Nat} {o a v : Int} (h : BoxI W p o a v) (j : Nat) : W.frozen? ⟨p, j, none⟩ = false := by unfold World.frozen?; rw [h.st]; simp
theorem BoxI.set1 {W : World} {p : Nat} {o a v : Int} (h : BoxI W p o a v) (x : Int) : BoxI (W.setCell ⟨p, 1, none⟩ (.int .i64 x)) p o x v := ⟨heap_setCell_same _ _ _ _ _ _ h.st⟩
theorem BoxI.set2 {W : World} {p : Nat} {o a v : Int} (h : BoxI W p o a v) (x : Int) : BoxI (W.setCell ⟨p, 2, none⟩ (.int .u64 x)) p o a x := ⟨heap_setCell_same _ _ _ _ _ _ h.st⟩

/-- Behind one that is right, and one that is not. -/
theorem dec_on {R : Option (List InsD)} {f : Nat} {L : List InsD} {b : List Int} (h : R = (decF (f + 1) b).map (L ++ ·)) {o : Int} {r : List Int} (hb : b = o :: r) (hw : ¬ b.length < widthP o) (i : InsD) (hi : fitOf b = i) (hr : rightI i = true) : R = (decF f (b.drop (widthP o))).map ((L ++ [i]) ++ ·) := by
  subst hb
  subst hi
  rw [h, decF_on hw hr]
  cases decF f ((o :: r).drop (widthP o)) <;> simp
theorem dec_off {R : Option (List InsD)} {f : Nat} {L : List InsD} {b : List Int} (h : R = (decF f b).map (L ++ ·)) {o : Int} {r : List Int} (hb : b = o :: r) (i : InsD) (hi : fitOf b = i) (hr : rightI i = false) : R = none := by
  subst hb
  subst hi
  rw [h, decF_wrong hr]
  rfl
theorem dec_short {R : Option (List InsD)} {f : Nat} {L : List InsD} {b : List Int} (h : R = (decF f b).map (L ++ ·)) {o : Int} {r : List Int} (hb : b = o :: r) (hw : b.length < widthP o) : R = none := by
  subst hb
  rw [h, decF_short hw]
  rfl

set_option maxRecDepth 100000 in
set_option maxHeartbeats 2000000 in
theorem rdecode_gen {w : World} {ao : Option Addr} {n cap : Nat} {l : List Int} (h : BytAt w ao n cap l) (hb : ByteL l) (hl : l.length ≤ 1000) :
    Calls Tryd.prog 25 #[.slice ao n cap] w (DecPost w (decP l)) := by
  have hn : n = l.length := h.len
  obtain ⟨R, hR⟩ : ∃ R, R = decP l := ⟨_, rfl⟩
  have HR : Hid _ := hR
  have HBL : Hid _ := hb
  have HAT : Hid (∀ W, Touch w W [] → ∀ k (hk : k < l.length), ∃ g off, ao = some ⟨g, off, none⟩ ∧ W.cell? ⟨g, off + k, none⟩ = some (.int .u8 l[k])) := fun W t k hk => by
    have hrow : BRow w (.slice ao l.length cap) l := h.row
    obtain ⟨g, off, e, hg, hc⟩ := hrow.one k hk
    exact ⟨g, off, e, (t.cell (p := ⟨g, off + k, none⟩) hg (by simp)).trans hc⟩
  have hle := h.le
  have hmx := h.max
  rw [← hR]
  have HN : Hid _ := hn
  have hn1000 : n ≤ 1000 := by omega
  clear h hb hR hn
  go_enter Tryd.func25, Tryd.ntmps25
  go_wp2_with fail
  go_loopw [4, 5] (fun v vi wr => ∃ (k f : Nat) (L : List InsD), vi = .int .i64 k ∧ k ≤ n ∧ n - k ≤ f ∧ L.length ≤ k ∧ R = (decF f (l.drop k)).map (L ++ ·) ∧ insOwn wr w.heap.size v L ∧ Touch w wr []) (fun _ vi _ => n - (intOf vi).toNat)
  case atStart => exact ⟨0, l.length, [], rfl, Nat.zero_le _, by have := HN.out; omega, by simp, by rw [HR.out, decP, List.drop_zero]; cases decF l.length l <;> simp, World.ownsRow_nil _ _ _ _, Touch.refl _ _⟩
  case round =>
    obtain ⟨k, f, L, rfl, hk, hf, hlen, hdec, hrow, hT⟩ := hrel
    have HT : Hid _ := hT
    have HDEC : Hid _ := hdec
    have HROW : Hid _ := hrow
    by_cases hlt : k < n
    · have h1 : (k : Int) < n := by omega
      have h0 : (0 : Int) ≤ k := by omega
      have hkl : k < l.length := by rw [← HN.out]; exact hlt
      obtain ⟨g, off, rfl, d0⟩ := HAT.out wr hT k hkl
      have hdr : l.drop k = l[k] :: l.drop (k + 1) := List.drop_eq_getElem_cons hkl
      have ho := HBL.out l[k] (List.getElem_mem hkl)
      obtain ⟨f', rfl⟩ : ∃ f', f = f' + 1 := ⟨f - 1, by omega⟩
      have hlb : (l.drop k).length = n - k := by rw [List.length_drop, ← HN.out]
      have HCELL : Hid (∀ W, Touch w W [] → ∀ j (hj : j < l.length), W.cell? ⟨g, off + j, none⟩ = some (.int .u8 l[j])) := fun W t j hj => by
        obtain ⟨g', off', e', hc⟩ := HAT.out W t j hj
        simp only [Option.some.injEq, Addr.mk.injEq] at e'
        obtain ⟨rfl, rfl, _⟩ := e'
        exact hc
      have HDR : Hid _ := hdr
      generalize hoo : l[k] = o at *
      -- the box
      have HQ0 : Hid (BoxI (wr.alloc (.cells #[.int .u8 o, .int .i64 0, .int .u64 0] 26)) wr.heap.size o 0 0) := ⟨heap_alloc_new wr _⟩
      have HTQ : Hid (Touch wr (wr.alloc (.cells #[.int .u8 o, .int .i64 0, .int .u64 0] 26)) []) := (Touch.refl wr []).alloc _
      have hu : HidC _ _ _ _ _ := ⟨ruses_any o (wr.alloc (.cells #[.int .u8 o, .int .i64 0, .int .u64 0] 26))⟩
      have hw16 := (HTQ.out.trans (Touch.refl _ []) (by simp)).size
      clear hdec hrow hT hdr
      have bx := HQ0.out.cells
      obtain ⟨x0, x1, x2⟩ := bx
      go_wp2_with fail
      refine hu.out.mono ?_
      rintro e _ ⟨rfl, rfl⟩
      clear hu x0 x1 x2
      cases hap : argP o with
      | true =>
        have hvp := arg_val hap
        have hwd : widthP o = 2 := by unfold widthP; rw [hap, hvp]; rfl
        by_cases hk1 : k + 1 < n
        · have hk2 : ¬ (n : Int) ≤ (k : Int) + 1 := by omega
          have hk1l : k + 1 < l.length := by rw [← HN.out]; exact hk1
          have hx := HBL.out (l[k + 1]'hk1l) (List.getElem_mem hk1l)
          have hk3 : decide ((n : Int) ≤ (k : Int) + 1) = false := decide_eq_false hk2
          have c1 := HCELL.out _ (HT.out.trans HTQ.out (by simp)) (k + 1) hk1l
          have c2 := c1
          rw [← Nat.add_assoc] at c2
          have hne : g ≠ wr.heap.size := by have := World.block_lt_of_cell? wr _ d0; simp only at this; omega
          have HFI : Hid (fitOf (l.drop k) = ⟨o, l[k + 1]'hk1l, 0⟩) := by show _ = _; rw [HDR.out, List.drop_eq_getElem_cons hk1l]; exact fit_arg hap
          have HDD : Hid ((l.drop k).drop (widthP o) = l.drop (k + 2)) := by show _ = _; rw [List.drop_drop, hwd]
          have HON : Hid (∀ i, fitOf (l.drop k) = i → rightI i = true → R = (decF f' ((l.drop k).drop (widthP o))).map ((L ++ [i]) ++ ·)) := fun i hi hr => dec_on HDEC.out HDR.out (by omega) i hi hr
          have HOFF : Hid (∀ i, fitOf (l.drop k) = i → rightI i = false → R = none) := fun i hi hr => dec_off HDEC.out HDR.out i hi hr
          generalize l[k + 1]'hk1l = x at *
          have HX1 : Hid (BoxI (wr.alloc (.cells #[.int .u8 o, .int .i64 x, .int .u64 0] 26)) wr.heap.size o x 0) := ⟨heap_alloc_new wr _⟩
          have HTB : Hid (Touch wr (wr.alloc (.cells #[.int .u8 o, .int .i64 x, .int .u64 0] 26)) []) := (Touch.refl wr []).alloc _
          have HTX : Hid _ := HT.out.trans HTB.out (by simp)
          have hwx : IntKind.i64.wrap x = x := by rw [IntKind.wrap_i64]; omega
          have hfr := HQ0.out.fr 1
          rw [hvp]
          clear hap hvp hwd
          go_wp2_with fail
          refine (rrightI_any ⟨o, x, 0⟩ ⟨by simp only; omega, by simp only; omega, by unfold Wf64; simp only; omega⟩ _).mono ?_
          rintro e w3 ⟨rfl, t3⟩
          have HX3 : Hid _ := BoxI.touch HX1.out t3 (by simp)
          have HT3 : Hid _ := HTX.out.trans t3 (by simp)
          have HR3 : Hid (insOwn w3 w.heap.size u4 L) := ownsRow_touch HROW.out (HTB.out.trans t3 (by simp)) (by simp)
          have HON2 := HON.out _ HFI.out
          have HOFF2 := HOFF.out _ HFI.out
          generalize rightI ⟨o, x, 0⟩ = ri at *
          clear t3
          cases ri with
          | false =>
            have HN0 : Hid _ := HOFF2 rfl
            clear HON2 HOFF2
            go_wp2
            refine bodyPost_ret (v := .tuple #[.slice none 0 0, .int .i64 3]) (by simp [results, Tryd.results25, go_sem]) rfl ?_
            exact .inr ⟨HN0.out, rfl, HT3.out⟩
          | true =>
            have HN0 : Hid _ := HON2 rfl
            have b3 := HX3.out.cells
            obtain ⟨y0, y1, y2⟩ := b3
            have hr3 : insOwn w3 w.heap.size u4 L := HR3.out
            obtain ⟨a4, c4, w4, hr4, ho4, t4⟩ := ins_push hr3 (by omega) HT3.out.size ⟨o, x, 0⟩ 38
            have HO4 : Hid _ := ho4
            have HT4 : Hid (Touch w w4 []) := HT3.out.trans t4 (fun q hq => .inr (World.ownsRow.lt hr3 q (by simpa using hq)).1)
            obtain ⟨av, cv, rfl⟩ := owns_slice hr3
            simp only at hr4
            generalize hTL : L.length = TL at hr4 hlen ⊢
            have HTLn : Hid _ := hTL
            clear hr3 ho4 t4 hTL HON2 HOFF2
            go_wp2_with (at_builtin; refine Lib.wpList_append_run _ rfl _ _ _ _ rfl _ _ rfl rfl _ _ hr4 ?_)
            go_wp2
            go_roundw
            case rel =>
              refine ⟨k + 2, f', L ++ [⟨o, x, 0⟩], by go_num, by omega, by omega, by rw [List.length_append, HTLn.out]; simp; omega, by rw [HN0.out, HDD.out], ?_, HT4.out⟩
              have := HO4.out
              rw [← HTLn.out]
              exact this
            case measure => simp [intOf]; omega
        · have hk2 : (n : Int) ≤ (k : Int) + 1 := by omega
          have hk3 : decide ((n : Int) ≤ (k : Int) + 1) = true := decide_eq_true hk2
          have HN0 : Hid (R = none) := dec_short HDEC.out HDR.out (by omega)
          have HT1 : Hid _ := HT.out.trans HTQ.out (by simp)
          rw [hvp]
          clear hap hvp hwd
          go_wp2
          refine bodyPost_ret (v := .tuple #[.slice none 0 0, .int .i64 3]) (by simp [results, Tryd.results25, go_sem]) rfl ?_
          exact .inr ⟨HN0.out, rfl, HT1.out⟩
      | false =>
        cases hvp : valP o with
        | false =>
          have hwd : widthP o = 1 := by unfold widthP; rw [hap, hvp]; rfl
          have HFI : Hid (fitOf (l.drop k) = ⟨o, 0, 0⟩) := by show _ = _; rw [HDR.out]; exact fit_bare hap hvp
          have HDD : Hid ((l.drop k).drop (widthP o) = l.drop (k + 1)) := by show _ = _; rw [List.drop_drop, hwd]
          have HON : Hid (∀ i, fitOf (l.drop k) = i → rightI i = true → R = (decF f' ((l.drop k).drop (widthP o))).map ((L ++ [i]) ++ ·)) := fun i hi hr => dec_on HDEC.out HDR.out (by omega) i hi hr
          have HOFF : Hid (∀ i, fitOf (l.drop k) = i → rightI i = false → R = none) := fun i hi hr => dec_off HDEC.out HDR.out i hi hr
          have HTX : Hid (Touch w (wr.alloc (.cells #[.int .u8 o, .int .i64 0, .int .u64 0] 26)) []) := HT.out.trans HTQ.out (by simp)
          have hx : (0 : Int) ≤ 0 := by omega
          have HTB : Hid _ := HTQ.out
          have bx := HQ0.out.cells
          obtain ⟨x0, x1, x2⟩ := bx
          clear hap hvp hwd
          go_wp2_with fail
          refine (rrightI_any ⟨o, 0, 0⟩ ⟨by simp only; omega, by simp only; omega, by unfold Wf64; simp only; omega⟩ _).mono ?_
          rintro e w3 ⟨rfl, t3⟩
          have HX3 : Hid _ := BoxI.touch HQ0.out t3 (by simp)
          have HT3 : Hid _ := HTX.out.trans t3 (by simp)
          have HR3 : Hid (insOwn w3 w.heap.size u4 L) := ownsRow_touch HROW.out (HTB.out.trans t3 (by simp)) (by simp)
          have HON2 := HON.out _ HFI.out
          have HOFF2 := HOFF.out _ HFI.out
          generalize rightI ⟨o, 0, 0⟩ = ri at *
          clear t3
          cases ri with
          | false =>
            have HN0 : Hid _ := HOFF2 rfl
            clear HON2 HOFF2
            go_wp2
            refine bodyPost_ret (v := .tuple #[.slice none 0 0, .int .i64 3]) (by simp [results, Tryd.results25, go_sem]) rfl ?_
            exact .inr ⟨HN0.out, rfl, HT3.out⟩
          | true =>
            have HN0 : Hid _ := HON2 rfl
            have b3 := HX3.out.cells
            obtain ⟨y0, y1, y2⟩ := b3
            have hr3 : insOwn w3 w.heap.size u4 L := HR3.out
            obtain ⟨a4, c4, w4, hr4, ho4, t4⟩ := ins_push hr3 (by omega) HT3.out.size ⟨o, 0, 0⟩ 38
            have HO4 : Hid _ := ho4
            have HT4 : Hid (Touch w w4 []) := HT3.out.trans t4 (fun q hq => .inr (World.ownsRow.lt hr3 q (by simpa using hq)).1)
            obtain ⟨av, cv, rfl⟩ := owns_slice hr3
            simp only at hr4
            generalize hTL : L.length = TL at hr4 hlen ⊢
            have HTLn : Hid _ := hTL
            clear hr3 ho4 t4 hTL HON2 HOFF2
            go_wp2_with (at_builtin; refine Lib.wpList_append_run _ rfl _ _ _ _ rfl _ _ rfl rfl _ _ hr4 ?_)
            go_wp2
            go_roundw
            case rel =>
              refine ⟨k + 1, f', L ++ [⟨o, 0, 0⟩], by go_num, by omega, by omega, by rw [List.length_append, HTLn.out]; simp; omega, by rw [HN0.out, HDD.out], ?_, HT4.out⟩
              have := HO4.out
              rw [← HTLn.out]
              exact this
            case measure => simp [intOf]; omega
        | true =>
          have hwd : widthP o = 9 := by unfold widthP; rw [hap, hvp]; rfl
          by_cases hk1 : k + 9 ≤ n
          · have hk2 : ¬ (n : Int) - ((k : Int) + 1) < 8 := by omega
            have hk3 : decide ((n : Int) - ((k : Int) + 1) < 8) = false := decide_eq_false hk2
            have hne : g ≠ wr.heap.size := by have := World.block_lt_of_cell? wr _ d0; simp only at this; omega
            obtain ⟨D, hD⟩ : ∃ D, D = (l.drop (k + 1)).take 8 := ⟨_, rfl⟩
            have hDl : D.length = 8 := by rw [hD, List.length_take, List.length_drop, ← HN.out]; omega
            have hDb : ByteL D := fun y hy => HBL.out y (List.mem_of_mem_drop (List.mem_of_mem_take (by rw [← hD]; exact hy)))
            have HCD : Hid (∀ j (hj : j < D.length), (wr.alloc (.cells #[.int .u8 o, .int .i64 0, .int .u64 0] 26)).cell? ⟨g, off + (k + 1 + j), none⟩ = some (.int .u8 D[j])) := fun j hj => by
              have h5 := HCELL.out _ (HT.out.trans HTQ.out (by simp)) (k + 1 + j) (by rw [← HN.out]; omega)
              rw [h5]
              congr 2
              subst hD
              rw [List.getElem_take, List.getElem_drop]
            have HFI : Hid (fitOf (l.drop k) = ⟨o, 0, (valN D : Int)⟩) := by show _ = _; rw [HDR.out, hD]; exact fit_val hap hvp
            have HDD : Hid ((l.drop k).drop (widthP o) = l.drop (k + 9)) := by show _ = _; rw [List.drop_drop, hwd]
            have HON : Hid (∀ i, fitOf (l.drop k) = i → rightI i = true → R = (decF f' ((l.drop k).drop (widthP o))).map ((L ++ [i]) ++ ·)) := fun i hi hr => dec_on HDEC.out HDR.out (by omega) i hi hr
            have HOFF : Hid (∀ i, fitOf (l.drop k) = i → rightI i = false → R = none) := fun i hi hr => dec_off HDEC.out HDR.out i hi hr
            have hfr := HQ0.out.fr 2
            have HLT : Hid (∀ j, j ≤ 8 → valN (D.take j) < 256 ^ j) := fun j hj => valN_lt' D hDb j (by omega)
            have HST : Hid (∀ j (hj : j < D.length), valN (D.take (j + 1)) = valN (D.take j) * 256 + D[j].toNat ∧ 0 ≤ D[j] ∧ D[j] < 256) := fun j hj => ⟨valN_step D j hj, hDb _ (List.getElem_mem hj)⟩
            have HD8 : Hid (D.take 8 = D) := by show _ = _; rw [← hDl, List.take_length]
            have HDL : Hid _ := hDl
            have HKN : Hid _ := hk1
            clear hap hvp hwd hD hDb hDl
            go_wp2_with fail
            go_loopw [9, 10] (fun vw vj W => ∃ j : Nat, vw = .int .u64 (valN (D.take j) : Int) ∧ vj = .int .i64 j ∧ j ≤ 8 ∧ W = (wr.alloc (.cells #[.int .u8 o, .int .i64 0, .int .u64 0] 26))) (fun _ vj _ => 8 - (intOf vj).toNat)
            case atStart => exact ⟨0, rfl, rfl, by omega, rfl⟩
            case round =>
              obtain ⟨j, rfl, rfl, hj, rfl⟩ := hrel
              by_cases hj8 : j < 8
              · have hj1 : (j : Int) < 8 := by omega
                have hjD : j < D.length := by rw [HDL.out]; exact hj8
                have c1 := HCD.out j hjD
                have hst := HST.out j hjD
                have hlt0 := HLT.out j (by omega)
                have hlt1 : valN (D.take j) < 72057594037927936 := Nat.lt_of_lt_of_le hlt0 (Nat.le_trans (Nat.pow_le_pow_right (by omega) (show j ≤ 7 by omega)) (by decide))
                generalize D[j] = y at *
                generalize hN1 : valN (D.take (j + 1)) = N1 at *
                have HN1 : Hid _ := hN1
                generalize valN (D.take j) = N0 at *
                obtain ⟨hst1, hy0, hy1⟩ := hst
                have HST1 : Hid ((N0 : Int) * 256 + y = (N1 : Int)) := by show _ = _; omega
                have c2 := c1
                rw [← Nat.add_assoc] at c2
                have c3 := c2
                rw [← Nat.add_assoc] at c3
                have hsum : IntKind.i64.wrap ((k : Int) + 1 + j) = (k : Int) + 1 + j := by rw [IntKind.wrap_i64]; omega
                have hkj : (k : Int) + 1 + j < n := by omega
                have hkj0 : (0 : Int) ≤ (k : Int) + 1 + j := by omega
                clear hst1 hN1 hlt0
                go_wp2
                go_roundw
                case rel => exact ⟨j + 1, by rw [HN1.out, ← HST1.out], by go_num, by omega, by simp⟩
                case measure => simp [intOf]; omega
              · obtain rfl : j = 8 := by omega
                have hvlt : valN (D.take 8) < 18446744073709551616 := HLT.out 8 (by omega)
                rw [HD8.out] at hvlt ⊢
                generalize valN D = V at *
                have HX1 : Hid (BoxI (wr.alloc (.cells #[.int .u8 o, .int .i64 0, .int .u64 (V : Int)] 26)) wr.heap.size o 0 V) := ⟨heap_alloc_new wr _⟩
                have HTB : Hid (Touch wr (wr.alloc (.cells #[.int .u8 o, .int .i64 0, .int .u64 (V : Int)] 26)) []) := (Touch.refl wr []).alloc _
                have HTX : Hid _ := HT.out.trans HTB.out (by simp)
                have hk9 : IntKind.i64.wrap ((k : Int) + 1 + 8) = (k : Int) + 1 + 8 := by rw [IntKind.wrap_i64]; omega
                have bx := HX1.out.cells
                obtain ⟨x0, x1, x2⟩ := bx
                go_wp2_with fail
                refine (rrightI_any ⟨o, 0, V⟩ ⟨by simp only; omega, by simp only; omega, by unfold Wf64; simp only; omega⟩ _).mono ?_
                rintro e w3 ⟨rfl, t3⟩
                have HX3 : Hid _ := BoxI.touch HX1.out t3 (by simp)
                have HT3 : Hid _ := HTX.out.trans t3 (by simp)
                have HR3 : Hid (insOwn w3 w.heap.size u4 L) := ownsRow_touch HROW.out (HTB.out.trans t3 (by simp)) (by simp)
                have HON2 := HON.out _ HFI.out
                have HOFF2 := HOFF.out _ HFI.out
                generalize rightI ⟨o, 0, V⟩ = ri at *
                clear t3
                cases ri with
                | false =>
                  have HN0 : Hid _ := HOFF2 rfl
                  clear HON2 HOFF2
                  go_wp2
                  refine bodyPost_ret (v := .tuple #[.slice none 0 0, .int .i64 3]) (by simp [results, Tryd.results25, go_sem]) rfl ?_
                  exact .inr ⟨HN0.out, rfl, HT3.out⟩
                | true =>
                  have HN0 : Hid _ := HON2 rfl
                  have b3 := HX3.out.cells
                  obtain ⟨y0, y1, y2⟩ := b3
                  have hr3 : insOwn w3 w.heap.size u4 L := HR3.out
                  obtain ⟨a4, c4, w4, hr4, ho4, t4⟩ := ins_push hr3 (by omega) HT3.out.size ⟨o, 0, V⟩ 38
                  have HO4 : Hid _ := ho4
                  have HT4 : Hid (Touch w w4 []) := HT3.out.trans t4 (fun q hq => .inr (World.ownsRow.lt hr3 q (by simpa using hq)).1)
                  obtain ⟨av, cv, rfl⟩ := owns_slice hr3
                  simp only at hr4
                  generalize hTL : L.length = TL at hr4 hlen ⊢
                  have HTLn : Hid _ := hTL
                  clear hr3 ho4 t4 hTL HON2 HOFF2
                  go_wp2_with (at_builtin; refine Lib.wpList_append_run _ rfl _ _ _ _ rfl _ _ rfl rfl _ _ hr4 ?_)
                  go_wp2
                  go_roundw
                  case rel =>
                    refine ⟨k + 9, f', L ++ [⟨o, 0, V⟩], by go_num, by omega, by omega, by rw [List.length_append, HTLn.out]; simp; omega, by rw [HN0.out, HDD.out], ?_, HT4.out⟩
                    have := HO4.out
                    rw [← HTLn.out]
                    exact this
                  case measure => simp [intOf]; omega
          · have hk2 : (n : Int) - ((k : Int) + 1) < 8 := by omega
            have hk3 : decide ((n : Int) - ((k : Int) + 1) < 8) = true := decide_eq_true hk2
            have HN0 : Hid (R = none) := dec_short HDEC.out HDR.out (by omega)
            have HT1 : Hid _ := HT.out.trans HTQ.out (by simp)
            clear hap hvp hwd
            go_wp2
            refine bodyPost_ret (v := .tuple #[.slice none 0 0, .int .i64 3]) (by simp [results, Tryd.results25, go_sem]) rfl ?_
            exact .inr ⟨HN0.out, rfl, HT1.out⟩
    · obtain rfl : k = n := by omega
      have hnl : ¬ (k : Int) < k := by omega
      have HE : Hid (R = some L) := by show _ = _; rw [HDEC.out, List.drop_of_length_le (by rw [← HN.out]; omega), decF_nil]; simp
      have HO : Hid _ := hrow
      obtain ⟨av, cv, rfl⟩ := owns_slice hrow
      generalize hLL : L.length = LL
      have HLL : Hid _ := hLL
      clear hrow hT hLL HDEC hdec HROW hlen
      go_wp2
      refine bodyPost_ret (v := .tuple #[.slice av LL cv, .int .i64 0]) (by simp [results, Tryd.results25, go_sem]) rfl ?_
      refine .inl ⟨L, HE.out, _, rfl, ?_, HT.out⟩
      rw [← HLL.out]
      exact HO.out

end Go.Proofs.YtoaajheneojfjaaDoor

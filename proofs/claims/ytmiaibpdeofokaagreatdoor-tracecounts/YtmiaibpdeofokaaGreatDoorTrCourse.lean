/-
  package trace: courses BY ITS CONTRACT.
-/
import Derived.Test.YtmiaibpdeofokaaGreatDoorTrCrsPl
import Derived.Deep.MidRow
namespace Go.Proofs.YtmiaibpdeofokaaGreatDoor
set_option linter.unusedVariables false
set_option linter.unusedSimpArgs false
open Go.RowKit Go.Maps
attribute [local go_sem] Oper.semAt_some

theorem Tryz.info_crs : (Tryz.prog.info? 74).map (fun i => (i.zero, i.size, i.bytes)) = some (some (.agg #[.int .i64 0, .int .i64 0, .int .i64 0, .map none]), 4, 32) := by kernel_rfl
theorem make_crs (n : Nat) (hn : n ≤ 1000) (w : World) : (Instr.makeSlice 70 (.int .i64 n) (.int .i64 n)).run Tryz.prog w = .ok (.slice (some ⟨w.heap.size, 0, none⟩) n n) (w.alloc (.cells ((List.replicate n z4).flatMap Q4.cells).toArray 74)) := by
  obtain ⟨i, hi, hz, hs, hb⟩ := info_parts Tryz.info_crs
  have e := run_make (P := Tryz.prog) w 70 74 i _ Tryz.underlying70 hi hz .i64 .i64 n n (by omega) (by omega) (by rw [hb]; omega) (by omega)
  rw [hs, Int.toNat_natCast] at e
  rw [e, ← made_zero]
  rfl
theorem make_mapI (n : Int) (w : World) : (Instr.makeMap 100 (some (.int .i64 n))).run Tryz.prog w = .ok (.map (some w.heap.size)) (w.alloc (.map #[] 0)) := by
  simp [Instr.makeMap, run_underlying Tryz.underlying100, asInt, asIntOf, go_sem]
/-- While the row is filled. -/
structure FilAt (w : World) (B g pb : Nat) (l : List EvD) (ats : List Int) (ms : List Nat) : Prop where
  row : R4 w g (fillQ l ats ms)
  nd : ms.Nodup
  ge : B ≤ g
  gp : pb ≠ g ∧ B ≤ pb
  mg : ∀ m ∈ ms, B ≤ m ∧ m ≠ g ∧ m ≠ pb
  mp : ∀ m ∈ ms, MapF w m 0 (fun _ => none)
  pl : MapF w pb ms.length (plF (ats.take ms.length))
theorem FilAt.crs {w : World} {B g pb : Nat} {l : List EvD} {ats : List Int} {ms : List Nat} (h : FilAt w B g pb l ats ms) (hl : ms.length = ats.length) : CrsAt w B g l 0 ats ms :=
  ⟨hl, by rw [← fill_all hl]; exact h.row, h.nd, h.ge, fun m hm => ⟨(h.mg m hm).1, (h.mg m hm).2.1⟩, fun i h1 h2 => h.mp _ (List.getElem_mem h2)⟩
abbrev put4 (w : World) (g k : Nat) (q : Q4) : World := (((w.setCell ⟨g, k * 4, none⟩ q.v0).setCell ⟨g, k * 4 + 1, none⟩ q.v1).setCell ⟨g, k * 4 + 2, none⟩ q.v2).setCell ⟨g, k * 4 + 3, none⟩ q.v3
theorem R4.put4 {w : World} {g : Nat} {X : List Q4} (h : R4 w g X) {k : Nat} {q0 : Q4} (hk : X[k]? = some q0) (q : Q4) : R4 (put4 w g k q) g (X.set k q) := by
  have hl : k < X.length := (List.getElem?_eq_some_iff.1 hk).1
  have hs : ∀ (Y : List Q4) (y : Q4), k < Y.length → (Y.set k y)[k]? = some y := fun Y y hy => by simp [hy]
  have h0 := h.put (q' := ⟨q.v0, q0.v1, q0.v2, q0.v3⟩) hk 0 (by omega) q.v0 rfl
  have h1 := h0.put (q' := ⟨q.v0, q.v1, q0.v2, q0.v3⟩) (hs _ _ hl) 1 (by omega) q.v1 rfl
  rw [List.set_set] at h1
  have h2 := h1.put (q' := ⟨q.v0, q.v1, q.v2, q0.v3⟩) (hs _ _ hl) 2 (by omega) q.v2 rfl
  rw [List.set_set] at h2
  have h3 := h2.put (q' := q) (hs _ _ hl) 3 (by omega) q.v3 rfl
  rw [List.set_set] at h3
  exact h3
theorem put4_touch (w : World) (g k : Nat) (q : Q4) : Touch w (put4 w g k q) [g] := ((((Touch.refl w [g]).setCell (.inl (by simp)) _).setCell (.inl (by simp)) _).setCell (.inl (by simp)) _).setCell (.inl (by simp)) _

theorem wpList_nameT {P : Program} {ops : Array Oper} {l : List Oper} {Q : Exit → Act → World → Prop} {a : Act} {w : World} (h : ∀ W, W = w → wpList P ops Q l a W) : wpList P ops Q l a w := h w rfl
theorem Tryz.size_crs : (Tryz.prog.info? 74).map (·.size) = some 4 := by kernel_rfl
theorem R4.there {w : World} {g : Nat} {X : List Q4} (h : R4 w g X) {k : Nat} {q : Q4} (hk : X[k]? = some q) : w.there g (k * 4) 4 := fun j hj => by
  refine ⟨?_, h.fr _⟩
  rw [h.cell hk j hj]
  match j, hj with
  | 0, _ | 1, _ | 2, _ | 3, _ => rfl
theorem crs_one (x y z : Int) (m : Option Nat) : (#[.int .i64 x, .int .i64 y, .int .i64 z, .map m] : Array Value).all (·.oneCell') = true := by simp [Value.oneCell']
theorem fil_more {wr : World} {w1 : World} {g pb : Nat} {l : List EvD} {ats : List Int} {ms : List Nat} (HG : g = w1.heap.size ∧ pb = w1.heap.size + 1) (hF : FilAt wr g g pb l ats ms) (hT : Touch w1 wr []) (hkl : ms.length < ats.length) (hnd : ats.Nodup) (hw : ∀ a ∈ ats, W64 a) (hL : l.length ≤ 1000) (hN : ats.length ≤ 1000) :
    ∀ W, W = (wr.alloc (.map #[] 0)).setCells g (ms.length * 4) [.int .i64 ats[ms.length], .int .i64 (l.length : Nat), .int .i64 (l.length : Nat), .map (some wr.heap.size)] → ∃ w3, (Instr.mapUpdate 100 (.map (some pb)) (.int .i64 ats[ms.length]) (.int .i64 (ms.length : Nat))).run Tryz.prog W = .ok () w3 ∧ FilAt w3 g g pb l ats (ms ++ [wr.heap.size]) ∧ Touch w1 w3 [] := by
  intro W hW
  have hW' : W = put4 (wr.alloc (.map #[] 0)) g ms.length (crQ l 0 ats[ms.length] wr.heap.size) := hW
  have hni : ats[ms.length] ∉ ats.take ms.length := fun hm => by
    obtain ⟨j, hj, e⟩ := List.mem_iff_getElem.1 hm
    rw [List.getElem_take] at e
    rw [List.length_take] at hj
    have := (List.getElem_inj hnd).1 e
    omega
  have TM : Touch wr (wr.alloc (.map #[] 0)) [] := (Touch.refl wr []).alloc _
  have hgl := lt_of_heap hF.row.st
  have hpl := hF.pl.lt
  have hn := fill_next (l := l) hkl
  have hr2 := (hF.row.touch TM (by simp)).put4 hn (crQ l 0 ats[ms.length] wr.heap.size)
  rw [fill_snoc hkl wr.heap.size, ← hW'] at hr2
  have TP : Touch wr W [g] := by rw [hW']; exact (TM.mono (by simp)).trans (put4_touch _ _ _ _) (by simp)
  have TQ : Touch (wr.alloc (.map #[] 0)) W [g] := by rw [hW']; exact put4_touch _ _ _ _
  have hmp2 : MapF W pb ms.length (plF (ats.take ms.length)) := hF.pl.touch TP (by simpa using hF.gp.1)
  obtain ⟨w3, hst, hm3, hg3⟩ := hmp2.store Tryz.underlying100 (by unfold maxLen; omega) (hw _ (List.getElem_mem hkl)) (.int .i64 (ms.length : Nat))
  have T3 : Touch W w3 [pb] := (Touch.refl _ [pb]).grown hg3 (by intro q hq; cases hq; exact .inl (by simp))
  refine ⟨w3, hst, ⟨hr2.touch T3 (by simp; have := hF.gp.1; omega), ?_, Nat.le_refl _, hF.gp, ?_, ?_, ?_⟩, ?_⟩
  · rw [List.nodup_append]
    refine ⟨hF.nd, by simp, fun a ha b hb e => ?_⟩
    simp at hb
    have := (hF.mp a ha).lt
    omega
  · intro m hm
    rcases List.mem_append.1 hm with hm | hm
    · exact hF.mg m hm
    · simp at hm
      have := hT.size
      omega
  · intro m hm
    rcases List.mem_append.1 hm with hm | hm
    · exact ((hF.mp m hm).touch TP (by simp; exact (hF.mg m hm).2.1)).touch T3 (by simp; exact (hF.mg m hm).2.2)
    · simp at hm
      subst hm
      exact ((MapF.made wr).touch TQ (by simp; omega)).touch T3 (by simp; omega)
  · have hp := plF_snoc hni
    rw [List.length_take, Nat.min_eq_left (by omega)] at hp
    rw [List.length_append, List.length_singleton, List.take_succ_eq_append_getElem hkl, ← hp]
    exact hm3
  · exact (hT.trans TP (fun z hz => .inr (by simp at hz; omega))).trans T3 (fun z hz => .inr (by simp at hz; omega))

set_option maxRecDepth 100000 in
set_option maxHeartbeats 4000000 in
theorem courses_any {w : World} {ao : Option Addr} {cap : Nat} {l : List EvD} (hr : EvRow w (.slice ao l.length cap) l) (hl : l.length ≤ 1000) (hwf : ∀ e ∈ l, e.Wf) :
    Calls Tryz.prog 34 #[.slice ao l.length cap] w fun y w' => ∃ g ms, y = .returned (.slice (some ⟨g, 0, none⟩) (attS l).length (attS l).length) ∧ CrsAt w' w.heap.size g l l.length (attS l) ms ∧ Touch w w' [] := by
  have hmm := @run_makeMap Tryz.prog
  have HAT : Hid (HidC Tryz.prog 40 #[.slice ao l.length cap] w fun x w' => ∃ v, x = .returned v ∧ intOwn w' w.heap.size v (attS l) ∧ Touch w w' []) := ⟨attempts_any hr hl hwf⟩
  have HR : Hid (EvRow w (.slice ao l.length cap) l) := hr
  have HWF : Hid (∀ e ∈ l, e.Wf) := hwf
  obtain ⟨L, hL⟩ : ∃ L, L = l.length := ⟨_, rfl⟩
  have HL : Hid (L = l.length) := hL
  have HND : Hid (attS l).Nodup := attS_nodup l
  have HAW : Hid (∀ a ∈ attS l, W64 a) := attS_wf hwf
  have hal : (attS l).length ≤ L := by rw [hL]; exact attS_le l
  rw [← hL] at hl HAT ⊢
  clear hr hwf hL
  generalize attS l = ats at *
  obtain ⟨N, hN⟩ : ∃ N, N = ats.length := ⟨_, rfl⟩
  have HN : Hid (N = ats.length) := hN
  rw [← hN] at hal ⊢
  go_enter Tryz.func34, Tryz.ntmps34
  go_wp2_with fail
  refine HAT.out.out.mono ?_
  rintro y w1 ⟨v, rfl, hv, t1⟩
  obtain ⟨ao1, cap1, rfl, hat⟩ := int_form hv
  have HATS : Hid (∀ k (hk : k < ats.length), ∃ g, ao1 = some ⟨g, 0, none⟩ ∧ g < w1.heap.size ∧ w1.cell? ⟨g, k, none⟩ = some (.int .i64 ats[k])) := hat
  have T1 : Hid (Touch w w1 []) := t1
  rw [← hN]
  clear hv hat t1 HAT hN
  have hmk := make_crs N (by omega)
  have hmh := fun W : World => make_mapI (N : Int) W
  have F0 : Hid (FilAt ((w1.alloc (.cells ((List.replicate N z4).flatMap Q4.cells).toArray 74)).alloc (.map #[] 0)) w1.heap.size w1.heap.size (w1.heap.size + 1) l ats []) := by
    refine ⟨?_, List.nodup_nil, Nat.le_refl _, ⟨by omega, by omega⟩, by simp, by simp, ?_⟩
    · rw [fill_none, ← HN.out]
      exact R4.touch ⟨heap_alloc_new w1 _⟩ ((Touch.refl _ []).alloc _) (by simp)
    · have h := MapF.made (w1.alloc (.cells ((List.replicate N z4).flatMap Q4.cells).toArray 74))
      rw [World.size_alloc] at h
      have e : plF (ats.take ([] : List Nat).length) = fun _ => none := by funext x; simp [plF]
      rw [e]
      exact h
  have TT : Hid (Touch w1 ((w1.alloc (.cells ((List.replicate N z4).flatMap Q4.cells).toArray 74)).alloc (.map #[] 0)) []) := ((Touch.refl w1 []).alloc _).alloc _
  go_wp2_with fail
  clear hmk hmh
  generalize ((w1.alloc (.cells ((List.replicate N z4).flatMap Q4.cells).toArray 74)).alloc (.map #[] 0)) = Q at *
  obtain ⟨g, hg⟩ : ∃ g, g = w1.heap.size := ⟨_, rfl⟩
  obtain ⟨pb, hpb⟩ : ∃ pb, pb = w1.heap.size + 1 := ⟨_, rfl⟩
  rw [← hpb, ← hg] at F0 ⊢
  have HG : Hid (g = w1.heap.size ∧ pb = w1.heap.size + 1) := ⟨hg, hpb⟩
  clear hg hpb
  go_loopw [22] (fun i wr => ∃ ms : List Nat, i = .int .i64 (ms.length : Nat) ∧ ms.length ≤ N ∧ FilAt wr g g pb l ats ms ∧ Touch w1 wr []) (fun i _ => N - (intOf i).toNat)
  case atStart => exact ⟨[], rfl, Nat.zero_le _, F0.out, TT.out⟩
  case round =>
    obtain ⟨ms, rfl, hk, hF, hT⟩ := hrel
    have HT : Hid _ := hT
    have HF : Hid _ := hF
    by_cases hlt : ms.length < N
    · have h1 : (ms.length : Int) < N := by omega
      have h0 : (0 : Int) ≤ ms.length := by omega
      have hkl : ms.length < ats.length := by rw [← HN.out]; exact hlt
      obtain ⟨ga, hao, hga, ha0⟩ := HATS.out ms.length hkl
      subst hao
      have ha1 := (hT.cell (p := ⟨ga, ms.length, none⟩) hga (by simp)).trans ha0
      have HMO : Hid _ := fil_more HG.out hF HT.out hkl HND.out HAW.out (by rw [← HL.out]; omega) (by rw [← HN.out]; omega)
      have HTH : Hid ((wr.alloc (.map #[] 0)).there g (ms.length * 4) 4) := (hF.row.touch ((Touch.refl wr []).alloc _) (by simp)).there (fill_next (l := l) hkl)
      have HNX : Hid (∀ w3, FilAt w3 g g pb l ats (ms ++ [wr.heap.size]) → ∃ ms' : List Nat, ms'.length = ms.length + 1 ∧ FilAt w3 g g pb l ats ms') := fun w3 h => ⟨_, by simp, h⟩
      rw [← HL.out] at HMO
      clear ha0 hF hT
      generalize ats[ms.length] = x at *
      generalize hK : ms.length = K at *
      clear hK
      go_wp2_with (refine wpList_store_mid rfl 74 _ _ rfl g (K * 4) #[.int .i64 x, .int .i64 L, .int .i64 L, .map (some wr.heap.size)] (by simp [go_sem]) rfl HTH.out Tryz.size_crs (crs_one _ _ _ _) ?_; refine wpList_nameT fun W2 hW2 => ?_; obtain ⟨w3, hst, hf3, ht3⟩ := HMO.out W2 hW2; have HF3 : Hid _ := hf3; have HT3 : Hid _ := ht3; clear hW2 hf3 ht3 HMO HTH)
      go_roundw
      case rel =>
        obtain ⟨ms', hl', hf'⟩ := HNX.out _ HF3.out
        exact ⟨ms', by rw [hl']; go_num, by omega, hf', HT3.out⟩
      case measure => simp [intOf]; omega
    · obtain hlen : ms.length = N := by omega
      have HC0 : Hid (CrsAt wr g g l 0 ats ms) := hF.crs (by rw [hlen]; exact HN.out)
      have HPL : Hid (MapF wr pb N (plF ats)) := by
        have h := hF.pl
        rw [hlen, HN.out, List.take_length] at h
        rw [HN.out]
        exact h
      have HPB : Hid (pb ≠ g ∧ ∀ m ∈ ms, m ≠ pb) := ⟨hF.gp.1, fun m hm => (hF.mg m hm).2.2⟩
      have HTW : Hid (Touch w wr []) := T1.out.trans HT.out (by simp)
      have HGW : Hid (w.heap.size ≤ g) := by have := T1.out.size; have := HG.out; show _ ≤ _; omega
      rw [hlen]
      clear hF hT HF hlt hk hlen HATS
      go_wp2_with fail
      go_loopw [43] (fun i wv => ∃ k : Nat, i = .int .i64 k ∧ k ≤ L ∧ CrsAt wv g g l k ats ms ∧ MapF wv pb N (plF ats) ∧ Touch w wv []) (fun i _ => L - (intOf i).toNat)
      case atStart => exact ⟨0, rfl, Nat.zero_le _, HC0.out, HPL.out, HTW.out⟩
      case round =>
        clear HT HC0 HPL HTW
        obtain ⟨k, rfl, hk, hC, hP, hT⟩ := hrel
        have HT : Hid _ := hT
        have HC : Hid _ := hC
        have HP : Hid _ := hP
        by_cases hlt : k < L
        · have h1 : (k : Int) < L := by omega
          have h0 : (0 : Int) ≤ k := by omega
          have hkl : k < l.length := by rw [← HL.out]; exact hlt
          obtain ⟨ge, off, rfl, hg, m0, m1, m2, m3⟩ := HR.out.one k hkl
          have d0 := (hT.cell (p := ⟨ge, off + k * 4, none⟩) hg (by simp)).trans m0
          have d1 := (hT.cell (p := ⟨ge, off + k * 4 + 1, none⟩) hg (by simp)).trans m1
          have d2 := (hT.cell (p := ⟨ge, off + k * 4 + 2, none⟩) hg (by simp)).trans m2
          have d3 := (hT.cell (p := ⟨ge, off + k * 4 + 3, none⟩) hg (by simp)).trans m3
          have hwe := HWF.out _ (List.getElem_mem hkl)
          obtain ⟨e, he⟩ : ∃ e, e = l[k] := ⟨_, rfl⟩
          rw [← he] at d0 d1 d2 d3 hwe
          have HE : Hid (e = l[k]) := he
          have TA : Touch wr (wr.alloc e.obj) [] := (Touch.refl wr []).alloc _
          have hlk := (hP.touch TA (by simp)).lookOk Tryz.underlying100 (z := .int .i64 0) (by kernel_rfl) hwe.a
          have HTA : Hid (Touch w (wr.alloc e.obj) []) := HT.out.alloc _
          have HCA : Hid (CrsAt (wr.alloc e.obj) g g l k ats ms) := hC.touch TA (by simp) (by simp)
          have HPA : Hid (MapF (wr.alloc e.obj) pb N (plF ats)) := hP.touch TA (by simp)
          have HCW : Hid (CrsAt wr g g l k ats ms) := hC
          clear m0 m1 m2 m3 he hT hC hP TA HC HP
          by_cases hin : e.a ∈ ats
          · obtain ⟨p, hp⟩ : ∃ p, p = ats.idxOf e.a := ⟨_, rfl⟩
            have hpl : p < ats.length := by rw [hp]; exact List.idxOf_lt_length_of_mem hin
            have hpa : l[k].a = ats[p] := by rw [← HE.out]; simp only [hp]; exact (List.getElem_idxOf (List.idxOf_lt_length_of_mem hin)).symm
            have epl : plF ats e.a = some (.int .i64 (p : Nat)) := by unfold plF; rw [if_pos hin, hp]
            rw [epl] at hlk
            simp only [Option.getD_some, Option.isSome_some] at hlk
            have hpm : p < ms.length := by rw [HCA.out.len]; exact hpl
            have hpN : p < N := by rw [HN.out]; exact hpl
            have hpN' : (p : Int) < N := by omega
            have hp0 : (0 : Int) ≤ p := by omega
            have TD : Touch (wr.alloc e.obj) (wr.alloc e.obj).drew [] := (Touch.refl _ []).drew
            have HNT : Hid (HidC Tryz.prog 61 #[.pointer (some ⟨g, p * 4, none⟩), .int .i64 (k : Nat), e.val] (wr.alloc e.obj).drew _) := ⟨note_ev ((HCA.out.row).touch TD (by simp)) (rowQ_at hpl hpm) ((HCA.out.mp p hpl hpm).touch TD (by simp)) (HCA.out.mg _ (List.getElem_mem hpm)).2 (by omega) (k : Nat) e hwe⟩
            have HDN : Hid (∀ w3, R4 w3 g ((rowQ l k ats ms).set p ⟨.int .i64 ats[p], .int .i64 (begQ (begN l ats[p] k) k e), .int .i64 (endQ (endN l ats[p] k) k e), .map (some ms[p])⟩) → MapF w3 ms[p] (k + 1) (liftK (tchQ (tchN l ats[p] k) e)) → Touch (wr.alloc e.obj).drew w3 [g, ms[p]] → CrsAt w3 g g l (k + 1) ats ms ∧ MapF w3 pb N (plF ats) ∧ Touch w w3 []) := fun w3 n1 n2 n3 => by
              have n3' : Touch (wr.alloc e.obj) w3 [g, ms[p]] := (TD.mono (by simp)).trans n3 (fun x hx => .inl hx)
              rw [HE.out] at n1 n2
              refine ⟨HCA.out.note hkl HND.out hpl hpm hpa n1 n2 n3', HPA.out.touch n3' ?_, HTA.out.trans n3' ?_⟩
              · simp only [List.mem_cons, List.not_mem_nil, or_false, not_or]
                exact ⟨HPB.out.1, fun q => HPB.out.2 _ (List.getElem_mem hpm) q.symm⟩
              · intro x hx
                refine .inr ?_
                have h1 := (HCA.out.mg _ (List.getElem_mem hpm)).1
                have h2 := HGW.out
                simp only [List.mem_cons, List.not_mem_nil, or_false] at hx
                rcases hx with rfl | rfl <;> omega
            have HSK : Hid (∀ w3, Touch (wr.alloc e.obj).drew w3 [g, ms[p]] → w3.cell? ⟨wr.heap.size, 0, none⟩ = some (.int .u8 e.k) ∧ w3.cell? ⟨wr.heap.size, 1, none⟩ = some (.int .i64 e.a) ∧ w3.cell? ⟨wr.heap.size, 2, none⟩ = some (.int .i64 e.t) ∧ w3.cell? ⟨wr.heap.size, 3, none⟩ = some (.int .u64 e.v)) := fun w3 n3 => by
              have h1 : wr.heap.size ∉ [g, ms[p]] := by
                intro hx
                simp only [List.mem_cons, List.not_mem_nil, or_false] at hx
                have q1 := lt_of_heap HCW.out.row.st
                have q2 := (HCW.out.mp p hpl hpm).lt
                rcases hx with hx | hx <;> omega
              refine ⟨(n3.cell (by simp) h1).trans ?_, (n3.cell (by simp) h1).trans ?_, (n3.cell (by simp) h1).trans ?_, (n3.cell (by simp) h1).trans ?_⟩ <;> simp [go_sem]
            clear hin hp hpa epl TD hwe
            go_wp2_with fail
            refine wp_region_held_drew (S := (fun W : World => W.cell? ⟨wr.heap.size, 0, none⟩ = some (.int .u8 e.k) ∧ W.cell? ⟨wr.heap.size, 1, none⟩ = some (.int .i64 e.a) ∧ W.cell? ⟨wr.heap.size, 2, none⟩ = some (.int .i64 e.t) ∧ W.cell? ⟨wr.heap.size, 3, none⟩ = some (.int .u64 e.v))) (by kernel_rfl) ⟨by simp [go_sem], by simp [go_sem], by simp [go_sem], by simp [go_sem]⟩ (fun hHeld => ?_)
            try simp only [Act.put, List.getElem_toArray, List.getElem_cons_succ, List.getElem_cons_zero, List.setIfInBounds_toArray, List.set_cons_zero, List.set_cons_succ]
            refine wpAnyH_take (i := 0) (v := (.slice (some ⟨g, 0, none⟩) N N)) rfl (by kernel_rfl) (by kernel_rfl) (by kernel_rfl) (fun _ _ _ h => h) (Or.inl ⟨by rfl, ?_⟩) hHeld ?_
            · intro w' hSw
              try simp only [Act.put, List.getElem_toArray, List.getElem_cons_succ, List.getElem_cons_zero, List.setIfInBounds_toArray, List.set_cons_zero, List.set_cons_succ]
              (obtain ⟨q0, q1, q2, q3⟩ := hSw; go_simp)
            try simp only [Act.put, List.getElem_toArray, List.getElem_cons_succ, List.getElem_cons_zero, List.setIfInBounds_toArray, List.set_cons_zero, List.set_cons_succ]
            refine wpAnyH_take (i := 1) (v := (.int .i64 (p : Nat))) rfl (by kernel_rfl) (by kernel_rfl) (by kernel_rfl) (fun _ _ _ h => h) (Or.inl ⟨by rfl, ?_⟩) hHeld ?_
            · intro w' hSw
              try simp only [Act.put, List.getElem_toArray, List.getElem_cons_succ, List.getElem_cons_zero, List.setIfInBounds_toArray, List.set_cons_zero, List.set_cons_succ]
              (obtain ⟨q0, q1, q2, q3⟩ := hSw; go_simp)
            try simp only [Act.put, List.getElem_toArray, List.getElem_cons_succ, List.getElem_cons_zero, List.setIfInBounds_toArray, List.set_cons_zero, List.set_cons_succ]
            refine wpAnyH_take (i := 2) (v := (.pointer (some ⟨g, p * 4, none⟩))) rfl (by kernel_rfl) (by kernel_rfl) (by kernel_rfl) (fun _ _ _ h => h) (Or.inl ⟨by rfl, ?_⟩) hHeld ?_
            · intro w' hSw
              try simp only [Act.put, List.getElem_toArray, List.getElem_cons_succ, List.getElem_cons_zero, List.setIfInBounds_toArray, List.set_cons_zero, List.set_cons_succ]
              (obtain ⟨q0, q1, q2, q3⟩ := hSw; go_simp)
            try simp only [Act.put, List.getElem_toArray, List.getElem_cons_succ, List.getElem_cons_zero, List.setIfInBounds_toArray, List.set_cons_zero, List.set_cons_succ]
            refine wpAnyH_take (i := 3) (v := (.int .i64 (k : Nat))) rfl (by kernel_rfl) (by kernel_rfl) (by kernel_rfl) (fun _ _ _ h => h) (Or.inl ⟨by rfl, ?_⟩) hHeld ?_
            · intro w' hSw
              try simp only [Act.put, List.getElem_toArray, List.getElem_cons_succ, List.getElem_cons_zero, List.setIfInBounds_toArray, List.set_cons_zero, List.set_cons_succ]
              (obtain ⟨q0, q1, q2, q3⟩ := hSw; go_simp)
            try simp only [Act.put, List.getElem_toArray, List.getElem_cons_succ, List.getElem_cons_zero, List.setIfInBounds_toArray, List.set_cons_zero, List.set_cons_succ]
            refine wpAnyH_take (i := 4) (v := e.val) rfl (by kernel_rfl) (by kernel_rfl) (by kernel_rfl) (fun _ _ _ h => h) (Or.inl ⟨by rfl, ?_⟩) hHeld ?_
            · intro w' hSw
              try simp only [Act.put, List.getElem_toArray, List.getElem_cons_succ, List.getElem_cons_zero, List.setIfInBounds_toArray, List.set_cons_zero, List.set_cons_succ]
              (obtain ⟨q0, q1, q2, q3⟩ := hSw; go_simp)
            try simp only [Act.put, List.getElem_toArray, List.getElem_cons_succ, List.getElem_cons_zero, List.setIfInBounds_toArray, List.set_cons_zero, List.set_cons_succ]
            clear hHeld
            refine wpAnyH_ready (rs := [5]) (by kernel_rfl) (by simp) (AllReadyH.cons rfl (fun K hK => ?_) (AllReadyH.nil))
            rw [if_pos (by rfl)]
            go_simp
            refine HNT.out.out.mono ?_
            rintro y w3 ⟨rfl, n1, n2, n3⟩
            have HN3 : Hid _ := HDN.out _ n1 n2 n3
            have HS3 : Hid _ := HSK.out _ n3
            clear n1 n2 n3
            go_simp
            refine hK.out _ _ HS3.out (fun hHeld => ?_)
            clear hK
            try simp only [Act.put, List.getElem_toArray, List.getElem_cons_succ, List.getElem_cons_zero, List.setIfInBounds_toArray, List.set_cons_zero, List.set_cons_succ]
            clear hHeld
            refine wpAnyH_done (by kernel_rfl) ?_ _
            go_wp2
            go_roundw
            case rel => exact ⟨k + 1, by go_num, by omega, HN3.out.1, HN3.out.2.1, HN3.out.2.2⟩
            case measure => simp [intOf]; omega
          · have epl : plF ats e.a = none := by unfold plF; rw [if_neg hin]
            rw [epl] at hlk
            simp only [Option.getD_none, Option.isSome_none] at hlk
            have HC2 : Hid (CrsAt (wr.alloc e.obj) g g l (k + 1) ats ms) := HCA.out.stay hkl (by rw [← HE.out]; exact hin)
            clear hin epl
            go_wp2
            go_roundw
            case rel => exact ⟨k + 1, by go_num, by omega, HC2.out, HPA.out, HTA.out⟩
            case measure => simp [intOf]; omega
        · obtain rfl : k = L := by omega
          have HFI : Hid (CrsAt wr w.heap.size g l k ats ms) := ⟨hC.len, hC.row, hC.nd, HGW.out, fun m hm => ⟨Nat.le_trans HGW.out (hC.mg m hm).1, (hC.mg m hm).2⟩, hC.mp⟩
          clear hC hP hT
          go_wp2
          go_ret
          exact ⟨g, ms, rfl, HFI.out, HT.out⟩

end Go.Proofs.YtmiaibpdeofokaaGreatDoor

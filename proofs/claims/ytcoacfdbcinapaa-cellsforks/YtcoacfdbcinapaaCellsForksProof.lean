/-
  CellsForks is proved: for every number of cells (taken to 1 to 5), every ops (the first 60 of them are played) and more of them on the Fork (the first 14): what becomes of a Fork changes nothing, and the Fork is what the document says; the arguments read behind the call as before. No condition.
-/
import Derived.Test.YtcoacfdbcinapaaCellsPlaysProof
namespace Go.Proofs.Ytcoacfdbcinapaa
set_option linter.unusedVariables false
set_option linter.unusedSimpArgs false
open Go.ChangeShapes Go.WideShapes Go.ChangeAt Go.RowKit Go.Joins Go.Deep

/-- What Fork leaves: an object of its own in new memory. -/
def ForkPost (T : Nat) (w : World) (ws : List Int) (lg : List DoneD) (e : Ending) (w' : World) : Prop :=
  ∃ bf vwf vlf, e = .returned (.pointer (some ⟨bf, 0, none⟩)) ∧ CObj T w.heap.size w' bf vwf vlf ws lg ∧ Touch w w' []

/-- A new object out of two rows in new memory. -/
theorem fork_obj {T : Nat} {w X : World} {vwf vlf : Value} {ws : List Int} {lg : List DoneD} (t : Touch w X []) (hw : X.ownsRow w.heap.size 43 1 vwf ws.length (ws.map (Value.int .u64))) (hl : X.ownsRow w.heap.size 51 6 vlf lg.length (lg.flatMap DoneD.cells))
    (hpos : 0 < ws.length) (hwd : Words ws) (tw : T ≠ 43) (tl : T ≠ 51) : CObj T w.heap.size (X.alloc (.cells #[vwf, vlf] T)) X.heap.size vwf vlf ws lg :=
  ⟨t.size, heap_alloc_new X _, hw.alloc _, hl.alloc _, hpos, hwd, tw, tl⟩

set_option maxRecDepth 100000 in
theorem rfork_any {B b : Nat} {w : World} {vw vl : Value} {ws : List Int} {lg : List DoneD} (h : CObj 66 B w b vw vl ws lg) (hn : ws.length ≤ 1000) (hlg : lg.length ≤ 1000) :
    Calls Try.prog 24 #[.pointer (some ⟨b, 0, none⟩)] w (ForkPost 66 w ws lg) := by
  go_enter Try.func24, Try.ntmps24
  go_wp2_with fail
  refine (rwords_any h hn).mono ?_
  rintro e w1 ⟨g1, c1, rfl, o1, t1⟩
  go_wp2_with fail
  refine (rlog_any (h.keep t1 (by simp)) hlg).mono ?_
  rintro e w2 ⟨g2, c2, rfl, o2, t2⟩
  have hO : Hid _ := fork_obj (T := 66) (t1.trans t2 (by simp)) (ownsRow_touch o1 t2 (by simp)) (ownsRow_base o2 t1.size) h.pos h.wds h.tw h.tl
  have hT : Hid _ := (t1.trans t2 (by simp)).alloc (.cells #[.slice (some ⟨g1, 0, none⟩) ws.length c1, .slice (some ⟨g2, 0, none⟩) lg.length c2] 66)
  clear h o1 o2 t1 t2
  go_wp2
  go_ret
  exact ⟨_, _, _, by simp, hO.out, hT.out⟩

set_option maxRecDepth 100000 in
set_option maxHeartbeats 800000 in
theorem fork_any {B b : Nat} {w : World} {vw vl : Value} {ws : List Int} {lg : List DoneD} (h : CObj 69 B w b vw vl ws lg) (hn : ws.length ≤ 1000) (hlg : lg.length ≤ 1000) :
    Calls Try.prog 23 #[.pointer (some ⟨b, 0, none⟩)] w (ForkPost 69 w ws lg) := by
  obtain ⟨s0, s1, _, _⟩ := cells_two h.st
  obtain ⟨g, cap, hvw, _⟩ := h.words
  obtain ⟨ao, cap', hvl⟩ := h.logForm
  have hbl := lt_of_heap h.st
  have HO : Hid _ := h
  have hcw := fun (X : World) (tX : Touch w X []) => copied_u64 B ws.length vw ws X hn (h.keep tX (by simp)).own
  have hcl := fun (X : World) (tX : Touch w X []) => copied_done B lg.length vl lg X hlg (h.keep tX (by simp)).log
  rw [hvw] at s0 hcw
  rw [hvl] at s1 hcl
  have hpos := h.pos
  clear h
  go_enter Try.func23, Try.ntmps23
  go_wp2_with fail
  have d0 : Touch w w.drew [] := (Touch.refl w []).drew
  go_region_held3 (fun w' => w'.cell? ⟨b, 0, none⟩ = some (.slice (some ⟨g, 0, none⟩) ws.length cap) ∧ w'.cell? ⟨b, 1, none⟩ = some (.slice ao lg.length cap'))
    (first
      | go_keep
      | (go_split_ands
         refine ⟨?_, ?_⟩
         · exact (tN.cell (p := ⟨b, 0, none⟩) hbl (by simp)).trans s0
         · exact (tN.cell (p := ⟨b, 1, none⟩) hbl (by simp)).trans s1)
      | (go_split_ands
         refine ⟨?_, ?_⟩
         · exact (tM.cell (p := ⟨b, 0, none⟩) hbl (by simp)).trans s0
         · exact (tM.cell (p := ⟨b, 1, none⟩) hbl (by simp)).trans s1))
    (first
      | (go_at_call 34; refine (hcw _ d0).mono ?_; rintro e w1 ⟨rfl, o1, t1⟩; have tN : Touch w w1 [] := d0.trans t1 (by simp))
      | (go_at_call 33; refine (hcl _ tN).mono ?_; rintro e w2 ⟨rfl, o2, t2⟩; have tM : Touch w w2 [] := tN.trans t2 (by simp)))
  have hO : Hid _ := fork_obj (T := 69) tM (ownsRow_touch (ownsRow_base o1 (Nat.le_refl w.heap.size)) t2 (by simp)) (ownsRow_base o2 tN.size) HO.out.pos HO.out.wds HO.out.tw HO.out.tl
  have hT : Hid _ := tM
  clear HO o1 o2 t1 t2 tN tM hcw hcl s0 s1
  go_wp2
  go_ret
  exact ⟨_, _, _, by simp, hO.out, hT.out.alloc _⟩

theorem runOps_from {l : List OpD} {k : Nat} (hk : k < l.length) (ws : List Int) (lg : List DoneD) :
    runOps ws lg (l.take (k + 1)) = ((doStep (runOps ws lg (l.take k)).1 (runOps ws lg (l.take k)).2 l[k]).2.2.1, (doStep (runOps ws lg (l.take k)).1 (runOps ws lg (l.take k)).2 l[k]).2.2.2) := by
  rw [List.take_succ_eq_append_getElem hk, runOps_snoc]

set_option maxRecDepth 100000 in
set_option maxHeartbeats 3200000 in
theorem forks_any (n : Int) (h0 : 0 ≤ n) (h1 : n ≤ 255) (ao : Option Addr) (len cap : Nat) (l : List OpD) (hwf : ∀ o ∈ l, o.Wf) (w : World) (hr : OpRow w (.slice ao len cap) l) (hl : l.length ≤ maxLen)
    (bo : Option Addr) (len2 cap2 : Nat) (l2 : List OpD) (hwf2 : ∀ o ∈ l2, o.Wf) (hr2 : OpRow w (.slice bo len2 cap2) l2) (hl2 : l2.length ≤ maxLen) :
    Calls Try.prog 7 #[.int .u8 n, .slice ao len cap, .slice bo len2 cap2] w fun e w' => e = .returned (.bool true) ∧ Below w.heap.size w w' := by
  unfold maxLen at hl2
  have hp := play_any n h0 h1 _ l hwf w hr hl
  have hb := runOps_bounds (List.replicate (n % 5 + 1).toNat 0) [] (l.take 60)
  simp only [List.length_replicate, List.length_nil, List.length_take] at hb
  unfold PlayPost at hp
  generalize runOps (List.replicate (n % 5 + 1).toNat 0) [] (l.take 60) = S at *
  obtain ⟨ws0, lg0⟩ := S
  simp only at hp hb
  have hw0 : ws0.length ≤ 32 := by omega
  have hg0 : lg0.length ≤ 60 := by omega
  clear hr hl hwf hb
  obtain ⟨bo', cap2', e2, hrow⟩ := hr2
  have hr2 : OpRow w (.slice bo l2.length cap2) l2 := by
    simp only [Value.slice.injEq] at e2
    obtain ⟨rfl, rfl, rfl⟩ := e2
    exact ⟨bo, cap2, rfl, hrow⟩
  have hlen2 : len2 = l2.length := by
    simp only [Value.slice.injEq] at e2
    exact e2.2.1
  subst hlen2
  clear e2 hrow
  obtain ⟨N, hN⟩ : ∃ N, N = l2.length := ⟨_, rfl⟩
  rw [← hN] at hl2
  have HN : Hid (N = l2.length) := hN
  go_enter Try.func7, Try.ntmps7
  rw [← hN]
  clear hN
  go_wp2_with fail
  refine hp.mono ?_
  rintro e w1 ⟨bc, vwc0, vlc0, br, vwr0, vlr0, rfl, hB, t1⟩
  clear hp
  go_wp2_with fail
  refine (live_any _).mono ?_
  rintro e w2 ⟨rfl, b2⟩
  have hB2 := hB.touch (Touch.of_below b2 [])
  have t02 := t1.trans (Touch.of_below b2 []) (by simp)
  clear hB t1 b2
  go_wp2_with fail
  refine (fork_any hB2.c (by omega) (by omega)).mono ?_
  rintro e w3 ⟨bf, vwf0, vlf0, rfl, hf3, t3⟩
  have hB3 := hB2.touch t3
  go_wp2_with fail
  refine (rfork_any hB3.r (by omega) (by omega)).mono ?_
  rintro e w4 ⟨bg, vwg0, vlg0, rfl, hg4, t4⟩
  have t24 : Touch w2 w4 [] := t3.trans t4 (by simp)
  have hF0 : Both w2.heap.size w4 bf vwf0 vlf0 bg vwg0 vlg0 ws0 lg0 :=
    ⟨hf3.keep t4 (by simp), ⟨Nat.le_trans t3.size hg4.hb, hg4.st, ownsRow_base hg4.own t3.size, ownsRow_base hg4.log t3.size, hg4.pos, hg4.wds, hg4.tw, hg4.tl⟩, fun q hq hq' => by have := (hf3.foot_lt q hq).2; have := (hg4.foot_lt q hq').1; omega⟩
  have HB2 : Hid _ := hB2
  have HT2 : Hid _ := t02
  have hr2' : OpRow w2 (.slice bo l2.length cap2) l2 := hr2.keep t02 (by simp)
  clear hB2 t02 hf3 hg4 t3 t4 hB3 hr2
  go_wp2_with fail
  go_loopw [12] (fun i wr => ∃ (k : Nat) (vwc vlc vwr vlr : Value), i = .int .i64 k ∧ k ≤ N ∧ k ≤ 14 ∧ Both w2.heap.size wr bf vwc vlc bg vwr vlr (runOps ws0 lg0 (l2.take k)).1 (runOps ws0 lg0 (l2.take k)).2 ∧
      (runOps ws0 lg0 (l2.take k)).1.length ≤ 32 ∧ (runOps ws0 lg0 (l2.take k)).2.length ≤ 60 + k ∧ Touch w2 wr []) (fun i _ => 14 - (intOf i).toNat)
  case atStart => exact ⟨0, _, _, _, _, rfl, Nat.zero_le _, by omega, hF0, by simp only [List.take_zero, runOps]; omega, by simp only [List.take_zero, runOps]; omega, t24⟩
  case round =>
    obtain ⟨k, vwc', vlc, vwr', vlr, rfl, hk, hk60, hb, hws, hlg, t⟩ := hrel
    by_cases hlt : k < N ∧ k < 14
    · obtain ⟨hlt, hlt6⟩ := hlt
      have hlt' : (k : Int) < N := by omega
      have hlt6' : (k : Int) < 14 := by omega
      have hkl : k < l2.length := by rw [← HN.out]; exact hlt
      obtain ⟨g, off, rfl, hg, M0, M1, M2, M3⟩ := hr2'.four k hkl
      have m0 := (t.cell (p := ⟨g, off + k * 4, none⟩) hg (by simp)).trans M0
      have m1 := (t.cell (p := ⟨g, off + k * 4 + 1, none⟩) hg (by simp)).trans M1
      have m2 := (t.cell (p := ⟨g, off + k * 4 + 2, none⟩) hg (by simp)).trans M2
      have m3 := (t.cell (p := ⟨g, off + k * 4 + 3, none⟩) hg (by simp)).trans M3
      have hn := runOps_from hkl ws0 lg0
      have hdw := hwf2 l2[k] (List.getElem_mem hkl)
      obtain ⟨o, ho⟩ : ∃ o, o = l2[k] := ⟨_, rfl⟩
      rw [← ho] at m0 m1 m2 m3 M0 M1 M2 M3 hn hdw
      generalize hS : runOps ws0 lg0 (l2.take k) = S at *
      obtain ⟨ws, lg⟩ := S
      simp only at hb hws hlg hn
      have hwl := doStep_length ws lg o
      have hll := doStep_log_length ws lg o
      have hdo := do_any hb.c t.size o hdw (by omega) (by omega)
      have hrdo := fun (X : World) (hX : CObj 66 w2.heap.size X bg vwr' vlr ws lg) (hs : w2.heap.size ≤ X.heap.size) => rdo_any hX hs o hdw (by omega) (by omega)
      obtain ⟨⟨d', e', ws', lg'⟩, hr1⟩ : ∃ r, r = doStep ws lg o := ⟨_, rfl⟩
      rw [← hr1] at hn hdo hrdo hwl hll
      simp only at hn hdo hrdo hwl hll
      obtain ⟨⟨b0, b1, b2, b3⟩, b4, b5⟩ := d'
      obtain ⟨a0, a1, a2, a3⟩ := o
      simp only [DoneD.val, OpD.val] at hdo hrdo m0 m1 m2 m3 M0 M1 M2 M3
      have HB : Hid _ := hb
      have HT : Hid _ := t
      have HNX : Hid _ := hn
      have HRD : Hid _ := hrdo
      clear ho hr1 hb t hn hrdo hS hr2'
      go_wp2_with fail
      refine hdo.mono ?_
      rintro e w5 ⟨vwc2, vlc2, rfl, hc2, t3, ft3⟩
      clear hdo
      have hs3 := t3.size
      have hrk := HB.out.r.keep t3 (fun q hq hq' => HB.out.apart q hq' hq)
      have t03 : Touch w2 w5 [] := HT.out.trans t3 (fun q hq => .inr (HB.out.c.foot_lt q hq).1)
      have m0' := cell_alloc ((t03.cell (p := ⟨g, off + k * 4, none⟩) hg (by simp)).trans M0)
      have m1' := cell_alloc ((t03.cell (p := ⟨g, off + k * 4 + 1, none⟩) hg (by simp)).trans M1)
      have m2' := cell_alloc ((t03.cell (p := ⟨g, off + k * 4 + 2, none⟩) hg (by simp)).trans M2)
      have m3' := cell_alloc ((t03.cell (p := ⟨g, off + k * 4 + 3, none⟩) hg (by simp)).trans M3)
      have HC2 : Hid _ := hc2
      have HF3 : Hid _ := ft3
      have HT3 : Hid _ := t03
      have HRK : Hid _ := hrk
      have hwr := HT.out.size
      clear m0 m1 m2 m3 M0 M1 M2 M3 hc2 ft3 t03 hrk t3
      go_wp2_with fail
      refine (HRD.out _ (HRK.out.keep ((Touch.refl w5 []).alloc _) (by simp)) (by simp; omega)).mono ?_
      rintro e w6 ⟨vwr2, vlr2, rfl, hr2, t4, ft4⟩
      have hs4 := t4.size
      simp only [World.size_alloc] at hs4
      have D1 := (t4.block w5.heap.size (by simp) (fun hq => by have := (HRK.out.foot_lt _ hq).2; omega)).trans (heap_alloc_new w5 _)
      obtain ⟨⟨c0, c1, c2, c3, c4, c5⟩, _⟩ := cells_done D1
      have k0 := cell_alloc c0
      have k1 := cell_alloc c1
      have k2 := cell_alloc c2
      have k3 := cell_alloc c3
      have k4 := cell_alloc c4
      have k5 := cell_alloc c5
      have hck := (HC2.out.keep ((Touch.refl w5 []).alloc _) (by simp)).keep t4 (fun q hq hq' => by
        rcases HF3.out q hq with hq1 | hq1
        · exact HB.out.apart q hq1 hq'
        · have := (HB.out.r.foot_lt q hq').2; omega)
      have hb4 : Both w2.heap.size w6 bf vwc2 vlc2 bg vwr2 vlr2 ws' lg' := ⟨hck, hr2, fun q hq hq' => by
        rcases ft4 q hq' with hq1 | hq1
        · rcases HF3.out q hq with hq2 | hq2
          · exact HB.out.apart q hq2 hq1
          · have := (HB.out.r.foot_lt q hq1).2; omega
        · have := (HC2.out.foot_lt q hq).2; simp at hq1; omega⟩
      have t04 : Touch w2 w6 [] := (HT3.out.alloc _).trans t4 (fun q hq => .inr (HRK.out.foot_lt q hq).1)
      have HB4 : Hid _ := hb4
      have HT4 : Hid _ := t04
      clear D1 c0 c1 c2 c3 c4 c5 hck hb4 t04 t4 ft4 hr2 m0' m1' m2' m3' HRD HB HT
      go_wp2
      go_roundw
      case rel => exact ⟨k + 1, vwc2, vlc2, vwr2, vlr2, by go_num, by omega, by omega, by rw [HNX.out]; exact HB4.out.alloc _, by rw [HNX.out]; simp only; omega, by rw [HNX.out]; simp only; omega, HT4.out.alloc _⟩
      case measure => simp [intOf]; omega
    · have HB : Hid _ := hb
      have HT : Hid _ := t
      generalize runOps ws0 lg0 (l2.take k) = S at *
      obtain ⟨ws, lg⟩ := S
      simp only at HB hws hlg
      clear hb hr2' t
      by_cases hlt1 : (k : Int) < N
      · have hlt2 : ¬ (k : Int) < 14 := by omega
        clear hlt
        go_wp2_with fail
        refine (same_eq (HB2.out.touch HT.out) hw0 (by omega)).mono ?_
        rintro e w7 ⟨rfl, t7⟩
        go_wp2_with fail
        refine (same_eq (HB.out.touch t7) hws (by omega)).mono ?_
        rintro e w8 ⟨rfl, t8⟩
        have t08 : Touch w w8 [] := (((HT2.out).trans HT.out (by simp)).trans t7 (by simp)).trans t8 (by simp)
        clear t7 t8
        go_wp2
        go_ret
        exact ⟨rfl, t08.below (Nat.le_refl _) (by simp)⟩
      · clear hlt
        go_wp2_with fail
        refine (same_eq (HB2.out.touch HT.out) hw0 (by omega)).mono ?_
        rintro e w7 ⟨rfl, t7⟩
        go_wp2_with fail
        refine (same_eq (HB.out.touch t7) hws (by omega)).mono ?_
        rintro e w8 ⟨rfl, t8⟩
        have t08 : Touch w w8 [] := (((HT2.out).trans HT.out (by simp)).trans t7 (by simp)).trans t8 (by simp)
        clear t7 t8
        go_wp2
        go_ret
        exact ⟨rfl, t08.below (Nat.le_refl _) (by simp)⟩

set_option maxRecDepth 100000 in
theorem cellsForks_lifted (os : Os) (started : os.Started) (H : Type) (enc : TypeId × Value → H) :
    ReturnsInHanded {} Try.checked os 7 .any (Rows.cellsForksSpec.pre6 enc Try.prog Try.f7 Rows.cellsForksRow.domain false) (Rows.cellsForksSpec.post enc Try.prog Try.f7 false true false false) := by
  refine returnsInHanded_of_change (C := Try.checked) Try.own started (by kernel_rfl) Try.func7
    (ChangeSpec.witness6 (enc := enc) (C := Try.checked) false ⟨#[], #[.int .u8 0, .slice none 0 0, .slice none 0 0], []⟩ 8 (by kernel_rfl) (by kernel_rfl) (by kernel_rfl) (by kernel_rfl)) ?_
  intro W base args ds gs before hval0 hW hcnd _
  have hval : ∀ (j : Nat) t v, Try.f7.params[j]? = some t → args[j]? = some v → Value.okWide Try.prog W .any base t v := hval0
  have hW' := hW
  obtain ⟨p, q, hA0, hV, rfl, hfz, hnd⟩ := hW
  have hA : DataW.TrodAll enc Try.prog W 0 (fun _ => true) true Try.f7.params.toList args.toList ds p := hA0
  rw [Try.params7] at hA hval
  obtain ⟨v0, vs0, d0, ds0, p0, q0, hargs, rfl, rfl, h0, r0⟩ := trodAll_cons hA
  obtain ⟨v1, vs1, d1, ds1, p1, q1, rfl, rfl, rfl, h1, r1⟩ := trodAll_cons r0
  obtain ⟨v2, vs2, d2, ds2, p2, q2, rfl, rfl, rfl, h2, r2⟩ := trodAll_cons r1
  obtain ⟨rfl, rfl, rfl⟩ := trodAll_nil r2
  obtain rfl : args = #[v0, v1, v2] := by cases args; simp_all
  obtain ⟨rfl, rfl⟩ := trodVars_none hV
  have lt0 : ∀ x ∈ p0, x.block < W.heap.size := by obtain ⟨m, hm⟩ := h0; exact DataW.trod_lt m _ _ _ hm
  have lt1 : ∀ x ∈ p1, x.block < W.heap.size := by obtain ⟨m, hm⟩ := h1; exact DataW.trod_lt m _ _ _ hm
  have lt2 : ∀ x ∈ p2, x.block < W.heap.size := by obtain ⟨m, hm⟩ := h2; exact DataW.trod_lt m _ _ _ hm
  obtain ⟨n, e1, _, _, wn⟩ := open_int Try.underlying5 (hval 0 5 v0 rfl rfl) h0
  subst e1
  obtain ⟨ao, len, cap, e2⟩ := okWide_slice Try.underlying22 (hval 1 22 v1 rfl rfl)
  subst e2
  obtain ⟨bo, len2, cap2, e3⟩ := okWide_slice Try.underlying22 (hval 2 22 v2 rfl rfl)
  subst e3
  obtain ⟨l, hr, hwf, hl⟩ := ops_of_trod h1
  obtain ⟨l2, hr2, hwf2, hl2⟩ := ops_of_trod h2
  have hn := wf_u8 wn
  refine (forks_any n hn.1 hn.2 ao len cap l hwf W hr hl bo len2 cap2 l2 hwf2 hr2 hl2).mono fun e W' ⟨he, bel⟩ => ?_
  subst he
  exact ⟨_, rfl, _, _, _, [], _, [], hW', trodAll_mk1 (shut_bool Try.underlying4 _), (trodAll_cons_mk (Below.trod Try.laidOut (by kernel_rfl) (of_decide_eq_true (by kernel_rfl)) h0 bel lt0) (trodAll_cons_mk (Below.trod Try.laidOut (by kernel_rfl) (of_decide_eq_true (by kernel_rfl)) h1 bel lt1) (trodAll_cons_mk (Below.trod Try.laidOut (by kernel_rfl) (of_decide_eq_true (by kernel_rfl)) h2 bel lt2) trodAll_mk0))), rfl, bel.frame _, fun h => by cases h⟩

theorem cellsForks_holds : Rows.CellsForksSaid :=
  OpenClaim.holds_of_wide 7 Try.f7 rfl rfl rfl rfl rfl rfl rfl ⟨rfl, rfl, rfl, rfl, rfl⟩ rfl rfl rfl rfl rfl (by kernel_rfl) Try.func7 (by kernel_rfl)
    (of_decide_eq_true (by kernel_rfl)) (by unfold Func.isWrapper; first | (rw [if_pos (by decide +kernel)]; kernel_rfl) | (rw [if_neg (by decide +kernel)]; exact ⟨rfl, rfl⟩))
    (fun os started H enc _ => cellsForks_lifted os started H enc)

end Go.Proofs.Ytcoacfdbcinapaa

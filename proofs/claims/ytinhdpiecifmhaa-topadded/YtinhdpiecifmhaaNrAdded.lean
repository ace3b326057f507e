/-
  TopAdded, WALKED.
-/
import Derived.Test.YtinhdpiecifmhaaNrAddW
import Derived.BigQuiet
namespace Go.Proofs.Ytinhdpiecifmhaa.Nr
set_option linter.unusedVariables false
set_option linter.unusedSimpArgs false
open Go.RowKit Go.Maps

set_option maxRecDepth 100000 in
set_option maxHeartbeats 12800000 in
theorem added_any (ao : Option Addr) (cap : Nat) (l : List Int) (w : World) (hr : PRow w (.slice ao l.length cap) l) (hl : ∀ x ∈ l, 0 ≤ x ∧ x ≤ 255) :
    Calls Try.prog 3 #[.slice ao l.length cap] w fun x w' => x = .returned (.bool true) ∧ Touch w w' [] := by
  obtain ⟨N, hN⟩ : ∃ N, N = l.length := ⟨_, rfl⟩
  have HN : Hid _ := hN
  have HR : Hid (∀ k (hk : k < l.length), _) := fun k hk => hr.one k hk
  rw [← hN]
  clear hN hr
  have hR0 : (w.alloc (.cells #[.int .u64 0, .int .u64 9221120237041090560] 26)).ownsRow w.heap.size 26 1 (.slice (some ⟨w.heap.size, 0, none⟩) 2 2) 2 ([0, nanI].map (Value.int .u64)) := ⟨rfl, .inr ⟨w.heap.size, 2, _, rfl, Nat.le_refl _, heap_alloc_new w _, Nat.le_refl _, by decide, rfl, rfl⟩⟩
  have NW := HidC.mk (ow_new (R := []) ((Touch.refl w []).alloc _) hR0 (by decide) (by decide) new_right (by simp))
  clear hR0
  go_enter Try.func3, Try.ntmps3
  go_wp2_with fail
  refine NW.out.mono ?_
  rintro x w2 ⟨eb, rfl, h2, _⟩
  clear NW
  have h3 : Ow w ((w2.alloc (atC fun _ => 0)).alloc (gotC fun _ => 0)) eb (newEng [0, nanI]) [(w2.heap.size, atC fun _ => 0), (w2.heap.size + 1, gotC fun _ => 0)] := by
    have h4 := (h2.more ((Touch.refl w2 []).alloc (atC fun _ => 0)) (Nat.le_refl _) (heap_alloc_new w2 _)).more ((Touch.refl (w2.alloc (atC fun _ => 0)) []).alloc (gotC fun _ => 0)) (Nat.le_refl _) (heap_alloc_new _ _)
    rw [World.size_alloc] at h4
    exact ow_swap h4
  have H0 : Hid (RI w ((w2.alloc (atC fun _ => 0)).alloc (gotC fun _ => 0)) eb w2.heap.size (w2.heap.size + 1) 0 (newEng [0, nanI]) (fun _ => 0) (fun _ => 0) 0) := RI.mk' h3 inv_new wf_new
  have hab := h2.touch.size
  clear h2 h3
  go_wp2_with fail
  obtain ⟨ab, hA⟩ : ∃ ab, ab = w2.heap.size := ⟨_, rfl⟩
  obtain ⟨gb, hG⟩ : ∃ gb, gb = w2.heap.size + 1 := ⟨_, rfl⟩
  rw [← hG, ← hA] at H0
  rw [← hA] at hab
  simp only [← hG]
  simp only [← hA]
  have hgb : gb ≠ ab := by omega
  have hgb' : w.heap.size ≤ gb := by omega
  clear hA hG
  go_loopw [6, 7] (fun d i wr => ∃ (k n : Nat) (E : Eng) (at' : Nat → Nat) (got : Nat → Int), d = .int .i64 n ∧ i = .int .i64 k ∧ k ≤ N ∧ k ≤ 150 ∧ RI w wr eb ab gb (2 * k) E at' got n) (fun _ i _ => 150 - (intOf i).toNat)
  case atStart => exact ⟨0, 0, _, _, _, rfl, rfl, Nat.zero_le _, by omega, H0.out⟩
  case round =>
    obtain ⟨k, n, E, at', got, rfl, rfl, hk, hk6, hb⟩ := hrel
    clear H0
    by_cases hlt : k < N ∧ k < 150
    · obtain ⟨hlt, hlt6⟩ := hlt
      have hlt' : (k : Int) < N := by omega
      have hlt6' : (k : Int) < 150 := by omega
      have hkl : k < l.length := by rw [← HN.out]; exact hlt
      obtain ⟨g, off, rfl, hg, M0⟩ := HR.out k hkl
      have m0 := (hb.o.touch.cell (p := ⟨g, off + k, none⟩) hg (by simp)).trans M0
      have hx := hl _ (List.getElem_mem hkl)
      generalize l[k] = x at *
      obtain ⟨t, ht⟩ : ∃ t : Nat, (t : Int) = x % 3 := ⟨(x % 3).toNat, by omega⟩
      have ht3 : t < 3 := by omega
      have hmod : x.tmod 3 = (t : Int) := by rw [ht, Int.tmod_eq_emod_of_nonneg hx.1]
      have HT : Hid (x % 3 = (t : Int)) := ht.symm
      have t0 : (0 : Int) ≤ t := by omega
      have t3 : (t : Int) < 3 := by omega
      obtain ⟨hx0, hx1⟩ := hx
      clear ht M0 hg
      have hcb : E.lk.c ≤ 302 := by have := hb.e.lk1; omega
      have hn0 : n ≤ 160 := by have := hb.i.dn; omega
      have a0 := atC_cell (hb.o.kept (List.mem_cons_self ..)) t ht3
      have abl := lt_of_heap (hb.o.kept (b := ab) (List.mem_cons_self ..))
      have gbl := lt_of_heap (hb.o.kept (b := gb) (List.mem_cons_of_mem _ (List.mem_singleton.2 rfl)))
      cases hth : E.th t with
      | none =>
        have AK := HidC.mk (ow_asked hb.o t (by omega) (r := (⟨0, 0, 0⟩, false)) (by simp [askdE, hth]))
        have AT := fun (W : World) (h : Ow w W eb E [(ab, atC at'), (gb, gotC got)]) => HidC.mk (ow_att h t (r := (0, false)) (by unfold attE; rw [if_neg (fun q => q ⟨t0, by omega⟩), Int.toNat_natCast, hth]))
        have BG := hb.i.begins t ht3 hth
        have hE1 : EWf (2 * k + 2) (beginE E t).2 := begin_keep hb.e (by omega) t
        have ST := fun (W : World) (h : Ow w W eb E [(ab, atC at'), (gb, gotC got)]) => HidC.mk (ow_begin h hb.e t rfl rfl)
        generalize beginE E t = r at *
        obtain ⟨⟨r0, r1⟩, E1⟩ := r
        simp only [AskD.val] at BG hE1 ST AK AT
        have HG : Hid _ := BG
        have HE : Hid _ := hE1
        have HB : Hid _ := hb
        clear BG hE1 hth hb hcb a0 HR hl
        go_wp2_with fail
        refine AK.out.mono ?_
        rintro e w3 ⟨rfl, h3⟩
        clear AK
        have h4 := h3.fresh ((Touch.refl w3 []).alloc (.cells #[.int .u8 0, .int .i64 0, .int .u64 0] 32))
        clear h3
        go_wp2_with fail
        refine (AT _ h4).out.mono ?_
        rintro e w4 ⟨rfl, rfl⟩
        clear AT
        go_wp2_with fail
        refine (ST _ h4).out.mono ?_
        rintro e w5 ⟨rfl, h5⟩
        clear ST h4
        have k1 := h5.kept (List.mem_cons_self ..)
        have a1 := atC_cell k1 t ht3
        have bl1 := lt_of_heap k1
        have bl2 := lt_of_heap (h5.kept (b := gb) (List.mem_cons_of_mem _ (List.mem_singleton.2 rfl)))
        have HA1 : Hid (Ow w (w5.setCell ⟨ab, t, none⟩ (.int .i64 (0 : Nat))) eb E1 [(ab, atC (upd at' t 0)), (gb, gotC got)]) := ow_set1 h5 ((Touch.refl w5 [ab]).setCell (.inl (by simp)) _) (atC_set k1 t ht3 0) hab hgb
        have H5 : Hid _ := h5
        obtain ⟨f1, a1⟩ := And.symm a1
        clear h5 k1
        rcases HG.out with ⟨b1, b2⟩ | ⟨b1, b2⟩
        · subst b1
          subst E1
          have HO : Hid _ := H5.out
          clear HG HA1 H5 HE a1 f1
          obtain ⟨hv, hhp, hhe⟩ := HB.out.i.hp
          have hdn := HB.out.i.dn
          have hc0 := HB.out.i.c0
          have hc1 := HB.out.e.lk1
          have CK := fun (W : World) (h : Ow w W eb E [(ab, atC at'), (gb, gotC got)]) => HidC.mk (ow_clk h rfl)
          have HP := fun (W : World) (h : Ow w W eb E [(ab, atC at'), (gb, gotC got)]) => HidC.mk (ow_hp h HB.out.e hhp)
          have IN : ∀ (W : World), HidC Try.prog 11 #[.int .i64 n] W (fun e w' => e = .returned (.tuple #[.int .u64 (VN n), .bool true]) ∧ Touch W w' []) := fun W => HidC.mk (int_ok n (by omega) (by omega) W)
          generalize E.lk.c = c at *
          have HDN : Hid ((n : Int) = c / 2) := hdn
          have HHE : Hid (c % 2 = 0 → hv = VI c) := hhe
          clear hdn hhe
          clear HB hhp
          go_wp2_with fail
          refine (IN _).out.mono ?_
          rintro e v1 ⟨rfl, t1⟩
          clear IN
          have o1 := HO.out.fresh t1
          clear t1 HO
          go_wp2_with fail
          refine (HP _ o1).out.mono ?_
          rintro e v2 ⟨hg2, hcap, rfl, hl2, hx0, hx1, o2⟩
          clear HP o1
          by_cases hodd : c % 2 = 1
          · have h1 : c.tmod 2 = 1 := by rw [Int.tmod_eq_emod_of_nonneg hc0]; exact hodd
            have HO2 : Hid _ := o2.touch
            go_wp2_with fail
            refine (CK _ o2).out.mono ?_
            rintro e v3 ⟨rfl, rfl⟩
            clear CK o2
            go_wp2
            go_ret
            exact ⟨rfl, HO2.out⟩
          · have h1 : c.tmod 2 = 0 := by rw [Int.tmod_eq_emod_of_nonneg hc0]; omega
            have hve : hv = VN n := by rw [HHE.out (by omega), VI]; congr 1; have := HDN.out; omega
            subst hve
            have HO2 : Hid _ := o2.touch
            have hcn : c = 2 * (n : Int) := by have := HDN.out; omega
            clear HDN HHE
            subst hcn
            have hn1 : (0 : Int) ≤ n := by omega
            have hn2 : (n : Int) ≤ 160 := by omega
            go_wp2_with fail
            refine (CK _ o2).out.mono ?_
            rintro e v3 ⟨rfl, rfl⟩
            go_wp2_with fail
            refine (CK _ o2).out.mono ?_
            rintro e v3 ⟨rfl, rfl⟩
            clear CK o2
            go_wp2
            go_ret
            exact ⟨rfl, HO2.out⟩
        · have HI : Hid _ := b2
          rcases b1 with rfl | rfl
          all_goals
            clear HG H5 b2 HB
            go_wp2
            go_roundw
            case rel => exact ⟨k + 1, n, E1, upd at' t 0, got, rfl, by go_num, by omega, by omega, RI.mk' HA1.out HI.out HE.out⟩
            case measure => simp [intOf]; omega
      | some A =>
        by_cases h0 : A.ask.k = 0
        · have AK := HidC.mk (ow_asked hb.o t (by omega) (r := (⟨0, 0, 0⟩, false)) (by simp [askdE, hth, h0]))
          have AT := fun (W : World) (h : Ow w W eb E [(ab, atC at'), (gb, gotC got)]) => HidC.mk (ow_att h t (r := (A.num, true)) (by unfold attE; rw [if_neg (fun q => q ⟨t0, by omega⟩), Int.toNat_natCast, hth]))
          obtain ⟨b1, b2, b3⟩ := hb.i.asks t ht3 A hth h0 hcb
          have hwf := hb.i.next_wf t A hth h0 hcb
          have hE1 : EWf (2 * k + 2) (askE E t (nextA (at' t) (got t))).2 := ask_keep hb.e (by omega) t _ (nextA_k _ _) (nextA_t _ _) hwf
          have ST := fun (W : World) (h : Ow w W eb E [(ab, atC at'), (gb, gotC got)]) => HidC.mk (ow_ask h hb.e t (nextA (at' t) (got t)) b2 rfl)
          have AD : ∀ (W : World), HidC Try.prog 9 #[.int .u64 (got t), .int .u64 4607182418800017408] W (fun e w' => e = .returned (.int .u64 (addI (got t))) ∧ Touch W w' []) := fun W => HidC.mk (add_any (got t) oneI W)
          obtain ⟨k1, k2⟩ := And.intro (hb.o.kept (b := ab) (List.mem_cons_self ..)) (hb.o.kept (b := gb) (List.mem_cons_of_mem _ (List.mem_singleton.2 rfl)))
          have HG : Hid _ := b3
          have HE : Hid _ := hE1
          generalize (askE E t (nextA (at' t) (got t))).2 = E1 at *
          clear b3 hE1 hwf hth h0 hcb a0 HR hl b2
          go_wp2_with fail
          refine AK.out.mono ?_
          rintro e w3 ⟨rfl, h3⟩
          clear AK
          have h4 := h3.fresh ((Touch.refl w3 []).alloc (.cells #[.int .u8 0, .int .i64 0, .int .u64 0] 32))
          clear h3
          go_wp2_with fail
          refine (AT _ h4).out.mono ?_
          rintro e w4 ⟨rfl, rfl⟩
          clear AT
          have k1 := h4.kept (List.mem_cons_self ..)
          have k2 := h4.kept (b := gb) (List.mem_cons_of_mem _ (List.mem_singleton.2 rfl))
          have a1 := atC_cell k1 t ht3
          have g1 := gotC_cell k2 t ht3
          have HK : Hid _ := h4
          clear h4 k1 k2
          generalize hW : w3.alloc (.cells #[.int .u8 0, .int .i64 0, .int .u64 0] 32) = W3 at *
          clear hW
          go_wp2_with fail
          refine (AD _).out.mono ?_
          rintro e w5 ⟨rfl, t5⟩
          clear AD
          have h5 := HK.out.fresh t5
          have g5 := h5.fresh ((Touch.refl w5 []).alloc (.cells #[.int .u8 1, .int .i64 0, .int .u64 0, .int .u8 2, .int .i64 0, .int .u64 (addI (got t)), .int .u8 6, .int .i64 0, .int .u64 0] 32))
          have k1 := h5.kept (b := ab) (List.mem_cons_self ..)
          have k2 := h5.kept (b := gb) (List.mem_cons_of_mem _ (List.mem_singleton.2 rfl))
          have a1 := atC_cell k1 t ht3
          have bl1 := lt_of_heap k1
          have n1 : ab ≠ w5.heap.size := by omega
          obtain ⟨f1, a1⟩ := And.symm a1
          have HA : Hid (∀ W, Ow w W eb E1 [(ab, atC at'), (gb, gotC got)] → W.cell? ⟨ab, t, none⟩ = some (.int .i64 (at' t)) ∧ W.frozen? ⟨ab, t, none⟩ = false ∧ Ow w (W.setCell ⟨ab, t, none⟩ (.int .i64 ((at' t + 1 : Nat) : Int))) eb E1 [(ab, atC (upd at' t (at' t + 1))), (gb, gotC got)]) := by
            intro W h
            have k1 := h.kept (b := ab) (List.mem_cons_self ..)
            obtain ⟨c, f⟩ := atC_cell k1 t ht3
            exact ⟨c, f, ow_set1 h ((Touch.refl W [ab]).setCell (.inl (by simp)) _) (atC_set k1 t ht3 _) hab hgb⟩
          have H5 : Hid _ := g5
          clear h5 g5 k1 k2 t5 HK g1
          generalize got t = g0 at *
          generalize at' t = an at *
          have han : an = 0 ∨ an = 1 ∨ an = 2 := by omega
          rcases han with rfl | rfl | rfl
          all_goals
            simp only [nextA, if_true, if_neg (show ¬ (1 : Nat) = 0 by decide), if_neg (show ¬ (2 : Nat) = 0 by decide), if_neg (show ¬ (2 : Nat) = 1 by decide), AskD.val] at ST
            go_wp2_with fail
            refine (ST _ H5.out).out.mono ?_
            rintro e w7 ⟨rfl, h7⟩
            clear ST H5
            obtain ⟨a7, f7, o7⟩ := HA.out _ h7
            have H7 : Hid _ := o7
            clear o7 h7 HA a1 f1
            go_wp2
            go_roundw
            case rel => exact ⟨k + 1, n, E1, _, got, rfl, by go_num, by omega, by omega, RI.mk' H7.out HG.out HE.out⟩
            case measure => simp [intOf]; omega
        · have AK := HidC.mk (ow_asked hb.o t (by omega) (r := (A.ask, true)) (by simp [askdE, hth, h0]))
          have hst : stepE E t = goE E t A := by
            unfold stepE
            rw [if_neg (fun q => q ⟨t0, by omega⟩)]
            simp only [Int.toNat_natCast, hth, if_neg h0]
          have GO := goes_step hb.i hth hcb (by omega) h0
          have hE1 : EWf (2 * k + 2) (stepE E t).2 := step_keep hb.e (by omega) t
          have ST := fun (W : World) (h : Ow w W eb E [(ab, atC at'), (gb, gotC got)]) => HidC.mk (ow_step h hb.e t rfl rfl)
          rw [hst] at hE1 ST
          unfold Goes at GO
          generalize goE E t A = r at *
          generalize A.ask = q at *
          obtain ⟨qk, qt, qv⟩ := q
          obtain ⟨⟨r0, r1, r2, r3, r4, r5, r6⟩, E1⟩ := r
          simp only [atS, gotS, doneS, RpD.val', AskD.val] at GO hE1 ST AK
          have HG : Hid _ := GO
          have HE : Hid _ := hE1
          clear GO hE1 hst hth h0 hb hcb a0 HR hl
          go_wp2_with fail
          refine AK.out.mono ?_
          rintro e w3 ⟨rfl, h3⟩
          clear AK
          have h4 := h3.fresh ((Touch.refl w3 []).alloc (.cells #[.int .u8 qk, .int .i64 qt, .int .u64 qv] 32))
          clear h3
          go_wp2_with fail
          refine (ST _ h4).out.mono ?_
          rintro e w5 ⟨rfl, h5⟩
          clear ST h4
          have k1 := h5.kept (List.mem_cons_self ..)
          have k2 := h5.kept (List.mem_cons_of_mem _ (List.mem_singleton.2 rfl))
          have a1 := atC_cell k1 t ht3
          have g1 := gotC_cell k2 t ht3
          have bl1 := lt_of_heap k1
          have bl2 := lt_of_heap k2
          have n1 : ab ≠ w5.heap.size := by omega
          have n2 : gb ≠ w5.heap.size := by omega
          have HA1 : Hid (Ow w (w5.setCell ⟨ab, t, none⟩ (.int .i64 (0 : Nat))) eb E1 [(ab, atC (upd at' t 0)), (gb, gotC got)]) := ow_set1 h5 ((Touch.refl w5 [ab]).setCell (.inl (by simp)) _) (atC_set k1 t ht3 0) hab hgb
          have HA2 : Hid (Ow w (w5.setCell ⟨gb, t, none⟩ (.int .u64 r1)) eb E1 [(ab, atC at'), (gb, gotC (upd got t r1))]) := ow_set2 h5 ((Touch.refl w5 [gb]).setCell (.inl (by simp)) _) (gotC_set k2 t ht3 r1) hgb' hgb
          have H5 : Hid _ := h5
          obtain ⟨f1, a1⟩ := And.symm a1
          obtain ⟨f2, g1⟩ := And.symm g1
          generalize at' t = an at *
          clear h5 k1 k2
          cases r4 with
          | true =>
            by_cases hr5 : r5 = 0
            · subst hr5
              have HI : Hid (Inv E1 (upd at' t 0) got (n + 1)) := (show Inv E1 (upd at' t 0) got (n + 1) by simpa using HG.out)
              clear HG HA2 H5
              go_wp2
              go_roundw
              case rel => exact ⟨k + 1, n + 1, E1, upd at' t 0, got, by go_num, by go_num, by omega, by omega, RI.mk' (HA1.out.fresh ((Touch.refl _ []).alloc _)) HI.out HE.out⟩
              case measure => simp [intOf]; omega
            · have hr5' : (r5 == 0) = false := by simpa using hr5
              have HI : Hid (Inv E1 (upd at' t 0) got n) := (show Inv E1 (upd at' t 0) got n by simpa [hr5] using HG.out)
              clear HG HA2 H5 hr5
              go_wp2
              go_roundw
              case rel => exact ⟨k + 1, n, E1, upd at' t 0, got, rfl, by go_num, by omega, by omega, RI.mk' (HA1.out.fresh ((Touch.refl _ []).alloc _)) HI.out HE.out⟩
              case measure => simp [intOf]; omega
          | false =>
            cases r0 with
            | false =>
              have HI : Hid (Inv E1 at' got n) := (show Inv E1 at' got n by simpa using HG.out)
              clear HG HA1 HA2
              go_wp2
              go_roundw
              case rel => exact ⟨k + 1, n, E1, at', got, rfl, by go_num, by omega, by omega, RI.mk' (H5.out.fresh ((Touch.refl _ []).alloc _)) HI.out HE.out⟩
              case measure => simp [intOf]; omega
            | true =>
              by_cases han : an = 1
              · subst han
                have HI : Hid (Inv E1 at' (upd got t r1) n) := (show Inv E1 at' (upd got t r1) n by simpa using HG.out)
                clear HG HA1 H5
                go_wp2
                go_roundw
                case rel => exact ⟨k + 1, n, E1, at', upd got t r1, rfl, by go_num, by omega, by omega, RI.mk' (HA2.out.fresh ((Touch.refl _ []).alloc _)) HI.out HE.out⟩
                case measure => simp [intOf]; omega
              · have han' : ((an : Int) == 1) = false := by simpa using (by omega : ¬ (an : Int) = 1)
                have HI : Hid (Inv E1 at' got n) := (show Inv E1 at' got n by simpa [han] using HG.out)
                clear HG HA1 HA2 han
                go_wp2
                go_roundw
                case rel => exact ⟨k + 1, n, E1, at', got, rfl, by go_num, by omega, by omega, RI.mk' (H5.out.fresh ((Touch.refl _ []).alloc _)) HI.out HE.out⟩
                case measure => simp [intOf]; omega
    · have HB : Hid _ := hb
      clear HR hl hb
      by_cases hlt1 : (k : Int) < N
      · have hlt2 : ¬ (k : Int) < 150 := by omega
        clear hlt
        have HO : Hid _ := HB.out.o
        obtain ⟨hv, hhp, hhe⟩ := HB.out.i.hp
        have hdn := HB.out.i.dn
        have hc0 := HB.out.i.c0
        have hc1 := HB.out.e.lk1
        have CK := fun (W : World) (h : Ow w W eb E [(ab, atC at'), (gb, gotC got)]) => HidC.mk (ow_clk h rfl)
        have HP := fun (W : World) (h : Ow w W eb E [(ab, atC at'), (gb, gotC got)]) => HidC.mk (ow_hp h HB.out.e hhp)
        have IN : ∀ (W : World), HidC Try.prog 11 #[.int .i64 n] W (fun e w' => e = .returned (.tuple #[.int .u64 (VN n), .bool true]) ∧ Touch W w' []) := fun W => HidC.mk (int_ok n (by omega) (by omega) W)
        generalize E.lk.c = c at *
        have HDN : Hid ((n : Int) = c / 2) := hdn
        have HHE : Hid (c % 2 = 0 → hv = VI c) := hhe
        clear hdn hhe
        clear HB hhp
        go_wp2_with fail
        refine (IN _).out.mono ?_
        rintro e v1 ⟨rfl, t1⟩
        clear IN
        have o1 := HO.out.fresh t1
        clear t1 HO
        go_wp2_with fail
        refine (HP _ o1).out.mono ?_
        rintro e v2 ⟨hg2, hcap, rfl, hl2, hx0, hx1, o2⟩
        clear HP o1
        by_cases hodd : c % 2 = 1
        · have h1 : c.tmod 2 = 1 := by rw [Int.tmod_eq_emod_of_nonneg hc0]; exact hodd
          have HO2 : Hid _ := o2.touch
          go_wp2_with fail
          refine (CK _ o2).out.mono ?_
          rintro e v3 ⟨rfl, rfl⟩
          clear CK o2
          go_wp2
          go_ret
          exact ⟨rfl, HO2.out⟩
        · have h1 : c.tmod 2 = 0 := by rw [Int.tmod_eq_emod_of_nonneg hc0]; omega
          have hve : hv = VN n := by rw [HHE.out (by omega), VI]; congr 1; have := HDN.out; omega
          subst hve
          have HO2 : Hid _ := o2.touch
          have hcn : c = 2 * (n : Int) := by have := HDN.out; omega
          clear HDN HHE
          subst hcn
          have hn1 : (0 : Int) ≤ n := by omega
          have hn2 : (n : Int) ≤ 160 := by omega
          go_wp2_with fail
          refine (CK _ o2).out.mono ?_
          rintro e v3 ⟨rfl, rfl⟩
          go_wp2_with fail
          refine (CK _ o2).out.mono ?_
          rintro e v3 ⟨rfl, rfl⟩
          clear CK o2
          go_wp2
          go_ret
          exact ⟨rfl, HO2.out⟩
      · clear hlt
        have HO : Hid _ := HB.out.o
        obtain ⟨hv, hhp, hhe⟩ := HB.out.i.hp
        have hdn := HB.out.i.dn
        have hc0 := HB.out.i.c0
        have hc1 := HB.out.e.lk1
        have CK := fun (W : World) (h : Ow w W eb E [(ab, atC at'), (gb, gotC got)]) => HidC.mk (ow_clk h rfl)
        have HP := fun (W : World) (h : Ow w W eb E [(ab, atC at'), (gb, gotC got)]) => HidC.mk (ow_hp h HB.out.e hhp)
        have IN : ∀ (W : World), HidC Try.prog 11 #[.int .i64 n] W (fun e w' => e = .returned (.tuple #[.int .u64 (VN n), .bool true]) ∧ Touch W w' []) := fun W => HidC.mk (int_ok n (by omega) (by omega) W)
        generalize E.lk.c = c at *
        have HDN : Hid ((n : Int) = c / 2) := hdn
        have HHE : Hid (c % 2 = 0 → hv = VI c) := hhe
        clear hdn hhe
        clear HB hhp
        go_wp2_with fail
        refine (IN _).out.mono ?_
        rintro e v1 ⟨rfl, t1⟩
        clear IN
        have o1 := HO.out.fresh t1
        clear t1 HO
        go_wp2_with fail
        refine (HP _ o1).out.mono ?_
        rintro e v2 ⟨hg2, hcap, rfl, hl2, hx0, hx1, o2⟩
        clear HP o1
        by_cases hodd : c % 2 = 1
        · have h1 : c.tmod 2 = 1 := by rw [Int.tmod_eq_emod_of_nonneg hc0]; exact hodd
          have HO2 : Hid _ := o2.touch
          go_wp2_with fail
          refine (CK _ o2).out.mono ?_
          rintro e v3 ⟨rfl, rfl⟩
          clear CK o2
          go_wp2
          go_ret
          exact ⟨rfl, HO2.out⟩
        · have h1 : c.tmod 2 = 0 := by rw [Int.tmod_eq_emod_of_nonneg hc0]; omega
          have hve : hv = VN n := by rw [HHE.out (by omega), VI]; congr 1; have := HDN.out; omega
          subst hve
          have HO2 : Hid _ := o2.touch
          have hcn : c = 2 * (n : Int) := by have := HDN.out; omega
          clear HDN HHE
          subst hcn
          have hn1 : (0 : Int) ≤ n := by omega
          have hn2 : (n : Int) ≤ 160 := by omega
          go_wp2_with fail
          refine (CK _ o2).out.mono ?_
          rintro e v3 ⟨rfl, rfl⟩
          go_wp2_with fail
          refine (CK _ o2).out.mono ?_
          rintro e v3 ⟨rfl, rfl⟩
          clear CK o2
          go_wp2
          go_ret
          exact ⟨rfl, HO2.out⟩

end Go.Proofs.Ytinhdpiecifmhaa.Nr

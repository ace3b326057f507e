/-
  package opaque: filled BY ITS CONTRACT, the walk.
-/
import Derived.Test.YtjacclbifeoclaaOpqFilled
import Derived.Deep.LoopGhost
namespace Go.Proofs.Ytjacclbifeoclaa
set_option linter.unusedVariables false
set_option linter.unusedSimpArgs false
open Go.RowKit Go.Maps
attribute [local go_sem] Oper.semAt_some

theorem Try.info_fn : (Try.prog.info? 1).map (fun i => (i.zero, i.size, i.bytes)) = some (some .nilFunc, 1, 8) := by kernel_rfl

/-- What filled comes to. -/
def FillE (w : World) (rb : Nat) (atts : List Int) (res : Option (List Nat)) (e : Ending) (w' : World) : Prop :=
  Touch w w' [rb] ∧ ((res = none ∧ e = .returned (.tuple #[.slice none 0 0, .bool false])) ∨ ∃ pl v, res = some pl ∧ e = .returned (.tuple #[v, .bool true]) ∧ intOwn w' w.heap.size v (pl.map fun i => atts.getD i 0))

theorem max_step {i fr : Nat} (h : i < fr) : max (i + 1) fr = max i fr := by omega

set_option maxRecDepth 100000 in
set_option maxHeartbeats 8000000 in
theorem filled_any {w : World} {rb : Nat} {ve vc vA vh : Value} {l : List EvD} {com atts hp : List Int} (h : RowO w rb ve vc vA vh l com atts hp) (hl : l.length ≤ 1000) (hwf : ∀ e ∈ l, e.Wf) (hn : ∀ e ∈ l, namedS e = true) (hcl : com.length ≤ 100000) (hal : atts.length ≤ 6) (hhl : hp.length ≤ 12) :
    Calls Try.prog 26 #[ptr rb] w (FillE w rb atts (dfs l com atts atts.length [] atts hp (List.range atts.length))) := by
  obtain ⟨res, hres⟩ : ∃ r, r = dfs l com atts atts.length [] atts hp (List.range atts.length) := ⟨_, rfl⟩
  rw [← hres]
  obtain ⟨aA, cA, rfl⟩ := h.lf.form
  obtain ⟨c0, c1, c2, c3⟩ := h.row.cells
  have HF0 : Hid (FilO w rb ve vc (.slice aA atts.length cA) l com atts w (.slice none 0 0) (.slice none 0 0) (.slice aA atts.length cA) vh [] [] [] [] atts hp) := by
    refine ⟨h, World.ownsRow_nil _ _ _ _, World.ownsRow_nil _ _ _ _, rfl, trivial, by simp, by simp, by simp, by simp, by simp, h.lf, fun hl g hg => ⟨by simp, fun e => h.nl.1 hl (e ▸ hg)⟩, Touch.refl _ _, by omega, hhl, rfl, by simp, by simp⟩
  have HPUT : Hid (∀ W vl vh lf hp a, RowO W rb ve vc vl vh l com lf hp → lf.length ≤ 1000 → hp.length ≤ 12 → Calls Try.prog 46 #[ptr rb, .int .i64 a] W fun e w' => ∃ fv vl' vh', e = .returned (.tuple #[fv, .int .i64 (putO l com lf hp a).1]) ∧ RowO w' rb ve vc vl' vh' l com (putO l com lf hp a).2.1 (putO l com lf hp a).2.2 ∧ Touch W w' [rb] ∧ ((putO l com lf hp a).1 = 0 → BackO w' W.heap.size fv rb vl vh) ∧ (∀ g, vl'.ownBlock = some g → vl.ownBlock = some g ∨ W.heap.size ≤ g) ∧ (∀ g, vh'.ownBlock = some g → vh.ownBlock = some g ∨ W.heap.size ≤ g)) :=
    fun W vl vh lf hp a hr h1 h2 => oput_any hr hl hwf hn hcl (by omega) h2 a
  have HRES : Hid (res = (dfs l com atts atts.length [] atts hp ((List.range atts.length).drop 0)).or (contO l com atts ([] : List Nat).reverse [] atts.length)) := by
    show _ = _
    rw [hres]
    simp only [List.drop_zero, List.reverse_nil, contO, Option.or_none]
  obtain ⟨n, hN⟩ : ∃ n, n = atts.length := ⟨_, rfl⟩
  have HN : Hid (n = atts.length) := hN
  have HOK : Hid (∀ i (hi : i < atts.length), atts.getD i 0 = atts[i]) := fun i hi => by simp [List.getD_eq_getElem?_getD, hi]
  rw [← hN] at hal c2 HF0
  clear h hl hwf hn hcl hhl hres c0 c1 c3 hN
  go_enter Try.func26, Try.ntmps26
  go_wp2_with fail
  go_step3
  go_wp2_with fail
  go_step3
  go_wp2_with fail
  go_loopg [5, 6, 7] (16777216 - farO [] 0) (fun gh vp vb fr wr => ∃ (vl vh : Value) (S : List Nat) (pl : List Nat) (fvs : List Value) (rs : List (List Int × List Int)) (lf hp : List Int) (f : Nat), gh = 16777216 - farO pl f ∧ fr = .int .i64 f ∧ f ≤ n ∧ FilO w rb ve vc (.slice aA n cA) l com atts wr vp vb vl vh S pl fvs rs lf hp ∧ res = (dfs l com atts (n - pl.length) pl lf hp ((List.range atts.length).drop f)).or (contO l com atts pl.reverse rs (n - pl.length)))
  case atStart => exact ⟨_, _, [], [], [], [], atts, hp, 0, rfl, rfl, Nat.zero_le _, HF0.out, by have := HRES.out; simp only [List.length_nil, Nat.sub_zero]; rw [HN.out]; exact this⟩
  case round =>
    obtain ⟨vl, vh, S, pl, fvs, rs, lf, hp1, f, hgk, rfl, hf, hfil, hrs⟩ := hrel
    clear HF0 HRES
    obtain ⟨W, hW⟩ : ∃ W, W = wr := ⟨_, rfl⟩
    rw [← hW] at hfil ⊢
    clear hW
    obtain ⟨aP, cP, hfp⟩ := owns_slice hfil.plo
    obtain ⟨aB, cB, hfb⟩ := owns_slice hfil.bk
    rw [List.length_map] at hfp
    rw [hfil.fl] at hfb
    have hpln : pl.length ≤ n := by rw [HN.out]; exact hfil.plk
    have HGK : Hid (gk = 16777216 - farO pl f) := hgk
    have HPL8 : Hid (∀ x ∈ pl, x < 8) := fun x hx => by have := hfil.inr x hx; rw [← HN.out] at this; omega
    clear hgk
    by_cases hk : pl.length < n
    · -- more are to be put
      obtain ⟨d, hd⟩ : ∃ d, n - pl.length = d + 1 := ⟨n - pl.length - 1, by omega⟩
      rw [hd] at hrs
      subst hfp hfb
      have HFIL : Hid (FilO w rb ve vc (.slice aA n cA) l com atts W (.slice aP pl.length cP) (.slice aB pl.length cB) vl vh S pl fvs rs lf hp1) := hfil
      have HRS : Hid _ := hrs
      have HD : Hid (n - pl.length = d + 1) := hd
      obtain ⟨k, hkk⟩ : ∃ k, k = pl.length := ⟨_, rfl⟩
      have HK : Hid (k = pl.length) := hkk
      rw [← hkk] at hk hpln HFIL ⊢
      have hk' : (k : Int) < n := by omega
      clear hfil hrs hd hkk
      go_wp2_with fail
      go_loopg [5, 6, 7, 23] n (fun g2 vp vb fr i wr => vp = .slice aP k cP ∧ vb = .slice aB k cB ∧ fr = .int .i64 f ∧ ∃ (j : Nat) (vl' vh' : Value), i = .int .i64 j ∧ j + g2 = n ∧ FilO w rb ve vc (.slice aA n cA) l com atts wr (.slice aP k cP) (.slice aB k cB) vl' vh' S pl fvs rs lf hp1 ∧ res = (dfs l com atts (d + 1) pl lf hp1 ((List.range atts.length).drop (max j f))).or (contO l com atts pl.reverse rs (d + 1)))
      case atStart => exact ⟨rfl, rfl, rfl, 0, vl, vh, rfl, Nat.zero_add _, HFIL.out, by have := HRS.out; rw [Nat.zero_max]; exact this⟩
      case round =>
        obtain ⟨rfl, rfl, rfl, j, vl', vh', rfl, hj', hfil, hrs⟩ := hrel
        clear HFIL HRS
        by_cases hjn : j < n
        · have q1 : (j : Int) < n := by omega
          have q0 : (0 : Int) ≤ j := by omega
          by_cases hjf : j < f
          · have q2 : (j : Int) < f := by omega
            have q3 : decide ((j : Int) < f) = true := decide_eq_true q2
            rw [← max_step hjf] at hrs
            have HFIL : Hid (FilO w rb ve vc (.slice aA n cA) l com atts wr (.slice aP k cP) (.slice aB k cB) vl' vh' S pl fvs rs lf hp1) := hfil
            have HRS : Hid _ := hrs
            clear hfil hrs
            go_wp2
            go_roundg (n - (j + 1))
            case measure => omega
            case rel => exact ⟨rfl, rfl, rfl, j + 1, vl', vh', by go_num, by omega, HFIL.out, HRS.out⟩
          · have q2 : ¬ (j : Int) < f := by omega
            have q3 : decide ((j : Int) < f) = false := decide_eq_false q2
            rw [Nat.max_eq_left (show f ≤ j by omega)] at hrs
            have hjl : j < atts.length := by rw [← HN.out]; exact hjn
            have hct := scontains_any (irow_of hfil.plo) (by simp; have := HK.out; omega) (j : Int)
            have hmem : decide ((j : Int) ∈ pl.map Int.ofNat) = decide (j ∈ pl) := by
              rw [Bool.eq_iff_iff]
              simp only [decide_eq_true_eq, List.mem_map]
              constructor
              · rintro ⟨x, hx, e⟩
                have e' : (x : Int) = (j : Int) := e
                have : x = j := by omega
                exact this ▸ hx
              · exact fun hx => ⟨j, hx, rfl⟩
            rw [hmem] at hct
            have HFIL : Hid (FilO w rb ve vc (.slice aA n cA) l com atts wr (.slice aP k cP) (.slice aB k cB) vl' vh' S pl fvs rs lf hp1) := hfil
            by_cases hjm : j ∈ pl
            · rw [decide_eq_true hjm] at hct
              rw [dfs_none hjl (by unfold childO; rw [if_pos hjm])] at hrs
              have HRS : Hid (res = (dfs l com atts (d + 1) pl lf hp1 ((List.range atts.length).drop (max (j + 1) f))).or (contO l com atts pl.reverse rs (d + 1))) := by show _ = _; rw [Nat.max_eq_left (show f ≤ j + 1 by omega)]; exact hrs
              clear hfil hrs hmem hjm hjl
              go_wp2_with fail
              refine hct.mono ?_
              rintro e w2 ⟨rfl, rfl⟩
              clear hct
              go_wp2
              go_roundg (n - (j + 1))
              case measure => omega
              case rel => exact ⟨rfl, rfl, rfl, j + 1, vl', vh', by go_num, by omega, HFIL.out, HRS.out⟩
            · rw [decide_eq_false hjm] at hct
              obtain ⟨g, off, rfl, hg, d0⟩ := IRow.one (by have := hfil.att; rw [HN.out] at this; exact this) j hjl
              have hpu := HPUT.out wr vl' vh' lf hp1 atts[j] hfil.row hfil.lfl hfil.hpl
              have hle := putO_len l com lf hp1 atts[j]
              have hch : childO l com atts pl lf hp1 j = if (putO l com lf hp1 atts[j]).1 = 0 then some (putO l com lf hp1 atts[j]).2 else none := by unfold childO; rw [if_neg hjm, HOK.out j hjl]
              have hst := @putO_stay l com lf hp1 atts[j]
              generalize hpq : putO l com lf hp1 atts[j] = pr at *
              generalize atts[j] = a at *
              obtain ⟨er, lf', h'⟩ := pr
              simp only at hpu hch hle hst
              have HLE : Hid _ := hle
              have HST : Hid _ := hst
              by_cases he0 : er = 0
              · subst he0
                rw [if_pos rfl] at hch
                rw [dfs_some hjl hch] at hrs
                have hcp := cont_push l com atts pl rs d lf hp1 j
                have HRS : Hid (res = (dfs l com atts (n - (pl ++ [j]).length) (pl ++ [j]) lf' h' ((List.range atts.length).drop 0)).or (contO l com atts (pl ++ [j]).reverse ((lf, hp1) :: rs) (n - (pl ++ [j]).length))) := by
                  show _ = _
                  have e1 : n - (pl ++ [j]).length = d := by have := HD.out; rw [List.length_append, List.length_singleton]; omega
                  rw [e1, hcp, List.drop_zero, hrs, Option.or_assoc]
                clear hrs hmem hjm hch hpq hst hle hcp
                clear hfil
                have HJL : Hid _ := hjl
                clear hjl
                go_wp2_with fail
                refine hct.mono ?_
                rintro e w2 ⟨rfl, rfl⟩
                clear hct
                go_wp2_with fail
                refine hpu.mono ?_
                rintro e w3 ⟨fv, vl3, vh3, rfl, hrow3, t3, hbk, n1, n2⟩
                have hb := hbk (by trivial)
                clear hpu hbk
                have hF3 : FilO w rb ve vc (.slice (some ⟨g, off, none⟩) n cA) l com atts w3 (.slice aP k cP) (.slice aB k cB) vl3 vh3 S pl fvs rs lf' h' := by
                  have hlf : lf'.length ≤ 1000 := Nat.le_trans HLE.out.1 HFIL.out.lfl
                  have hhp : h'.length ≤ 12 := by have := HLE.out.2; have := HFIL.out.hpl; omega
                  refine HFIL.out.go t3 hrow3 (fun hl g hg hx => ?_) (fun hl g hg hx => ?_) hlf hhp
                  · rcases n1 g hg with e | e
                    · by_cases hlf0 : lf = []
                      · have : lf'.length ≤ lf.length := HLE.out.1
                        rw [hlf0] at this
                        exact hl (List.eq_nil_of_length_eq_zero (by simpa using this))
                      · exact HFIL.out.ol hlf0 g e hx
                    · have := (HFIL.out.blocks g hx).2; omega
                  · rcases n2 g hg with e | e
                    · by_cases hh0 : hp1 = []
                      · have : h'.length = hp1.length := HLE.out.2
                        rw [hh0] at this
                        exact hl (List.eq_nil_of_length_eq_zero (by simpa using this))
                      · exact HFIL.out.oh hh0 g e hx
                    · have := (HFIL.out.blocks g hx).2; omega
                obtain ⟨i0, hi, hz0, hz1, hz2⟩ := info_partsO Try.info_int
                obtain ⟨j0, hj0, hy0, hy1, hy2⟩ := info_partsO Try.info_fn
                obtain ⟨p, q, r, hfv, hbr⟩ := hb.is
                have hw3s := hF3.t.size
                have TA : Touch w3 (w3.alloc (.cells #[.int .i64 (j : Int)] 3)) [] := (Touch.refl w3 []).alloc _
                have hnewI : IRow (w3.alloc (.cells #[.int .i64 (j : Int)] 3)) (.slice (some ⟨w3.heap.size, 0, none⟩) [(j : Int)].length 1) [(j : Int)] := ⟨_, _, rfl, fun _ => ⟨w3.heap.size, 0, rfl, by simp, fun k hk j hj => by
                  have e1 : k = 0 := by simpa using hk
                  have e2 : j = 0 := by omega
                  subst e1 e2
                  exact cell_new _ _ _ _⟩⟩
                have hkp := HK.out
                obtain ⟨vp', w4, hrun1, o4, g4, b4⟩ := run_app (P := Try.prog) (cells := fun x : Int => [Value.int .i64 x]) 24 24 3 i0 _ 1 8 Try.underlying24 hi hz0 hz1 hz2 rfl (by decide) (fun _ => rfl) (by simp [Value.oneCell']) (ownsRow_touch hF3.plo TA (by simp)) hnewI (by simp; omega) (by decide) (by simp; omega)
                have T4 : Touch w3 w4 (Value.slice aP k cP).ownBlock.toList := (TA.mono (by simp)).grown g4 (fun x hx => .inl (by rw [hx]; simp))
                have TB : Touch w4 (w4.alloc (.cells #[fv] 1)) [] := (Touch.refl w4 []).alloc _
                have hdiff : ∀ x, (Value.slice aB k cB).ownBlock = some x → x ∉ (Value.slice aP k cP).ownBlock.toList := fun x hx hm => by
                  have hm' : (Value.slice aP k cP).ownBlock = some x := by simpa using hm
                  rcases hF3.plo.2 with ⟨e, _⟩ | ⟨g1, cap1, cur1, e1, _, hh1, _⟩
                  · rw [e] at hm'; cases hm'
                  · rcases hF3.bk.2 with ⟨e, _⟩ | ⟨g2, cap2, cur2, e2, _, hh2, _⟩
                    · rw [e] at hx; cases hx
                    · rw [e1] at hm'; rw [e2] at hx
                      simp [Value.ownBlock] at hm' hx
                      subst hm' hx
                      rw [hh1] at hh2
                      simp at hh2
                have o4b := ownsRow_touch (ownsRow_touch hF3.bk T4 hdiff) TB (by simp)
                have hnewF : SRow 1 (fun _ : Unit => [fv]) (w4.alloc (.cells #[fv] 1)) (.slice (some ⟨w4.heap.size, 0, none⟩) [()].length 1) [()] := ⟨_, _, rfl, fun _ => ⟨w4.heap.size, 0, rfl, by simp, fun k hk j hj => by
                  have e1 : k = 0 := by simpa using hk
                  have e2 : j = 0 := by omega
                  subst e1 e2
                  exact cell_new _ _ _ _⟩⟩
                have hw4s := T4.size
                obtain ⟨vb', w5, hrun2, o5, g5, b5⟩ := run_app (P := Try.prog) (cells := fun _ : Unit => [fv]) 86 86 1 j0 _ 1 8 Try.underlying86 hj0 hy0 hy1 hy2 rfl (by decide) (fun _ => rfl) (by intro _ u hu; simp at hu; rw [hu, hfv]; rfl) o4b hnewF (by have := hF3.fl; simp; omega) (by decide) (by simp; omega)
                have T5 : Touch w4 w5 (Value.slice aB k cB).ownBlock.toList := (TB.mono (by simp)).grown g5 (fun x hx => .inl (by rw [hx]; simp))
                have hb4 : ∀ x, vp'.ownBlock = some x → (Value.slice aP k cP).ownBlock = some x ∨ w3.heap.size ≤ x := fun x hx => by
                  rcases b4 with e | e
                  · exact .inl (e ▸ hx)
                  · rw [e] at hx; simp at hx; exact .inr (by omega)
                have hb5 : ∀ x, vb'.ownBlock = some x → (Value.slice aB k cB).ownBlock = some x ∨ w3.heap.size ≤ x := fun x hx => by
                  rcases b5 with e | e
                  · exact .inl (e ▸ hx)
                  · rw [e] at hx; simp at hx; exact .inr (by omega)
                have T35 : Touch w3 w5 S := by
                  rw [hF3.eS]
                  exact (T4.mono (fun x hx => by simp at hx ⊢; exact .inl hx)).trans T5 (fun x hx => .inl (by simp at hx ⊢; exact .inr hx))
                have o45 : intOwn w5 w.heap.size vp' ((pl ++ [j]).map Int.ofNat) := by
                  have h2 : w4.ownsRow w.heap.size 3 1 vp' ((pl ++ [j]).map Int.ofNat).length (((pl ++ [j]).map Int.ofNat).map (Value.int .i64)) := by simpa using o4
                  refine ownsRow_touch h2 T5 (fun x hx hm => ?_)
                  have hm' : (Value.slice aB k cB).ownBlock = some x := by simpa using hm
                  have hlt := (hF3.bk.lt x hm').2
                  rcases hb4 x hx with e | e
                  · exact hdiff x hm' (by simp [e])
                  · omega
                have o5b : w5.ownsRow w.heap.size 1 1 vb' (fvs ++ [fv]).length (fvs ++ [fv]) := by simpa using o5
                have hn5 := HFIL.out.push hF3 t3 hb T35 o45 o5b hb4 hb5 HJL.out (by rw [← HK.out, ← HN.out]; exact hk)
                have HN5 : Hid (FilO w rb ve vc (.slice (some ⟨g, off, none⟩) n cA) l com atts w5 vp' vb' vl3 vh3 (vp'.ownBlock.toList ++ vb'.ownBlock.toList) (pl ++ [j]) (fvs ++ [fv]) ((lf, hp1) :: rs) lf' h') := hn5
                simp only [List.length_map, List.length_singleton] at hrun1 hrun2
                obtain ⟨a4, c4, e4⟩ := owns_slice o45
                obtain ⟨a5, c5, e5⟩ := owns_slice o5b
                clear hrow3 t3 n1 n2 hb hF3 hi hz0 hz1 hz2 hj0 hy0 hy1 hy2 hbr TA hnewI o4 g4 b4 T4 TB hdiff o4b hnewF o5 g5 b5 T5 hb4 hb5 T35 o45 o5b hn5 hw3s hw4s hkp
                subst hfv
                subst e4 e5
                generalize ((pl ++ [j]).map Int.ofNat).length = M4 at *
                generalize (fvs ++ [_]).length = M5 at *
                go_wp2_with (at_builtin; first | refine Lib.wpList_append_run _ rfl _ _ _ _ rfl _ _ rfl rfl _ _ hrun1 ?_ | refine Lib.wpList_append_run _ rfl _ _ _ _ rfl _ _ rfl rfl _ _ hrun2 ?_)
                go_roundg (16777216 - farO (pl ++ [j]) 0)
                case measure =>
                  have h1 := far_push (pl := pl) (fr := f) (i := j) (by rw [← HK.out]; omega) (by omega)
                  have h2 := far_lt (pl := pl ++ [j]) (fr := 0) (fun x hx => by
                    rcases List.mem_append.1 hx with hx | hx
                    · exact HPL8.out x hx
                    · simp at hx; omega) (by simp; have := HK.out; omega) (by omega)
                  rw [HGK.out]
                  omega
                case rel => exact ⟨vl3, vh3, _, pl ++ [j], _, (lf, hp1) :: rs, lf', h', 0, rfl, rfl, Nat.zero_le _, HN5.out, HRS.out⟩
              · rw [if_neg he0] at hch
                rw [dfs_none hjl hch] at hrs
                obtain ⟨e1, e2⟩ : lf' = lf ∧ h' = hp1 := by have := hst he0; simpa using this
                have HRS : Hid (res = (dfs l com atts (d + 1) pl lf hp1 ((List.range atts.length).drop (max (j + 1) f))).or (contO l com atts pl.reverse rs (d + 1))) := by show _ = _; rw [Nat.max_eq_left (show f ≤ j + 1 by omega)]; exact hrs
                have he0' : (er == 0) = false := by simpa using he0
                clear hfil hrs hmem hjm hjl hch hpq hst hle
                go_wp2_with fail
                refine hct.mono ?_
                rintro e w2 ⟨rfl, rfl⟩
                clear hct
                go_wp2_with fail
                refine hpu.mono ?_
                rintro e w3 ⟨fv, vl3, vh3, rfl, hrow3, t3, hbk, n1, n2⟩
                clear hpu hbk
                subst e1 e2
                have HF3 : Hid (FilO w rb ve vc (.slice (some ⟨g, off, none⟩) n cA) l com atts w3 (.slice aP k cP) (.slice aB k cB) vl3 vh3 S pl fvs rs lf' h') := by
                  refine HFIL.out.go t3 hrow3 (fun hl g hg hx => ?_) (fun hl g hg hx => ?_) HFIL.out.lfl HFIL.out.hpl
                  · rcases n1 g hg with e | e
                    · exact HFIL.out.ol hl g e hx
                    · have := (HFIL.out.blocks g hx).2; omega
                  · rcases n2 g hg with e | e
                    · exact HFIL.out.oh hl g e hx
                    · have := (HFIL.out.blocks g hx).2; omega
                clear hrow3 t3 n1 n2 HFIL
                go_wp2
                go_roundg (n - (j + 1))
                case measure => omega
                case rel => exact ⟨rfl, rfl, rfl, j + 1, vl3, vh3, by go_num, by omega, HF3.out, HRS.out⟩
        · obtain rfl : j = n := by omega
          have hmx : max j f = atts.length := by rw [← HN.out]; omega
          rw [hmx, dfs_end, Option.none_or] at hrs
          have HFIL : Hid (FilO w rb ve vc (.slice aA j cA) l com atts wr (.slice aP k cP) (.slice aB k cB) vl' vh' S pl fvs rs lf hp1) := hfil
          clear hmx
          rcases List.eq_nil_or_concat pl with hpl0 | ⟨p', i, hpl1⟩
          · have hk0 : k = 0 := by rw [HK.out, hpl0]; rfl
            have HRS : Hid (res = none) := by
              show _ = _
              rw [hrs, hpl0]
              rfl
            have HT : Hid (Touch w wr [rb]) := hfil.t
            subst hk0
            clear hfil hrs hpl0 HK
            go_wp2
            try rw [Exit.noGoto_ret]
            go_ret2
            exact ⟨HT.out, .inl ⟨HRS.out, rfl⟩⟩
          · have hk1 : k = p'.length + 1 := by rw [HK.out, hpl1]; simp
            have hfl := hfil.fl
            rw [← HK.out, hk1] at hfl
            obtain ⟨f', fv, hfv⟩ : ∃ f' fv, fvs = f' ++ [fv] := by
              rcases List.eq_nil_or_concat fvs with h0 | ⟨f', fv, h1⟩
              · rw [h0] at hfl; simp at hfl
              · exact ⟨f', fv, by simpa using h1⟩
            have hst := hfil.stk
            rw [hfv, List.reverse_append, List.reverse_singleton, List.singleton_append] at hst
            cases hrs0 : rs with
            | nil => rw [hrs0] at hst; exact hst.elim
            | cons s0 rs' =>
              rw [hrs0] at hst
              obtain ⟨⟨p, q, r, a1, n1, c1, a2, n2, c2', hfe, hent⟩, hst'⟩ := hst
              subst hfe
              have hpl2 : pl = p' ++ [i] := by simpa using hpl1
              have hflen : f'.length = p'.length := by rw [hfv] at hfl; simpa using hfl
              obtain ⟨gP, rfl⟩ : ∃ g, aP = some ⟨g, 0, none⟩ := by
                rcases hfil.plo.2 with ⟨e, e2⟩ | ⟨g', cap', cur, e, _⟩
                · rw [hpl2] at e2; simp at e2
                · simp at e; exact ⟨g', e.1⟩
              obtain ⟨gB, rfl⟩ : ∃ g, aB = some ⟨g, 0, none⟩ := by
                rcases hfil.bk.2 with ⟨e, e2⟩ | ⟨g', cap', cur, e, _⟩
                · rw [hfv] at e2; simp at e2
                · simp at e; exact ⟨g', e.1⟩
              have dP : wr.cell? ⟨gP, p'.length, none⟩ = some (.int .i64 (i : Int)) := by
                have := hfil.plo.cells (g := gP) rfl p'.length (.int .i64 (i : Int)) (by rw [hpl2]; simp)
                rw [Addr.add_lit] at this
                simpa using this
              have dB : wr.cell? ⟨gB, p'.length, none⟩ = some (.func (.func 71) #[] #[ptr p, ptr q, ptr r]) := by
                have := hfil.bk.cells (g := gB) rfl p'.length (.func (.func 71) #[] #[ptr p, ptr q, ptr r]) (by rw [hfv, ← hflen]; simp)
                rw [Addr.add_lit] at this
                simpa using this
              have hbk := back_any hfil.row hent.op hent.oq hent.or hent.np.1 hent.np.2.1 hent.np.2.2 hent.i hent.v hent.bi hent.bv
              have hin := hfil.inr i (by rw [hpl2]; simp)
              have hkcap : p'.length ≤ cP ∧ p'.length ≤ cB := by
                rcases hfil.plo.2 with ⟨e, e2⟩ | ⟨g', cap', cur, e, _, _, h5, _⟩
                · simp at e
                · rcases hfil.bk.2 with ⟨e', e2'⟩ | ⟨g2', cap2', cur2, e', _, _, h6, _⟩
                  · simp at e'
                  · simp at e e'
                    obtain ⟨_, _, rfl⟩ := e
                    obtain ⟨_, _, rfl⟩ := e'
                    rw [hpl2] at h5
                    rw [hfv] at h6
                    simp at h5 h6
                    omega
              have hgP := World.block_lt_of_cell? wr _ dP
              have hgB := World.block_lt_of_cell? wr _ dB
              have hgS : gP ∈ S ∧ gB ∈ S := by rw [hfil.eS]; simp [Value.ownBlock]
              have HNEW : Hid (∀ W', RowO W' rb ve vc (.slice a1 n1 c1) (.slice a2 n2 c2') l com s0.1 s0.2 → Touch wr W' [rb] → FilO w rb ve vc (.slice aA j cA) l com atts W' (.slice (some ⟨gP, 0, none⟩) p'.length cP) (.slice (some ⟨gB, 0, none⟩) p'.length cB) (.slice a1 n1 c1) (.slice a2 n2 c2') S p' f' rs' s0.1 s0.2) := fun W' hr t => by
                have hn : ∀ x ∈ S, x ∉ [rb] := fun x hx e => hfil.rS (by simp at e; exact e ▸ hx)
                have o1 := ownsRow_touch hfil.plo t (fun x hx => hn x (by rw [hfil.eS]; simp [hx]))
                have o2 := ownsRow_touch hfil.bk t (fun x hx => hn x (by rw [hfil.eS]; simp [hx]))
                have hl1 : (pl.map Int.ofNat).length = k := by rw [List.length_map, HK.out]
                have hl2 : fvs.length = k := by rw [hfil.fl, HK.out]
                rw [hl1] at o1
                rw [hl2] at o2
                have r1 := own_first o1 p'.length (by omega)
                have r2 := own_first o2 p'.length (by omega)
                refine ⟨hr, ?_, ?_, ?_, hst'.keep t (fun x hx => .inl (by simpa using hx)) (fun x hx => .inl hx), hfil.rS, hfil.oe, hfil.oc, hent.si, hent.sv, SRow.keepB hfil.att t (fun hl g hg e => (hfil.oa hl g hg).2 (by simpa using e)), hfil.oa, hfil.t.trans t (fun x hx => .inl hx), hent.sl.1, hent.sl.2, hflen, fun x hx => hfil.inr x (by rw [hpl2]; simp [hx]), by have := hfil.plk; rw [hpl2] at this; simp at this; omega⟩
                · show World.ownsRow _ _ _ _ _ _ _
                  have e1 : (p'.map Int.ofNat).length = p'.length := by simp
                  rw [e1]
                  have e2 : ((pl.map Int.ofNat).map (Value.int .i64)).take (p'.length * 1) = (p'.map Int.ofNat).map (Value.int .i64) := by rw [hpl2]; simp
                  rw [← e2]
                  exact r1
                · have e2 : fvs.take (p'.length * 1) = f' := by rw [hfv, Nat.mul_one, ← hflen]; simp
                  rw [e2] at r2
                  rw [hflen]
                  exact r2
                · rw [hfil.eS]; rfl
              have HRS : Hid (res = (dfs l com atts (j - p'.length) p' s0.1 s0.2 ((List.range atts.length).drop (i + 1))).or (contO l com atts p'.reverse rs' (j - p'.length))) := by
                show _ = _
                have e1 : j - p'.length = (d + 1) + 1 := by have := HD.out; rw [hpl2] at this; simp at this; omega
                rw [hrs, hrs0, hpl2, List.reverse_append, List.reverse_singleton, List.singleton_append, e1]
                conv => lhs; unfold contO
                rw [List.reverse_reverse]
              have HPE : Hid (pl = p' ++ [i]) := hpl2
              have HIN : Hid (i < j) := by show _ < _; rw [HN.out]; exact hin
              have HCAP : Hid _ := hkcap
              have HIN8 : Hid _ := hfil.inr
              generalize hm : p'.length = m at *
              have HM : Hid (p'.length = m) := hm
              have e0 : ((k : Int) - 1) = m := by omega
              have e1 : (m : Int) < k := by omega
              have e2 : (0 : Int) ≤ m := by omega
              have e3 : (m : Int) ≤ cP := by omega
              have e4 : (m : Int) ≤ cB := by omega
              have e5 : ¬ (m : Int) < 0 := by omega
              subst hk1
              clear hfil hrs hpl1 hfl hfv hrs0 hent hst' hpl2 hflen hin hkcap hgS hm
              have HFJ : Hid (f ≤ j) := hf
              have hi6 : i < 6 := by have := HIN.out; omega
              go_wp2_with fail
              refine hbk.mono ?_
              rintro e w6 ⟨rfl, hr6, t6⟩
              clear hbk
              have HN6 : Hid (FilO w rb ve vc (.slice aA j cA) l com atts w6 (.slice (some ⟨gP, 0, none⟩) m cP) (.slice (some ⟨gB, 0, none⟩) m cB) (.slice a1 n1 c1) (.slice a2 n2 c2') S p' f' rs' s0.1 s0.2) := HNEW.out w6 hr6 t6
              have dP6 : w6.cell? ⟨gP, m, none⟩ = some (.int .i64 (i : Int)) := by
                rw [← dP]
                refine t6.cell (p := ⟨gP, m, none⟩) hgP (fun e => ?_)
                simp at e
                exact HN6.out.rS (by rw [HN6.out.eS]; simp [Value.ownBlock, e])
              clear hr6 t6 dP dB HNEW hgP hgB HFIL
              go_wp2_with fail
              go_quiet (fail)
              go_wp2
              have HFD : Hid (FilO w rb ve vc (.slice aA j cA) l com atts (w6.drewN nq) (.slice (some ⟨gP, 0, none⟩) m cP) (.slice (some ⟨gB, 0, none⟩) m cB) (.slice a1 n1 c1) (.slice a2 n2 c2') S p' f' rs' s0.1 s0.2) :=
                HN6.out.go ((Touch.refl w6 _).drewN _) (HN6.out.row.touch ((Touch.refl w6 _).drewN _)) HN6.out.ol HN6.out.oh HN6.out.lfl HN6.out.hpl
              go_roundg (16777216 - farO p' (i + 1))
              case measure =>
                have h1 := far_pop (pl := p') (fr := f) (i := i) (by have := HM.out; omega) (by have := HFJ.out; omega)
                have h2 := far_lt (pl := p') (fr := i + 1) (fun x hx => HPL8.out x (by rw [HPE.out]; simp [hx])) (by have := HM.out; omega) (by have := HIN.out; omega)
                rw [HGK.out, HPE.out]
                omega
              case rel => exact ⟨.slice a1 n1 c1, .slice a2 n2 c2', S, p', f', rs', s0.1, s0.2, i + 1, rfl, by go_num, by have := HIN.out; omega, HFD.out, by have := HRS.out; rw [HM.out]; exact this⟩
    · have hkn : pl.length = n := by omega
      have HRS : Hid (res = some pl) := by
        show _ = _
        rw [hrs, hkn, Nat.sub_self]
        rfl
      have htk := taken_any (va := .slice aA n cA) (vp := u5) (atts := atts) (pl := pl) hfil.att (by rw [← HN.out]; omega) (irow_of hfil.plo) (by omega) hfil.inr
      rw [hkn] at hfp hfb
      have HT : Hid (Touch w W [rb]) := hfil.t
      have HS : Hid (w.heap.size ≤ W.heap.size) := hfil.t.size
      clear hfil hrs hk hpln HPUT
      subst hfp hfb
      have hnn : ¬ (n : Int) < n := by omega
      go_wp2_with fail
      refine htk.mono ?_
      rintro e w2 ⟨v2, rfl, hv2, t2⟩
      clear htk
      have HV : Hid (intOwn w2 w.heap.size v2 (pl.map fun i => atts.getD i 0)) := by
        rcases hv2.2 with h | ⟨g, c, cur, e1, hB, r⟩
        · exact ⟨hv2.1, .inl h⟩
        · exact ⟨hv2.1, .inr ⟨g, c, cur, e1, Nat.le_trans HS.out hB, r⟩⟩
      have HT2 : Hid (Touch w w2 [rb]) := HT.out.trans t2 (by simp)
      obtain ⟨a2, c2, e2⟩ := owns_slice hv2
      rw [List.length_map, hkn] at e2
      subst e2
      clear hv2 t2 hkn
      go_wp2
      try rw [Exit.noGoto_ret]
      go_ret2
      exact ⟨HT2.out, .inr ⟨pl, _, HRS.out, rfl, HV.out⟩⟩

end Go.Proofs.Ytjacclbifeoclaa

/-
  THE DOCUMENT'S Regions, Inside, Blocks BY THEIR CONTRACTS.
-/
import Derived.Test.YtcbkafbchpjnoaaGreatDoorVfRBr
import Derived.Test.YtcbkafbchpjnoaaGreatDoorAllE
namespace Go.Proofs.YtcbkafbchpjnoaaGreatDoor
set_option linter.unusedVariables false
set_option linter.unusedSimpArgs false
open Go.RowKit
attribute [local go_sem] Oper.semAt_some

set_option maxRecDepth 100000 in
set_option maxHeartbeats 1000000 in
theorem rregions_any {w : World} {ao : Option Addr} {N cap : Nat} {l : List InsD} (hN : N = l.length) (hn : N ≤ 900) (hr : InsV w (.slice ao N cap) l) :
    Calls Tryz.prog 42 #[.slice ao N cap] w (RegPost w l) := by
  have hbr : HidC _ _ _ _ _ := ⟨brackets_any hN hn hr⟩
  clear hr hN
  unfold BrkPost at hbr
  unfold RegPost
  generalize runV true mayV l l.length = s at *
  go_enter Tryz.func42, Tryz.ntmps42
  go_wp2_with fail
  refine hbr.out.mono ?_
  rintro e w1 ⟨v, ve, rfl, hrow, t1⟩
  clear hbr
  have HROW : Hid _ := hrow
  have HT : Hid _ := t1
  clear hrow t1
  go_wp2
  refine bodyPost_ret (v := .tuple #[v, .int .i64 (ansK s), .int .i64 (ansE s)]) (by simp [results, Tryz.results42, go_sem]) rfl ?_
  exact ⟨v, rfl, HROW.out, HT.out⟩

theorem top_ge (op : List Nat) : (topV op ≥ 0) ↔ topV op ≠ -1 := by
  cases op with
  | nil => simp [topV]
  | cons t r => simp [topV]
theorem ins_ge {l : List InsD} {N k : Nat} {y : Int} (h : (insV l N)[k]? = some y) : decide (0 ≤ y) = (y != -1) := by
  unfold insV at h
  rw [List.getElem?_map, Option.map_eq_some_iff] at h
  obtain ⟨j, _, rfl⟩ := h
  have := top_ge (runV true mayV l j).op
  rw [Bool.eq_iff_iff]
  simpa using this

end Go.Proofs.YtcbkafbchpjnoaaGreatDoor
/-
  THE DOCUMENT'S Depths BY ITS CONTRACT.
-/
namespace Go.Proofs.YtcbkafbchpjnoaaGreatDoor
set_option linter.unusedVariables false
set_option linter.unusedSimpArgs false
open Go.RowKit
attribute [local go_sem] Oper.semAt_some

/-- The document's marks as they lie. -/
structure GAt (w : World) (B gg N cg : Nat) (G : List Bool) : Prop where
  row : w.ownsRow B 4 1 (.slice (some ⟨gg, 0, none⟩) N cg) N (G.map Value.bool)
  len : G.length = N
theorem GAt.at {w : World} {B gg N cg : Nat} {G : List Bool} (h : GAt w B gg N cg G) (k : Nat) (hk : k < N) : w.cell? ⟨gg, k, none⟩ = some (.bool (G.getD k false)) := by
  have hk' : k < G.length := by rw [h.len]; exact hk
  rw [h.row.cellAt k (by omega), List.getElem?_map, List.getElem?_eq_getElem hk']
  simp [hk']
theorem GAt.keep {w w' : World} {B gg N cg : Nat} {G : List Bool} {S : List Nat} (h : GAt w B gg N cg G) (t : Touch w w' S) (hS : gg ∉ S) : GAt w' B gg N cg G :=
  ⟨ownsRow_touch h.row t (fun g hg hs => by simp [Value.ownBlock] at hg; subst hg; exact hS hs), h.len⟩
theorem GAt.put {w : World} {B gg N cg : Nat} {G : List Bool} (h : GAt w B gg N cg G) (k : Nat) (x : Bool) : GAt (w.setCell ⟨gg, k, none⟩ (.bool x)) B gg N cg (G.set k x) := by
  refine ⟨⟨by have := h.row.1; simpa using this, .inr ?_⟩, by simpa using h.len⟩
  rcases h.row.2 with ⟨e, _⟩ | ⟨g', cap', cur, e, hB, hg, h1, h2, h3, h4⟩
  · simp at e
  · simp only [Value.slice.injEq, Option.some.injEq, Addr.mk.injEq] at e
    obtain ⟨⟨rfl, _⟩, _, rfl⟩ := e
    refine ⟨gg, cg, _, rfl, hB, heap_setCell_same _ _ _ _ _ _ hg, h1, h2, by simpa using h3, ?_⟩
    rw [List.map_set, ← h4]
    simp only [Array.toList_setIfInBounds, Nat.mul_one]
    rw [List.take_set]
/-- The block of the marks is not that of the numbers. -/
theorem gd_ne {w : World} {B gd gg N cd cg : Nat} {D : List Int} {G : List Bool} (h : DAt w B gd N cd D) (k : GAt w B gg N cg G) : gd ≠ gg := fun e => by
  obtain ⟨c, fz, h1⟩ := Lib.ownsRow_kind h.row gd rfl
  obtain ⟨c2, fz2, h2⟩ := Lib.ownsRow_kind k.row gg rfl
  rw [e, h2] at h1
  simp at h1
theorem DAt.goneput {w : World} {B gd gg N cd : Nat} {D : List Int} (h : DAt w B gd N cd D) (hne : gd ≠ gg) (k : Nat) (x : Value) : DAt (w.setCell ⟨gg, k, none⟩ x) B gd N cd D :=
  h.keep ((Touch.refl w [gg]).setCell (p := ⟨gg, k, none⟩) (.inl (by simp)) x) (by simpa using hne)
theorem least_is {D : List Int} {G : List Bool} {N : Nat} {i : Nat} (hi : i ≤ N) (h : ∀ j < i, dAt D j ≠ -1 → G.getD j false = true) (he : i < N → dAt D i ≠ -1 ∧ G.getD i false = false) : leastV D G N = if i < N then some i else none := by
  by_cases hlt : i < N
  · rw [if_pos hlt]; exact least_some hlt (he hlt).1 (he hlt).2 h
  · rw [if_neg hlt]
    obtain rfl : i = N := by omega
    exact least_none h

set_option maxRecDepth 100000 in
set_option maxHeartbeats 4000000 in
theorem rdepths_any {w : World} {ao : Option Addr} {N cap : Nat} {l : List InsD} (hN : N = l.length) (hn : N ≤ 900) (hr : InsV w (.slice ao N cap) l) :
    Calls Tryz.prog 44 #[.slice ao N cap] w (DepPost w l) := by
  have hrg : HidC _ _ _ _ _ := ⟨rregions_any hN hn hr⟩
  have HR : Hid _ := hr
  have HN : Hid _ := hN
  clear hr hN
  cases hreg : regV l with
  | some k =>
    have e1 : ansK (runV true mayV l l.length) = k := by unfold ansK; rw [show endV (runV true mayV l l.length) = some k from hreg]
    have e2 : ansE (runV true mayV l l.length) = 8 := by unfold ansE; rw [show endV (runV true mayV l l.length) = some k from hreg]
    have e3 : depV l = (8, k, []) := by unfold depV; rw [hreg]
    have HP : Hid (∀ w', Touch w w' [] → DepPost w l (.returned (.tuple #[.slice none 0 0, .int .i64 k, .int .i64 8])) w') := fun w' t => by
      unfold DepPost; rw [e3]; exact ⟨_, rfl, World.ownsRow_nil _ _ _ _, t⟩
    unfold RegPost at hrg
    rw [e1, e2] at hrg
    clear e1 e2 e3 hreg
    go_enter Tryz.func44, Tryz.ntmps44
    go_wp2_with fail
    refine hrg.out.mono ?_
    rintro e w1 ⟨v, rfl, _, t1⟩
    clear hrg
    have T1 : Hid _ := t1
    clear t1
    go_wp2
    refine bodyPost_ret (v := .tuple #[.slice none 0 0, .int .i64 k, .int .i64 8]) (by simp [results, Tryz.results44, go_sem]) rfl ?_
    exact HP.out _ T1.out
  | none =>
    have e1 : ansK (runV true mayV l l.length) = 0 := by unfold ansK; rw [show endV (runV true mayV l l.length) = none from hreg]
    have e2 : ansE (runV true mayV l l.length) = 0 := by unfold ansE; rw [show endV (runV true mayV l l.length) = none from hreg]
    have e3 : depV l = roundsV l l.length (beginD l.length) (List.replicate l.length false) := by unfold depV; rw [hreg]
    have HA : Hid (∀ k, k < l.length → opAt l k = 23 ∨ opAt l k = 24 → -1000 ≤ argAt l k ∧ argAt l k ≤ 1000) := fun k hk q => by
      have := arg_right hreg hk (by unfold opensV; rcases q with q | q <;> simp [q])
      have := HN.out
      omega
    have HE : Hid (depV l = roundsV l N (beginD N) (List.replicate N false)) := by show _ = _; rw [e3, HN.out]
    have HPOST : Hid (∀ v (i : Nat) e D W, depV l = (e, i, D) → intOwnV W w.heap.size v D → Touch w W [] → DepPost w l (.returned (.tuple #[v, .int .i64 i, .int .i64 e])) W) := fun v i e D W q r t => by
      unfold DepPost; rw [q]; exact ⟨v, rfl, r, t⟩
    unfold RegPost at hrg
    rw [e1, e2] at hrg
    clear e1 e2 e3 hreg
    go_enter Tryz.func44, Tryz.ntmps44
    go_wp2_with fail
    refine hrg.out.mono ?_
    rintro e w1 ⟨v, rfl, _, t1⟩
    clear hrg
    have T1 : Hid _ := t1
    have hs1 := t1.size
    clear t1
    go_wp2_with fail
    go_loopw [8, 9, 10] (fun vd vg i wr => ∃ k : Nat, i = .int .i64 k ∧ k ≤ N ∧ intOwnV wr w1.heap.size vd (List.replicate k (-1)) ∧ boolOwnV wr w1.heap.size vg (List.replicate k false) ∧ Touch w1 wr []) (fun _ _ i _ => N - (intOf i).toNat)
    case atStart => exact ⟨0, rfl, Nat.zero_le _, World.ownsRow_nil _ _ _ _, World.ownsRow_nil _ _ _ _, Touch.refl _ _⟩
    case round =>
      obtain ⟨k, rfl, hk, hD, hG, hT⟩ := hrel
      obtain ⟨ad, cd, rfl⟩ := owns_slice hD
      obtain ⟨ag, cg, rfl⟩ := owns_slice hG
      have hdl : (List.replicate k (-1 : Int)).length = k := by simp
      have hgl : (List.replicate k false).length = k := by simp
      have HD : Hid (intOwnV wr w1.heap.size (.slice ad k cd) (List.replicate k (-1))) := by show intOwnV _ _ _ _; rw [hdl] at hD; simpa using hD
      have HG : Hid (boolOwnV wr w1.heap.size (.slice ag k cg) (List.replicate k false)) := by show boolOwnV _ _ _ _; rw [hgl] at hG; simpa using hG
      have HT : Hid _ := hT
      rw [hdl, hgl]
      clear hdl hgl
      by_cases hlt : k < N
      · obtain ⟨a1, c1, wa, hrD, oD, tD⟩ := int_pushV HD.out (by simp; omega) hT.size (-1) 88
        have hGa : boolOwnV wa w1.heap.size (.slice ag k cg) (List.replicate k false) := ownsRow_touch HG.out tD (fun q hq hs => by
          have hs' : (Value.slice ad k cd).ownBlock = some q := by simpa using hs
          obtain ⟨c, fz, q1⟩ := Lib.ownsRow_kind HD.out q hs'
          obtain ⟨c2, fz2, q2⟩ := Lib.ownsRow_kind HG.out q hq
          rw [q1] at q2
          simp at q2)
        have hTa : Touch w1 wa [] := hT.trans tD (fun x hx => .inr (World.ownsRow.lt HD.out x (by simpa using hx)).1)
        obtain ⟨a2, c2, wb, hrG, oG, tG⟩ := bool_pushW hGa (by simp; omega) hTa.size false 61
        have hDb : intOwnV wb w1.heap.size _ _ := ownsRow_touch oD tG (fun q hq hs => by
          have hs' : (Value.slice ag k cg).ownBlock = some q := by simpa using hs
          obtain ⟨c, fz, q1⟩ := Lib.ownsRow_kind oD q hq
          obtain ⟨c2, fz2, q2⟩ := Lib.ownsRow_kind hGa q hs'
          rw [q1] at q2
          simp at q2)
        have HTb : Hid (Touch w1 wb []) := hTa.trans tG (fun x hx => .inr (World.ownsRow.lt hGa x (by simpa using hx)).1)
        simp only [List.length_replicate] at hrD hrG hDb oG
        have HDB : Hid _ := hDb
        have HGB : Hid _ := oG
        have er1 : List.replicate (k + 1) (-1 : Int) = List.replicate k (-1) ++ [-1] := List.replicate_succ'
        have er2 : List.replicate (k + 1) false = List.replicate k false ++ [false] := List.replicate_succ'
        have HR1 : Hid _ := er1
        have HR2 : Hid _ := er2
        have hkN : (k : Int) < N := by omega
        have hk0 : (0 : Int) ≤ k := by omega
        have hkw : IntKind.i64.wrap ((k : Int) + 1) = (k : Int) + 1 := by rw [IntKind.wrap_i64]; omega
        clear hD hG hT hGa hTa oD tD oG tG hDb er1 er2
        go_wp2_with (at_builtin; first | (refine Lib.wpList_append_run _ rfl (.tmp 30) (.tmp 31) _ _ rfl _ _ rfl rfl _ _ hrD ?_) | (refine Lib.wpList_append_run _ rfl (.tmp 33) (.tmp 34) _ _ rfl _ _ rfl rfl _ _ hrG ?_))
        go_wp2
        go_roundw
        case rel => exact ⟨k + 1, rfl, by omega, by rw [HR1.out]; exact HDB.out, by rw [HR2.out]; exact HGB.out, HTb.out⟩
        case measure => simp [intOf]; omega
      · obtain rfl : k = N := by omega
        clear hD hG hT
        by_cases h0 : 0 < k
        · obtain ⟨gd, cd', had⟩ := Go.Joins.ownsRow_form HD.out (by simpa using h0)
          obtain ⟨gg, cg', hag⟩ := Go.Joins.ownsRow_form HG.out (by simpa using h0)
          rw [List.length_replicate] at had hag
          simp only [Value.slice.injEq, true_and] at had hag
          obtain ⟨rfl, rfl⟩ := had
          obtain ⟨rfl, rfl⟩ := hag
          have hDA : DAt wr w1.heap.size gd k cd (List.replicate k (-1)) := ⟨by have q := HD.out; unfold intOwnV at q; rw [List.length_replicate] at q; exact q, by simp⟩
          have hGA : GAt wr w1.heap.size gg k cg (List.replicate k false) := ⟨by have q := HG.out; unfold boolOwnV at q; rw [List.length_replicate] at q; exact q, by simp⟩
          have hne := gd_ne hDA hGA
          have hgd := hDA.lt
          have hgg := World.ownsRow.lt hGA.row gg rfl
          have d0 := hDA.at 0 h0
          have f0 := hDA.row.frozenAt 0
          have hk0' : (0 : Int) < k := by omega
          have hbd : (List.replicate k (-1 : Int)).set 0 0 = beginD k := by
            unfold beginD
            cases k with
            | zero => omega
            | succ n => simp [List.replicate_succ]
          have HD1 : Hid (DAt (wr.setCell ⟨gd, 0, none⟩ (.int .i64 0)) w1.heap.size gd k cd (beginD k)) := by rw [← hbd]; exact hDA.put 0 0
          have HG1 : Hid (GAt (wr.setCell ⟨gd, 0, none⟩ (.int .i64 0)) w1.heap.size gg k cg (List.replicate k false)) := hGA.keep ((Touch.refl wr [gd]).setCell (p := ⟨gd, 0, none⟩) (.inl (by simp)) _) (by simpa using fun e => hne e.symm)
          have HT1 : Hid (Touch w1 (wr.setCell ⟨gd, 0, none⟩ (.int .i64 0)) []) := HT.out.setCell (.inr hgd.1) _
          have HRG : Hid (∀ j, -1 ≤ dAt (beginD k) j ∧ dAt (beginD k) j ≤ 12) := by
            have q := (begin_inv l).rng
            rw [← HN.out] at q
            exact q
          clear hDA hGA HD HG hbd
          go_wp2_with fail
          go_loopw [11] (fun i wx => ∃ (n : Nat) (D : List Int) (G : List Bool), i = .int .i64 n ∧ n ≤ k ∧ DAt wx w1.heap.size gd k cd D ∧ GAt wx w1.heap.size gg k cg G ∧ roundsV l (k - n) D G = depV l ∧ Touch w1 wx [] ∧ (∀ j, -1 ≤ dAt D j ∧ dAt D j ≤ 12)) (fun i _ => k - (intOf i).toNat)
          case atStart => exact ⟨0, _, _, rfl, Nat.zero_le _, HD1.out, HG1.out, by rw [HE.out]; rfl, HT1.out, HRG.out⟩
          case round =>
            obtain ⟨n, D, G, rfl, hnk, hDx, hGx, hRx, hTx, hrx⟩ := hrel
            clear HD1 HG1 HT1 HRG d0 f0
            have HDX : Hid _ := hDx
            have HGX : Hid _ := hGx
            have HRX : Hid _ := hRx
            have HTX : Hid _ := hTx
            have HRG : Hid _ := hrx
            clear hDx hGx hRx hTx hrx
            by_cases hlt2 : n < k
            · have hnN : (n : Int) < k := by omega
              have hn0 : (0 : Int) ≤ n := by omega
              have hnw : IntKind.i64.wrap ((n : Int) + 1) = (n : Int) + 1 := by rw [IntKind.wrap_i64]; omega
              obtain ⟨m, hm⟩ : ∃ m, k - n = m + 1 := ⟨k - n - 1, by omega⟩
              have HM : Hid (k - n = m + 1) := hm
              have HM2 : Hid (k - (n + 1) = m) := by show _ = _; omega
              clear hm
              go_wp2_with fail
              refine wp_name fun wy hwy => ?_
              have HWY : Hid _ := hwy
              rw [← hwy] at HDX HGX HTX
              clear hwy
              go_loopw [12] (fun i wx => ∃ x : Nat, i = .int .i64 x ∧ x ≤ k ∧ (∀ j < x, dAt D j ≠ -1 → G.getD j false = true) ∧ wx = wy) (fun i _ => k - (intOf i).toNat)
              case atStart => exact ⟨0, rfl, Nat.zero_le _, fun j hj => by omega, rfl⟩
              case round =>
                obtain ⟨x, rfl, hx, hbel, rfl⟩ := hrel
                have HBEL : Hid _ := hbel
                by_cases hlt3 : x < k
                · have dx := HDX.out.at x hlt3
                  have gx := HGX.out.at x hlt3
                  have hxk : (x : Int) < k := by omega
                  have hx0 : (0 : Int) ≤ x := by omega
                  have hxw : IntKind.i64.wrap ((x : Int) + 1) = (x : Int) + 1 := by rw [IntKind.wrap_i64]; omega
                  have hxe : ((x : Int) == (k : Int)) = false := by simp; omega
                  by_cases hu : dAt D x = -1
                  · rw [hu] at dx
                    clear hbel
                    go_wp2
                    go_roundw
                    case rel => exact ⟨x + 1, rfl, by omega, fun j hj hd => by
                      rcases Nat.lt_succ_iff_lt_or_eq.1 hj with q | q
                      · exact HBEL.out j q hd
                      · rw [q] at hd; exact absurd hu hd, by first | rfl | trivial⟩
                    case measure => simp [intOf]; omega
                  · have hup : ¬ (dAt D x < 0) := by have := (HRG.out x).1; omega
                    cases hgv : G.getD x false with
                    | true =>
                      rw [hgv] at gx
                      generalize dAt D x = y at dx hup
                      clear hbel
                      go_wp2
                      go_roundw
                      case rel => exact ⟨x + 1, rfl, by omega, fun j hj hd => by
                        rcases Nat.lt_succ_iff_lt_or_eq.1 hj with q | q
                        · exact HBEL.out j q hd
                        · rw [q]; exact hgv, by first | rfl | trivial⟩
                      case measure => simp [intOf]; omega
                    | false =>
                      rw [hgv] at gx
                      have hle : leastV D G l.length = some x := by rw [← HN.out]; exact least_some hlt3 hu hgv hbel
                      have HRR : Hid (depV l = if (sprV l D x).1 ≠ 0 then ((sprV l D x).1, x, []) else roundsV l m (sprV l D x).2.1 (G.set x true)) := by
                        show _ = _
                        rw [← HRX.out, HM.out, rounds_some hle]
                      have fg := HGX.out.row.frozenAt x
                      have hD6 := HDX.out.goneput hne x (.bool true)
                      have HG6 : Hid _ := HGX.out.put x true
                      have hT6 := HTX.out.setCell (p := ⟨gg, x, none⟩) (.inr hgg.1) (.bool true)
                      have hsp : HidC _ _ _ _ _ := ⟨rspread_any hD6 HN.out hn (SRow.keep HR.out (T1.out.trans hT6 (by simp)) (by simp)) x hlt3 (fun g' off' e => by
                        have q := SRow.block HR.out (fun e2 => by have := HN.out; rw [e2] at this; simp at this; omega) g' (by rw [e]; rfl)
                        omega) (HA.out x (by rw [← HN.out]; exact hlt3)) HRG.out⟩
                      have HT6 : Hid _ := hT6
                      have HEX : Hid ((sprV l D x).1 = 0 → ∀ j, -1 ≤ dAt (sprV l D x).2.1 j ∧ dAt (sprV l D x).2.1 j ≤ 12) := fun q j => by
                        obtain ⟨e, _, b0, b12⟩ := spr_settled (by rw [HDX.out.len, HN.out]) hu (D' := (sprV l D x).2.1) (m := (sprV l D x).2.2) (by rw [← q])
                        by_cases h4 : dAt D j = -1
                        · rcases e.new j h4 with q3 | ⟨q3, _⟩ <;> omega
                        · rw [e.old j h4]; exact HRG.out j
                      unfold SprPost at hsp
                      generalize sprV l D x = r at *
                      obtain ⟨re, rD, rm⟩ := r
                      generalize dAt D x = y at dx hup
                      clear hbel hle hD6 hT6
                      by_cases hre : re = 0
                      · subst hre
                        have HRR2 : Hid (roundsV l m rD (G.set x true) = depV l) := by show _ = _; rw [HRR.out]; simp
                        clear HRR
                        go_wp2_with fail
                        refine hsp.out.mono ?_
                        rintro e w7 ⟨rfl, q1, t7⟩
                        have HD7 : Hid (DAt w7 w1.heap.size gd k cd rD) := q1 (by first | rfl | trivial)
                        have HG7 : Hid (GAt w7 w1.heap.size gg k cg (G.set x true)) := HG6.out.keep t7 (by simpa using fun e => hne e.symm)
                        have HT7 : Hid (Touch w1 w7 []) := HT6.out.trans t7 (fun z hz => .inr (by simp at hz; omega))
                        clear hsp q1 t7
                        go_wp2
                        go_roundw
                        case rel => exact ⟨n + 1, rD, G.set x true, rfl, by omega, HD7.out, HG7.out, by rw [HM2.out]; exact HRR2.out, HT7.out, HEX.out (by first | rfl | trivial)⟩
                        case measure => simp [intOf]; omega
                      · have hre' : (re == 0) = false := by simpa using hre
                        have HV : Hid (depV l = (re, x, [])) := by show _ = _; rw [HRR.out, if_pos hre]
                        clear HRR
                        go_wp2_with fail
                        refine hsp.out.mono ?_
                        rintro e w7 ⟨rfl, q1, t7⟩
                        have HT7 : Hid (Touch w1 w7 []) := HT6.out.trans t7 (fun z hz => .inr (by simp at hz; omega))
                        have HTF : Hid (Touch w w7 []) := T1.out.trans HT7.out (by simp)
                        clear hsp q1 t7
                        go_wp2
                        refine bodyPost_ret (v := .tuple #[.slice none 0 0, .int .i64 x, .int .i64 re]) (by simp [results, Tryz.results44, go_sem]) rfl ?_
                        exact HPOST.out _ x re [] _ HV.out (World.ownsRow_nil _ _ _ _) HTF.out
                · obtain rfl : x = k := by omega
                  have hle : leastV D G l.length = none := by rw [← HN.out]; exact least_none hbel
                  have HV : Hid (depV l = (0, 0, D)) := by
                    show _ = _
                    rw [← HRX.out, HM.out]
                    unfold roundsV
                    rw [hle]
                  have HOW : Hid (∀ W, DAt W w1.heap.size gd x cd D → intOwnV W w.heap.size (.slice (some ⟨gd, 0, none⟩) x cd) D) := fun W q => by
                    show World.ownsRow _ _ _ _ _ _ _
                    rw [q.len]
                    exact Go.Joins.ownsRow_le q.row hs1
                  clear hbel hle
                  go_wp2
                  refine bodyPost_ret (v := .tuple #[.slice (some ⟨gd, 0, none⟩) x cd, .int .i64 0, .int .i64 0]) (by simp [results, Tryz.results44, go_sem]) rfl ?_
                  exact HPOST.out _ 0 0 D _ HV.out (HOW.out _ HDX.out) (T1.out.trans HTX.out (by simp))
            · obtain rfl : n = k := by omega
              have HV : Hid (depV l = (0, 0, D)) := by show _ = _; rw [← HRX.out, Nat.sub_self]; rfl
              have HOW : Hid (intOwnV wr w.heap.size (.slice (some ⟨gd, 0, none⟩) n cd) D) := by
                show World.ownsRow _ _ _ _ _ _ _
                rw [HDX.out.len]
                exact Go.Joins.ownsRow_le HDX.out.row hs1
              have HTF : Hid (Touch w wr []) := T1.out.trans HTX.out (by simp)
              go_wp2
              refine bodyPost_ret (v := .tuple #[.slice (some ⟨gd, 0, none⟩) n cd, .int .i64 0, .int .i64 0]) (by simp [results, Tryz.results44, go_sem]) rfl ?_
              exact HPOST.out _ 0 0 D _ HV.out HOW.out HTF.out
        · obtain rfl : k = 0 := by omega
          have HV : Hid (depV l = (0, 0, [])) := by show _ = _; rw [HE.out]; rfl
          have HOW : Hid (intOwnV wr w.heap.size (.slice ad 0 cd) []) := Go.Joins.ownsRow_le HD.out hs1
          have HTF : Hid (Touch w wr []) := T1.out.trans HT.out (by simp)
          go_wp2_with fail
          refine wp_name fun wy hwy => ?_
          have HWY : Hid _ := hwy
          clear hwy
          go_loopw [11] (fun i wx => i = .int .i64 0 ∧ wx = wy) (fun i _ => 0)
          case atStart => exact ⟨rfl, rfl⟩
          case round =>
            obtain ⟨rfl, rfl⟩ := hrel
            go_wp2
            refine bodyPost_ret (v := .tuple #[.slice ad 0 cd, .int .i64 0, .int .i64 0]) (by simp [results, Tryz.results44, go_sem]) rfl ?_
            rw [HWY.out]
            exact HPOST.out _ 0 0 [] _ HV.out HOW.out HTF.out

end Go.Proofs.YtcbkafbchpjnoaaGreatDoor

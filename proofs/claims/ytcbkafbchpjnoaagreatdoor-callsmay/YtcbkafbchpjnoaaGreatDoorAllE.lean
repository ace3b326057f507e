/-
  package verify: Inside BY ITS CONTRACT; rows of Booleans.
-/
import Derived.Test.YtcbkafbchpjnoaaGreatDoorAllB
namespace Go.Proofs.YtcbkafbchpjnoaaGreatDoor
set_option linter.unusedVariables false
set_option linter.unusedSimpArgs false
open Go.RowKit
attribute [local go_sem] Oper.semAt_some

abbrev boolOwnV (w : World) (B : Nat) (v : Value) (xs : List Bool) : Prop := w.ownsRow B 4 1 v xs.length (xs.map Value.bool)
theorem Tryz.info_boolV : (Tryz.prog.info? 4).map (fun i => (i.zero, i.size, i.bytes)) = some (some (.bool false), 1, 1) := by kernel_rfl
theorem made_boolV (n : Nat) : madeCells (Value.cells (.bool false)) (n * 1) = Array.replicate n (.bool false) := by
  apply Array.ext
  · simp [size_madeCells]
  · intro i h1 h2
    simp [madeCells, Value.cells, Nat.mod_one]
theorem make_boolV (n : Nat) (hn : n ≤ 1000) (w : World) : (Instr.makeSlice 61 (.int .i64 n) (.int .i64 n)).run Tryz.prog w = .ok (.slice (some ⟨w.heap.size, 0, none⟩) n n) (w.alloc (.cells (Array.replicate n (.bool false)) 4)) := by
  obtain ⟨i, hi, hz, hs, hb⟩ := info_partsV Tryz.info_boolV
  have e := run_make (P := Tryz.prog) w 61 4 i (.bool false) Tryz.underlying61 hi hz .i64 .i64 n n (by omega) (by omega) (by rw [hb]; omega) (by omega)
  rw [e, hs, Int.toNat_natCast, made_boolV]
theorem bool_pushW {w : World} {B : Nat} {v : Value} {xs : List Bool} (h : boolOwnV w B v xs) (hl : xs.length ≤ 1000) (hB : B ≤ w.heap.size) (x : Bool) (ty : TypeId) :
    ∃ ao' cap' w', (Builtin.append_ #[61, 61] ty #[v, .slice (some ⟨w.heap.size, 0, none⟩) 1 1]).run Tryz.prog (w.alloc (.cells #[.bool x] 4)) = .ok (.slice ao' (xs.length + 1) cap') w' ∧ boolOwnV w' B (.slice ao' (xs.length + 1) cap') (xs ++ [x]) ∧ Touch w w' v.ownBlock.toList := by
  obtain ⟨i0, hi, hz0, hz1, hz2⟩ := info_partsV Tryz.info_boolV
  obtain ⟨v', w', h1, h2, h3, h4, h5⟩ := run_append_own_at (P := Tryz.prog) (w.alloc (.cells #[.bool x] 4)) B 61 ty 4 i0 _ 1 1 Tryz.underlying61 hi hz0 hz1 hz2 rfl (by decide) v xs.length _ (h.alloc _) ⟨w.heap.size, 0, none⟩ 1 1 [.bool x] rfl (World.news_of_block (cs := #[.bool x]) (t := 4) (fr := (0, 0)) (heap_alloc_new w _)) (by simp [Value.oneCell']) (by unfold maxLen; omega) (by omega) (by simp; omega)
  have h2' : boolOwnV w' B v' (xs ++ [x]) := by
    show w'.ownsRow _ _ _ _ _ _
    rw [List.length_append, List.map_append]
    exact h2
  obtain ⟨ao', cap', rfl⟩ := owns_slice h2
  exact ⟨ao', cap', w', h1, h2', ((Touch.refl w _).alloc _).grown h3 (fun k hk => .inl (by simp [hk]))⟩

/-- Of each whether it stands in a bracket. -/
def insB (l : List InsD) (k : Nat) : List Bool := (insV l k).map fun x => x != -1
theorem insB_len (l : List InsD) (k : Nat) : (insB l k).length = k := by simp [insB, insV_len]
def insA (l : List InsD) : List Bool := match regV l with | some _ => [] | none => insB l l.length
/-- A block of Booleans. -/
structure VBAt (w : World) (g N : Nat) (D : List Bool) : Prop where
  row : w.heap[g]? = some (.cells (D.map Value.bool).toArray 4 (0, 0))
  len : D.length = N
theorem VBAt.at {w : World} {g N : Nat} {D : List Bool} (h : VBAt w g N D) (k : Nat) (hk : k < N) : ∃ y, w.cell? ⟨g, k, none⟩ = some (.bool y) := by
  have hk' : k < D.length := by rw [h.len]; exact hk
  refine ⟨D[k], ?_⟩
  unfold World.cell?
  rw [h.row]
  simp [hk']
theorem VBAt.put {w : World} {g N : Nat} {D : List Bool} (h : VBAt w g N D) (k : Nat) (x : Bool) : VBAt (w.setCell ⟨g, k, none⟩ (.bool x)) g N (D.set k x) :=
  ⟨by rw [heap_setCell_same _ _ _ _ _ _ h.row, List.map_set]; simp, by simpa using h.len⟩
def inZB (l : List InsD) (N k : Nat) : List Bool := (insB l N).take k ++ List.replicate (N - k) false
theorem inZB_set {l : List InsD} {N k : Nat} (h : k < N) (x : Bool) (hx : (insB l N)[k]? = some x) : (inZB l N k).set k x = inZB l N (k + 1) := by
  have hl : ((insB l N).take k).length = k := by rw [List.length_take, insB_len]; omega
  obtain ⟨hk, e⟩ := List.getElem?_eq_some_iff.1 hx
  unfold inZB
  rw [List.set_append_right _ _ (by omega), hl, Nat.sub_self, show N - k = (N - (k + 1)) + 1 by omega, List.replicate_succ, List.set_cons_zero, List.take_succ_eq_append_getElem hk, e, List.append_assoc]
  rfl

end Go.Proofs.YtcbkafbchpjnoaaGreatDoor
/-
  THE DOCUMENT'S next, spread BY THEIR CONTRACTS.
-/
namespace Go.Proofs.YtcbkafbchpjnoaaGreatDoor
set_option linter.unusedVariables false
set_option linter.unusedSimpArgs false
open Go.RowKit
attribute [local go_sem] Oper.semAt_some

theorem lit_own2 (W w : World) (t : Touch W w []) (xs : List Int) (hx : xs.length ≤ 1000) : intOwnV (w.alloc (.cells (xs.map (Value.int .i64)).toArray 3)) W.heap.size (.slice (some ⟨w.heap.size, 0, none⟩) xs.length xs.length) xs := Go.Joins.ownsRow_le (lit_own w xs hx) t.size

set_option maxRecDepth 100000 in
set_option maxHeartbeats 1000000 in
theorem rnext_any {w : World} {N cap : Nat} {ao : Option Addr} {l : List InsD} (hN : N = l.length) (hn : N ≤ 900) (hr : InsV w (.slice ao N cap) l) (k : Nat) (hk : k < N)
    (ha : opAt l k = 23 ∨ opAt l k = 24 → -1000 ≤ argAt l k ∧ argAt l k ≤ 1000) :
    Calls Tryz.prog 108 #[.slice ao N cap, .int .i64 k] w fun e w' => ∃ ao' c', e = .returned (.slice ao' (nextV l k).length c') ∧ intOwnV w' w.heap.size (.slice ao' (nextV l k).length c') (nextV l k) ∧ Touch w w' [] := by
  have hr0 := hr
  rw [hN] at hr0
  have hkl : k < l.length := by omega
  obtain ⟨g, off, rfl, hg, c0, c1, c2⟩ := insv_at hr0 k hkl
  have hkN : (k : Int) < N := by omega
  have hk0 : (0 : Int) ≤ k := by omega
  have hkw : IntKind.i64.wrap ((k : Int) + 1) = (k : Int) + 1 := by rw [IntKind.wrap_i64]; omega
  unfold nextV
  generalize hvl : l[k].val = vl at *
  generalize opAt l k = o at *
  generalize argAt l k = a at *
  have haw : o = 23 ∨ o = 24 → IntKind.i64.wrap (a + 1) = a + 1 := fun q => by have := ha q; rw [IntKind.wrap_i64]; omega
  have tB : Touch w (w.alloc (.cells #[.int .u8 o, .int .i64 a, .int .u64 vl] 78)) [] := (Touch.refl w []).alloc _
  have eB : (w.alloc (.cells #[.int .u8 o, .int .i64 a, .int .u64 vl] 78)).heap[w.heap.size]? = some (.cells #[.int .u8 o, .int .i64 a, .int .u64 vl] 78 (0, 0)) := heap_alloc_new w _
  have q0 : (w.alloc (.cells #[.int .u8 o, .int .i64 a, .int .u64 vl] 78)).cell? ⟨w.heap.size, 0, none⟩ = some (.int .u8 o) := by unfold World.cell?; rw [eB]; rfl
  have q1 : (w.alloc (.cells #[.int .u8 o, .int .i64 a, .int .u64 vl] 78)).cell? ⟨w.heap.size, 1, none⟩ = some (.int .i64 a) := by unfold World.cell?; rw [eB]; rfl
  have HL : Hid (∀ xs : List Int, xs.length ≤ 1000 → intOwnV ((w.alloc (.cells #[.int .u8 o, .int .i64 a, .int .u64 vl] 78)).alloc (.cells (xs.map (Value.int .i64)).toArray 3)) w.heap.size (.slice (some ⟨w.heap.size + 1, 0, none⟩) xs.length xs.length) xs) := fun xs hx => by
    have q := lit_own2 w _ tB xs hx
    simpa using q
  have HT : Hid _ := tB
  clear hr hr0 hN ha eB hvl tB
  rcases (show o = 19 ∨ o = 20 ∨ o = 23 ∨ o = 24 ∨ o = 26 ∨ o = 28 ∨ (o ≠ 19 ∧ o ≠ 20 ∧ o ≠ 23 ∧ o ≠ 24 ∧ o ≠ 26 ∧ o ≠ 28) by omega) with rfl | rfl | rfl | rfl | rfl | rfl | ⟨h1, h2, h3, h4, h5, h6⟩
  · clear haw
    go_enter Tryz.func108, Tryz.ntmps108
    go_wp2
    go_ret
    exact ⟨_, _, rfl, HL.out [a] (by simp), HT.out.alloc _⟩
  · clear haw
    go_enter Tryz.func108, Tryz.ntmps108
    go_wp2
    go_ret
    exact ⟨_, _, rfl, HL.out [(k : Int) + 1, a] (by simp), HT.out.alloc _⟩
  · have haw2 := haw (.inl rfl)
    clear haw
    go_enter Tryz.func108, Tryz.ntmps108
    go_wp2
    go_ret
    exact ⟨_, _, rfl, HL.out [(k : Int) + 1, a + 1] (by simp), HT.out.alloc _⟩
  · have haw2 := haw (.inr rfl)
    clear haw
    go_enter Tryz.func108, Tryz.ntmps108
    go_wp2
    go_ret
    exact ⟨_, _, rfl, HL.out [a + 1] (by simp), HT.out.alloc _⟩
  · clear haw
    go_enter Tryz.func108, Tryz.ntmps108
    go_wp2
    go_ret
    exact ⟨none, 0, rfl, World.ownsRow_nil _ _ _ _, HT.out⟩
  · clear haw
    go_enter Tryz.func108, Tryz.ntmps108
    go_wp2
    go_ret
    exact ⟨none, 0, rfl, World.ownsRow_nil _ _ _ _, HT.out⟩
  · clear haw
    have e : (if o = 19 then [a] else if o = 20 then [(k : Int) + 1, a] else if o = 23 then [(k : Int) + 1, a + 1] else if o = 24 then [a + 1] else if o = 26 ∨ o = 28 then [] else [(k : Int) + 1]) = [(k : Int) + 1] := by simp [*]
    rw [e]
    have b1 : (o == 19) = false := by simpa using h1
    have b2 : (o == 20) = false := by simpa using h2
    have b3 : (o == 23) = false := by simpa using h3
    have b4 : (o == 24) = false := by simpa using h4
    have b5 : (o == 26) = false := by simpa using h5
    have b6 : (o == 28) = false := by simpa using h6
    clear e
    go_enter Tryz.func108, Tryz.ntmps108
    go_wp2
    go_ret
    exact ⟨_, _, rfl, HL.out [(k : Int) + 1] (by simp), HT.out.alloc _⟩

/-- The document's numbers as they lie. -/
structure DAt (w : World) (B gd N cd : Nat) (D : List Int) : Prop where
  row : w.ownsRow B 3 1 (.slice (some ⟨gd, 0, none⟩) N cd) N (D.map (Value.int .i64))
  len : D.length = N
theorem DAt.at {w : World} {B gd N cd : Nat} {D : List Int} (h : DAt w B gd N cd D) (k : Nat) (hk : k < N) : w.cell? ⟨gd, k, none⟩ = some (.int .i64 (dAt D k)) := by
  have hk' : k < D.length := by rw [h.len]; exact hk
  rw [h.row.cellAt k (by omega), List.getElem?_map, List.getElem?_eq_getElem hk']
  simp [dAt, hk']
theorem DAt.lt {w : World} {B gd N cd : Nat} {D : List Int} (h : DAt w B gd N cd D) : B ≤ gd ∧ gd < w.heap.size := World.ownsRow.lt h.row gd rfl
theorem DAt.keep {w w' : World} {B gd N cd : Nat} {D : List Int} {S : List Nat} (h : DAt w B gd N cd D) (t : Touch w w' S) (hS : gd ∉ S) : DAt w' B gd N cd D :=
  ⟨ownsRow_touch h.row t (fun g hg hs => by simp [Value.ownBlock] at hg; subst hg; exact hS hs), h.len⟩
theorem DAt.put {w : World} {B gd N cd : Nat} {D : List Int} (h : DAt w B gd N cd D) (k : Nat) (x : Int) : DAt (w.setCell ⟨gd, k, none⟩ (.int .i64 x)) B gd N cd (D.set k x) :=
  ⟨int_setV h.row k x, by simpa using h.len⟩
/-- What spread leaves. -/
def SprPost (w : World) (B gd N cd : Nat) (r : Int × List Int × Int) (e : Ending) (w' : World) : Prop :=
  e = .returned (.int .i64 r.1) ∧ (r.1 = 0 → DAt w' B gd N cd r.2.1) ∧ Touch w w' [gd]

set_option maxRecDepth 100000 in
set_option maxHeartbeats 2000000 in
theorem rspread_any {w : World} {B gd N cap cd : Nat} {ao : Option Addr} {D : List Int} {l : List InsD} (h : DAt w B gd N cd D) (hN : N = l.length) (hn : N ≤ 900) (hr : InsV w (.slice ao N cap) l) (k : Nat) (hk : k < N)
    (hng : ∀ g off, ao = some ⟨g, off, none⟩ → g ≠ gd)
    (ha : opAt l k = 23 ∨ opAt l k = 24 → -1000 ≤ argAt l k ∧ argAt l k ≤ 1000) (hd : ∀ j, -1 ≤ dAt D j ∧ dAt D j ≤ 12) :
    Calls Tryz.prog 77 #[.slice ao N cap, .slice (some ⟨gd, 0, none⟩) N cd, .int .i64 k] w (SprPost w B gd N cd (sprV l D k)) := by
  have hr0 := hr
  rw [hN] at hr0
  obtain ⟨g, off, rfl, hg, c0, c1, c2⟩ := insv_at hr0 k (by omega)
  have dk := h.at k hk
  have hkN : (k : Int) < N := by omega
  have hk0 : (0 : Int) ≤ k := by omega
  have hpo := pop_le (opAt l k)
  have hpu := push_le (opAt l k)
  have heff : HidC _ _ _ _ _ := ⟨reff_any (opAt l k) w⟩
  have hnx : HidC _ _ _ _ _ := ⟨rnext_any hN hn hr k hk ha⟩
  have HW : Hid _ := h
  have HN : Hid _ := hN
  have HD : Hid (∀ j, -1 ≤ dAt D j) := fun j => (hd j).1
  have hdk := hd k
  unfold sprV
  rw [← hN]
  unfold behV
  clear h hr hr0 c1 c2 ha hd
  generalize opAt l k = o at *
  generalize hdk' : dAt D k = d at *
  generalize hpv : popV o = p at *
  generalize hqv : pushV o = q at *
  have w1 : IntKind.i64.wrap (d - p) = d - p := by rw [IntKind.wrap_i64]; omega
  have w2 : IntKind.i64.wrap (d - p + q) = d - p + q := by rw [IntKind.wrap_i64]; omega
  clear hN hpv hqv hdk'
  by_cases h1 : d < p
  · rw [if_pos (.inl h1)]
    go_enter Tryz.func77, Tryz.ntmps77
    go_wp2_with fail
    refine heff.out.mono ?_
    rintro e w3 ⟨rfl, rfl⟩
    clear heff hnx
    go_wp2
    go_ret
    exact ⟨rfl, by simp, Touch.refl _ _⟩
  · by_cases h2 : 12 < d - p + q
    · rw [if_pos (.inr h2)]
      go_enter Tryz.func77, Tryz.ntmps77
      go_wp2_with fail
      refine heff.out.mono ?_
      rintro e w3 ⟨rfl, rfl⟩
      clear heff hnx
      go_wp2
      go_ret
      exact ⟨rfl, by simp, Touch.refl _ _⟩
    · rw [if_neg (fun q => q.elim h1 h2)]
      obtain ⟨beh, hbeh⟩ : ∃ beh, beh = d - p + q := ⟨_, rfl⟩
      have w3 : IntKind.i64.wrap (d - p + q) = beh := by rw [hbeh]; exact w2
      have hb0 : 0 ≤ beh := by omega
      rw [← hbeh] at h2 ⊢
      clear w2 hbeh
      generalize hns : nextV l k = ns at *
      have hnl : ns.length ≤ 2 := by
        rw [← hns]; unfold nextV
        repeat (first | (split; simp) | simp)
      clear hns
      obtain ⟨M, hM⟩ : ∃ M, M = ns.length := ⟨_, rfl⟩
      have HM : Hid _ := hM
      rw [← hM] at hnl hnx
      clear hM
      go_enter Tryz.func77, Tryz.ntmps77
      go_wp2_with fail
      refine heff.out.mono ?_
      rintro e w3 ⟨rfl, rfl⟩
      clear heff
      go_wp2_with fail
      refine hnx.out.mono ?_
      rintro e w4 ⟨ao', c', rfl, hrow, t4⟩
      have HROW : Hid (intOwnV w4 w.heap.size (.slice ao' M c') ns) := hrow
      have HT4 : Hid _ := t4
      clear hnx hrow t4 dk c0
      go_wp2_with fail
      go_loopw [11] (fun i wr => ∃ (j : Nat) (Dj : List Int) (mj : Int), i = .int .i64 j ∧ j ≤ M ∧ (ns.take j).foldl (sprS N beh) (0, D, (N : Int)) = (0, Dj, mj) ∧ DAt wr B gd N cd Dj ∧ Touch w4 wr [gd] ∧ (∀ x, -1 ≤ dAt Dj x)) (fun i _ => M - (intOf i).toNat)
      case atStart => exact ⟨0, D, N, rfl, Nat.zero_le _, rfl, HW.out.keep HT4.out (by simp), Touch.refl _ _, HD.out⟩
      case round =>
        obtain ⟨j, Dj, mj, rfl, hj, hfo, hWj, hTj, hDj⟩ := hrel
        by_cases hlt : j < M
        · have hjl : j < ns.length := by rw [← HM.out]; exact hlt
          obtain ⟨gn, cn, hao⟩ := Go.Joins.ownsRow_form HROW.out (by rw [← HM.out]; omega)
          rw [← HM.out] at hao
          simp only [Value.slice.injEq] at hao
          obtain ⟨rfl, _, rfl⟩ := hao
          have hrow : w4.ownsRow w.heap.size 3 1 (.slice (some ⟨gn, 0, none⟩) M c') M (ns.map (Value.int .i64)) := by
            have := HROW.out; unfold intOwnV at this; rw [← HM.out] at this; exact this
          have cn := hrow.cellAt j (by omega)
          have hgn := hrow.lt gn rfl
          have hgdw : gd < w.heap.size := HW.out.lt.2
          rw [List.getElem?_map, List.getElem?_eq_getElem hjl] at cn
          have hts : ns.take (j + 1) = ns.take j ++ [ns[j]] := List.take_succ_eq_append_getElem hjl
          have HAll : Hid (ns.foldl (sprS N beh) (0, D, (N : Int)) = (ns.drop (j + 1)).foldl (sprS N beh) ((ns.take (j + 1)).foldl (sprS N beh) (0, D, (N : Int)))) := by
            show _ = _
            rw [← List.foldl_append, List.take_append_drop]
          have HFo : Hid ((ns.take (j + 1)).foldl (sprS N beh) (0, D, (N : Int)) = sprS N beh (0, Dj, mj) ns[j]) := by
            show _ = _
            rw [hts, List.foldl_append, hfo]; rfl
          clear hts
          generalize hn' : ns[j] = n at *
          have cn' : wr.cell? ⟨gn, j, none⟩ = some (.int .i64 n) := (hTj.cell (p := ⟨gn, j, none⟩) hgn.2 (by simp; omega)).trans (by simpa using cn)
          have hjM : (j : Int) < M := by omega
          have hj0 : (0 : Int) ≤ j := by omega
          have hjw : IntKind.i64.wrap ((j : Int) + 1) = (j : Int) + 1 := by rw [IntKind.wrap_i64]; omega
          have HWJ : Hid _ := hWj
          have HTJ : Hid _ := hTj
          have HDJ : Hid _ := hDj
          clear hrow cn hn' hfo
          by_cases hpn : 0 ≤ n ∧ n < N
          · obtain ⟨x, hx⟩ : ∃ x : Nat, n = x := ⟨n.toNat, by omega⟩
            have hxN : (x : Int) < N := by omega
            have hx0 : (0 : Int) ≤ x := by omega
            have hx1 : ¬ ((x : Int) < 0) := by omega
            have hx2 : ¬ ((N : Int) ≤ x) := by omega
            have dx := hWj.at x (by omega)
            have fx := hWj.row.frozenAt x
            have hnf : ¬ (n < 0 ∨ (N : Int) ≤ n) := by omega
            have htn : n.toNat = x := by omega
            by_cases hu : dAt Dj x = -1
            · have hs := sprS_new (beh := beh) (m := mj) hnf (by rw [htn]; exact hu)
              rw [htn] at hs
              have HS : Hid _ := hs
              have hxl : x < Dj.length := by rw [HWJ.out.len]; omega
              subst hx
              rw [hu] at dx
              clear hs hWj hTj hnf hpn htn hu hDj
              go_wp2
              go_roundw
              case rel =>
                refine ⟨j + 1, Dj.set x beh, min mj x, rfl, by omega, by rw [HFo.out, HS.out], HWJ.out.put x beh, HTJ.out.setCell (.inl (by simp)) _, fun y => ?_⟩
                rw [dAt_set hxl]
                split
                · omega
                · exact HDJ.out y
              case measure => simp [intOf]; omega
            · have hup : ¬ (dAt Dj x < 0) := by have := hDj x; omega
              by_cases hq : dAt Dj x = beh
              · have HS : Hid _ := sprS_ok (beh := beh) (m := mj) hnf (by rw [htn]; exact hu) (by rw [htn]; exact hq)
                subst hx
                rw [hq] at dx hup
                clear hWj hTj hnf hpn htn hu hq hDj
                go_wp2
                go_roundw
                case rel => exact ⟨j + 1, Dj, mj, rfl, by omega, by rw [HFo.out, HS.out], HWJ.out, HTJ.out, HDJ.out⟩
                case measure => simp [intOf]; omega
              · have HS : Hid _ := sprS_bad (beh := beh) (m := mj) hnf (by rw [htn]; exact hu) (by rw [htn]; exact hq)
                subst hx
                have hb2 : (dAt Dj x == beh) = false := by simpa using hq
                have hb3 : (dAt Dj x != beh) = true := by simp [hq]
                generalize dAt Dj x = y at *
                clear hWj hTj hnf hpn htn hu hq hDj
                go_wp2
                go_ret
                rw [HAll.out, HFo.out, HS.out, spr_err (by simp)]
                exact ⟨rfl, by simp, (HT4.out.mono (by simp)).trans HTJ.out (by simp)⟩
          · have HS : Hid _ := sprS_far (N := N) (beh := beh) (D := Dj) (m := mj) (n := n) (by omega)
            by_cases hn0 : n < 0
            · clear hWj hTj hpn hDj
              go_wp2
              go_ret
              rw [HAll.out, HFo.out, HS.out, spr_err (by simp)]
              exact ⟨rfl, by simp, (HT4.out.mono (by simp)).trans HTJ.out (by simp)⟩
            · have hnN : (N : Int) ≤ n := by omega
              clear hWj hTj hpn hDj
              go_wp2
              go_ret
              rw [HAll.out, HFo.out, HS.out, spr_err (by simp)]
              exact ⟨rfl, by simp, (HT4.out.mono (by simp)).trans HTJ.out (by simp)⟩
        · obtain rfl : j = M := by omega
          have e : ns.take j = ns := List.take_of_length_le (by rw [← HM.out]; exact Nat.le_refl _)
          rw [e] at hfo
          have HWJ : Hid _ := hWj
          have HTJ : Hid _ := hTj
          clear hWj hTj e hDj
          go_wp2
          go_ret
          rw [hfo]
          exact ⟨rfl, fun _ => HWJ.out, (HT4.out.mono (by simp)).trans HTJ.out (by simp)⟩

end Go.Proofs.YtcbkafbchpjnoaaGreatDoor

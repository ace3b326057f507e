/-
  package trace: Merge, the program's and the document's, BY THEIR CONTRACTS.
-/
import Derived.Test.YtmiaibpdeofokaaDoorTrBase
import Derived.Lib.AppendZeros
namespace Go.Proofs.YtmiaibpdeofokaaDoor
set_option linter.unusedVariables false
set_option linter.unusedSimpArgs false
open Go.RowKit Go.Maps
attribute [local go_sem] Oper.semAt_some

/-- An event with a higher number. -/
def shE (n : Int) (e : EvD) : EvD := ⟨e.k, e.a + n, e.t, e.v⟩
/-- Two histories, one behind the other. -/
def mergeT (a b : List EvD) : Int × List EvD :=
  if rightS a = true ∧ rightS b = true then (if 400 < a.length + b.length ∨ 64 < abvS a + abvS b then (4, []) else (0, a ++ b.map (shE (abvS a)))) else (3, [])
theorem map_snoc {n : Int} {b : List EvD} {k : Nat} (hk : k < b.length) : (b.take (k + 1)).map (shE n) = (b.take k).map (shE n) ++ [shE n b[k]] := by
  rw [List.take_succ_eq_append_getElem hk, List.map_append]; rfl
def MrgP (w : World) (r : Int × List EvD) (e : Ending) (w' : World) : Prop := ∃ mo mc, e = .returned (.tuple #[.slice mo r.2.length mc, .int .i64 r.1]) ∧ EvRow w' (.slice mo r.2.length mc) r.2 ∧ Touch w w' []
theorem MrgP.nil {w w' : World} {er : Int} (t : Touch w w' []) : MrgP w (er, []) (.returned (.tuple #[.slice none 0 0, .int .i64 er])) w' := ⟨none, 0, rfl, ⟨none, 0, rfl, fun h => absurd rfl h⟩, t⟩
theorem ev_one (x : EvD) : ∀ u ∈ x.cells, u.oneCell' = true := by intro u hu; simp [EvD.cells] at hu; rcases hu with rfl | rfl | rfl | rfl <;> rfl
theorem own_low {w : World} {B B' : Nat} {e : TypeId} {size : Nat} {v : Value} {n : Nat} {xs : List Value} (h : w.ownsRow B e size v n xs) (hB : B' ≤ B) : w.ownsRow B' e size v n xs := by
  refine ⟨h.1, ?_⟩
  rcases h.2 with hn | ⟨g', cap', cur, e, hb, r⟩
  · exact .inl hn
  · exact .inr ⟨g', cap', cur, e, Nat.le_trans hB hb, r⟩

set_option maxRecDepth 100000 in
set_option maxHeartbeats 2000000 in
theorem tmerge_any {w : World} {ao bo : Option Addr} {ca cb : Nat} {a b : List EvD} (ra : EvRow w (.slice ao a.length ca) a) (rb : EvRow w (.slice bo b.length cb) b) (la : a.length ≤ 1000) (lb : b.length ≤ 1000) (wa : ∀ e ∈ a, e.Wf) (wb : ∀ e ∈ b, e.Wf) :
    Calls Tryd.prog 6 #[.slice ao a.length ca, .slice bo b.length cb] w (MrgP w (mergeT a b)) := by
  have HRA : Hid (∀ W, Touch w W [] → HidC Tryd.prog 15 #[.slice ao a.length ca] W fun e w' => e = .returned (.bool (rightS a)) ∧ Touch W w' []) := fun W t => ⟨right_of (SRow.keep ra t (by simp)) la wa⟩
  have HRB : Hid (∀ W, Touch w W [] → HidC Tryd.prog 15 #[.slice bo b.length cb] W fun e w' => e = .returned (.bool (rightS b)) ∧ Touch W w' []) := fun W t => ⟨right_of (SRow.keep rb t (by simp)) lb wb⟩
  have HAA : Hid (∀ W, Low a → Touch w W [] → HidC Tryd.prog 19 #[.slice ao a.length ca] W fun e w' => e = .returned (.int .i64 (abvS a)) ∧ Touch W w' []) := fun W h t => ⟨above_any (SRow.keep ra t (by simp)) la h⟩
  have HAB : Hid (∀ W, Low b → Touch w W [] → HidC Tryd.prog 19 #[.slice bo b.length cb] W fun e w' => e = .returned (.int .i64 (abvS b)) ∧ Touch W w' []) := fun W h t => ⟨above_any (SRow.keep rb t (by simp)) lb h⟩
  have RA : Hid (EvRow w (.slice ao a.length ca) a) := ra
  have RB : Hid (EvRow w (.slice bo b.length cb) b) := rb
  obtain ⟨NA, hNA⟩ : ∃ N, N = a.length := ⟨_, rfl⟩
  obtain ⟨NB, hNB⟩ : ∃ N, N = b.length := ⟨_, rfl⟩
  have HNA : Hid (NA = a.length) := hNA
  have HNB : Hid (NB = b.length) := hNB
  obtain ⟨r, hr⟩ : ∃ r, r = mergeT a b := ⟨_, rfl⟩
  have HM : Hid (r = mergeT a b) := hr
  rw [← hr]
  rw [← hNA] at la HRA HAA
  rw [← hNB] at lb HRB HAB
  rw [← hNA, ← hNB]
  clear ra rb hNA hNB hr wa wb
  have T0 : Hid (Touch w w []) := Touch.refl _ _
  go_enter Tryd.func6, Tryd.ntmps6
  go_wp2_with fail
  refine (HRA.out _ T0.out).out.mono ?_
  rintro e w1 ⟨rfl, t1⟩
  have T1 : Hid (Touch w w1 []) := t1
  clear t1 T0 HRA
  cases hqa : rightS a with
  | false =>
    have HQ : Hid _ := hqa
    clear hqa
    go_wp2
    go_ret2
    have hm := HM.out
    unfold mergeT at hm
    rw [if_neg (by rw [HQ.out]; simp)] at hm
    rw [hm]
    exact MrgP.nil T1.out
  | true =>
  have HQA : Hid _ := hqa
  clear hqa
  go_wp2_with fail
  refine (HRB.out _ T1.out).out.mono ?_
  rintro e w2 ⟨rfl, t2⟩
  have T2 : Hid (Touch w w2 []) := T1.out.trans t2 (by simp)
  clear t2 T1 HRB
  cases hqb : rightS b with
  | false =>
    have HQ : Hid _ := hqb
    clear hqb
    go_wp2
    go_ret2
    have hm := HM.out
    unfold mergeT at hm
    rw [if_neg (by rw [HQ.out]; simp)] at hm
    rw [hm]
    exact MrgP.nil T2.out
  | true =>
  have HQB : Hid _ := hqb
  clear hqb
  go_wp2_with fail
  refine (HAA.out _ (low_right HQA.out) T2.out).out.mono ?_
  rintro e w3 ⟨rfl, t3⟩
  have T3 : Hid (Touch w w3 []) := T2.out.trans t3 (by simp)
  have hx := abvS_range (low_right HQA.out)
  have hy := abvS_range (low_right HQB.out)
  have HM1 : Hid (r = if 400 < NA + NB ∨ 64 < abvS a + abvS b then (4, []) else (0, a ++ b.map (shE (abvS a)))) := by
    have hm := HM.out
    unfold mergeT at hm
    rw [if_pos ⟨HQA.out, HQB.out⟩] at hm
    rw [HNA.out, HNB.out]
    exact hm
  have HLB : Hid (Low b) := low_right HQB.out
  have HAB2 : Hid (∀ W, Touch w W [] → HidC Tryd.prog 19 #[.slice bo NB cb] W fun e w' => e = .returned (.int .i64 (abvS b)) ∧ Touch W w' []) := fun W t => HAB.out W HLB.out t
  clear t3 T2 HAA HQA HQB HM HAB
  generalize abvS a = x at *
  generalize abvS b = y at *
  by_cases h4 : 400 < NA + NB
  · have h4' : (400 : Int) < (NA : Int) + NB := by omega
    go_wp2
    go_ret2
    have hm := HM1.out
    rw [if_pos (.inl h4)] at hm
    rw [hm]
    exact MrgP.nil T3.out
  have h4' : ¬ (400 : Int) < (NA : Int) + NB := by omega
  go_wp2_with fail
  refine (HAB2.out _ T3.out).out.mono ?_
  rintro e w4 ⟨rfl, t4⟩
  have T4 : Hid (Touch w w4 []) := T3.out.trans t4 (by simp)
  clear t4 T3 HAB2
  by_cases h5 : 64 < x + y
  · go_wp2
    go_ret2
    have hm := HM1.out
    rw [if_pos (.inr h5)] at hm
    rw [hm]
    exact MrgP.nil T4.out
  have HM2 : Hid (r = (0, a ++ b.map (shE x))) := by
    show _ = _
    rw [HM1.out, if_neg (fun h => h.elim h4 h5)]
  obtain ⟨i0, hi, hz0, hz1, hz2⟩ := info_parts Tryd.info_ev
  obtain ⟨w5, hmk, hown5, hgr5⟩ := run_make_own (P := Tryd.prog) w4 w.heap.size 22 43 i0 _ 4 Tryd.underlying22 hi hz0 hz1 .i64 .i64 (NA + NB) (by rw [hz2]; omega) (by unfold maxLen; omega) T4.out.size
  have t5 : Touch w w5 [] := T4.out.grown hgr5 (by intro q hq; cases hq)
  obtain ⟨v6, w6, hap, hown6, hgr6, _⟩ := run_app (cells := EvD.cells) 22 22 43 i0 _ 4 32 Tryd.underlying22 hi hz0 hz1 hz2 rfl (by decide) (fun _ => rfl) ev_one hown5 (SRow.keep RA.out t5 (by simp)) (by rw [← HNA.out]; omega) (by decide) t5.size
  rw [← HNA.out] at hap
  have T6 : Hid (Touch w w6 []) := t5.grown hgr6 (fun q hq => .inr (by simp [Value.ownBlock] at hq; have := T4.out.size; omega))
  have O6 : Hid (evOwn w6 w.heap.size v6 a) := by
    have := hown6
    rw [Nat.zero_add, List.nil_append] at this
    exact this
  have hmk' : (Instr.makeSlice 22 (.int .i64 0) (.int .i64 ((NA : Int) + NB))).run Tryd.prog w4 = .ok (.slice (some ⟨w4.heap.size, 0, none⟩) 0 (NA + NB)) w5 := hmk
  clear hmk hown5 hgr5 t5 hown6 hgr6
  go_wp2_with (at_builtin; refine Lib.wpList_append_run _ rfl _ _ _ _ rfl _ _ rfl rfl _ _ hap ?_)
  clear hap hmk'
  clear HM1 hy
  go_loopw [7, 44] (fun v i wr => ∃ k : Nat, i = .int .i64 k ∧ k ≤ NB ∧ evOwn wr w.heap.size v (a ++ (b.take k).map (shE x)) ∧ Touch w wr []) (fun _ i _ => NB - (intOf i).toNat)
  case atStart => exact ⟨0, rfl, Nat.zero_le _, by simpa using O6.out, T6.out⟩
  case round =>
    obtain ⟨k, rfl, hk, hrow, hT⟩ := hrel
    have HT : Hid _ := hT
    have hts := hT.size
    by_cases hlt : k < NB
    · have h1 : (k : Int) < NB := by omega
      have h0 : (0 : Int) ≤ k := by omega
      have hkl : k < b.length := by rw [← HNB.out]; exact hlt
      obtain ⟨g, off, rfl, hg, m0, m1, m2, m3⟩ := RB.out.one k hkl
      have d0 := (hT.cell (p := ⟨g, off + k * 4, none⟩) hg (by simp)).trans m0
      have d1 := (hT.cell (p := ⟨g, off + k * 4 + 1, none⟩) hg (by simp)).trans m1
      have d2 := (hT.cell (p := ⟨g, off + k * 4 + 2, none⟩) hg (by simp)).trans m2
      have d3 := (hT.cell (p := ⟨g, off + k * 4 + 3, none⟩) hg (by simp)).trans m3
      have hre := HLB.out _ (List.getElem_mem hkl)
      have hsn := map_snoc (n := x) hkl
      have hle : (a ++ (b.take k).map (shE x)).length ≤ 400 := by rw [List.length_append, List.length_map, List.length_take, ← HNA.out, ← HNB.out]; omega
      obtain ⟨e, he⟩ : ∃ e, e = b[k] := ⟨_, rfl⟩
      rw [← he] at d0 d1 d2 d3 hsn hre
      have HSN : Hid (a ++ (b.take (k + 1)).map (shE x) = (a ++ (b.take k).map (shE x)) ++ [shE x e]) := by
        show _ = _
        rw [hsn, List.append_assoc]
      have hw1 : IntKind.i64.wrap (e.a + x) = e.a + x := by rw [IntKind.wrap_i64]; omega
      clear m0 m1 m2 m3 he hT hsn hre
      generalize a ++ (b.take k).map (shE x) = cs at *
      unfold evOwn at hrow
      have hnew : ∀ j u, [Value.int .u8 e.k, .int .i64 (e.a + x), .int .i64 e.t, .int .u64 e.v][j]? = some u → ((wr.alloc (.cells #[.int .u8 e.k, .int .i64 (e.a + x), .int .i64 e.t, .int .u64 e.v] 43)).alloc (.cells #[.int .u8 e.k, .int .i64 (e.a + x), .int .i64 e.t, .int .u64 e.v] 43)).cell? (Addr.add ⟨wr.heap.size + 1, 0, none⟩ j) = some u := by
        have := World.news_of_block (cs := #[.int .u8 e.k, .int .i64 (e.a + x), .int .i64 e.t, .int .u64 e.v]) (t := 43) (fr := (0, 0)) (heap_alloc_new (wr.alloc (.cells #[.int .u8 e.k, .int .i64 (e.a + x), .int .i64 e.t, .int .u64 e.v] 43)) (.cells #[.int .u8 e.k, .int .i64 (e.a + x), .int .i64 e.t, .int .u64 e.v] 43))
        simpa using this
      have TS : Touch wr (wr.alloc (.cells #[.int .u8 e.k, .int .i64 (e.a + x), .int .i64 e.t, .int .u64 e.v] 43)) [] := (Touch.refl wr []).alloc _
      have hrow2 := (ownsRow_touch hrow TS (by simp)).alloc (.cells #[.int .u8 e.k, .int .i64 (e.a + x), .int .i64 e.t, .int .u64 e.v] 43)
      have HT2 : Hid (Touch w ((wr.alloc (.cells #[.int .u8 e.k, .int .i64 (e.a + x), .int .i64 e.t, .int .u64 e.v] 43)).alloc (.cells #[.int .u8 e.k, .int .i64 (e.a + x), .int .i64 e.t, .int .u64 e.v] 43)) []) := (HT.out.trans TS (by simp)).alloc _
      have hge : ∀ q, u7.ownBlock = some q → w.heap.size ≤ q := fun q hq => by
        rcases hrow.2 with ⟨e, _⟩ | ⟨g, cap, cur, e, hbg, _⟩
        · rw [e] at hq; simp [Value.ownBlock] at hq
        · rw [e] at hq; simp [Value.ownBlock] at hq; omega
      have HGE : Hid _ := hge
      have hsz2 : w.heap.size ≤ ((wr.alloc (.cells #[.int .u8 e.k, .int .i64 (e.a + x), .int .i64 e.t, .int .u64 e.v] 43)).alloc (.cells #[.int .u8 e.k, .int .i64 (e.a + x), .int .i64 e.t, .int .u64 e.v] 43)).heap.size := HT2.out.size
      clear TS hge
      go_wp2_with (at_builtin; refine wpList_append_own _ rfl _ _ 22 rfl w.heap.size 43 i0 _ 4 32 Tryd.underlying22 hi hz0 hz1 hz2 rfl (by decide) _ _ _ rfl hrow2 ⟨wr.heap.size + 1, 0, none⟩ 1 1 [.int .u8 e.k, .int .i64 (e.a + x), .int .i64 e.t, .int .u64 e.v] rfl rfl hnew (ev_one (shE x e)) (by unfold maxLen; omega) (by omega) hsz2 ?_)
      intro v' w7 hown' hgrow _
      have t7 : Touch w w7 [] := HT2.out.grown hgrow (fun q hq => .inr (HGE.out q hq))
      have HR7 : Hid (evOwn w7 w.heap.size v' (a ++ (b.take (k + 1)).map (shE x))) := by
        show w7.ownsRow _ _ _ _ _ _
        rw [HSN.out, List.length_append, List.flatMap_append]
        simpa [EvD.cells, shE] using hown'
      clear hown' hgrow hrow hrow2 hnew d0 d1 d2 d3 hsz2 HT2 HGE
      go_wp2
      go_roundw
      case rel => exact ⟨k + 1, by go_num, by omega, HR7.out, t7⟩
      case measure => simp [intOf]; omega
    · obtain rfl : k = NB := by omega
      have hall : b.take k = b := by rw [HNB.out, List.take_length]
      rw [hall] at hrow
      obtain ⟨mo, mc, rfl⟩ := owns_slice hrow
      have HFIN : Hid (MrgP w r (.returned (.tuple #[.slice mo (a ++ b.map (shE x)).length mc, .int .i64 0])) wr) := by
        rw [HM2.out]
        exact ⟨mo, mc, rfl, srow_of (cells := EvD.cells) (fun _ => rfl) hrow, HT.out⟩
      clear hrow hT hall
      go_wp2
      go_ret2
      exact HFIN.out

set_option maxRecDepth 100000 in
set_option maxHeartbeats 2000000 in
theorem rtmerge_any {w : World} {ao bo : Option Addr} {ca cb : Nat} {a b : List EvD} (ra : EvRow w (.slice ao a.length ca) a) (rb : EvRow w (.slice bo b.length cb) b) (la : a.length ≤ 1000) (lb : b.length ≤ 1000) (wa : ∀ e ∈ a, e.Wf) (wb : ∀ e ∈ b, e.Wf) :
    Calls Tryd.prog 8 #[.slice ao a.length ca, .slice bo b.length cb] w (MrgP w (mergeT a b)) := by
  have HRA : Hid (∀ W, Touch w W [] → HidC Tryd.prog 20 #[.slice ao a.length ca] W fun e w' => e = .returned (.bool (rightS a)) ∧ Touch W w' []) := fun W t => ⟨rhright_any (SRow.keep ra t (by simp)) la wa⟩
  have HRB : Hid (∀ W, Touch w W [] → HidC Tryd.prog 20 #[.slice bo b.length cb] W fun e w' => e = .returned (.bool (rightS b)) ∧ Touch W w' []) := fun W t => ⟨rhright_any (SRow.keep rb t (by simp)) lb wb⟩
  have HAA : Hid (∀ W, Low a → Touch w W [] → HidC Tryd.prog 21 #[.slice ao a.length ca] W fun e w' => e = .returned (.int .i64 (abvS a)) ∧ Touch W w' []) := fun W h t => ⟨rabove_any (SRow.keep ra t (by simp)) la h⟩
  have HAB : Hid (∀ W, Low b → Touch w W [] → HidC Tryd.prog 21 #[.slice bo b.length cb] W fun e w' => e = .returned (.int .i64 (abvS b)) ∧ Touch W w' []) := fun W h t => ⟨rabove_any (SRow.keep rb t (by simp)) lb h⟩
  have RA : Hid (EvRow w (.slice ao a.length ca) a) := ra
  have RB : Hid (EvRow w (.slice bo b.length cb) b) := rb
  obtain ⟨NA, hNA⟩ : ∃ N, N = a.length := ⟨_, rfl⟩
  obtain ⟨NB, hNB⟩ : ∃ N, N = b.length := ⟨_, rfl⟩
  have HNA : Hid (NA = a.length) := hNA
  have HNB : Hid (NB = b.length) := hNB
  obtain ⟨r, hr⟩ : ∃ r, r = mergeT a b := ⟨_, rfl⟩
  have HM : Hid (r = mergeT a b) := hr
  rw [← hr]
  rw [← hNA] at la HRA HAA
  rw [← hNB] at lb HRB HAB
  rw [← hNA, ← hNB]
  clear ra rb hNA hNB hr wa wb
  have T0 : Hid (Touch w w []) := Touch.refl _ _
  go_enter Tryd.func8, Tryd.ntmps8
  go_wp2_with fail
  refine (HRA.out _ T0.out).out.mono ?_
  rintro e w1 ⟨rfl, t1⟩
  have T1 : Hid (Touch w w1 []) := t1
  clear t1 T0 HRA
  cases hqa : rightS a with
  | false =>
    have HQ : Hid _ := hqa
    clear hqa
    go_wp2
    go_ret2
    have hm := HM.out
    unfold mergeT at hm
    rw [if_neg (by rw [HQ.out]; simp)] at hm
    rw [hm]
    exact MrgP.nil T1.out
  | true =>
  have HQA : Hid _ := hqa
  clear hqa
  go_wp2_with fail
  refine (HRB.out _ T1.out).out.mono ?_
  rintro e w2 ⟨rfl, t2⟩
  have T2 : Hid (Touch w w2 []) := T1.out.trans t2 (by simp)
  clear t2 T1 HRB
  cases hqb : rightS b with
  | false =>
    have HQ : Hid _ := hqb
    clear hqb
    go_wp2
    go_ret2
    have hm := HM.out
    unfold mergeT at hm
    rw [if_neg (by rw [HQ.out]; simp)] at hm
    rw [hm]
    exact MrgP.nil T2.out
  | true =>
  have HQB : Hid _ := hqb
  clear hqb
  go_wp2_with fail
  refine (HAA.out _ (low_right HQA.out) T2.out).out.mono ?_
  rintro e w3 ⟨rfl, t3⟩
  have T3 : Hid (Touch w w3 []) := T2.out.trans t3 (by simp)
  have hx := abvS_range (low_right HQA.out)
  have hy := abvS_range (low_right HQB.out)
  have HM1 : Hid (r = if 400 < NA + NB ∨ 64 < abvS a + abvS b then (4, []) else (0, a ++ b.map (shE (abvS a)))) := by
    have hm := HM.out
    unfold mergeT at hm
    rw [if_pos ⟨HQA.out, HQB.out⟩] at hm
    rw [HNA.out, HNB.out]
    exact hm
  have HLB : Hid (Low b) := low_right HQB.out
  have HAB2 : Hid (∀ W, Touch w W [] → HidC Tryd.prog 21 #[.slice bo NB cb] W fun e w' => e = .returned (.int .i64 (abvS b)) ∧ Touch W w' []) := fun W t => HAB.out W HLB.out t
  clear t3 T2 HAA HQA HQB HM HAB
  generalize abvS a = x at *
  generalize abvS b = y at *
  by_cases h4 : 400 < NA + NB
  · have h4' : (400 : Int) < (NA : Int) + NB := by omega
    go_wp2
    go_ret2
    have hm := HM1.out
    rw [if_pos (.inl h4)] at hm
    rw [hm]
    exact MrgP.nil T3.out
  have h4' : ¬ (400 : Int) < (NA : Int) + NB := by omega
  go_wp2_with fail
  refine (HAB2.out _ T3.out).out.mono ?_
  rintro e w4 ⟨rfl, t4⟩
  have T4 : Hid (Touch w w4 []) := T3.out.trans t4 (by simp)
  clear t4 T3 HAB2
  by_cases h5 : 64 < x + y
  · go_wp2
    go_ret2
    have hm := HM1.out
    rw [if_pos (.inr h5)] at hm
    rw [hm]
    exact MrgP.nil T4.out
  have HM2 : Hid (r = (0, a ++ b.map (shE x))) := by
    show _ = _
    rw [HM1.out, if_neg (fun h => h.elim h4 h5)]
  obtain ⟨i0, hi, hz0, hz1, hz2⟩ := info_parts Tryd.info_ev
  have hown5 := empty_row w4 43 4
  have t5 : Touch w (w4.alloc (.cells #[] 43)) [] := T4.out.alloc _
  obtain ⟨v6, w6, hap, hown6, hgr6, _⟩ := run_app (cells := EvD.cells) 22 22 43 i0 _ 4 32 Tryd.underlying22 hi hz0 hz1 hz2 rfl (by decide) (fun _ => rfl) ev_one hown5 (SRow.keep RA.out t5 (by simp)) (by rw [← HNA.out]; omega) (by decide) (by simp)
  rw [← HNA.out] at hap
  have T6 : Hid (Touch w w6 []) := t5.grown hgr6 (fun q hq => .inr (by simp [Value.ownBlock] at hq; have := T4.out.size; omega))
  have O6 : Hid (evOwn w6 w.heap.size v6 a) := by
    have := hown6
    rw [Nat.zero_add, List.nil_append] at this
    exact own_low this T4.out.size
  clear hown5 t5 hown6 hgr6
  go_wp2_with (at_builtin; refine Lib.wpList_append_run _ rfl _ _ _ _ rfl _ _ rfl rfl _ _ hap ?_)
  clear hap
  clear HM1 hy
  go_loopw [7, 8] (fun v i wr => ∃ k : Nat, i = .int .i64 k ∧ k ≤ NB ∧ evOwn wr w.heap.size v (a ++ (b.take k).map (shE x)) ∧ Touch w wr []) (fun _ i _ => NB - (intOf i).toNat)
  case atStart => exact ⟨0, rfl, Nat.zero_le _, by simpa using O6.out, T6.out⟩
  case round =>
    obtain ⟨k, rfl, hk, hrow, hT⟩ := hrel
    have HT : Hid _ := hT
    have hts := hT.size
    by_cases hlt : k < NB
    · have h1 : (k : Int) < NB := by omega
      have h0 : (0 : Int) ≤ k := by omega
      have hkl : k < b.length := by rw [← HNB.out]; exact hlt
      obtain ⟨g, off, rfl, hg, m0, m1, m2, m3⟩ := RB.out.one k hkl
      have d0 := (hT.cell (p := ⟨g, off + k * 4, none⟩) hg (by simp)).trans m0
      have d1 := (hT.cell (p := ⟨g, off + k * 4 + 1, none⟩) hg (by simp)).trans m1
      have d2 := (hT.cell (p := ⟨g, off + k * 4 + 2, none⟩) hg (by simp)).trans m2
      have d3 := (hT.cell (p := ⟨g, off + k * 4 + 3, none⟩) hg (by simp)).trans m3
      have hre := HLB.out _ (List.getElem_mem hkl)
      have hsn := map_snoc (n := x) hkl
      have hle : (a ++ (b.take k).map (shE x)).length ≤ 400 := by rw [List.length_append, List.length_map, List.length_take, ← HNA.out, ← HNB.out]; omega
      obtain ⟨e, he⟩ : ∃ e, e = b[k] := ⟨_, rfl⟩
      rw [← he] at d0 d1 d2 d3 hsn hre
      have HSN : Hid (a ++ (b.take (k + 1)).map (shE x) = (a ++ (b.take k).map (shE x)) ++ [shE x e]) := by
        show _ = _
        rw [hsn, List.append_assoc]
      have hw1 : IntKind.i64.wrap (e.a + x) = e.a + x := by rw [IntKind.wrap_i64]; omega
      clear m0 m1 m2 m3 he hT hsn hre
      generalize a ++ (b.take k).map (shE x) = cs at *
      unfold evOwn at hrow
      have hnew : ∀ j u, [Value.int .u8 e.k, .int .i64 (e.a + x), .int .i64 e.t, .int .u64 e.v][j]? = some u → ((wr.alloc (.cells #[.int .u8 e.k, .int .i64 (e.a + x), .int .i64 e.t, .int .u64 e.v] 43)).alloc (.cells #[.int .u8 e.k, .int .i64 (e.a + x), .int .i64 e.t, .int .u64 e.v] 43)).cell? (Addr.add ⟨wr.heap.size + 1, 0, none⟩ j) = some u := by
        have := World.news_of_block (cs := #[.int .u8 e.k, .int .i64 (e.a + x), .int .i64 e.t, .int .u64 e.v]) (t := 43) (fr := (0, 0)) (heap_alloc_new (wr.alloc (.cells #[.int .u8 e.k, .int .i64 (e.a + x), .int .i64 e.t, .int .u64 e.v] 43)) (.cells #[.int .u8 e.k, .int .i64 (e.a + x), .int .i64 e.t, .int .u64 e.v] 43))
        simpa using this
      have TS : Touch wr (wr.alloc (.cells #[.int .u8 e.k, .int .i64 (e.a + x), .int .i64 e.t, .int .u64 e.v] 43)) [] := (Touch.refl wr []).alloc _
      have hrow2 := (ownsRow_touch hrow TS (by simp)).alloc (.cells #[.int .u8 e.k, .int .i64 (e.a + x), .int .i64 e.t, .int .u64 e.v] 43)
      have HT2 : Hid (Touch w ((wr.alloc (.cells #[.int .u8 e.k, .int .i64 (e.a + x), .int .i64 e.t, .int .u64 e.v] 43)).alloc (.cells #[.int .u8 e.k, .int .i64 (e.a + x), .int .i64 e.t, .int .u64 e.v] 43)) []) := (HT.out.trans TS (by simp)).alloc _
      have hge : ∀ q, u7.ownBlock = some q → w.heap.size ≤ q := fun q hq => by
        rcases hrow.2 with ⟨e, _⟩ | ⟨g, cap, cur, e, hbg, _⟩
        · rw [e] at hq; simp [Value.ownBlock] at hq
        · rw [e] at hq; simp [Value.ownBlock] at hq; omega
      have HGE : Hid _ := hge
      have hsz2 : w.heap.size ≤ ((wr.alloc (.cells #[.int .u8 e.k, .int .i64 (e.a + x), .int .i64 e.t, .int .u64 e.v] 43)).alloc (.cells #[.int .u8 e.k, .int .i64 (e.a + x), .int .i64 e.t, .int .u64 e.v] 43)).heap.size := HT2.out.size
      clear TS hge
      go_wp2_with (at_builtin; refine wpList_append_own _ rfl _ _ 22 rfl w.heap.size 43 i0 _ 4 32 Tryd.underlying22 hi hz0 hz1 hz2 rfl (by decide) _ _ _ rfl hrow2 ⟨wr.heap.size + 1, 0, none⟩ 1 1 [.int .u8 e.k, .int .i64 (e.a + x), .int .i64 e.t, .int .u64 e.v] rfl rfl hnew (ev_one (shE x e)) (by unfold maxLen; omega) (by omega) hsz2 ?_)
      intro v' w7 hown' hgrow _
      have t7 : Touch w w7 [] := HT2.out.grown hgrow (fun q hq => .inr (HGE.out q hq))
      have HR7 : Hid (evOwn w7 w.heap.size v' (a ++ (b.take (k + 1)).map (shE x))) := by
        show w7.ownsRow _ _ _ _ _ _
        rw [HSN.out, List.length_append, List.flatMap_append]
        simpa [EvD.cells, shE] using hown'
      clear hown' hgrow hrow hrow2 hnew d0 d1 d2 d3 hsz2 HT2 HGE
      go_wp2
      go_roundw
      case rel => exact ⟨k + 1, by go_num, by omega, HR7.out, t7⟩
      case measure => simp [intOf]; omega
    · obtain rfl : k = NB := by omega
      have hall : b.take k = b := by rw [HNB.out, List.take_length]
      rw [hall] at hrow
      obtain ⟨mo, mc, rfl⟩ := owns_slice hrow
      have HFIN : Hid (MrgP w r (.returned (.tuple #[.slice mo (a ++ b.map (shE x)).length mc, .int .i64 0])) wr) := by
        rw [HM2.out]
        exact ⟨mo, mc, rfl, srow_of (cells := EvD.cells) (fun _ => rfl) hrow, HT.out⟩
      clear hrow hT hall
      go_wp2
      go_ret2
      exact HFIN.out

end Go.Proofs.YtmiaibpdeofokaaDoor

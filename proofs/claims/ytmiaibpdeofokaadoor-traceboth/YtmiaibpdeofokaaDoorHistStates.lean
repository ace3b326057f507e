/-
  package history: Attempts, StateOf BY THEIR CONTRACTS.
-/
import Derived.Test.YtmiaibpdeofokaaDoorHistLists
namespace Go.Proofs.YtmiaibpdeofokaaDoor
set_option linter.unusedVariables false
set_option linter.unusedSimpArgs false
open Go.RowKit Go.Maps
attribute [local go_sem] Oper.semAt_some

/-! ### Plain data -/
def attStep (acc : List Int) (e : EvD) : List Int := if e.k = 1 ∧ ¬ e.a ∈ acc then acc ++ [e.a] else acc
def attS (l : List EvD) : List Int := l.foldl attStep []
theorem attS_snoc {l : List EvD} {k : Nat} (hk : k < l.length) : attS (l.take (k + 1)) = attStep (attS (l.take k)) l[k] := by
  unfold attS
  rw [List.take_succ_eq_append_getElem hk, List.foldl_append]
  rfl
theorem att_le (l : List EvD) : ∀ acc : List Int, (l.foldl attStep acc).length ≤ acc.length + l.length := by
  induction l with
  | nil => intro acc; simp
  | cons e l ih =>
    intro acc
    rw [List.foldl_cons]
    have h1 := ih (attStep acc e)
    have h2 : (attStep acc e).length ≤ acc.length + 1 := by unfold attStep; split <;> simp
    simp only [List.length_cons]
    omega
theorem attS_le (l : List EvD) : (attS l).length ≤ l.length := by have := att_le l []; simpa [attS] using this
theorem att_wf (l : List EvD) (h : ∀ e ∈ l, e.Wf) : ∀ acc : List Int, (∀ a ∈ acc, W64 a) → ∀ a ∈ l.foldl attStep acc, W64 a := by
  induction l with
  | nil => intro acc ha; exact ha
  | cons e l ih =>
    intro acc ha
    rw [List.foldl_cons]
    refine ih (fun e' he' => h e' (List.mem_cons_of_mem _ he')) _ ?_
    intro a hm
    unfold attStep at hm
    split at hm
    · rw [List.mem_append] at hm
      rcases hm with hm | hm
      · exact ha a hm
      · simp at hm; rw [hm]; exact (h e (by simp)).a
    · exact ha a hm
theorem attS_wf {l : List EvD} (h : ∀ e ∈ l, e.Wf) : ∀ a ∈ attS l, W64 a := att_wf l h [] (by simp)
def setF (acc : List Int) : Int → Option Value := fun x => if x ∈ acc then some (.agg #[]) else none
theorem setF_snoc (acc : List Int) (a : Int) : updF (setF acc) a (.agg #[]) = setF (acc ++ [a]) := by
  funext x
  unfold updF setF
  by_cases h : x = a
  · simp [h]
  · simp [h]
theorem MapF.mono {w : World} {b n m : Nat} {F : Int → Option Value} (h : MapF w b n F) (hn : n ≤ m) : MapF w b m F := by
  obtain ⟨D, hD, r⟩ := h; exact ⟨D, hD.mono hn, r⟩
abbrev intOwn (w : World) (B : Nat) (v : Value) (l : List Int) : Prop := w.ownsRow B 3 1 v l.length (l.map (Value.int .i64))

set_option maxRecDepth 100000 in
set_option maxHeartbeats 2000000 in
theorem attempts_any {w : World} {ao : Option Addr} {cap : Nat} {l : List EvD} (hr : EvRow w (.slice ao l.length cap) l) (hl : l.length ≤ 1000) (hwf : ∀ e ∈ l, e.Wf) :
    Calls Tryd.prog 12 #[.slice ao l.length cap] w fun x w' => ∃ v, x = .returned v ∧ intOwn w' w.heap.size v (attS l) ∧ Touch w w' [] := by
  have hmm := @run_makeMap Tryd.prog
  obtain ⟨N, hN⟩ : ∃ N, N = l.length := ⟨_, rfl⟩
  have HN : Hid (N = l.length) := hN
  have HR : Hid (EvRow w (.slice ao l.length cap) l) := hr
  have HW : Hid _ := hwf
  obtain ⟨i0, hi, hz0, hz1, hz2⟩ := info_parts Tryd.info_int
  rw [← hN] at hl ⊢
  have HM0 : Hid (MapF (w.alloc (.map #[] 0)) w.heap.size 0 (fun _ => none)) := MapF.made w
  have HT0 : Hid (Touch w (w.alloc (.map #[] 0)) []) := (Touch.refl w []).alloc _
  clear hN hr hwf
  go_enter Tryd.func12, Tryd.ntmps12
  go_wp2_with fail
  go_loopw [3, 12] (fun v i wr => ∃ k : Nat, i = .int .i64 k ∧ k ≤ N ∧ intOwn wr w.heap.size v (attS (l.take k)) ∧ MapF wr w.heap.size k (setF (attS (l.take k))) ∧ Touch w wr []) (fun _ i _ => N - (intOf i).toNat)
  case atStart => exact ⟨0, rfl, Nat.zero_le _, World.ownsRow_nil _ _ _ _, HM0.out, HT0.out⟩
  case round =>
    obtain ⟨k, rfl, hk, hrow, hmp, hT⟩ := hrel
    have HT : Hid _ := hT
    have hts := hT.size
    by_cases hlt : k < N
    ·
      have h1 : (k : Int) < N := by omega
      have h0 : (0 : Int) ≤ k := by omega
      have hkl : k < l.length := by rw [← HN.out]; exact hlt
      obtain ⟨g, off, rfl, hg, m0, m1, m2, m3⟩ := HR.out.one k hkl
      have d0 := (hT.cell (p := ⟨g, off + k * 4, none⟩) hg (by simp)).trans m0
      have d1 := (hT.cell (p := ⟨g, off + k * 4 + 1, none⟩) hg (by simp)).trans m1
      have d2 := (hT.cell (p := ⟨g, off + k * 4 + 2, none⟩) hg (by simp)).trans m2
      have d3 := (hT.cell (p := ⟨g, off + k * 4 + 3, none⟩) hg (by simp)).trans m3
      have hwe := HW.out _ (List.getElem_mem hkl)
      have hsn := attS_snoc hkl
      have hle := Nat.le_trans (attS_le (l.take k)) (take_le' l k)
      obtain ⟨e, he⟩ : ∃ e, e = l[k] := ⟨_, rfl⟩
      rw [← he] at d0 d1 d2 d3 hwe hsn
      have T1 : Touch wr (wr.alloc e.obj) [] := (Touch.refl wr []).alloc _
      have hlk := (hmp.touch T1 (by simp)).lookOk Tryd.underlying52 (z := .agg #[]) (by kernel_rfl) hwe.a
      have HSN : Hid _ := hsn
      have HT1 : Hid _ := T1
      have HMP : Hid (MapF wr w.heap.size k (setF (attS (l.take k)))) := hmp
      clear m0 m1 m2 m3 he hT hsn hmp T1
      generalize hacc : attS (l.take k) = acc at *
      clear hacc
      by_cases hin : e.a ∈ acc
      · have e1 : setF acc e.a = some (.agg #[]) := by simp [setF, hin]
        rw [e1] at hlk
        have HR2 : Hid (intOwn ((wr.alloc e.obj).alloc (.cells #[] 53)) w.heap.size u3 (attS (l.take (k + 1)))) := by
          rw [HSN.out, attStep, if_neg (fun h => h.2 hin)]; exact (hrow.alloc _).alloc _
        have HM2 : Hid (MapF ((wr.alloc e.obj).alloc (.cells #[] 53)) w.heap.size (k + 1) (setF (attS (l.take (k + 1))))) := by
          rw [HSN.out, attStep, if_neg (fun h => h.2 hin)]
          exact (HMP.out.touch ((HT1.out).alloc _) (by simp)).mono (Nat.le_succ _)
        clear hin e1
        simp only [Option.getD_some, Option.isSome_some] at hlk
        have HT2 : Hid (Touch w ((wr.alloc e.obj).alloc (.cells #[] 53)) []) := (HT.out.trans HT1.out (by simp)).alloc _
        go_wp2
        go_roundw
        case rel => exact ⟨k + 1, by go_num, by omega, HR2.out, HM2.out, HT2.out⟩
        case measure => simp [intOf]; omega
      · have e1 : setF acc e.a = none := by simp [setF, hin]
        rw [e1] at hlk
        simp only [Option.getD_none, Option.isSome_none] at hlk
        by_cases hk1 : e.k = 1
        · have p1 : (e.k == 1) = true := by simpa using hk1
          have hT2 : Touch wr ((wr.alloc e.obj).alloc (.cells #[] 53)) [] := HT1.out.alloc _
          obtain ⟨w2, hst, hm2, hg2⟩ := (HMP.out.touch hT2 (by simp)).store Tryd.underlying52 (by unfold maxLen; omega) hwe.a (.agg #[])
          rw [setF_snoc] at hm2
          have hrow2 : w2.ownsRow w.heap.size 3 1 u3 acc.length (acc.map (Value.int .i64)) := by
            refine ownsRow_touch ((hrow.alloc _).alloc _) ((Touch.refl _ [w.heap.size]).grown hg2 (by intro q hq; cases hq; exact .inl (by simp))) (fun q hq hs => ?_)
            simp at hs
            subst hs
            rcases hrow.2 with ⟨e2, _⟩ | ⟨g', cap', cur, e2, hbg, hgo, _⟩
            · rw [e2] at hq; simp [Value.ownBlock] at hq
            · rw [e2] at hq
              simp [Value.ownBlock] at hq
              subst hq
              obtain ⟨es, c, he⟩ := HMP.out.isMapObj
              rw [hgo] at he
              cases he
          have t02 : Touch w w2 [] := (HT.out.trans hT2 (by simp)).grown hg2 (by intro q hq; cases hq; exact .inr (Nat.le_refl _))
          have HM2 : Hid (MapF w2 w.heap.size (k + 1) (setF (acc ++ [e.a]))) := hm2
          have hml := HMP.out.lt
          have hc2 : w2.cell? ⟨wr.heap.size, 1, none⟩ = some (.int .i64 e.a) := by
            have tg : Touch ((wr.alloc e.obj).alloc (.cells #[] 53)) w2 [w.heap.size] := (Touch.refl _ _).grown hg2 (by intro q hq; cases hq; exact .inl (by simp))
            have hb := (tg.block wr.heap.size (by simp; omega) (by simp; omega)).trans ((heap_alloc_old _ _ (by simp)).trans (heap_alloc_new wr e.obj))
            simp [World.cell?, hb, EvD.obj]
          have HT02 : Hid _ := t02
          have hs2 := t02.size
          have hnew : ∀ j u, [Value.int .i64 e.a][j]? = some u → (w2.alloc (.cells #[.int .i64 e.a] 3)).cell? (Addr.add ⟨w2.heap.size, 0, none⟩ j) = some u := World.news_of_block (cs := #[.int .i64 e.a]) (t := 3) (fr := (0, 0)) (heap_alloc_new w2 _)
          have HA : Hid (attS (l.take (k + 1)) = acc ++ [e.a]) := by show _ = _; rw [HSN.out, attStep, if_pos ⟨hk1, hin⟩]
          clear hm2 hg2 t02 hT2 hk1 e1 hin
          go_wp2_with (at_builtin; refine wpList_append_own _ rfl _ _ 32 rfl w.heap.size 3 i0 _ 1 8 Tryd.underlying32 hi hz0 hz1 hz2 rfl (by decide) _ _ _ rfl (hrow2.alloc _) ⟨w2.heap.size, 0, none⟩ 1 1 [.int .i64 e.a] rfl rfl hnew (by simp [Value.oneCell']) (by unfold maxLen; omega) (by omega) (by simp; omega) ?_)
          intro v' w3 hown' hgrow _
          have hbl : ∀ q, u3.ownBlock = some q → w.heap.size < q := by
            intro q hq
            rcases hrow2.2 with ⟨e, _⟩ | ⟨g, cap, cur, e, hbg, hgo, _⟩
            · rw [e] at hq; simp [Value.ownBlock] at hq
            · rw [e] at hq
              simp [Value.ownBlock] at hq
              subst hq
              rcases Nat.lt_or_ge w.heap.size g with h | h
              · exact h
              · obtain rfl : g = w.heap.size := by omega
                obtain ⟨es, c, he⟩ := HM2.out.isMapObj
                rw [hgo] at he
                cases he
          have t3 : Hid (Touch w w3 []) := (HT02.out.alloc _).grown hgrow (fun q hq => .inr (Nat.le_of_lt (hbl q hq)))
          have HM3 : Hid (MapF w3 w.heap.size (k + 1) (setF (acc ++ [e.a]))) := by
            refine HM2.out.touch (((Touch.refl w2 u3.ownBlock.toList).alloc _).grown hgrow (fun q hq => .inl (by simp [hq]))) (fun hs => ?_)
            have := hbl w.heap.size (by simpa using hs)
            omega
          have HR3 : Hid (intOwn w3 w.heap.size v' (attS (l.take (k + 1)))) := by
            show w3.ownsRow _ _ _ _ _ _
            rw [HA.out, List.length_append, List.map_append]
            simpa using hown'
          clear hown' hgrow hrow2 hnew hbl d0 d1 d2 d3
          go_wp2
          go_roundw
          case rel => exact ⟨k + 1, by go_num, by omega, HR3.out, by rw [HA.out]; exact HM3.out, t3.out⟩
          case measure => simp [intOf]; omega
        · have p1 : (e.k == 1) = false := by simpa using hk1
          have HR2 : Hid (intOwn ((wr.alloc e.obj).alloc (.cells #[] 53)) w.heap.size u3 (attS (l.take (k + 1)))) := by
            rw [HSN.out, attStep, if_neg (fun h => hk1 h.1)]; exact (hrow.alloc _).alloc _
          have HM2 : Hid (MapF ((wr.alloc e.obj).alloc (.cells #[] 53)) w.heap.size (k + 1) (setF (attS (l.take (k + 1))))) := by
            rw [HSN.out, attStep, if_neg (fun h => hk1 h.1)]
            exact (HMP.out.touch ((HT1.out).alloc _) (by simp)).mono (Nat.le_succ _)
          have HT2 : Hid (Touch w ((wr.alloc e.obj).alloc (.cells #[] 53)) []) := (HT.out.trans HT1.out (by simp)).alloc _
          clear hin e1 hk1
          go_wp2
          go_roundw
          case rel => exact ⟨k + 1, by go_num, by omega, HR2.out, HM2.out, HT2.out⟩
          case measure => simp [intOf]; omega
    · obtain rfl : k = N := by omega
      have hall : l.take k = l := by rw [HN.out, List.take_length]
      rw [hall] at hrow
      have HR2 : Hid (intOwn wr w.heap.size u3 (attS l)) := hrow
      clear hrow hT hall hmp
      go_wp2
      go_ret
      exact ⟨_, rfl, HR2.out, HT.out⟩

/-- A row of numbers that can be read. -/
theorem int_form {w : World} {B : Nat} {v : Value} {l : List Int} (h : intOwn w B v l) : ∃ ao cap, v = .slice ao l.length cap ∧ ∀ k (hk : k < l.length), ∃ g, ao = some ⟨g, 0, none⟩ ∧ g < w.heap.size ∧ w.cell? ⟨g, k, none⟩ = some (.int .i64 l[k]) := by
  rcases h.2 with ⟨e, h0⟩ | ⟨g, cap, cur, e, hb, hg, _⟩
  · exact ⟨none, 0, by rw [e, h0], fun k hk => by omega⟩
  · refine ⟨_, _, e, fun k hk => ⟨g, rfl, lt_of_heap hg, ?_⟩⟩
    subst e
    have := h.cells (g := g) rfl k (.int .i64 l[k]) (by simp [hk])
    rw [Addr.add_lit] at this
    simpa using this

/-! ### How far each is -/
def toldStep (x s : Int) (e : EvD) : Int := if e.a = x then reachS e.k s else s
def toldS (l : List EvD) (x : Int) : Int := l.foldl (toldStep x) 0
def stateS (l : List EvD) (x : Int) : Int := if x ∈ attS l then max (toldS l x) 1 else 0
theorem toldS_snoc {l : List EvD} {k : Nat} (hk : k < l.length) (x : Int) : toldS (l.take (k + 1)) x = toldStep x (toldS (l.take k) x) l[k] := by
  unfold toldS
  rw [List.take_succ_eq_append_getElem hk, List.foldl_append]
  rfl
theorem toldS_range (l : List EvD) (x : Int) : ∀ s : Int, 0 ≤ s ∧ s ≤ 4 → 0 ≤ l.foldl (toldStep x) s ∧ l.foldl (toldStep x) s ≤ 4 := by
  induction l with
  | nil => intro s h; exact h
  | cons e l ih =>
    intro s h
    rw [List.foldl_cons]
    refine ih _ ?_
    unfold toldStep reachS
    repeat' split
    all_goals omega

set_option maxRecDepth 100000 in
set_option maxHeartbeats 2000000 in
theorem states_any {w : World} {ao : Option Addr} {cap : Nat} {l : List EvD} (hr : EvRow w (.slice ao l.length cap) l) (hl : l.length ≤ 1000) (hwf : ∀ e ∈ l, e.Wf) :
    Calls Tryd.prog 25 #[.slice ao l.length cap] w fun x w' => ∃ mb n G, x = .returned (.map (some mb)) ∧ w.heap.size ≤ mb ∧ MapF w' mb n G ∧ (∀ y, (G y).getD (.int .u8 0) = .int .u8 (stateS l y)) ∧ Touch w w' [] := by
  have hmm := @run_makeMap Tryd.prog
  obtain ⟨N, hN⟩ : ∃ N, N = l.length := ⟨_, rfl⟩
  have HN : Hid (N = l.length) := hN
  have HR : Hid (EvRow w (.slice ao l.length cap) l) := hr
  have HW : Hid _ := hwf
  have HATT : Hid (∀ W, Touch w W [] → Calls Tryd.prog 12 #[.slice ao l.length cap] W fun x w' => ∃ v, x = .returned v ∧ intOwn w' W.heap.size v (attS l) ∧ Touch W w' []) := fun W t => attempts_any (SRow.keep hr t (by simp)) hl hwf
  rw [← hN] at hl HATT ⊢
  have HAW : Hid (∀ a ∈ attS l, W64 a) := attS_wf hwf
  have HM0 : Hid (MapF (w.alloc (.map #[] 0)) w.heap.size 0 (fun _ => none)) := MapF.made w
  have HT0 : Hid (Touch w (w.alloc (.map #[] 0)) []) := (Touch.refl w []).alloc _
  clear hN hr hwf
  go_enter Tryd.func25, Tryd.ntmps25
  go_wp2_with fail
  go_loopw [12] (fun i wr => ∃ k : Nat, i = .int .i64 k ∧ k ≤ N ∧ ∃ F, MapF wr w.heap.size k F ∧ (∀ y, (F y).getD (.int .u8 0) = .int .u8 (toldS (l.take k) y)) ∧ Touch w wr []) (fun i _ => N - (intOf i).toNat)
  case atStart => exact ⟨0, rfl, Nat.zero_le _, _, HM0.out, fun y => rfl, HT0.out⟩
  case round =>
    obtain ⟨k, rfl, hk, F, hmp, hF, hT⟩ := hrel
    have HT : Hid _ := hT
    have hts := hT.size
    by_cases hlt : k < N
    ·
      have h1 : (k : Int) < N := by omega
      have h0 : (0 : Int) ≤ k := by omega
      have hkl : k < l.length := by rw [← HN.out]; exact hlt
      obtain ⟨g, off, rfl, hg, m0, m1, m2, m3⟩ := HR.out.one k hkl
      have d0 := (hT.cell (p := ⟨g, off + k * 4, none⟩) hg (by simp)).trans m0
      have d1 := (hT.cell (p := ⟨g, off + k * 4 + 1, none⟩) hg (by simp)).trans m1
      have d2 := (hT.cell (p := ⟨g, off + k * 4 + 2, none⟩) hg (by simp)).trans m2
      have d3 := (hT.cell (p := ⟨g, off + k * 4 + 3, none⟩) hg (by simp)).trans m3
      have hwe := HW.out _ (List.getElem_mem hkl)
      have hsn := toldS_snoc hkl
      obtain ⟨e, he⟩ : ∃ e, e = l[k] := ⟨_, rfl⟩
      rw [← he] at d0 d1 d2 d3 hwe
      simp only [← he] at hsn
      have HT1 : Hid (Touch wr (wr.alloc e.obj) []) := (Touch.refl wr []).alloc _
      have HUP : Hid (∀ y, ((updF F e.a (.int .u8 (reachS e.k (toldS (l.take k) e.a)))) y).getD (.int .u8 0) = .int .u8 (toldS (l.take (k + 1)) y)) := fun y => by
        rw [hsn y]
        unfold toldStep
        by_cases hy : y = e.a
        · subst hy; rw [updF_same, if_pos rfl]; rfl
        · rw [updF_other F _ hy, if_neg (fun h => hy h.symm)]; exact hF y
      have HMP : Hid (MapF wr w.heap.size k F) := hmp
      have HFF : Hid _ := hF
      clear m0 m1 m2 m3 he hT hsn hmp hF
      · 
        go_wp2_with fail
        clear d0 d1 d2 d3
        have hE0 : (wr.alloc e.obj).heap[wr.heap.size]? = some e.obj := heap_alloc_new wr _
        have hkp : ∀ w' R, Touch (wr.alloc e.obj) w' R → wr.heap.size ∉ R → (w'.cell? ⟨wr.heap.size, 0, none⟩ = some (.int .u8 e.k) ∧ w'.cell? ⟨wr.heap.size, 1, none⟩ = some (.int .i64 e.a) ∧ w'.cell? ⟨wr.heap.size, 2, none⟩ = some (.int .i64 e.t) ∧ w'.cell? ⟨wr.heap.size, 3, none⟩ = some (.int .u64 e.v)) := fun w' R T hS => by
          have hb := (T.block _ (lt_of_heap hE0) hS).trans hE0
          simp [World.cell?, hb, EvD.obj]
        have hm0 : MapF (wr.alloc e.obj).drew w.heap.size k F := HMP.out.touch (HT1.out.drew) (by simp)
        have hlk := hm0.look Tryd.underlying55 (Tryd.zeroValue34 _) hwe.a
        rw [HFF.out e.a] at hlk
        have hre := reached_any e (toldS (l.take k) e.a) (wr.alloc e.obj).drew
        have HM0' : Hid (MapF (wr.alloc e.obj).drew w.heap.size k F) := hm0
        have hml := HMP.out.lt
        generalize toldS (l.take k) e.a = s0 at *
        clear hm0
        refine wp_region_held_drew (S := fun w' => w'.cell? ⟨wr.heap.size, 0, none⟩ = some (.int .u8 e.k) ∧ w'.cell? ⟨wr.heap.size, 1, none⟩ = some (.int .i64 e.a) ∧ w'.cell? ⟨wr.heap.size, 2, none⟩ = some (.int .i64 e.t) ∧ w'.cell? ⟨wr.heap.size, 3, none⟩ = some (.int .u64 e.v)) (by kernel_rfl) (hkp _ [] (Touch.refl _ _).drew (by simp)) (fun hHeld => ?_)
        refine wpAnyH_take (i := 0) (v := (.map (some w.heap.size))) rfl (by kernel_rfl) (by kernel_rfl) (by kernel_rfl) (fun _ _ _ h => h) (Or.inl ⟨by rfl, ?_⟩) hHeld ?_
        · intro w' hSw
          try simp only [Act.put, List.getElem_toArray, List.getElem_cons_succ, List.getElem_cons_zero, List.setIfInBounds_toArray, List.set_cons_zero, List.set_cons_succ]
          (obtain ⟨q0, q1, q2, q3⟩ := hSw; go_simp)
        try simp only [Act.put, List.getElem_toArray, List.getElem_cons_succ, List.getElem_cons_zero, List.setIfInBounds_toArray, List.set_cons_zero, List.set_cons_succ]
        refine wpAnyH_take (i := 1) (v := (.pointer (some ⟨wr.heap.size, 1, none⟩))) rfl (by kernel_rfl) (by kernel_rfl) (by kernel_rfl) (fun _ _ _ h => h) (Or.inl ⟨by rfl, ?_⟩) hHeld ?_
        · intro w' hSw
          try simp only [Act.put, List.getElem_toArray, List.getElem_cons_succ, List.getElem_cons_zero, List.setIfInBounds_toArray, List.set_cons_zero, List.set_cons_succ]
          (obtain ⟨q0, q1, q2, q3⟩ := hSw; go_simp)
        try simp only [Act.put, List.getElem_toArray, List.getElem_cons_succ, List.getElem_cons_zero, List.setIfInBounds_toArray, List.set_cons_zero, List.set_cons_succ]
        refine wpAnyH_take (i := 2) (v := (.int .i64 e.a)) rfl (by kernel_rfl) (by kernel_rfl) (by kernel_rfl) (fun _ _ _ h => h) (Or.inl ⟨by rfl, ?_⟩) hHeld ?_
        · intro w' hSw
          try simp only [Act.put, List.getElem_toArray, List.getElem_cons_succ, List.getElem_cons_zero, List.setIfInBounds_toArray, List.set_cons_zero, List.set_cons_succ]
          (obtain ⟨q0, q1, q2, q3⟩ := hSw; go_simp)
        try simp only [Act.put, List.getElem_toArray, List.getElem_cons_succ, List.getElem_cons_zero, List.setIfInBounds_toArray, List.set_cons_zero, List.set_cons_succ]
        refine wpAnyH_take (i := 3) (v := e.val) rfl (by kernel_rfl) (by kernel_rfl) (by kernel_rfl) (fun _ _ _ h => h) (Or.inl ⟨by rfl, ?_⟩) hHeld ?_
        · intro w' hSw
          try simp only [Act.put, List.getElem_toArray, List.getElem_cons_succ, List.getElem_cons_zero, List.setIfInBounds_toArray, List.set_cons_zero, List.set_cons_succ]
          (obtain ⟨q0, q1, q2, q3⟩ := hSw; go_simp)
        try simp only [Act.put, List.getElem_toArray, List.getElem_cons_succ, List.getElem_cons_zero, List.setIfInBounds_toArray, List.set_cons_zero, List.set_cons_succ]
        refine wpAnyH_take (i := 4) (v := (.map (some w.heap.size))) rfl (by kernel_rfl) (by kernel_rfl) (by kernel_rfl) (fun _ _ _ h => h) (Or.inl ⟨by rfl, ?_⟩) hHeld ?_
        · intro w' hSw
          try simp only [Act.put, List.getElem_toArray, List.getElem_cons_succ, List.getElem_cons_zero, List.setIfInBounds_toArray, List.set_cons_zero, List.set_cons_succ]
          (obtain ⟨q0, q1, q2, q3⟩ := hSw; go_simp)
        try simp only [Act.put, List.getElem_toArray, List.getElem_cons_succ, List.getElem_cons_zero, List.setIfInBounds_toArray, List.set_cons_zero, List.set_cons_succ]
        refine wpAnyH_take (i := 5) (v := (.pointer (some ⟨wr.heap.size, 1, none⟩))) rfl (by kernel_rfl) (by kernel_rfl) (by kernel_rfl) (fun _ _ _ h => h) (Or.inl ⟨by rfl, ?_⟩) hHeld ?_
        · intro w' hSw
          try simp only [Act.put, List.getElem_toArray, List.getElem_cons_succ, List.getElem_cons_zero, List.setIfInBounds_toArray, List.set_cons_zero, List.set_cons_succ]
          (obtain ⟨q0, q1, q2, q3⟩ := hSw; go_simp)
        try simp only [Act.put, List.getElem_toArray, List.getElem_cons_succ, List.getElem_cons_zero, List.setIfInBounds_toArray, List.set_cons_zero, List.set_cons_succ]
        refine wpAnyH_take (i := 6) (v := (.int .i64 e.a)) rfl (by kernel_rfl) (by kernel_rfl) (by kernel_rfl) (fun _ _ _ h => h) (Or.inl ⟨by rfl, ?_⟩) hHeld ?_
        · intro w' hSw
          try simp only [Act.put, List.getElem_toArray, List.getElem_cons_succ, List.getElem_cons_zero, List.setIfInBounds_toArray, List.set_cons_zero, List.set_cons_succ]
          (obtain ⟨q0, q1, q2, q3⟩ := hSw; go_simp)
        try simp only [Act.put, List.getElem_toArray, List.getElem_cons_succ, List.getElem_cons_zero, List.setIfInBounds_toArray, List.set_cons_zero, List.set_cons_succ]
        clear hHeld
        refine wpAnyH_ready (rs := [7]) (by kernel_rfl) (by simp) (AllReadyH.cons rfl (fun K hK => ?_) AllReadyH.nil)
        rw [if_pos (by rfl)]
        go_simp
        refine hK.out _ _ (hkp _ [] (Touch.refl _ _).drew (by simp)) (fun hHeld => ?_)
        clear hK
        try simp only [Act.put, List.getElem_toArray, List.getElem_cons_succ, List.getElem_cons_zero, List.setIfInBounds_toArray, List.set_cons_zero, List.set_cons_succ]
        clear hHeld
        refine wpAnyH_ready (rs := [8]) (by kernel_rfl) (by simp) (AllReadyH.cons rfl (fun K hK => ?_) AllReadyH.nil)
        rw [if_pos (by rfl)]
        go_simp
        refine hre.mono ?_
        rintro x w3 ⟨rfl, t3⟩
        have t3' : Touch (wr.alloc e.obj) w3 [] := (Touch.refl _ _).drew.trans t3 (by simp)
        go_simp
        refine hK.out _ _ (hkp _ [] t3' (by simp)) (fun hHeld => ?_)
        clear hK
        try simp only [Act.put, List.getElem_toArray, List.getElem_cons_succ, List.getElem_cons_zero, List.setIfInBounds_toArray, List.set_cons_zero, List.set_cons_succ]
        obtain ⟨w4, hst4, hm4, hg4⟩ := (HM0'.out.touch t3 (by simp)).store Tryd.underlying55 (by unfold maxLen; omega) hwe.a (.int .u8 (reachS e.k s0))
        have t4 : Touch (wr.alloc e.obj) w4 [w.heap.size] := (t3'.mono (by simp)).grown hg4 (by intro k hk; cases hk; exact .inl (by simp))
        have HM4 : Hid (MapF w4 w.heap.size (k + 1) (updF F e.a (.int .u8 (reachS e.k s0)))) := hm4
        have HT4 : Hid (Touch w w4 []) := (HT.out.trans HT1.out (by simp)).trans t4 (fun x hx => by simp at hx; exact .inr (by omega))
        clear hm4 hg4 hre hlk
        clear hHeld
        refine wpAnyH_ready (rs := [9]) (by kernel_rfl) (by simp) (AllReadyH.cons rfl (fun K hK => ?_) AllReadyH.nil)
        rw [if_pos (by rfl)]
        go_simp
        refine hK.out _ _ (hkp _ _ t4 (by simp; omega)) (fun hHeld => ?_)
        clear hK
        try simp only [Act.put, List.getElem_toArray, List.getElem_cons_succ, List.getElem_cons_zero, List.setIfInBounds_toArray, List.set_cons_zero, List.set_cons_succ]
        clear hHeld
        refine wpAnyH_done (by kernel_rfl) ?_ _
        clear hst4 t3' t4 hkp
        go_wp2
        go_roundw
        case rel => exact ⟨k + 1, by go_num, by omega, _, HM4.out, HUP.out, HT4.out⟩
        case measure => simp [intOf]; omega
    · obtain rfl : k = N := by omega
      have hall : l.take k = l := by rw [HN.out, List.take_length]
      rw [hall] at hF
      have HMP : Hid (MapF wr w.heap.size k F) := hmp
      have HFF : Hid _ := hF
      clear hT hall hmp hF HM0
      have HT2 : Hid (Touch w (wr.alloc (.map #[] 0)) []) := HT.out.alloc _
      have hatt := HATT.out _ HT2.out
      clear HATT
      have hsz : w.heap.size < wr.heap.size := HMP.out.lt
      go_wp2_with fail
      refine hatt.mono ?_
      rintro x w2 ⟨v2, rfl, hrow2, t2⟩
      clear hatt
      obtain ⟨ao2, cap2, rfl, hcell⟩ := int_form hrow2
      have hMl := attS_le l
      obtain ⟨M, hM⟩ : ∃ M, M = (attS l).length := ⟨_, rfl⟩
      have HMM : Hid _ := hM
      rw [← hM] at hMl
      rw [← HN.out] at hMl
      have HC : Hid _ := hcell
      rw [← hM]
      have hm2 := (MapF.made wr).touch t2 (by simp)
      have HM20 : Hid (MapF w2 wr.heap.size 0 (fun _ => none)) := hm2
      have HT20 : Hid (Touch w w2 []) := HT2.out.trans t2 (by simp)
      have HMP2 : Hid (MapF w2 w.heap.size k F) := (HMP.out.touch ((Touch.refl wr []).alloc _) (by simp)).touch t2 (by simp)
      have hs2 := t2.size
      rw [World.size_alloc] at hs2
      have HB2 : Hid (∀ g, ao2 = some ⟨g, 0, none⟩ → wr.heap.size < g) := fun g hg => by
        have := (hrow2.lt g (by rw [hg]; rfl)).1
        simp at this; omega
      clear hM hcell hm2 t2 hrow2 HT2 HMP
      go_wp2_with fail
      generalize hmb : wr.heap.size = mb2 at *
      clear hmb
      go_loopw [30] (fun i wr => ∃ j : Nat, i = .int .i64 j ∧ j ≤ M ∧ ∃ G, MapF wr mb2 j G ∧ MapF wr w.heap.size k F ∧ (∀ y, (G y).getD (.int .u8 0) = .int .u8 (if y ∈ (attS l).take j then max (toldS l y) 1 else 0)) ∧ Touch w wr [] ∧ Touch w2 wr [mb2]) (fun i _ => M - (intOf i).toNat)
      case atStart => exact ⟨0, rfl, Nat.zero_le _, _, HM20.out, HMP2.out, fun y => by simp, HT20.out, Touch.refl _ _⟩
      case round =>
        obtain ⟨j, rfl, hj, G, hG, hFm, hGy, tx, tx2⟩ := hrel
        have TX : Hid _ := tx
        by_cases hjt : j < M
        · have h1 : (j : Int) < M := by omega
          have h0 : (0 : Int) ≤ j := by omega
          have hjl : j < (attS l).length := by rw [← HMM.out]; exact hjt
          obtain ⟨g, rfl, hg, hcg⟩ := HC.out j hjl
          have hgb := HB2.out g rfl
          have d0 := (tx2.cell (p := ⟨g, j, none⟩) hg (by simp; omega)).trans hcg
          have hsn : (attS l).take (j + 1) = (attS l).take j ++ [(attS l)[j]] := List.take_succ_eq_append_getElem hjl
          obtain ⟨a, ha⟩ : ∃ a, a = (attS l)[j] := ⟨_, rfl⟩
          rw [← ha] at d0 hsn
          have haw : W64 a := HAW.out a (by rw [ha]; exact List.getElem_mem _)
          have hlk := hFm.look Tryd.underlying55 (Tryd.zeroValue34 _) haw
          rw [HFF.out a] at hlk
          obtain ⟨w4, hst4, hm4, hg4⟩ := hG.store Tryd.underlying55 (by unfold maxLen; omega) haw (.int .u8 (max (toldS l a) 1))
          have hG4 : ∀ y, ((updF G a (.int .u8 (max (toldS l a) 1))) y).getD (.int .u8 0) = .int .u8 (if y ∈ (attS l).take (j + 1) then max (toldS l y) 1 else 0) := fun y => by
            rw [hsn]
            by_cases hy : y = a
            · subst hy; rw [updF_same, if_pos (by simp)]; rfl
            · rw [updF_other G _ hy, hGy y]
              simp [hy]
          have tg : Touch wr w4 [mb2] := (Touch.refl wr _).grown hg4 (by intro q hq; cases hq; exact .inl (by simp))
          have HM4 : Hid (MapF w4 mb2 (j + 1) (updF G a (.int .u8 (max (toldS l a) 1)))) := hm4
          have HF4 : Hid (MapF w4 w.heap.size k F) := hFm.touch tg (by simp; omega)
          have HG4 : Hid _ := hG4
          have HT4 : Hid (Touch w w4 []) := tx.trans tg (by intro x hx; simp at hx; exact .inr (by omega))
          have HT5 : Hid (Touch w2 w4 [mb2]) := tx2.trans tg (by intro x hx; exact .inl hx)
          obtain ⟨h0s, h4s⟩ := toldS_range l a 0 (by omega)
          have hmax : ∃ m, m = max (toldS l a) 1 := ⟨_, rfl⟩
          obtain ⟨m, hm⟩ := hmax
          rw [← hm] at hst4
          have hmx : (toldS l a < 1 ∧ m = 1) ∨ (¬ toldS l a < 1 ∧ m = toldS l a) := by omega
          change 0 ≤ toldS l a at h0s
          generalize toldS l a = s0 at *
          clear hm4 hg4 hG4 hG hFm hGy tx tx2 hcg hsn ha hm
          rcases hmx with ⟨hlt1, rfl⟩ | ⟨hlt1, rfl⟩
          all_goals
            go_wp2
            go_roundw
            case rel => exact ⟨j + 1, by go_num, by omega, _, HM4.out, HF4.out, HG4.out, HT4.out, HT5.out⟩
            case measure => simp [intOf]; omega
        · obtain rfl : j = M := by omega
          have hall : (attS l).take j = attS l := by rw [HMM.out, List.take_length]
          rw [hall] at hGy
          have HG4 : Hid (∀ y, (G y).getD (.int .u8 0) = .int .u8 (stateS l y)) := hGy
          have HM4 : Hid (MapF wr mb2 j G) := hG
          clear hG hFm hGy tx tx2 hall
          go_wp2
          go_ret
          exact ⟨mb2, j, G, rfl, by omega, HM4.out, HG4.out, TX.out⟩

end Go.Proofs.YtmiaibpdeofokaaDoor

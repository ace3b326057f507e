/-
  package writes: All BY ITS CONTRACT: the function that yields, collected; of a log, and of none.
-/
import Derived.Test.YtinhdpiecifmhaaWritesOps
import Derived.Deep.AppendLies
namespace Go.Proofs.Ytinhdpiecifmhaa
set_option linter.unusedVariables false
set_option linter.unusedSimpArgs false
open Go.RowKit Go.Maps Go.Shelf
attribute [local go_sem] Oper.semAt_some

/-- The variables below k that have a value, rising. -/
def allK (G : Int → Option Int) (k : Nat) : List (Int × Int) := (List.range k).filterMap fun (i : Nat) => (G i).map fun v => ((i : Int), v)
theorem allK_some {G : Int → Option Int} {k : Nat} {v : Int} (h : G k = some v) : allK G (k + 1) = allK G k ++ [((k : Int), v)] := by
  unfold allK
  rw [List.range_succ, List.filterMap_append]
  simp [h]
theorem allK_none {G : Int → Option Int} {k : Nat} (h : G k = none) : allK G (k + 1) = allK G k := by
  unfold allK
  rw [List.range_succ, List.filterMap_append]
  simp [h]
theorem allK_step (G : Int → Option Int) (k : Nat) : ∃ l, allK G (k + 1) = allK G k ++ l := by
  cases h : G k with
  | none => exact ⟨[], by rw [allK_none h]; simp⟩
  | some v => exact ⟨_, allK_some h⟩
theorem allK_prefix (G : Int → Option Int) (k : Nat) : ∀ n, ∃ l, allK G (k + n) = allK G k ++ l
  | 0 => ⟨[], by simp⟩
  | n + 1 => by
    obtain ⟨l, hl⟩ := allK_prefix G k n
    obtain ⟨l', hl'⟩ := allK_step G (k + n)
    exact ⟨l ++ l', by rw [← Nat.add_assoc, hl', hl, List.append_assoc]⟩
theorem allK_at {G : Int → Option Int} {k : Nat} {v : Int} (h : G k = some v) (hk : k < 12) : (allK G k).length < (allK G 12).length ∧ (allK G 12).getD (allK G k).length (0, 0) = ((k : Int), v) := by
  obtain ⟨l, hl⟩ := allK_prefix G (k + 1) (12 - (k + 1))
  rw [show k + 1 + (12 - (k + 1)) = 12 by omega, allK_some h, List.append_assoc] at hl
  rw [hl]
  simp [List.getD_eq_getElem?_getD]
theorem allK_le (G : Int → Option Int) (k : Nat) : (allK G k).length ≤ k := by
  induction k with
  | zero => simp [allK]
  | succ k ih =>
    cases h : G k with
    | none => rw [allK_none h]; omega
    | some v => rw [allK_some h]; simp; omega

abbrev pairV (p : Int × Int) : Value := .agg #[.int .i64 p.1, .int .u64 p.2]
def pairC (p : Int × Int) : List Value := [.int .i64 p.1, .int .u64 p.2]
abbrev pairAt (G : Int → Option Int) (j : Nat) : Value := pairV ((allK G 12).getD j (0, 0))

/-- What a look at a variable tells, at a value that is a log, or none. -/
def GetIs (lv : Value) (G : Int → Option Int) (W : World) : Prop := ∀ t : Int, 0 ≤ t → t < 12 → Calls Try.prog 33 #[lv, .int .i64 t] W fun e W' => e = .returned (.tuple #[.int .u64 ((G t).getD 0), .bool (G t).isSome]) ∧ Touch W W' []

theorem written_any (p : Option Addr) (w : World) : Calls Try.prog 89 #[.pointer p] w fun e w' => e = .returned (.func (.func 95) #[] #[ptr w.heap.size]) ∧ w' = w.alloc (.cells #[.pointer p] 72) := by
  go_enter Try.func89, Try.ntmps89
  go_wp2
  go_ret
  exact ⟨by simp, rfl⟩

set_option maxRecDepth 100000 in
set_option maxHeartbeats 1000000 in
theorem written1_in (n : Nat) (hn : 1 ≤ n) (l B0 : Nat) (p : Option Addr) (G : Int → Option Int) (J : Nat → World → Prop) (X : World → Prop)
    (hT : ∀ k W, J k W → W.cell? ⟨B0, 0, none⟩ = some (.pointer p) ∧ GetIs (.pointer p) G W)
    (hA : ∀ k W W', J k W → Touch W W' [] → J k W')
    (hY : ∀ k W, k < (allK G 12).length → J k W → YieldAt Fence.wide (n - 1) Try.prog l #[pairAt G k] W (YPost J X k))
    (W : World) (h0 : J 0 W) :
    CallsIn Fence.wide n Try.prog 95 #[.func (.yield l) #[] #[], ptr B0] W fun e W' => (∃ v, e = .returned v) ∧ (J (allK G 12).length W' ∨ X W') := by
  have HT : Hid _ := hT
  have HA : Hid _ := hA
  have HY : Hid _ := hY
  have HO : Hid _ := h0
  clear hT hY h0 hA
  refine callsIn_of_wp Try.func95 rfl trivial ?_ rfl
  simp only [Try.ntmps95, List.size_toArray, List.length_cons, List.length_nil, Nat.reduceAdd, Nat.reduceSub, Array.replicate_succ, Array.replicate_zero, List.push_toArray, List.append_toArray, List.nil_append, List.cons_append]
  gi_wp2_with fail
  gi_loopw [6] (fun i wr => ∃ k : Nat, i = .int .i64 k ∧ k ≤ 12 ∧ J (allK G k).length wr) (fun i _ => 13 - (intOf i).toNat)
  case atStart => exact ⟨0, rfl, by omega, HO.out⟩
  case round =>
    obtain ⟨k, rfl, hk, hJ⟩ := hrel
    clear HO
    by_cases hlt : k < 12
    · have hlt' : (k : Int) < 12 := by omega
      obtain ⟨c0, hg⟩ := HT.out _ wr hJ
      have hgk := hg k (by omega) hlt'
      have HJ : Hid _ := hJ
      clear hJ hg
      cases hq : G k with
      | none =>
        rw [hq] at hgk
        simp only [Option.getD_none, Option.isSome_none] at hgk
        have e1 := allK_none hq
        gi_wp2_with fail
        refine ⟨trivial, ?_⟩
        refine (callsIn_wide.2 hgk).mono ?_
        rintro e w1 ⟨rfl, t1⟩
        clear hgk c0
        have hJ1 := HA.out _ wr w1 HJ.out t1
        rw [← e1] at hJ1
        have HJ1 : Hid _ := hJ1
        clear hJ1 HJ e1
        gi_wp2
        refine ⟨fun _ h => (by cases h), ?_⟩
        gi_wp2
        go_roundw
        case rel => exact ⟨k + 1, by go_num, by omega, HJ1.out⟩
        case measure => simp [intOf]; omega
      | some v =>
        rw [hq] at hgk
        simp only [Option.getD_some, Option.isSome_some] at hgk
        have e1 := allK_some hq
        obtain ⟨hlen, hat⟩ := allK_at hq hlt
        gi_wp2_with fail
        refine ⟨trivial, ?_⟩
        refine (callsIn_wide.2 hgk).mono ?_
        rintro e w1 ⟨rfl, t1⟩
        clear hgk c0
        have hJ1 := HA.out _ wr w1 HJ.out t1
        have hyy := HY.out _ w1 hlen hJ1
        unfold pairAt at hyy
        rw [hat] at hyy
        obtain ⟨fn, tmps, assign, body, hy, hR⟩ := hyy
        clear hJ1 HJ t1
        gi_wp2
        refine hR.mono ?_
        rintro e W3 (⟨rfl, hJ3⟩ | ⟨rfl, hX⟩)
        · have HJ3 : Hid (J (allK G (k + 1)).length W3) := by
            show J _ W3
            rw [e1, List.length_append]
            exact hJ3
          clear hJ3 hR hy e1 hat hlen
          gi_wp2
          go_roundw
          case rel => exact ⟨k + 1, by go_num, by omega, HJ3.out⟩
          case measure => simp [intOf]; omega
        · have HX : Hid _ := hX
          clear hX hR hy e1 hat hlen
          gi_wp2
          refine bodyPost_ret (v := .tuple #[]) ?_ rfl ⟨⟨_, rfl⟩, .inr HX.out⟩
          simp [results, Try.results95]
    · obtain rfl : k = 12 := by omega
      have HJ : Hid _ := hJ
      clear hJ hlt
      gi_wp2
      go_end0
      exact ⟨⟨_, rfl⟩, .inl HJ.out⟩

theorem ownsRow_other {W W' : World} {B : Nat} {e : TypeId} {n sz : Nat} {v : Value} {xs : List Value} {l : Nat} {o : Obj} (h : W.ownsRow B e sz v n xs) (t : Touch W W' [l]) (hl : W.heap[l]? = some o) (ho : o.isCells = false) : W'.ownsRow B e sz v n xs := by
  refine ownsRow_touch h t (fun k hk hs => ?_)
  simp at hs
  subst hs
  rcases h.2 with ⟨rfl, _⟩ | ⟨g, cap, cur, rfl, _, hg, _⟩
  · simp [Value.ownBlock] at hk
  · obtain rfl : g = k := by simpa [Value.ownBlock] using hk
    rw [hg] at hl
    cases hl
    simp [Obj.isCells] at ho

theorem Try.info_pair : (Try.prog.info? 148).map (fun i => (i.zero, i.size, i.bytes)) = some (some (.agg #[.int .i64 0, .int .u64 0]), 2, 16) := by kernel_rfl

/-- A row of pairs. -/
abbrev pairRow (w : World) (B : Nat) (v : Value) (l : List (Int × Int)) : Prop := w.ownsRow B 148 2 v l.length (l.flatMap pairC)

/-- What AppendSeq keeps between two rounds. -/
structure AllI (w : World) (G : Int → Option Int) (j : Nat) (W : World) : Prop where
  box : ∃ v, Boxed W w.heap.size 145 v ∧ pairRow W w.heap.size v ((allK G 12).take j)
  t : Touch w W []

/-- What All leaves. -/
def PairsPost (w : World) (ls : List (Int × Int)) (e : Ending) (w' : World) : Prop := ∃ v, e = .returned v ∧ pairRow w' w.heap.size v ls ∧ Touch w w' []

set_option maxRecDepth 100000 in
set_option maxHeartbeats 1000000 in
theorem appendSeq_any {w : World} {B0 : Nat} {p : Option Addr} {G : Int → Option Int} (hc0 : One w B0 (.pointer p) 72) (hG : ∀ W, Touch w W [] → GetIs (.pointer p) G W) :
    Calls Try.prog 94 #[.slice none 0 0, .func (.func 95) #[] #[ptr B0]] w (PairsPost w (allK G 12)) := by
  refine (callsIn_wide (n := 5)).1 ?_
  refine callsIn_of_wp_marks Try.func94 rfl trivial ?_ rfl
  simp only [Try.ntmps94, List.size_toArray, List.length_cons, List.length_nil, Nat.reduceAdd, Nat.reduceSub, Array.replicate_succ, Array.replicate_zero, List.push_toArray, List.append_toArray, List.nil_append, List.cons_append]
  have HC0 : Hid _ := hc0
  have HG : Hid _ := hG
  clear hc0 hG
  gi_wp2_with fail
  refine wpIn_name fun W1 hW1 => ?_
  have hsz : W1.heap.size = w.heap.size + 1 := by rw [hW1]; simp
  have HI0 : Hid (AllI w G 0 W1) := by
    refine ⟨⟨.slice none 0 0, by rw [hW1]; exact Boxed.new w _ _, World.ownsRow_nil _ _ _ _⟩, by rw [hW1]; exact (Touch.refl _ _).alloc _⟩
  clear hW1
  refine rangeFunc_laid (by omega) (gf := 95) (lb := #[ptr B0]) rfl (enters_of Try.func95 (by kernel_rfl) rfl) rfl
    (pairAt G) none (AllI w G) (fun _ => False) (allK G 12).length ?put (fun _ _ _ _ h => h.elim) ?new HI0.out
    (fun k s => { tmps := #[.slice none 0 0, .func (.func 95) #[] #[ptr B0], ptr w.heap.size, undef, .slice none 0 0, ptr s, .func (.func 95) #[] #[ptr B0], pairAt G k, undef, undef, undef, undef, undef], defers := [] }) (fun k => .cells #[.int .i64 ((allK G 12).getD k (0, 0)).1, .int .u64 ((allK G 12).getD k (0, 0)).2] 148 (0, 0)) ?seq ?assign ?body ?done (fun _ h => h.elim)
  case put =>
    rintro k W l o1 o' ⟨⟨v, hb, hr⟩, t⟩ hl ho hc
    have t1 : Touch W (W.putObj l o') [l] := (Touch.refl W [l]).putObj (.inl (by simp)) o'
    exact ⟨⟨v, (t1.block _ hb.lt (by simp; omega)).trans hb, ownsRow_other hr t1 ho hc⟩, t.trans t1 (by intro x hx; simp at hx; exact .inr (by omega))⟩
  case new =>
    rintro k W o' ⟨⟨v, hb, hr⟩, t⟩
    exact ⟨⟨v, hb.alloc _, hr.alloc _⟩, t.alloc _⟩
  case seq =>
    intro J Y W hJI hJT hJ0 hJY
    refine written1_in 4 (by omega) _ B0 p G J Y ?_ ?_ hJY W hJ0
    · intro k W hJ
      exact ⟨One.cell (One.touch HC0.out (hJI k W hJ).t (by simp)), HG.out W (hJI k W hJ).t⟩
    · intro k W W' hJ t
      obtain ⟨⟨v, hb, hr⟩, t0⟩ := hJI k W hJ
      exact hJT k W W' hJ ⟨⟨v, (t.block _ hb.lt (by simp)).trans hb, ownsRow_touch hr t (by simp)⟩, t0.trans t (by simp)⟩ t
  case assign =>
    intro l k W K hK
    gi_wp2
    exact hK
  case body =>
    rintro l k s W hk ⟨⟨v, hv, hrow⟩, t⟩ hs hs2
    have hle := allK_le G 12
    have hsn : (allK G 12).take (k + 1) = (allK G 12).take k ++ [(allK G 12).getD k (0, 0)] := by
      rw [List.take_succ_eq_append_getElem hk, List.getD_eq_getElem?_getD, List.getElem?_eq_getElem hk]; rfl
    have hlk : ((allK G 12).take k).length = k := by rw [List.length_take]; omega
    have HSN : Hid _ := hsn
    clear hsn
    unfold pairAt
    obtain ⟨q, hq⟩ : ∃ q, q = (allK G 12).getD k (0, 0) := ⟨_, rfl⟩
    rw [← hq] at hs ⊢
    have HQ : Hid _ := hq
    clear hq
    obtain ⟨a, b⟩ := q
    simp only at hs
    have m0 : W.cell? ⟨s, 0, none⟩ = some (.int .i64 a) := by simp [World.cell?, hs]
    have m1 : W.cell? ⟨s, 1, none⟩ = some (.int .u64 b) := by simp [World.cell?, hs]
    obtain ⟨i0, hi, hz0, hz1, hz2⟩ := info_parts Try.info_pair
    have hc := hv.cell
    have hts := t.size
    have HT : Hid _ := t
    unfold pairRow at hrow
    rw [hlk] at hrow
    clear t hs hlk
    gi_wp2_with (gi_at_builtin; refine wpListIn_append_own _ rfl _ _ 145 rfl w.heap.size 148 i0 _ 2 16 Try.underlying145 hi hz0 hz1 hz2 rfl (by decide) _ _ _ rfl (hrow.alloc _) ⟨W.heap.size, 0, none⟩ 1 1 [.int .i64 a, .int .u64 b] rfl rfl (World.news_of_block (cs := #[.int .i64 a, .int .u64 b]) (t := 148) (fr := (0, 0)) (heap_alloc_new W _)) (by simp [Value.oneCell']) (by unfold maxLen; omega) (by omega) (by simp; omega) ?_; intro v' w1 hown' hgrow _; obtain ⟨g', cap', rfl⟩ := ownsRow_succ hown'; obtain ⟨hv1, hv2, hr2, hk2, hb2⟩ := hv.appended (by decide) hrow hts (Nat.le_refl _) hown' hgrow; have hc1 := hv1.cell; have hf1 := hv1.frozen)
    refine ⟨hk2, .inl ⟨rfl, ⟨_, hv2, ?_⟩, ⟨hb2.os.trans HT.out.os, hb2.tape.trans HT.out.tape, hb2.output.trans HT.out.output, Nat.le_trans HT.out.size hb2.size, fun j hj _ => (hb2.block j hj).trans (HT.out.block j hj (by simp))⟩⟩⟩
    unfold pairRow
    rw [HSN.out, List.length_append, List.flatMap_append, List.length_take, Nat.min_eq_left (by omega), ← HQ.out]
    simpa [pairC] using hr2
  case done =>
    rintro W ⟨⟨v, hv, hrow⟩, t⟩ hd
    have c2 := hv.cell
    rw [List.take_length] at hrow
    obtain ⟨ao, cap, rfl⟩ : ∃ ao cap, v = .slice ao (allK G 12).length cap := by
      rcases hrow.2 with ⟨rfl, h0⟩ | ⟨g, cap, cur, rfl, _⟩
      · exact ⟨none, 0, by rw [h0]⟩
      · exact ⟨_, _, rfl⟩
    have HR : Hid (pairRow W w.heap.size (.slice ao (allK G 12).length cap) (allK G 12)) := hrow
    have HT : Hid _ := t
    clear hrow t
    gi_wp2
    refine ⟨by simp, .inl ⟨_, _, rfl, run_takeDeferred hd, ?_⟩⟩
    have t1 : Touch W (W.putObj W1.heap.size (.deferred none)) [W1.heap.size] := (Touch.refl W [W1.heap.size]).putObj (.inl (by simp)) _
    exact ⟨_, results_tmp rfl _ _ _, _, rfl, ownsRow_other HR.out t1 hd rfl, HT.out.trans t1 (by intro x hx; simp at hx; exact .inr (by omega))⟩

theorem collect_any {w : World} {fv : Value} {ls : List (Int × Int)} (h : Calls Try.prog 94 #[.slice none 0 0, fv] w (PairsPost w ls)) : Calls Try.prog 88 #[fv] w (PairsPost w ls) := by
  go_enter Try.func88, Try.ntmps88
  go_wp2_with fail
  refine h.mono ?_
  rintro e w1 ⟨v, rfl, ho, t⟩
  have HO : Hid _ := ho
  clear ho h
  go_wp2
  go_ret
  exact ⟨_, rfl, HO.out, t⟩

theorem PairsPost.after {w w1 w' : World} {ls : List (Int × Int)} {e : Ending} (h : PairsPost w1 ls e w') (t : Touch w w1 []) : ∃ v B, e = .returned v ∧ pairRow w' B v ls ∧ w.heap.size ≤ B ∧ Touch w w' [] := by
  obtain ⟨v, he, hr, ht⟩ := h
  exact ⟨v, _, he, hr, t.size, t.trans ht (by simp)⟩

/-- What All leaves. -/
def AllE (w : World) (ls : List (Int × Int)) (e : Ending) (w' : World) : Prop := ∃ v B, e = .returned v ∧ pairRow w' B v ls ∧ w.heap.size ≤ B ∧ Touch w w' []

theorem all_of {w : World} {p : Option Addr} {G : Int → Option Int} (hG : ∀ W, Touch w W [] → GetIs (.pointer p) G W) : Calls Try.prog 79 #[.pointer p] w (AllE w (allK G 12)) := by
  have t0 := (Touch.refl w []).alloc (.cells #[.pointer p] 72)
  have HC := collect_any (appendSeq_any (one_new w (.pointer p) 72) (fun W t => hG W (t0.trans t (by simp))))
  have HT : Hid _ := t0
  generalize allK G 12 = ls at *
  clear hG t0
  go_enter Try.func79, Try.ntmps79
  go_wp2_with fail
  refine (written_any p w).mono ?_
  rintro e w1 ⟨rfl, rfl⟩
  go_wp2_with fail
  refine HC.mono ?_
  intro e w1 hp
  obtain ⟨v, B, rfl, hr, hB, ht⟩ := hp.after HT.out
  have HR : Hid _ := hr
  clear HC hp hr
  go_wp2
  go_ret
  exact ⟨_, B, rfl, HR.out, hB, ht⟩

theorem getIs_log {B : Nat} {w : World} {b : Nat} {ch : List (Nat × Nat)} {Fs : List Fr} (h : PLog B w b ch Fs) : GetIs (ptr b) (getF Fs) w := fun t h0 h1 => get_any h t (by omega)

theorem all_any {B : Nat} {w : World} {b : Nat} {ch : List (Nat × Nat)} {Fs : List Fr} (h : PLog B w b ch Fs) : Calls Try.prog 79 #[ptr b] w (AllE w (allK (getF Fs) 12)) := all_of (fun W t => getIs_log (h.touch t))

end Go.Proofs.Ytinhdpiecifmhaa

/-
  Held of package stripes BY ITS CONTRACT: the stripes that an owner has, collected.
-/
import Derived.Test.YthkphhjhgkclfaaDoorStripesDropT
import Derived.RangeFuncBox
import Derived.Maps.AppendAt
namespace Go.Proofs.YthkphhjhgkclfaaDoor
set_option linter.unusedVariables false
set_option linter.unusedSimpArgs false
open Go.RowKit Go.Shelf
attribute [local go_sem] Oper.semAt_some

/-- The stripes among the first k that are an owner's. -/
def heldK (ws : List Int) (o : Int) (k : Nat) : List Int := ((List.range k).filter fun i => isMine o (ws.getD i 0)).map fun (i : Nat) => (i : Int)
theorem heldK_zero (ws : List Int) (o : Int) : heldK ws o 0 = [] := rfl
theorem heldK_mine {ws : List Int} {o : Int} {k : Nat} (h : isMine o (ws.getD k 0) = true) : heldK ws o (k + 1) = heldK ws o k ++ [(k : Int)] := by
  unfold heldK
  rw [List.range_succ, List.filter_append, List.map_append]
  simp only [List.filter_cons, List.filter_nil, h, if_true, List.map_cons, List.map_nil]
theorem heldK_not {ws : List Int} {o : Int} {k : Nat} (h : ¬ isMine o (ws.getD k 0) = true) : heldK ws o (k + 1) = heldK ws o k := by
  unfold heldK
  rw [List.range_succ, List.filter_append, List.map_append]
  simp only [List.filter_cons, List.filter_nil, (Bool.not_eq_true _).mp h, Bool.false_eq_true, if_false, List.map_nil, List.append_nil]
theorem heldK_le (ws : List Int) (o : Int) (k : Nat) : (heldK ws o k).length ≤ k := by
  unfold heldK
  rw [List.length_map]
  exact Nat.le_trans (List.length_filter_le _ _) (by simp)

/-- What AppendSeq keeps between two rounds. -/
structure HeldI (w : World) (b B0 B1 : Nat) (now o : Int) (ws : List Int) (k : Nat) (W : World) : Prop where
  box : ∃ v, Boxed W w.heap.size 44 v ∧ W.ownsRow w.heap.size 3 1 v (heldK ws o k).length ((heldK ws o k).map (Value.int .i64))
  t : Touch w W []

theorem ownsRow_other {W W' : World} {B : Nat} {e : TypeId} {n : Nat} {v : Value} {xs : List Value} {l : Nat} {o : Obj} (h : W.ownsRow B e 1 v n xs) (t : Touch W W' [l]) (hl : W.heap[l]? = some o) (ho : o.isCells = false) : W'.ownsRow B e 1 v n xs := by
  refine ownsRow_touch h t (fun k hk hs => ?_)
  simp at hs
  subst hs
  rcases h.2 with ⟨rfl, _⟩ | ⟨g, cap, cur, rfl, _, hg, _⟩
  · simp [Value.ownBlock] at hk
  · obtain rfl : g = k := by simpa [Value.ownBlock] using hk
    rw [hg] at hl
    cases hl
    simp [Obj.isCells] at ho

theorem Tryd.info_int : (Tryd.prog.info? 3).map (fun i => (i.zero, i.size, i.bytes)) = some (some (.int .i64 0), 1, 8) := by kernel_rfl

/-- What Collect leaves. -/
def HeldPost (w : World) (ls : List Int) (e : Ending) (w' : World) : Prop := ∃ v, e = .returned v ∧ w'.ownsRow w.heap.size 3 1 v ls.length (ls.map (Value.int .i64)) ∧ Touch w w' []

set_option maxRecDepth 100000 in
set_option maxHeartbeats 1000000 in
theorem appendSeq_any {w : World} {b B0 B1 : Nat} {now o : Int} {ws : List Int} (h : TObj w b now ws) (G : Good now ws) (S : Sh w) (hc0 : One w B0 (ptr b) 23) (hc1 : One w B1 (.int .i64 o) 3) :
    Calls Tryd.prog 62 #[.slice none 0 0, .func (.func 63) #[] #[ptr B0, ptr B1]] w (HeldPost w (heldK ws o ws.length)) := by
  refine (callsIn_wide (n := 5)).1 ?_
  refine callsIn_of_wp_marks Tryd.func62 rfl trivial ?_ rfl
  simp only [Tryd.ntmps62, List.size_toArray, List.length_cons, List.length_nil, Nat.reduceAdd, Nat.reduceSub, Array.replicate_succ, Array.replicate_zero, List.push_toArray, List.append_toArray, List.nil_append, List.cons_append]
  have HO : Hid _ := h
  have HS : Hid _ := S
  have HC0 : Hid _ := hc0
  have HC1 : Hid _ := hc1
  clear h S hc0 hc1
  gi_wp2_with fail
  refine wpIn_name fun W1 hW1 => ?_
  have hsz : W1.heap.size = w.heap.size + 1 := by rw [hW1]; simp
  have HI0 : Hid (HeldI w b B0 B1 now o ws 0 W1) := by
    refine ⟨⟨.slice none 0 0, by rw [hW1]; exact Boxed.new w _ _, by rw [heldK_zero]; exact World.ownsRow_nil _ _ _ _⟩, by rw [hW1]; exact (Touch.refl _ _).alloc _⟩
  clear hW1
  refine rangeFunc_told (by omega) (gf := 63) (lb := #[ptr B0, ptr B1]) rfl (enters_of Tryd.func63 (by kernel_rfl) rfl) rfl
    (HeldI w b B0 B1 now o ws) ws.length (fun k => isMine o (ws.getD k 0) = true)
    ?put ?new HI0.out
    (fun k => { tmps := #[.slice none 0 0, .func (.func 63) #[] #[ptr B0, ptr B1], ptr w.heap.size, undef, .slice none 0 0, .int .i64 (k : Int), .func (.func 63) #[] #[ptr B0, ptr B1], .int .i64 (k : Int), undef, undef, undef, undef, undef], defers := [] }) ?seq ?assign ?body ?done
  case put =>
    rintro k W l o1 o' ⟨⟨v, hb, hr⟩, t⟩ hl ho hc
    have t1 : Touch W (W.putObj l o') [l] := Touch.putObj (Touch.refl W [l]) (.inl (by simp)) o'
    exact ⟨⟨v, (t1.block _ hb.lt (by simp; omega)).trans hb, ownsRow_other hr t1 ho hc⟩, t.trans t1 (by intro x hx; simp at hx; exact .inr (by omega))⟩
  case new =>
    rintro k W o' ⟨⟨v, hb, hr⟩, t⟩
    exact ⟨⟨v, hb.alloc _, hr.alloc _⟩, t.alloc _⟩
  case seq =>
    intro fn W hK hY
    refine heldBy1_in 4 (by omega) _ _ _ b o now (fun _ => ws) ws.length (fun _ => rfl) (fun _ => G) _ ?_ ?_ ?_ hY W hK
    · rintro k W ⟨hi, _, _⟩
      exact ⟨HO.out.touch hi.t (by simp), HS.out.touch hi.t (by simp), (hi.t.cell (p := ⟨B0, 0, none⟩) (lt_of_heap HC0.out) (by simp)).trans (One.cell HC0.out), (hi.t.cell (p := ⟨B1, 0, none⟩) (lt_of_heap HC1.out) (by simp)).trans (One.cell HC1.out)⟩
    · rintro k W W' ⟨⟨⟨v, hb, hr⟩, t0⟩, hl, hd⟩ t
      exact ⟨⟨⟨v, (t.block _ hb.lt (by simp)).trans hb, ownsRow_touch hr t (by simp)⟩, t0.trans t (by simp)⟩, (t.block _ (lt_of_heap hl) (by simp)).trans hl, (t.block _ (lt_of_heap hd) (by simp)).trans hd⟩
    · rintro k W hk hm ⟨⟨⟨v, hb, hr⟩, t0⟩, hl, hd⟩
      exact ⟨⟨⟨v, hb, by rw [heldK_not hm]; exact hr⟩, t0⟩, hl, hd⟩
  case assign =>
    intro l k W K hK
    gi_wp2
    exact hK
  case body =>
    rintro l k W hk hm ⟨⟨v, hv, hrow⟩, t⟩
    have h8 := G.le
    have hle := heldK_le ws o k
    obtain ⟨i0, hi, hz0, hz1, hz2⟩ := info_parts Tryd.info_int
    have hc := hv.cell
    have hts := t.size
    have HT : Hid _ := t
    clear t
    gi_wp2_with (gi_at_builtin; refine wpListIn_append_own _ rfl _ _ 44 rfl w.heap.size 3 i0 (.int .i64 0) 1 8 Tryd.underlying44 hi hz0 hz1 hz2 rfl (by decide) _ _ _ rfl (hrow.alloc _) ⟨W.heap.size, 0, none⟩ 1 1 [.int .i64 (k : Int)] rfl rfl (cell_one_new _ _ _) (by simp [Value.oneCell']) (by unfold maxLen; omega) (by omega) (by simp; omega) ?_; intro v' w1 hown' hgrow _; obtain ⟨g', cap', rfl⟩ := ownsRow_succ hown'; obtain ⟨hv1, hv2, hr2, hk2, hb2⟩ := hv.appended (by decide) hrow hts (Nat.le_refl _) hown' hgrow; have hc1 := hv1.cell; have hf1 := hv1.frozen)
    have hi1 : ∀ W', Boxed W' w.heap.size 44 (.slice (some ⟨g', 0, none⟩) ((heldK ws o k).length + 1) cap') → W'.ownsRow w.heap.size 3 1 (.slice (some ⟨g', 0, none⟩) ((heldK ws o k).length + 1) cap') ((heldK ws o k).length + 1) ((heldK ws o k).map (Value.int .i64) ++ [.int .i64 (k : Int)]) → Below w.heap.size W W' → HeldI w b B0 B1 now o ws (k + 1) W' := fun W' h1 h2 h3 => by
      refine ⟨⟨_, h1, ?_⟩, ⟨h3.os.trans HT.out.os, h3.tape.trans HT.out.tape, h3.output.trans HT.out.output, Nat.le_trans HT.out.size h3.size, fun j hj _ => (h3.block j hj).trans (HT.out.block j hj (by simp))⟩⟩
      rw [heldK_mine hm, List.length_append, List.map_append]
      exact h2
    exact hi1 _ hv2 hr2 hb2
  case done =>
    rintro W ⟨⟨v, hv, hrow⟩, t⟩ hd
    have c2 := hv.cell
    obtain ⟨ao, cap, rfl⟩ : ∃ ao cap, v = .slice ao (heldK ws o ws.length).length cap := by
      rcases hrow.2 with ⟨rfl, h0⟩ | ⟨g, cap, cur, rfl, _⟩
      · exact ⟨none, 0, by rw [h0]⟩
      · exact ⟨_, _, rfl⟩
    have HR : Hid (W.ownsRow w.heap.size 3 1 (.slice ao (heldK ws o ws.length).length cap) (heldK ws o ws.length).length ((heldK ws o ws.length).map (Value.int .i64))) := hrow
    have HT : Hid _ := t
    clear hrow t
    gi_wp2
    refine ⟨by simp, .inl ⟨_, _, rfl, run_takeDeferred hd, ?_⟩⟩
    have t1 : Touch W (W.putObj W1.heap.size (.deferred none)) [W1.heap.size] := Touch.putObj (Touch.refl W [W1.heap.size]) (.inl (by simp)) _
    exact ⟨_, results_tmp rfl _ _ _, _, rfl, ownsRow_other HR.out t1 hd rfl, HT.out.trans t1 (by intro x hx; simp at hx; exact .inr (by omega))⟩

/-- What Held leaves. -/
def HeldE (w : World) (ls : List Int) (e : Ending) (w' : World) : Prop := ∃ v B, e = .returned v ∧ w'.ownsRow B 3 1 v ls.length (ls.map (Value.int .i64)) ∧ w.heap.size ≤ B ∧ Touch w w' []

theorem collect_any {w : World} {fv : Value} {ls : List Int} (h : Calls Tryd.prog 62 #[.slice none 0 0, fv] w (HeldPost w ls)) : Calls Tryd.prog 47 #[fv] w (HeldPost w ls) := by
  go_enter Tryd.func47, Tryd.ntmps47
  go_wp2_with fail
  refine h.mono ?_
  rintro e w1 ⟨v, rfl, ho, t⟩
  have HO : Hid _ := ho
  clear ho h
  go_wp2
  go_ret
  exact ⟨_, rfl, HO.out, t⟩

theorem held_get {w : World} {b : Nat} {now : Int} {ws : List Int} (h : TObj w b now ws) (G : Good now ws) (S : Sh w) (o : Int) : Calls Tryd.prog 19 #[ptr b, .int .i64 o] w (HeldE w (heldK ws o ws.length)) := by
  have t0 := ((Touch.refl w []).alloc (.cells #[ptr b] 23)).alloc (.cells #[.int .i64 o] 3)
  have hc0 := (one_new w (ptr b) 23).alloc (.cells #[.int .i64 o] 3)
  have hc1 := one_new (w.alloc (.cells #[ptr b] 23)) (.int .i64 o) 3
  rw [World.size_alloc] at hc1
  have HC := collect_any (appendSeq_any (h.touch t0 (by simp)) G (S.touch t0 (by simp)) hc0 hc1)
  have HT : Hid _ := t0
  generalize heldK ws o ws.length = ls at *
  clear h S t0 hc0 hc1
  go_enter Tryd.func19, Tryd.ntmps19
  go_wp2_with fail
  refine (heldBy_any b o w).mono ?_
  rintro e w1 ⟨rfl, rfl⟩
  go_wp2_with fail
  refine HC.mono ?_
  rintro e w1 ⟨v, rfl, ho, t⟩
  have HO : Hid _ := ho
  clear HC ho
  go_wp2
  go_ret
  exact ⟨_, _, rfl, HO.out, by simp; omega, HT.out.trans t (by simp)⟩

end Go.Proofs.YthkphhjhgkclfaaDoor

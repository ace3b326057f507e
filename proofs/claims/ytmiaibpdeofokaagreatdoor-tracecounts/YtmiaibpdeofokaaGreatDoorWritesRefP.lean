/-
  THE DOCUMENT's LOG: Push, Drop, Merge BY THEIR CONTRACTS.
-/
import Derived.Test.YtmiaibpdeofokaaGreatDoorAllB
namespace Go.Proofs.YtmiaibpdeofokaaGreatDoor
set_option linter.unusedVariables false
set_option linter.unusedSimpArgs false
open Go.RowKit Go.Maps Go.Shelf

/-- A new row is the log's. -/
theorem RLog.laid {B : Nat} {w w' : World} {b : Nat} {vl : Value} {Rs Rs' : List Fr} (h : RLog B w b vl Rs) (t : Touch w w' []) {g cap : Nat} (hrow : w'.ownsRow w.heap.size 191 24 (.slice (some ⟨g, 0, none⟩) Rs'.length cap) Rs'.length (Rs'.flatMap frC)) (hok : ∀ f ∈ Rs', FrOk f) (hp : 0 < Rs'.length) (hl : Rs'.length ≤ 5) :
    RLog B (w'.setCell ⟨b, 0, none⟩ (.slice (some ⟨g, 0, none⟩) Rs'.length cap)) b (.slice (some ⟨g, 0, none⟩) Rs'.length cap) Rs' ∧ Touch w (w'.setCell ⟨b, 0, none⟩ (.slice (some ⟨g, 0, none⟩) Rs'.length cap)) (rfoot b vl) ∧ ∀ x ∈ rfoot b (.slice (some ⟨g, 0, none⟩) Rs'.length cap), x ∈ rfoot b vl ∨ w.heap.size ≤ x := by
  have hg := (hrow.lt g rfl).1
  have hbl := lt_of_heap h.st
  have hb' := (h.touch t).st
  have t5 : Touch w' (w'.setCell ⟨b, 0, none⟩ (.slice (some ⟨g, 0, none⟩) Rs'.length cap)) [b] := (Touch.refl _ _).setCell (.inl (by simp)) _
  refine ⟨⟨h.hb, by rw [heap_setCell_same _ _ _ _ _ _ hb']; rfl, ownsRow_base (ownsRow_touch hrow t5 (by intro k hk; simp [Value.ownBlock] at hk; simp; omega)) (Nat.le_trans h.hb (Nat.le_of_lt hbl)), hok, hp, hl⟩, (t.mono (by simp)).trans t5 (by simp [rfoot]), ?_⟩
  intro x hx
  simp only [rfoot, Value.ownBlock, List.mem_cons, Option.mem_toList, Option.some.injEq] at hx ⊢
  rcases hx with hx | hx
  · exact .inl (.inl hx)
  · exact .inr (by omega)

set_option maxRecDepth 100000 in
set_option maxHeartbeats 1000000 in
theorem rpush_any {B : Nat} {w : World} {b : Nat} {vl : Value} {Fs : List Fr} (h : RLog B w b vl Fs.reverse) : Calls Tryz.prog 108 #[ptr b] w (RPost B w b vl (pushS Fs)) := by
  have hd := rdepth_any h
  have h5 := h.le
  have hp := h.pos
  obtain ⟨g, cap, hvl, _, _⟩ := h.row
  obtain ⟨c0, fz⟩ := h.cell
  rw [hvl] at c0
  rw [List.length_reverse] at hd h5 hp c0
  generalize hres : pushS Fs = res
  unfold pushS at hres
  have HS : Hid _ := h
  have hvl' : Hid _ := hvl
  clear h
  by_cases h4 : 4 ≤ Fs.length - 1
  · rw [if_pos h4] at hres
    subst hres
    have h4' : (4 : Int) ≤ (Fs.length : Int) - 1 := by omega
    generalize (Fs.length : Int) - 1 = D at *
    go_enter Tryz.func108, Tryz.ntmps108
    go_wp2_with fail
    refine hd.mono ?_
    rintro e w1 ⟨rfl, rfl⟩
    clear hd
    go_wp2
    go_ret
    exact HS.out.stays (Touch.refl _ _) 4
  · rw [if_neg h4] at hres
    subst hres
    have h4' : ¬ (4 : Int) ≤ (Fs.length : Int) - 1 := by omega
    obtain ⟨i0, hi0, hz0, hz1, hz2⟩ := info_parts Tryz.info_frame
    have hzs : (Value.agg (frC f0).toArray).cells.size = 24 := by decide
    have T1 : Touch w (w.alloc (.cells #[] 191)) [] := (Touch.refl w []).alloc _
    have hl1 := HS.out.touch T1
    have c1 := hl1.cell.1
    have hsrc := hl1.own
    rw [hvl, List.length_reverse] at c1 hsrc
    have hbl := lt_of_heap HS.out.st
    obtain ⟨N, hN⟩ : ∃ N, N = Fs.length := ⟨_, rfl⟩
    rw [← hN] at c1 hsrc h5 hp hd h4' c0
    have HN : Hid (N = Fs.length) := hN
    have HT1 : Hid _ := T1
    clear hl1 T1 hN hvl
    go_enter Tryz.func108, Tryz.ntmps108
    go_wp2_with fail
    refine hd.mono ?_
    rintro e w1 ⟨rfl, rfl⟩
    clear hd
    go_wp2_with (at_builtin; refine wpList_append_src rfl _ _ 158 rfl w.heap.size 191 i0 _ 24 112 Tryz.underlying158 hi0 hz0 hz1 hz2 hzs (by decide) w.heap.size 0 0 [] rfl (empty_row w _ 24) _ B N (Fs.reverse.flatMap frC) rfl hsrc frF_one (by unfold maxLen; omega) (by omega) (by simp) ?_)
    intro g1 cap1 w3 hown3 hgrow hat hlt
    have t3 : Touch w w3 [] := HT1.out.grown hgrow (fun k hk => .inr (by cases hk; exact Nat.le_refl _))
    have hs3 := t3.size
    try simp only [List.nil_append, Nat.zero_add] at hown3
    have b3 := (HS.out.touch t3).cell
    rw [hvl'.out, List.length_reverse, ← HN.out] at b3
    obtain ⟨c3, f3⟩ := b3
    have HT3 : Hid _ := t3
    clear hsrc c1 c0 hgrow t3
    go_wp2_with (at_builtin; refine wpList_append_own_at _ rfl _ _ 158 rfl w.heap.size 191 i0 _ 24 112 Tryz.underlying158 hi0 hz0 hz1 hz2 hzs (by decide) _ _ _ rfl (hown3.alloc _) ⟨w3.heap.size, 0, none⟩ 1 1 [.bool false, .bool false, .bool false, .bool false, .bool false, .bool false, .bool false, .bool false, .bool false, .bool false, .bool false, .bool false, .int .u64 0, .int .u64 0, .int .u64 0, .int .u64 0, .int .u64 0, .int .u64 0, .int .u64 0, .int .u64 0, .int .u64 0, .int .u64 0, .int .u64 0, .int .u64 0] rfl rfl (World.news_of_block (cs := #[.bool false, .bool false, .bool false, .bool false, .bool false, .bool false, .bool false, .bool false, .bool false, .bool false, .bool false, .bool false, .int .u64 0, .int .u64 0, .int .u64 0, .int .u64 0, .int .u64 0, .int .u64 0, .int .u64 0, .int .u64 0, .int .u64 0, .int .u64 0, .int .u64 0, .int .u64 0]) (t := 191) (fr := (0, 0)) (heap_alloc_new w3 _)) (by simp [Value.oneCell']) (by unfold maxLen; omega) (by omega) (by simp; omega) ?_)
    intro v4 w4 hown4 hgrow4 _ hat4
    have t4 : Touch w w4 [] := (HT3.out.alloc _).grown hgrow4 (fun k hk => .inr (by simp [Value.ownBlock] at hk; omega))
    have hex : ∃ g4 cap4, v4 = .slice (some ⟨g4, 0, none⟩) (N + 1) cap4 := by
      rcases hown4.2 with ⟨_, h0⟩ | ⟨g4, cap4, cur, e, _⟩
      · omega
      · exact ⟨g4, cap4, e⟩
    obtain ⟨g4, cap4, hv4⟩ := hex
    rw [hv4] at hown4 ⊢
    have b4 := (HS.out.touch t4).cell
    rw [hvl'.out, List.length_reverse, ← HN.out] at b4
    obtain ⟨c4, f4⟩ := b4
    have hlen : (f0 :: Fs).reverse.length = N + 1 := by rw [List.length_reverse, List.length_cons, HN.out]
    have hrow : w4.ownsRow w.heap.size 191 24 (.slice (some ⟨g4, 0, none⟩) (f0 :: Fs).reverse.length cap4) (f0 :: Fs).reverse.length ((f0 :: Fs).reverse.flatMap frC) := by
      rw [hlen, List.reverse_cons, List.flatMap_append]
      exact hown4
    have hL := HS.out.laid (Rs' := (f0 :: Fs).reverse) t4 hrow (by
      intro x hx
      rw [List.mem_reverse, List.mem_cons] at hx
      rcases hx with rfl | hx
      · exact FrOk.f0
      · exact HS.out.ok x (by simpa using hx)) (by rw [hlen]; omega) (by rw [hlen]; omega)
    rw [hlen] at hL
    have HL : Hid _ := hL
    clear hL hrow hown4 hgrow4 hat4 t4 c3 f3 hown3 hv4
    go_wp2
    go_ret
    obtain ⟨h1, h2, h3⟩ := HL.out
    exact ⟨_, rfl, h1, h2, h3⟩

/-- All but the last frame of a row. -/
theorem row_cut {w : World} {B g cap : Nat} {f f2 : Fr} {r : List Fr} (h : w.ownsRow B 191 24 (.slice (some ⟨g, 0, none⟩) (f :: f2 :: r).reverse.length cap) (f :: f2 :: r).reverse.length ((f :: f2 :: r).reverse.flatMap frC)) (hok : ∀ x ∈ (f :: f2 :: r).reverse, FrOk x) :
    w.ownsRow B 191 24 (.slice (some ⟨g, 0, none⟩) (r.length + 1) cap) (r.length + 1) ((f2 :: r).reverse.flatMap frC) := by
  have hok2 : ∀ x ∈ (f2 :: r).reverse, FrOk x := fun x hx => hok x (by rw [List.mem_reverse] at hx ⊢; exact List.mem_cons_of_mem _ hx)
  have hl : ((f2 :: r).reverse.flatMap frC).length = (r.length + 1) * 24 := by rw [frF_len hok2]; simp
  refine ⟨hl, .inr ?_⟩
  rcases h.2 with ⟨e, _⟩ | ⟨g', cap', cur, e, hB, hg, h1, h2, h3, h4⟩
  · simp at e
  · simp only [Value.slice.injEq, Option.some.injEq, Addr.mk.injEq] at e
    obtain ⟨⟨rfl, _⟩, _, rfl⟩ := e
    simp only [List.length_reverse, List.length_cons] at h1 h4
    refine ⟨g, cap, cur, rfl, hB, hg, by omega, h2, h3, ?_⟩
    have e2 : cur.toList.take ((r.length + 1) * 24) = (cur.toList.take ((r.length + 1 + 1) * 24)).take ((r.length + 1) * 24) := by
      rw [List.take_take, Nat.min_eq_left (by omega)]
    rw [e2, h4, List.reverse_cons, List.flatMap_append, List.take_left' hl]

theorem hcut_cap {w : World} {B g cap n : Nat} {xs : List Value} (h : w.ownsRow B 191 24 (.slice (some ⟨g, 0, none⟩) n cap) n xs) : n ≤ cap := by
  rcases h.2 with ⟨e, _⟩ | ⟨g', cap', cur, e, hB, hg, h1, _⟩
  · simp at e
  · simp only [Value.slice.injEq, Option.some.injEq, Addr.mk.injEq] at e
    obtain ⟨_, _, rfl⟩ := e
    exact h1

/-- All ways end alike: shown once. -/
theorem once {G Q : Prop} (pf : G) (body : G → Q) : Q := body pf

/-- append, by what it is known to come to. -/
theorem step_append_run {P : Program} {w : World} {ops : Array Oper} {o : Oper} {a : Act} {K : Act → World → Prop} {Q : Exit → Act → World → Prop} {E : Prop} (hgd : o.guard = none) (s x : Operand) (t ty : TypeId)
    (ho : o.op = .call { callee := .builtin .append, args := #[s, x], argTypes := #[t, t] }) (hty : o.type = ty) (v1 v2 v3 : Value) (w3 : World) (hs : a.eval s = v1) (hx : a.eval x = v2)
    (hr : (Builtin.append_ #[t, t] ty #[v1, v2]).run P w = .ok v3 w3) (h : K (a.put o.dst v3) w3) : if Region.wanted o (yielded ops a.tmps) = true then Oper.wp P o a w K Q else E := by
  have hw : Region.wanted o (yielded ops a.tmps) = true := by simp [Region.wanted, hgd]
  rw [if_pos hw]
  subst hty
  unfold Oper.wp execOp
  simp only [ho, resolve, invoke, builtin, Sem.run_bind, Sem.run_pure, Result.andThen_ok, List.map_toArray, List.map_cons, List.map_nil, hs, hx, hr]
  exact h

set_option maxRecDepth 100000 in
set_option maxHeartbeats 1000000 in
theorem rdrop_any {B : Nat} {w : World} {b : Nat} {vl : Value} {Fs : List Fr} (h : RLog B w b vl Fs.reverse) : Calls Tryz.prog 109 #[ptr b] w (RPost B w b vl (dropS Fs)) := by
  have hd := rdepth_any h
  have h5 := h.le
  have hp := h.pos
  obtain ⟨g, cap, hvl, _, _⟩ := h.row
  obtain ⟨c0, fz⟩ := h.cell
  rw [hvl] at c0
  rw [List.length_reverse] at hd h5 hp c0
  have HS : Hid _ := h
  have hvl' : Hid _ := hvl
  clear h hvl
  match Fs, HS, hvl' with
  | [], _, _ => simp at hp
  | [f], HS, hvl' =>
    unfold dropS
    dsimp only
    simp only [List.length_cons, List.length_nil] at hd c0
    go_enter Tryz.func109, Tryz.ntmps109
    go_wp2_with fail
    refine hd.mono ?_
    rintro e w1 ⟨rfl, rfl⟩
    clear hd
    go_wp2
    go_ret
    exact HS.out.stays (Touch.refl _ _) 8
  | f :: f2 :: r, HS, hvl' =>
    unfold dropS
    dsimp only
    simp only [List.length_cons] at hd c0 h5
    obtain ⟨M, hM⟩ : ∃ M, M = r.length := ⟨_, rfl⟩
    rw [← hM] at hd c0 h5
    have hwr : IntKind.i64.wrap (M : Int) = M := by rw [IntKind.wrap_i64] <;> omega
    have hwr1 : IntKind.i64.wrap ((M : Int) + 1) = (M : Int) + 1 := by rw [IntKind.wrap_i64] <;> omega
    obtain ⟨i0, hi0, hz0, hz1, hz2⟩ := info_parts Tryz.info_frame
    have hzs : (Value.agg (frC f0).toArray).cells.size = 24 := by decide
    have T1 : Touch w ((w.alloc (.cells #[] 191)).drew) [] := ((Touch.refl w []).alloc _).drew
    have hl1 := HS.out.touch T1
    have hown := hl1.own
    rw [hvl'.out] at hown
    have hcut := row_cut hown HS.out.ok
    rw [← hM] at hcut
    have hem : ((w.alloc (.cells #[] 191)).drew).ownsRow w.heap.size 191 24 (.slice (some ⟨w.heap.size, 0, none⟩) 0 0) 0 [] := empty_row w _ 24
    obtain ⟨g4, cap4, w4, hrun, hown4, hgrow4, hat4, hlt4⟩ := run_append_src (P := Tryz.prog) ((w.alloc (.cells #[] 191)).drew) 158 158 191 w.heap.size i0 _ 24 112 Tryz.underlying158 hi0 hz0 hz1 hz2 hzs (by decide) w.heap.size 0 0 [] hem _ B (M + 1) ((f2 :: r).reverse.flatMap frC) hcut frF_one (by unfold maxLen; omega) (by omega) (by simp)
    have t4 : Touch w w4 [] := T1.grown hgrow4 (fun k hk => .inr (by cases hk; exact Nat.le_refl _))
    simp only [List.nil_append, Nat.zero_add] at hown4 hrun
    have b4 := (HS.out.touch t4).cell
    rw [hvl'.out] at b4
    obtain ⟨c4, f4⟩ := b4
    have hlen : (f2 :: r).reverse.length = M + 1 := by rw [List.length_reverse, List.length_cons, hM]
    have hL := HS.out.laid (Rs' := (f2 :: r).reverse) t4 (by rw [hlen]; exact hown4) (by
      intro x hx
      exact HS.out.ok x (by rw [List.mem_reverse] at hx ⊢; exact List.mem_cons_of_mem _ hx)) (by rw [hlen]; omega) (by rw [hlen]; omega)
    rw [hlen] at hL
    have HL : Hid _ := hL
    have HR : Hid _ := hrun
    have cA : (w.alloc (.cells #[] 191)).cell? ⟨b, 0, none⟩ = some (.slice (some ⟨g, 0, none⟩) (M + 1 + 1) cap) := (World.cell?_alloc_past _ _ _ (lt_of_heap HS.out.st)).trans c0
    have hneM : ¬ ((M : Int) + 1 = 0) := by omega
    have hMc : M + 1 ≤ cap := hcut_cap hcut
    have hMc' : (M : Int) + 1 ≤ cap := by omega
    have hMt : ((M : Int) + 1).toNat = M + 1 := by omega
    have hM0 : (0 : Int) ≤ (M : Int) + 1 := by omega
    clear hL hrun hown4 hgrow4 hat4 t4 hem hcut hown hl1 T1 hM hlen
    go_enter Tryz.func109, Tryz.ntmps109
    go_wp2_with fail
    refine hd.mono ?_
    rintro e w1 ⟨rfl, rfl⟩
    clear hd
    go_wp2_with fail
    apply once
    case body =>
      intro hall
      go_region_law (refine step_append_run (by rfl) _ _ _ 158 (by rfl) (by rfl) _ _ (.slice (some ⟨g4, 0, none⟩) (M + 1) cap4) w4 (by rfl) (by rfl) HR.out ?_)
      all_goals exact hall
    go_wp2
    go_ret
    obtain ⟨h1, h2, h3⟩ := HL.out
    exact ⟨_, rfl, h1, h2, h3⟩

end Go.Proofs.YtmiaibpdeofokaaGreatDoor

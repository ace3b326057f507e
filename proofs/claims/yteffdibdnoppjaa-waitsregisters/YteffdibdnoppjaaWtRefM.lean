/-
  The document's lists (rowlockref13): Sleep, Cancel, Fork BY THEIR CONTRACTS.
-/
import Derived.Test.YteffdibdnoppjaaWtRef
namespace Go.Proofs.Yteffdibdnoppjaa
set_option linter.unusedVariables false
set_option linter.unusedSimpArgs false
open Go.RowKit Go.Maps
attribute [local go_sem] Oper.semAt_some

theorem step_append_run {P : Program} {w : World} {ops : Array Oper} {o : Oper} {a : Act} {K : Act → World → Prop} {Q : Exit → Act → World → Prop} {E : Prop} (hgd : o.guard = none) (s x : Operand) (t ty : TypeId)
    (ho : o.op = .call { callee := .builtin .append, args := #[s, x], argTypes := #[t, t] }) (hty : o.type = ty) (v1 v2 v3 : Value) (w3 : World) (hs : a.eval s = v1) (hx : a.eval x = v2)
    (hr : (Builtin.append_ #[t, t] ty #[v1, v2]).run P w = .ok v3 w3) (h : K (a.put o.dst v3) w3) : if Region.wanted o (yielded ops a.tmps) = true then Oper.wp P o a w K Q else E := by
  have hw : Region.wanted o (yielded ops a.tmps) = true := by simp [Region.wanted, hgd]
  rw [if_pos hw]
  subst hty
  unfold Oper.wp execOp
  simp only [ho, resolve, invoke, builtin, Sem.run_bind, Sem.run_pure, Result.andThen_ok, List.map_toArray, List.map_cons, List.map_nil, hs, hx, hr]
  exact h

def RPost (w : World) (b : Nat) (F : List Nat) (L' : List WD) (w' : World) : Prop := ∃ F', RAt w' b F' L' ∧ Touch w w' F ∧ ∀ x ∈ F', x ∈ F ∨ w.heap.size ≤ x
theorem RAt.stay {w w' : World} {b : Nat} {F : List Nat} {L : List WD} (h : RAt w b F L) (t : Touch w w' []) : RPost w b F L w' :=
  ⟨F, h.touch t (by simp), t.mono (by simp), fun x hx => .inl hx⟩

theorem Try.info_one : (Try.prog.info? 73).map (fun i => (i.zero, i.size, i.bytes)) = some (some (.agg #[.int .i64 0, .bool false, .bool false, .bool false, .bool false, .bool false, .bool false, .bool false, .bool false, .bool false, .bool false, .bool false, .bool false, .bool false]), 14, 24) := by kernel_rfl
theorem ocells_one (x : WD) : ∀ u ∈ ocells x, u.oneCell' = true := by
  intro u hu
  simp only [ocells, List.mem_cons, List.not_mem_nil, or_false] at hu
  rcases hu with rfl | rfl | rfl | rfl | rfl | rfl | rfl | rfl | rfl | rfl | rfl | rfl | rfl | rfl <;> rfl

/-- append of ones that can be read to a row of one's own. -/
theorem ones_app {w : World} {B : Nat} {v : Value} {L1 l : List WD} {ao : Option Addr} {cap : Nat} (h : oneOwn w B v L1) (hr : ORow w (.slice ao l.length cap) l) (hl : L1.length + l.length ≤ 1000) (hB : B ≤ w.heap.size) (ty : TypeId) :
    ∃ ao' cap' w', (Builtin.append_ #[64, 64] ty #[v, .slice ao l.length cap]).run Try.prog w = .ok (.slice ao' (L1.length + l.length) cap') w' ∧ oneOwn w' B (.slice ao' (L1.length + l.length) cap') (L1 ++ l) ∧ Touch w w' v.ownBlock.toList ∧ (∀ g, (Value.slice ao' (L1.length + l.length) cap').ownBlock = some g → v.ownBlock = some g ∨ w.heap.size ≤ g) := by
  obtain ⟨i0, hi, hz0, hz1, hz2⟩ := info_parts' Try.info_one
  obtain ⟨v', w', h1, h2, h3, h4⟩ := run_app (P := Try.prog) (cells := ocells) 64 ty 73 i0 _ 14 24 Try.underlying64 hi hz0 hz1 hz2 rfl (by decide) ocells_len ocells_one h hr (by omega) (by decide) hB
  have h2' : oneOwn w' B v' (L1 ++ l) := by
    show w'.ownsRow _ _ _ _ _ _
    rw [List.length_append, List.flatMap_append]
    exact h2
  obtain ⟨ao', cap', rfl⟩ := owns_slice h2
  refine ⟨ao', cap', w', h1, h2', (Touch.refl w _).grown h3 (fun k hk => .inl (by simp [hk])), ?_⟩
  intro g hg
  rcases h4 with h4 | h4
  · left; rw [← h4]; exact hg
  · right; rw [h4] at hg; simp at hg; omega
theorem ones_empty (w : World) : oneOwn (w.alloc (.cells #[] 73)) w.heap.size (.slice (some ⟨w.heap.size, 0, none⟩) 0 0) [] := empty_row' w 73 14
theorem own_low {w : World} {B B' n m : Nat} {e : TypeId} {v : Value} {xs : List Value} (h : w.ownsRow B e m v n xs) (hB : B' ≤ B) : w.ownsRow B' e m v n xs := by
  refine ⟨h.1, ?_⟩
  rcases h.2 with hn | ⟨g', cap, cur, e, hb, r⟩
  · exact .inl hn
  · exact .inr ⟨g', cap, cur, e, Nat.le_trans hB hb, r⟩

/-- The end: a row that is new is stored. -/
theorem rstore {w w1 : World} {b : Nat} {F : List Nat} {L L' : List WD} {v' : Value} (h : RAt w b F L) (t : Touch w w1 []) (hn : oneOwn w1 w.heap.size v' L') (hw : WWf L') :
    w1.frozen? ⟨b, 0, none⟩ = false ∧ (∃ v, w1.cell? ⟨b, 0, none⟩ = some v) ∧ RPost w b F L' (w1.setCell ⟨b, 0, none⟩ v') := by
  obtain ⟨v, rfl, ho⟩ := h
  have hbl := lt_of_heap ho.st
  have hst : w1.heap[b]? = some (.cells #[v] 66 (0, 0)) := (t.block b hbl (by simp)).trans ho.st
  have t4 : Touch w1 (w1.setCell ⟨b, 0, none⟩ v') [b] := (Touch.refl w1 [b]).setCell (.inl (by simp)) _
  have hg := own_lt hn
  refine ⟨by simp [World.frozen?, hst], ⟨v, by simp [World.cell?, hst]⟩, b :: v'.ownBlock.toList, ⟨v', rfl, ⟨heap_setCell_same _ _ _ _ _ _ hst, own_low (ownsRow_touch hn t4 (fun g hgg hs => by have := (hg g hgg).1; simp at hs; omega)) (Nat.zero_le _), fun g hgg => by have := (hg g hgg).1; omega, hw⟩⟩, (t.mono (by simp)).setCell (.inl (by simp)) _, ?_⟩
  intro x hx
  rcases List.mem_cons.1 hx with rfl | hx
  · exact .inl (by simp)
  · exact .inr (hg x (by simpa using hx)).1

set_option maxRecDepth 100000 in
set_option maxHeartbeats 1000000 in
theorem rfork_any {w : World} {b : Nat} {F : List Nat} {L : List WD} (h : RAt w b F L) : Calls Try.prog 24 #[ptr b] w fun e w' => ∃ b' F', e = .returned (ptr b') ∧ RAt w' b' F' L ∧ Touch w w' [] ∧ ∀ x ∈ F', w.heap.size ≤ x := by
  obtain ⟨v, rfl, ho⟩ := h
  have hlen := ho.wf.len
  have hWF : Hid _ := ho.wf
  obtain ⟨ao, cap, rfl, c0, f0, hbl, hc⟩ := ho.read
  have T1 : Touch w (w.alloc (.cells #[] 73)) [] := (Touch.refl w []).alloc _
  obtain ⟨ao', cap', w2, hrun, hown, t2, hb2⟩ := ones_app (ones_empty w) (SRow.keep (srow_of ocells_len ho.own) T1 (by simp)) (by simp only [List.length_nil]; omega) (by simp) 64
  simp only [List.length_nil, Nat.zero_add, List.nil_append] at hrun hown hb2
  have HT2 : Hid (Touch w w2 []) := T1.trans t2 (fun x hx => .inr (by simp [Value.ownBlock] at hx; omega))
  have HO : Hid _ := hown
  clear ho hc T1 t2 hown hb2
  generalize hN : L.length = N at hrun c0
  go_enter Try.func24, Try.ntmps24
  go_wp2_with (at_builtin; refine Lib.wpList_append_run _ rfl _ _ _ _ rfl _ _ rfl rfl _ _ hrun ?_)
  go_wp2
  go_ret
  have hO : oneOwn w2 w.heap.size (.slice ao' L.length cap') L := HO.out
  rw [hN] at hO
  have ta : Touch w2 (w2.alloc (.cells #[.slice ao' N cap'] 66)) [] := (Touch.refl w2 []).alloc _
  have hg : ∀ g, (Value.slice ao' N cap').ownBlock = some g → w.heap.size ≤ g ∧ g < w2.heap.size := own_lt hO
  refine ⟨_, _, rfl, ⟨.slice ao' N cap', rfl, ⟨heap_alloc_new w2 _, ?_, fun g hgg => by have := (hg g hgg).2; omega, hWF.out⟩⟩, HT2.out.trans ta (by simp), ?_⟩
  · have := own_low (ownsRow_touch hO ta (by simp)) (Nat.zero_le _)
    exact this
  · intro x hx
    rcases List.mem_cons.1 hx with rfl | hx
    · exact HT2.out.size
    · exact (hg x (by simpa using hx)).1

/-! ### Ones, written and taken out -/
theorem own_set {w : World} {B g cap n m : Nat} {e : TypeId} {xs : List Value} (h : w.ownsRow B e m (.slice (some ⟨g, 0, none⟩) n cap) n xs) (i : Nat) (u : Value) :
    (w.setCell ⟨g, i, none⟩ u).ownsRow B e m (.slice (some ⟨g, 0, none⟩) n cap) n (xs.set i u) := by
  refine ⟨by have := h.1; simpa using this, .inr ?_⟩
  rcases h.2 with ⟨e, _⟩ | ⟨g', cap', cur, e, hB, hg, h1, h2, h3, h4⟩
  · simp at e
  · simp only [Value.slice.injEq, Option.some.injEq, Addr.mk.injEq] at e
    obtain ⟨⟨rfl, _⟩, _, rfl⟩ := e
    refine ⟨g, cap, _, rfl, hB, heap_setCell_same _ _ _ _ _ _ hg, h1, h2, by simpa using h3, ?_⟩
    rw [← h4]
    simp only [Array.toList_setIfInBounds]
    rw [List.take_set]
theorem flat_set : ∀ (L : List WD) (k : Nat) (hk : k < L.length) (j : Nat) (u : Value) (y : WD), j < 14 → ocells y = (ocells L[k]).set j u → (L.set k y).flatMap ocells = (L.flatMap ocells).set (k * 14 + j) u
  | x :: L, 0, hk, j, u, y, hj, hy => by
    simp only [List.set_cons_zero, List.flatMap_cons, Nat.zero_mul, Nat.zero_add]
    rw [List.set_append_left _ _ (by rw [ocells_len]; exact hj)]
    simp only [List.getElem_cons_zero] at hy
    rw [hy]
  | x :: L, k + 1, hk, j, u, y, hj, hy => by
    simp only [List.set_cons_succ, List.flatMap_cons]
    rw [List.set_append_right _ _ (by rw [ocells_len]; omega), ocells_len]
    have : (k + 1) * 14 + j - 14 = k * 14 + j := by omega
    rw [this, flat_set L k (by simpa using hk) j u y hj (by simpa using hy)]
theorem th_inj {L : List WD} (h : (L.map WD.th).Nodup) {i k : Nat} (hi : i < L.length) (hk : k < L.length) (e : L[i].th = L[k].th) : i = k := by
  have := List.getElem_inj (xs := L.map WD.th) (i := i) (j := k) (h₀ := by simpa using hi) (h₁ := by simpa using hk) h
  simp only [List.getElem_map] at this
  exact this.1 e
theorem slept_set {L : List WD} (h : (L.map WD.th).Nodup) {k : Nat} (hk : k < L.length) : slept L L[k].th = L.set k { L[k] with sl := true } := by
  refine List.ext_getElem (by simp [slept]) fun i h1 h2 => ?_
  have hi : i < L.length := by simpa [slept] using h1
  simp only [slept, List.getElem_map, List.getElem_set]
  by_cases e : k = i
  · subst e; simp
  · rw [if_neg e, if_neg (fun e2 => e (th_inj h hk hi e2.symm))]
theorem out_cut : ∀ {L : List WD} (h : (L.map WD.th).Nodup) {k : Nat} (hk : k < L.length), outP L (fun t => t == L[k].th) = L.take k ++ L.drop (k + 1)
  | x :: L, h, 0, hk => by
    rw [List.map_cons, List.nodup_cons] at h
    simp only [List.getElem_cons_zero, List.take_zero, List.nil_append, List.drop_succ_cons, List.drop_zero]
    unfold outP
    rw [List.filter_cons_of_neg (by simp)]
    exact List.filter_eq_self.2 (fun y hy => by
      have : y.th ≠ x.th := fun e => h.1 (e ▸ List.mem_map.2 ⟨y, hy, rfl⟩)
      simpa using this)
  | x :: L, h, k + 1, hk => by
    rw [List.map_cons, List.nodup_cons] at h
    have hk' : k < L.length := by simpa using hk
    have := out_cut h.2 hk'
    unfold outP at this ⊢
    simp only [List.getElem_cons_succ, List.take_succ_cons, List.cons_append, List.drop_succ_cons]
    have hne : x.th ≠ L[k].th := fun e => h.1 (e ▸ List.mem_map.2 ⟨_, List.getElem_mem hk', rfl⟩)
    rw [List.filter_cons_of_pos (by simpa using hne), this]

set_option maxRecDepth 100000 in
set_option maxHeartbeats 2000000 in
theorem rsleep_any {w : World} {b : Nat} {F : List Nat} {L : List WD} (h : RAt w b F L) (th : Int) : Calls Try.prog 42 #[ptr b, .int .i64 th] w fun e w' => e = .returned (.int .i64 (sleepE L th).1) ∧ RPost w b F (sleepE L th).2 w' := by
  have HH : Hid _ := h
  have HST : Hid _ := h.stay (Touch.refl w [])
  have hmy : HidC _ _ _ _ _ := ⟨rmay_any b th w⟩
  have hat : HidC _ _ _ _ _ := ⟨rat_any h th⟩
  obtain ⟨v, rfl, ho⟩ := h
  have hlen := ho.wf.len
  obtain ⟨ao, cap, rfl, c0, f0, hbl, hc⟩ := ho.read
  cases h1 : noTh th with
  | true =>
    have e1 : sleepE L th = (2, L) := by unfold sleepE; rw [if_pos h1]
    rw [e1]
    rw [h1] at hmy
    simp only [if_true] at hmy
    clear ho hc h1 e1 hat
    go_enter Try.func42, Try.ntmps42
    go_wp2_with fail
    refine hmy.out.mono ?_
    rintro e w1 ⟨rfl, rfl⟩
    clear hmy
    go_wp2
    go_ret
    exact ⟨rfl, HST.out⟩
  | false =>
    rw [h1] at hmy
    simp only [Bool.false_eq_true, if_false] at hmy
    cases hf : findW L th with
    | none =>
      have e1 : sleepE L th = (8, L) := by unfold sleepE; rw [if_neg (by rw [h1]; simp), if_pos (.inl (by rw [hf]; rfl))]
      rw [e1]
      rw [atW_none hf] at hat
      clear ho hc hf h1 e1
      generalize L.length = N at *
      go_enter Try.func42, Try.ntmps42
      go_wp2_with fail
      refine hmy.out.mono ?_
      rintro e w1 ⟨rfl, rfl⟩
      clear hmy
      go_wp2_with fail
      refine hat.out.mono ?_
      rintro e w1 ⟨rfl, rfl⟩
      clear hat
      go_wp2
      go_ret
      exact ⟨rfl, HST.out⟩
    | some x =>
      obtain ⟨k, hk, ek, ex⟩ := atW_some ho.wf hf
      rw [ek] at hat
      obtain ⟨g, rfl, hg, d⟩ := hc k hk
      have d0 : w.cell? ⟨g, k * 14 + 13, none⟩ = some (.bool x.sl) := by have := d 13 (by omega); rw [ex] at this; exact this
      have hk1 : (k : Int) < L.length := by omega
      have hk0 : (0 : Int) ≤ k := by omega
      have hsp : slP L th = x.sl := by unfold slP; rw [hf]; rfl
      have hth : L[k].th = th := by rw [ex]; exact (findW_some hf).2
      cases hsl : x.sl with
      | true =>
        have e1 : sleepE L th = (8, L) := by unfold sleepE; rw [if_neg (by rw [h1]; simp), if_pos (.inr (by rw [hsp]; exact hsl))]
        rw [e1]
        rw [hsl] at d0
        clear ho hc hf h1 e1 d ex hth hsp ek
        generalize L.length = N at *
        go_enter Try.func42, Try.ntmps42
        go_wp2_with fail
        refine hmy.out.mono ?_
        rintro e w1 ⟨rfl, rfl⟩
        clear hmy
        go_wp2_with fail
        refine hat.out.mono ?_
        rintro e w1 ⟨rfl, rfl⟩
        clear hat
        go_wp2
        go_ret
        exact ⟨rfl, HST.out⟩
      | false =>
        have e1 : sleepE L th = (0, slept L th) := by unfold sleepE; rw [if_neg (by rw [h1]; simp), if_neg (by rw [hsp, hsl, hf]; simp)]
        rw [e1]
        rw [hsl] at d0
        have T1 : Touch w (w.alloc (.cells #[] 73)) [] := (Touch.refl w []).alloc _
        obtain ⟨ao', cap', w2, hrun, hown, t2, hb2⟩ := ones_app (ones_empty w) (SRow.keep (srow_of ocells_len ho.own) T1 (by simp)) (by simp only [List.length_nil]; omega) (by simp) 64
        simp only [List.length_nil, Nat.zero_add, List.nil_append] at hrun hown hb2
        have tw2 : Touch w w2 [] := T1.trans t2 (fun x hx => .inr (by simp [Value.ownBlock] at hx; omega))
        have hWF := slept_wf ho.wf th
        -- the new row, its k-th written
        rcases hown.2 with ⟨e0, h00⟩ | ⟨g', cap'', cur, e0, hB, hgg, hlc, hcm, hsz, htk⟩
        · omega
        · simp only [Value.slice.injEq] at e0
          obtain ⟨rfl, _, rfl⟩ := e0
          have hset := own_set hown (k * 14 + 13) (.bool true)
          have hfl := flat_set L k hk 13 (.bool true) { L[k] with sl := true } (by omega) rfl
          rw [← hfl, ← slept_set ho.wf.nod hk, hth] at hset
          have hset' : oneOwn (w2.setCell ⟨g', k * 14 + 13, none⟩ (.bool true)) w.heap.size (.slice (some ⟨g', 0, none⟩) L.length cap') (slept L th) := by
            have hl : (slept L th).length = L.length := by simp [slept]
            show World.ownsRow _ _ _ _ _ _ _
            rw [hl]; exact hset
          have tw3 : Touch w (w2.setCell ⟨g', k * 14 + 13, none⟩ (.bool true)) [] := tw2.setCell (.inr hB) _
          obtain ⟨k1, ⟨v1, k2⟩, k3⟩ := rstore HH.out tw3 hset' hWF
          have H3 : Hid _ := k3
          have p1 : ∃ u, w2.cell? ⟨g', k * 14 + 13, none⟩ = some u := by
            have := srow_of ocells_len hown
            obtain ⟨g2, off2, e2, _, hcc⟩ := this.at k hk
            simp only [Option.some.injEq, Addr.mk.injEq] at e2
            obtain ⟨rfl, rfl, _⟩ := e2
            have := hcc 13 (by omega)
            rw [Nat.zero_add] at this
            exact ⟨_, this⟩
          obtain ⟨u1, p1⟩ := p1
          have p2 : w2.frozen? ⟨g', k * 14 + 13, none⟩ = false := by simp [World.frozen?, hgg]
          clear ho hc hf h1 e1 d ex hth hsp T1 hown t2 hb2 tw2 hset hset' tw3 k3 hfl hWF hgg htk hlc hcm hsz ek
          generalize L.length = N at *
          go_enter Try.func42, Try.ntmps42
          go_wp2_with fail
          refine hmy.out.mono ?_
          rintro e w1 ⟨rfl, rfl⟩
          clear hmy
          go_wp2_with fail
          refine hat.out.mono ?_
          rintro e w1 ⟨rfl, rfl⟩
          clear hat
          go_wp2_with (at_builtin; refine Lib.wpList_append_run _ rfl _ _ _ _ rfl _ _ rfl rfl _ _ hrun ?_)
          go_wp2
          go_ret
          exact ⟨rfl, H3.out⟩

end Go.Proofs.Yteffdibdnoppjaa

/-
  Drop of package stripes BY ITS CONTRACT: a loop over the function that yields.
-/
import Derived.Test.YthkphhjhgkclfaaDoorRangeTold
namespace Go.Proofs.YthkphhjhgkclfaaDoor
set_option linter.unusedVariables false
set_option linter.unusedSimpArgs false
open Go.RowKit Go.Shelf
attribute [local go_sem] Oper.semAt_some

theorem Touch.putObj {a w : World} {S : List Nat} (h : Touch a w S) {l : Nat} (hl : l ∈ S ∨ a.heap.size ≤ l) (o : Obj) : Touch a (w.putObj l o) S :=
  h.trans (R := [l]) ⟨rfl, rfl, rfl, by simp, fun k _ hk => World.putObj_heap_other (by simpa using hk)⟩ (by simpa using hl)

theorem keeps_of_touch {W W' : World} {S : List Nat} (t : Touch W W' S) (hS : ∀ x ∈ S, ∃ cs ty fr, W.heap[x]? = some (.cells cs ty fr)) : KeepsOthers W W' :=
  ⟨t.size, fun k o hk ho => (t.block k (lt_of_heap hk) (fun hs => by
    obtain ⟨cs, ty, fr, e⟩ := hS k hs
    rw [hk] at e
    cases e
    simp [Obj.isCells] at ho)).trans hk⟩

/-- One cell of its own. -/
abbrev One (W : World) (p : Nat) (v : Value) (t : TypeId) : Prop := W.heap[p]? = some (.cells #[v] t (0, 0))
theorem One.cell {W : World} {p : Nat} {v : Value} {t : TypeId} (h : One W p v t) : W.cell? ⟨p, 0, none⟩ = some v := by simp [World.cell?, h]
theorem One.frozen {W : World} {p : Nat} {v : Value} {t : TypeId} (h : One W p v t) : W.frozen? ⟨p, 0, none⟩ = false := by simp [World.frozen?, h]

theorem One.set {W : World} {p : Nat} {v : Value} {t : TypeId} (h : One W p v t) (u : Value) : One (W.setCell ⟨p, 0, none⟩ u) p u t := by
  unfold One at *
  simp [World.setCell, Array.getElem?_modify, h]

/-- What Drop keeps between two rounds. -/
structure DropI (w : World) (s0 b : Nat) (now o : Int) (ws : List Int) (k : Nat) (W : World) : Prop where
  tab : TObj W b now (dk ws o k)
  sh : Sh W
  bt : One W s0 (ptr b) 23
  bo : One W (s0 + 1) (.int .i64 o) 3
  bn : One W (s0 + 1 + 1) (.int .i64 (ck ws o k : Nat)) 3
  ct : One W (s0 + 1 + 1 + 1) (ptr b) 23
  co : One W (s0 + 1 + 1 + 1 + 1) (.int .i64 o) 3
  t : Touch w W [b]

theorem DropI.touch {w : World} {s0 b : Nat} {now o : Int} {ws : List Int} {k : Nat} {W W' : World} {S : List Nat} (h : DropI w s0 b now o ws k W) (t : Touch W W' S) (hS : ∀ x ∈ S, s0 + 5 ≤ x) (hb : b < s0) (hg : 0 < s0) (hw : w.heap.size ≤ s0) : DropI w s0 b now o ws k W' :=
  have n (j : Nat) (hj : j < s0 + 5) : j ∉ S := fun hh => by have := hS j hh; omega
  ⟨h.tab.touch t (n b (by omega)), h.sh.touch t (n _ (by omega)), (t.block _ (lt_of_heap h.bt) (n _ (by omega))).trans h.bt, (t.block _ (lt_of_heap h.bo) (n _ (by omega))).trans h.bo, (t.block _ (lt_of_heap h.bn) (n _ (by omega))).trans h.bn,
    (t.block _ (lt_of_heap h.ct) (n _ (by omega))).trans h.ct, (t.block _ (lt_of_heap h.co) (n _ (by omega))).trans h.co, h.t.trans t (fun x hx => .inr (by have := hS x hx; omega))⟩

theorem wpIn_name {F : Fence} {n : Nat} {P : Program} {c : Code} {Q : Exit → Act → World → Prop} {a : Act} {w : World} (h : ∀ W, W = w → c.wpIn F n P Q a W) : c.wpIn F n P Q a w := h w rfl

theorem heldBy_any (b : Nat) (o : Int) (w : World) : Calls Tryd.prog 48 #[ptr b, .int .i64 o] w fun e w' => e = .returned (.func (.func 63) #[] #[ptr w.heap.size, ptr (w.heap.size + 1)]) ∧ w' = (w.alloc (.cells #[ptr b] 23)).alloc (.cells #[.int .i64 o] 3) := by
  go_enter Tryd.func48, Tryd.ntmps48
  go_wp2
  go_ret
  exact ⟨by simp, rfl⟩

/-- One cell, laid last but j. -/
theorem one_new (w : World) (v : Value) (t : TypeId) : One (w.alloc (.cells #[v] t)) w.heap.size v t := heap_alloc_new w _
theorem One.alloc {W : World} {p : Nat} {v : Value} {t : TypeId} (h : One W p v t) (o : Obj) : One (W.alloc o) p v t := (heap_alloc_old _ _ (lt_of_heap h)).trans h

set_option maxRecDepth 100000 in
set_option maxHeartbeats 1000000 in
theorem tdrop_ext {w : World} {b : Nat} {now : Int} {ws : List Int} (h : TObj w b now ws) (G : Good now ws) (S : Sh w) (hbg : 0 ≠ b) (o : Int) : Calls Tryd.prog 20 #[ptr b, .int .i64 o] w fun e w' => e = .returned (.int .i64 (dropS ws o).1) ∧ TObj w' b now (dropS ws o).2 ∧ Touch w w' [b] := by
  refine (callsIn_wide (n := 5)).1 ?_
  refine callsIn_of_wp_marks Tryd.func20 rfl trivial ?_ rfl
  simp only [Tryd.ntmps20, List.size_toArray, List.length_cons, List.length_nil, Nat.reduceAdd, Nat.reduceSub, Array.replicate_succ, Array.replicate_zero, List.push_toArray, List.append_toArray, List.nil_append, List.cons_append]
  have HO : Hid _ := h
  have HS : Hid _ := S
  clear h S
  gi_wp2_with fail
  refine ⟨trivial, ?_⟩
  refine (callsIn_wide.2 (heldBy_any b o _)).mono ?_
  rintro e w1 ⟨rfl, hw1⟩
  gi_wp2_with fail
  refine wpIn_name fun W1 hW1 => ?_
  have hsz : W1.heap.size = w.heap.size + 1 + 1 + 1 + 1 + 1 := by rw [hW1]; simp
  have HI0 : Hid (DropI w w.heap.size b now o ws 0 W1) := by
    have t5 : Touch w W1 [] := by rw [hW1]; exact (((((Touch.refl w []).alloc _).alloc _).alloc _).alloc _).alloc _
    refine ⟨by rw [dk_zero]; exact HO.out.touch t5 (by simp), HS.out.touch t5 (by simp), ?_, ?_, ?_, ?_, ?_, t5.mono (by simp)⟩
    · rw [hW1]; exact ((((one_new w _ _).alloc _).alloc _).alloc _).alloc _
    · rw [hW1]
      have := one_new (w.alloc (.cells #[ptr b] 23)) (.int .i64 o) 3
      rw [World.size_alloc] at this
      exact ((this.alloc _).alloc _).alloc _
    · rw [hW1, ck_zero]
      have := one_new ((w.alloc (.cells #[ptr b] 23)).alloc (.cells #[.int .i64 o] 3)) (.int .i64 0) 3
      rw [World.size_alloc, World.size_alloc] at this
      exact (this.alloc _).alloc _
    · rw [hW1]
      have := one_new (((w.alloc (.cells #[ptr b] 23)).alloc (.cells #[.int .i64 o] 3)).alloc (.cells #[.int .i64 0] 3)) (ptr b) 23
      rw [World.size_alloc, World.size_alloc, World.size_alloc] at this
      exact this.alloc _
    · rw [hW1]
      have := one_new ((((w.alloc (.cells #[ptr b] 23)).alloc (.cells #[.int .i64 o] 3)).alloc (.cells #[.int .i64 0] 3)).alloc (.cells #[ptr b] 23)) (.int .i64 o) 3
      rw [World.size_alloc, World.size_alloc, World.size_alloc, World.size_alloc] at this
      exact this
  have hb : b < w.heap.size := HO.out.lt
  have hg : 0 < w.heap.size := HS.out.lt
  clear hW1 HO HS
  refine rangeFunc_told (by omega) (gf := 63) (lb := #[ptr (w.heap.size + 1 + 1 + 1), ptr (w.heap.size + 1 + 1 + 1 + 1)]) rfl (enters_of Tryd.func63 (by kernel_rfl) rfl) rfl
    (DropI w w.heap.size b now o ws) ws.length (fun k => isMine o ((dk ws o k).getD k 0) = true)
    (fun k W l o1 o' hi hl ho hc => hi.touch (Touch.putObj (Touch.refl W [l]) (.inl (by simp)) o') (by intro x hx; simp at hx; omega) hb hg (Nat.le_refl _))
    (fun k W o' hi => hi.touch ((Touch.refl W []).alloc o') (by simp) hb hg (Nat.le_refl _))
    HI0.out
    (fun k => { tmps := #[ptr b, .int .i64 o, ptr w.heap.size, ptr (w.heap.size + 1), .int .i64 0, ptr (w.heap.size + 1 + 1), .int .i64 (k : Int), ptr b, .int .i64 o, .func (.func 63) #[] #[ptr (w.heap.size + 1 + 1 + 1), ptr (w.heap.size + 1 + 1 + 1 + 1)], .int .i64 (k : Int), undef, undef, undef, undef, undef, undef, undef], defers := [] }) ?seq ?assign ?body ?done
  case seq =>
    intro fn W hK hY
    refine heldBy1_in 4 (by omega) _ _ _ b o now (dk ws o) ws.length (dk_len ws o) (dk_good G o) _ ?_ ?_ ?_ hY W hK
    · rintro k W ⟨hi, _, _⟩
      exact ⟨hi.tab, hi.sh, hi.ct.cell, hi.co.cell⟩
    · rintro k W W' ⟨hi, hl, hd⟩ t
      exact ⟨hi.touch t (by simp) hb hg (Nat.le_refl _), (t.block _ (lt_of_heap hl) (by simp)).trans hl, (t.block _ (lt_of_heap hd) (by simp)).trans hd⟩
    · rintro k W hk hm ⟨hi, hl, hd⟩
      rw [dk_at ws o k hk] at hm
      have e1 : dk ws o (k + 1) = dk ws o k := by
        rw [dk_succ ws o k hk, freed_not hm]
        have hl' : k < (dk ws o k).length := by rw [dk_len]; exact hk
        have e : (dk ws o k)[k] = ws[k] := by
          have := dk_at ws o k hk
          rw [List.getD_eq_getElem?_getD, List.getElem?_eq_getElem hl'] at this
          simpa using this
        conv => lhs; rw [← e]
        exact List.set_getElem_self hl'
      have e2 : ck ws o (k + 1) = ck ws o k := by rw [ck_succ ws o k hk, if_neg hm]; rfl
      exact ⟨⟨by rw [e1]; exact hi.tab, hi.sh, hi.bt, hi.bo, by rw [e2]; exact hi.bn, hi.ct, hi.co, hi.t⟩, hl, hd⟩
  case assign =>
    intro l k W K hK
    gi_wp2
    exact hK
  case body =>
    intro l k W hk hm hi
    rw [dk_at ws o k hk] at hm
    have c0 := hi.bt.cell
    have c1 := hi.bo.cell
    have hr := trestore_ext hi.tab (dk_good G o k) hi.sh o k
    obtain ⟨e1, e2⟩ := drop_step G o k hk
    rw [e1] at hr
    generalize (restoreS (dk ws o k) o k).1 = er at *
    have hcs := ck_succ ws o k hk
    rw [if_pos hm] at hcs
    have hcl := ck_le ws o k
    have h8 := G.le
    have HI : Hid _ := hi
    clear hi e1 e2 hm
    gi_wp2_with fail
    refine ⟨trivial, ?_⟩
    refine (CallsIn.inRound l (callsIn_wide.2 hr)).mono ?_
    rintro e w2 ⟨rfl, hT2, t2⟩
    clear hr
    have nb (j : Nat) (hj : w.heap.size ≤ j) : j ∉ [b] := by simp; omega
    have bn2 : One w2 (w.heap.size + 1 + 1) (.int .i64 (ck ws o k : Nat)) 3 := (t2.block _ (lt_of_heap HI.out.bn) (nb _ (by omega))).trans HI.out.bn
    have c2 := bn2.cell
    have f2 := bn2.frozen
    have HT2 : Hid _ := hT2
    have HB2 : Hid _ := bn2
    clear hT2 bn2
    gi_wp2
    have t3 : Touch W (w2.setCell ⟨w.heap.size + 1 + 1, 0, none⟩ (.int .i64 ((ck ws o (k + 1) : Nat) : Int))) [b, w.heap.size + 1 + 1] := (t2.mono (by simp)).setCell (.inl (by simp)) _
    have e3 : IntKind.i64.wrap ((ck ws o k : Int) + 1) = ((ck ws o (k + 1) : Nat) : Int) := by rw [hcs, IntKind.wrap_i64]; omega
    have n2 (j : Nat) (hj : j ≠ b ∧ j ≠ w.heap.size + 1 + 1) : j ∉ [b, w.heap.size + 1 + 1] := by simp; omega
    have h0 := HI.out
    have e4 : ((ck ws o k : Int) + 1) = ((ck ws o (k + 1) : Nat) : Int) := by rw [hcs]; omega
    first | rw [e3] | rw [e4]
    have tt : Touch w2 (w2.setCell ⟨w.heap.size + 1 + 1, 0, none⟩ (.int .i64 ((ck ws o (k + 1) : Nat) : Int))) [w.heap.size + 1 + 1] := (Touch.refl _ _).setCell (.inl (by simp)) _
    have hk1 : KeepsOthers W (w2.setCell ⟨w.heap.size + 1 + 1, 0, none⟩ (.int .i64 ((ck ws o (k + 1) : Nat) : Int))) := keeps_of_touch t3 (by
      intro x hx
      simp only [List.mem_cons, List.not_mem_nil, or_false] at hx
      rcases hx with rfl | rfl
      · exact ⟨_, _, _, h0.tab.st⟩
      · exact ⟨_, _, _, h0.bn⟩)
    have hi1 : DropI w w.heap.size b now o ws (k + 1) (w2.setCell ⟨w.heap.size + 1 + 1, 0, none⟩ (.int .i64 ((ck ws o (k + 1) : Nat) : Int))) :=
      ⟨HT2.out.touch tt (by simp; omega), h0.sh.touch t3 (n2 _ ⟨hbg, by omega⟩),
      (t3.block _ (lt_of_heap h0.bt) (n2 _ (by omega))).trans h0.bt, (t3.block _ (lt_of_heap h0.bo) (n2 _ (by omega))).trans h0.bo, One.set HB2.out _,
      (t3.block _ (lt_of_heap h0.ct) (n2 _ (by omega))).trans h0.ct, (t3.block _ (lt_of_heap h0.co) (n2 _ (by omega))).trans h0.co,
      h0.t.trans t3 (by intro x hx; simp only [List.mem_cons, List.not_mem_nil, or_false] at hx; rcases hx with rfl | rfl; exact .inl (by simp); exact .inr (by omega))⟩
    first | exact ⟨hk1, hi1⟩ | exact ⟨rfl, hk1, hi1⟩
  case done =>
    intro W hi hd
    have c2 := hi.bn.cell
    have HI : Hid _ := hi
    clear hi
    gi_wp2
    refine ⟨by simp, .inl ⟨_, _, rfl, run_takeDeferred hd, ?_⟩⟩
    refine ⟨_, results_tmp rfl _ _ _, ?_, ?_, ?_⟩
    · rw [← ck_all]; rfl
    · rw [← dk_all]; exact HI.out.tab.touch (Touch.putObj (Touch.refl _ [W1.heap.size]) (.inl (by simp)) _) (by simp; omega)
    · exact HI.out.t.trans (Touch.putObj (Touch.refl _ [W1.heap.size]) (.inl (by simp)) _) (by intro x hx; simp at hx; exact .inr (by omega))

end Go.Proofs.YthkphhjhgkclfaaDoor

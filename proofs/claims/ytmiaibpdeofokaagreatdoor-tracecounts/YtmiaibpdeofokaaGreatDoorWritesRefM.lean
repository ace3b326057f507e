/-
  THE DOCUMENT's LOG: Merge BY ITS CONTRACT.
-/
import Derived.Test.YtmiaibpdeofokaaGreatDoorWritesRefP
namespace Go.Proofs.YtmiaibpdeofokaaGreatDoor
set_option linter.unusedVariables false
set_option linter.unusedSimpArgs false
open Go.RowKit Go.Maps Go.Shelf

/-- The frame below, when j variables have been let down. -/
def overK (f g : Fr) (j : Nat) : Fr := (fover f g).take j ++ g.drop j
theorem overK_zero (f g : Fr) : overK f g 0 = g := by simp [overK]
theorem overK_all {f g : Fr} (hf : FrOk f) (hg : FrOk g) : overK f g 12 = fover f g := by
  unfold overK
  rw [List.take_of_length_le (by rw [(hf.over hg).len]; exact Nat.le_refl _), List.drop_eq_nil_of_le (by rw [hg.len]; exact Nat.le_refl _), List.append_nil]
theorem overK_ok {f g : Fr} (hf : FrOk f) (hg : FrOk g) (j : Nat) : FrOk (overK f g j) := by
  have ho := hf.over hg
  refine ⟨?_, fun v hv => ?_⟩
  · unfold overK
    rw [List.length_append, List.length_take, List.length_drop, ho.len, hg.len]; omega
  · unfold overK at hv
    rw [List.mem_append] at hv
    rcases hv with hv | hv
    · exact ho.wf v (List.mem_of_mem_take hv)
    · exact hg.wf v (List.mem_of_mem_drop hv)
theorem fget_at {f : Fr} (h : FrOk f) (j : Nat) (hj : j < 12) : fget f j = f[j]'(by rw [h.len]; exact hj) := by
  unfold fget
  rw [if_pos (by omega), List.getD_eq_getElem?_getD, Int.toNat_natCast, List.getElem?_eq_getElem (by rw [h.len]; exact hj)]
  rfl
theorem overK_succ {f g : Fr} (hf : FrOk f) (hg : FrOk g) (j : Nat) (hj : j < 12) : overK f g (j + 1) = (overK f g j).set j ((fget f j).or (g[j]'(by rw [hg.len]; exact hj))) := by
  have hl1 := hf.len
  have hl2 := hg.len
  have ho := (hf.over hg).len
  unfold overK
  rw [List.take_succ_eq_append_getElem (by rw [ho]; exact hj), List.set_append_right _ _ (by simp; omega)]
  simp only [List.length_take, ho]
  rw [show j - min j 12 = 0 by omega, List.drop_eq_getElem_cons (i := j) (by rw [hl2]; exact hj), List.set_cons_zero, List.append_assoc, List.singleton_append]
  congr 2
  rw [fget_at hf j hj]
  simp [fover]
theorem overK_some {f g : Fr} (hf : FrOk f) (hg : FrOk g) (j : Nat) (hj : j < 12) {v : Int} (h : fget f j = some v) : overK f g (j + 1) = fput (overK f g j) j v := by
  rw [overK_succ hf hg j hj, h]; rfl
theorem overK_none {f g : Fr} (hf : FrOk f) (hg : FrOk g) (j : Nat) (hj : j < 12) (h : fget f j = none) : overK f g (j + 1) = overK f g j := by
  rw [overK_succ hf hg j hj, h]
  have hl : j < (overK f g j).length := by rw [(overK_ok hf hg j).len]; exact hj
  have e : (overK f g j)[j] = g[j]'(by rw [hg.len]; exact hj) := by
    have h1 : (overK f g j)[j]? = g[j]? := by
      unfold overK
      rw [List.getElem?_append_right (by simp; omega)]
      simp only [List.length_take, (hf.over hg).len, List.getElem?_drop]
      congr 1
      omega
    rw [List.getElem?_eq_getElem hl, List.getElem?_eq_getElem (by rw [hg.len]; exact hj)] at h1
    exact Option.some.inj h1
  show (overK f g j).set j (g[j]'(by rw [hg.len]; exact hj)) = _
  rw [← e]
  exact List.set_getElem_self hl

theorem heap_two1 (w : World) (o o' : Obj) : ((w.alloc o).alloc o').heap[w.heap.size]? = some o := (heap_alloc_old _ _ (by simp)).trans (heap_alloc_new w o)
theorem heap_two2 (w : World) (o o' : Obj) : ((w.alloc o).alloc o').heap[w.heap.size + 1]? = some o' := by
  have := heap_alloc_new (w.alloc o) o'
  rwa [World.size_alloc] at this
theorem there_of {W : World} {p n : Nat} {cs : Array Value} {t : TypeId} (h : W.heap[p]? = some (.cells cs t (0, 0))) (hn : n = cs.size) : W.there p 0 n := fun j hj => by
  subst hn
  simp [World.cell?, World.frozen?, h, hj]
theorem two_blocks {W : World} {p q : Nat} {cs ds : Array Value} {t : TypeId} {A C : List Value} (hp : W.heap[p]? = some (.cells cs t (0, 0))) (hq : W.heap[q]? = some (.cells ds t (0, 0))) (hne : p ≠ q) (h1 : cs.size = A.length) (h2 : ds.size = C.length) :
    ((W.setCells p 0 A).setCells q 0 C).heap[p]? = some (.cells A.toArray t (0, 0)) ∧ ((W.setCells p 0 A).setCells q 0 C).heap[q]? = some (.cells C.toArray t (0, 0)) := by
  have e1 := setCells_whole hp h1
  have e2 := ((setCells_touch p A 0 W).block q (lt_of_heap hq) (by simp; omega)).trans hq
  exact ⟨((setCells_touch q C 0 _).block p (lt_of_heap e1) (by simpa using hne)).trans e1, setCells_whole e2 h2⟩

set_option maxRecDepth 100000 in
set_option maxHeartbeats 2000000 in
theorem rmerge_any {B : Nat} {w : World} {b : Nat} {vl : Value} {Fs : List Fr} (h : RLog B w b vl Fs.reverse) : Calls Tryz.prog 110 #[ptr b] w (RPost B w b vl (mergeS Fs)) := by
  have hd := rdepth_any h
  have h5 := h.le
  have hp := h.pos
  obtain ⟨g, cap, hvl, _, _⟩ := h.row
  obtain ⟨c0, fz⟩ := h.cell
  rw [hvl] at c0
  rw [List.length_reverse] at hd h5 hp c0
  have HS : Hid _ := h
  have hvl' : Hid _ := hvl
  clear h hvl
  match Fs, HS, hvl' with
  | [], _, _ => simp at hp
  | [f], HS, hvl' =>
    unfold mergeS
    dsimp only
    simp only [List.length_cons, List.length_nil] at hd c0
    go_enter Tryz.func110, Tryz.ntmps110
    go_wp2_with fail
    refine hd.mono ?_
    rintro e w1 ⟨rfl, rfl⟩
    clear hd
    go_wp2
    go_ret
    exact HS.out.stays (Touch.refl _ _) 8
  | f :: f2 :: r, HS, hvl' =>
    unfold mergeS
    dsimp only
    simp only [List.length_cons] at hd c0 h5
    obtain ⟨M, hM⟩ : ∃ M, M = r.length := ⟨_, rfl⟩
    rw [← hM] at hd c0 h5
    have hwr1 : IntKind.i64.wrap ((M : Int) + 1) = (M : Int) + 1 := by rw [IntKind.wrap_i64] <;> omega
    have hwr2 : IntKind.i64.wrap ((M : Int) + 1 + 1) = (M : Int) + 1 + 1 := by rw [IntKind.wrap_i64] <;> omega
    have hwr0 : IntKind.i64.wrap (M : Int) = M := by rw [IntKind.wrap_i64] <;> omega
    have hneM : ¬ ((M : Int) + 1 = 0) := by omega
    have hMi1 : (M : Int) + 1 < (M : Int) + 1 + 1 := by omega
    have hMi0 : (M : Int) < (M : Int) + 1 + 1 := by omega
    have hMp : (0 : Int) ≤ (M : Int) + 1 := by omega
    have hwr3 : IntKind.i64.wrap ((M : Int) + 1 + 1 - 2) = M := by rw [IntKind.wrap_i64] <;> omega
    have hMt : ((M : Int) + 1).toNat = M + 1 := by omega
    have hlen : (f :: f2 :: r).reverse.length = M + 1 + 1 := by simp [hM]
    have hrA : w.rangeAt g ((M + 1) * 24) (frC f) := by
      obtain ⟨g', cap', e', hr⟩ := HS.out.last (M + 1) (by rw [hlen]; omega)
      have := hvl'.out.symm.trans e'
      simp only [Value.slice.injEq, Option.some.injEq, Addr.mk.injEq] at this
      obtain ⟨⟨rfl, _⟩, _, _⟩ := this
      have e2 : (f :: f2 :: r).reverse[M + 1]'(by rw [hlen]; omega) = f := by simp [hM]
      rw [e2] at hr
      exact hr
    have hrC : w.rangeAt g (M * 24) (frC f2) := by
      obtain ⟨g', cap', e', hr⟩ := HS.out.last M (by rw [hlen]; omega)
      have := hvl'.out.symm.trans e'
      simp only [Value.slice.injEq, Option.some.injEq, Addr.mk.injEq] at this
      obtain ⟨⟨rfl, _⟩, _, _⟩ := this
      have e2 : (f :: f2 :: r).reverse[M]'(by rw [hlen]; omega) = f2 := by
        simp only [List.reverse_cons, List.append_assoc, List.cons_append, List.nil_append]
        rw [List.getElem_append_right (by simp; omega)]
        simp [hM]
      rw [e2] at hr
      exact hr
    have hokf : FrOk f := HS.out.ok f (by simp)
    have hokg : FrOk f2 := HS.out.ok f2 (by simp)
    obtain ⟨A, hA⟩ : ∃ A, A = frC f := ⟨_, rfl⟩
    obtain ⟨C, hC⟩ : ∃ C, C = frC f2 := ⟨_, rfl⟩
    have hAl : A.length = 24 := by rw [hA]; exact frC_len hokf
    have hCl : C.length = 24 := by rw [hC]; exact frC_len hokg
    have hinf0 : (Tryz.prog.info? 191).map (·.size) = some 24 := by kernel_rfl
    have hinf : (Tryz.prog.info? 191).map (·.size) = some A.length := by rw [hAl]; exact hinf0
    have hinfC : (Tryz.prog.info? 191).map (·.size) = some C.length := by rw [hCl]; exact hinf0
    have hinf' : (Tryz.prog.info? 191).map (·.size) = some A.toArray.size := by rw [hinf]; simp
    have hinfC' : (Tryz.prog.info? 191).map (·.size) = some C.toArray.size := by rw [hinfC]; simp
    have hA1 : A.toArray.all (·.oneCell') = true := by rw [hA]; exact all_oneCell_toArray (frC_one f)
    have hC1 : C.toArray.all (·.oneCell') = true := by rw [hC]; exact all_oneCell_toArray (frC_one f2)
    rw [← hA] at hrA
    rw [← hC] at hrC
    have hkeep : ∀ w', Touch w w' [] → (w'.cell? ⟨b, 0, none⟩ = some (.slice (some ⟨g, 0, none⟩) (M + 1 + 1) cap) ∧ w'.rangeAt g ((M + 1) * 24) A ∧ w'.rangeAt g (M * 24) C) := fun w' t => ⟨(t.cell (p := ⟨b, 0, none⟩) (World.block_lt_of_cell? w _ c0) (by simp)).trans c0, rangeAt_touch hrA t, rangeAt_touch hrC t⟩
    have HM : Hid _ := hM
    have HA : Hid _ := hA
    have HC : Hid _ := hC
    have hbw : b < w.heap.size := lt_of_heap HS.out.st
    clear hM hlen hA hC hinf0 hrA hrC
    go_enter Tryz.func110, Tryz.ntmps110
    go_wp2_with fail
    refine hd.mono ?_
    rintro e w1 ⟨rfl, rfl⟩
    clear hd
    go_wp2_with fail
    refine wp_region_held_drew (S := fun w' => w'.cell? ⟨b, 0, none⟩ = some (.slice (some ⟨g, 0, none⟩) (M + 1 + 1) cap) ∧ w'.rangeAt g ((M + 1) * 24) A ∧ w'.rangeAt g (M * 24) C) (by kernel_rfl) (hkeep _ (Touch.refl w []).drew) (fun hHeld => ?_)
    refine wpAnyH_take (i := 0) (v := ptr b) rfl (by kernel_rfl) (by kernel_rfl) (by kernel_rfl) (fun _ _ _ h => h) (Or.inl ⟨by rfl, ?_⟩) hHeld ?_
    · intro w' hSw
      try simp only [Act.put, List.getElem_toArray, List.getElem_cons_succ, List.getElem_cons_zero, List.setIfInBounds_toArray, List.set_cons_zero, List.set_cons_succ]
      (obtain ⟨hc, hr1, hr2⟩ := hSw; go_simp)
    try simp only [Act.put, List.getElem_toArray, List.getElem_cons_succ, List.getElem_cons_zero, List.setIfInBounds_toArray, List.set_cons_zero, List.set_cons_succ]
    refine wpAnyH_take (i := 1) (v := ptr b) rfl (by kernel_rfl) (by kernel_rfl) (by kernel_rfl) (fun _ _ _ h => h) (Or.inl ⟨by rfl, ?_⟩) hHeld ?_
    · intro w' hSw
      try simp only [Act.put, List.getElem_toArray, List.getElem_cons_succ, List.getElem_cons_zero, List.setIfInBounds_toArray, List.set_cons_zero, List.set_cons_succ]
      (obtain ⟨hc, hr1, hr2⟩ := hSw; go_simp)
    try simp only [Act.put, List.getElem_toArray, List.getElem_cons_succ, List.getElem_cons_zero, List.setIfInBounds_toArray, List.set_cons_zero, List.set_cons_succ]
    refine wpAnyH_take (i := 2) (v := (.pointer (some ⟨b, 0, none⟩))) rfl (by kernel_rfl) (by kernel_rfl) (by kernel_rfl) (fun _ _ _ h => h) (Or.inl ⟨by rfl, ?_⟩) hHeld ?_
    · intro w' hSw
      try simp only [Act.put, List.getElem_toArray, List.getElem_cons_succ, List.getElem_cons_zero, List.setIfInBounds_toArray, List.set_cons_zero, List.set_cons_succ]
      (obtain ⟨hc, hr1, hr2⟩ := hSw; go_simp)
    try simp only [Act.put, List.getElem_toArray, List.getElem_cons_succ, List.getElem_cons_zero, List.setIfInBounds_toArray, List.set_cons_zero, List.set_cons_succ]
    refine wpAnyH_take (i := 3) (v := (.slice (some ⟨g, 0, none⟩) (M + 1 + 1) cap)) rfl (by kernel_rfl) (by kernel_rfl) (by kernel_rfl) (fun _ _ _ h => h) (Or.inl ⟨by rfl, ?_⟩) hHeld ?_
    · intro w' hSw
      try simp only [Act.put, List.getElem_toArray, List.getElem_cons_succ, List.getElem_cons_zero, List.setIfInBounds_toArray, List.set_cons_zero, List.set_cons_succ]
      (obtain ⟨hc, hr1, hr2⟩ := hSw; go_simp)
    try simp only [Act.put, List.getElem_toArray, List.getElem_cons_succ, List.getElem_cons_zero, List.setIfInBounds_toArray, List.set_cons_zero, List.set_cons_succ]
    refine wpAnyH_take (i := 4) (v := (.int .i64 ((M : Int) + 1 + 1))) rfl (by kernel_rfl) (by kernel_rfl) (by kernel_rfl) (fun _ _ _ h => h) (Or.inl ⟨by rfl, ?_⟩) hHeld ?_
    · intro w' hSw
      try simp only [Act.put, List.getElem_toArray, List.getElem_cons_succ, List.getElem_cons_zero, List.setIfInBounds_toArray, List.set_cons_zero, List.set_cons_succ]
      (obtain ⟨hc, hr1, hr2⟩ := hSw; go_simp)
    try simp only [Act.put, List.getElem_toArray, List.getElem_cons_succ, List.getElem_cons_zero, List.setIfInBounds_toArray, List.set_cons_zero, List.set_cons_succ]
    refine wpAnyH_take (i := 5) (v := (.int .i64 ((M : Int) + 1))) rfl (by kernel_rfl) (by kernel_rfl) (by kernel_rfl) (fun _ _ _ h => h) (Or.inl ⟨by rfl, ?_⟩) hHeld ?_
    · intro w' hSw
      try simp only [Act.put, List.getElem_toArray, List.getElem_cons_succ, List.getElem_cons_zero, List.setIfInBounds_toArray, List.set_cons_zero, List.set_cons_succ]
      (obtain ⟨hc, hr1, hr2⟩ := hSw; go_simp)
    try simp only [Act.put, List.getElem_toArray, List.getElem_cons_succ, List.getElem_cons_zero, List.setIfInBounds_toArray, List.set_cons_zero, List.set_cons_succ]
    refine wpAnyH_take (i := 6) (v := (.pointer (some ⟨g, (M + 1) * 24, none⟩))) rfl (by kernel_rfl) (by kernel_rfl) (by kernel_rfl) (fun _ _ _ h => h) (Or.inl ⟨by rfl, ?_⟩) hHeld ?_
    · intro w' hSw
      try simp only [Act.put, List.getElem_toArray, List.getElem_cons_succ, List.getElem_cons_zero, List.setIfInBounds_toArray, List.set_cons_zero, List.set_cons_succ]
      (obtain ⟨hc, hr1, hr2⟩ := hSw; go_simp)
    try simp only [Act.put, List.getElem_toArray, List.getElem_cons_succ, List.getElem_cons_zero, List.setIfInBounds_toArray, List.set_cons_zero, List.set_cons_succ]
    refine wpAnyH_take (i := 7) (v := (.agg A.toArray)) rfl (by kernel_rfl) (by kernel_rfl) (by kernel_rfl) (fun _ _ _ h => h) (Or.inl ⟨by rfl, ?_⟩) hHeld ?_
    · intro w' hSw
      try simp only [Act.put, List.getElem_toArray, List.getElem_cons_succ, List.getElem_cons_zero, List.setIfInBounds_toArray, List.set_cons_zero, List.set_cons_succ]
      exact exec_load_mid w' 191 (.tmp 25) rfl g ((M + 1) * 24) rfl A _ hSw.2.1 Tryz.underlying191 rfl hinf
    try simp only [Act.put, List.getElem_toArray, List.getElem_cons_succ, List.getElem_cons_zero, List.setIfInBounds_toArray, List.set_cons_zero, List.set_cons_succ]
    refine wpAnyH_take (i := 8) (v := ptr b) rfl (by kernel_rfl) (by kernel_rfl) (by kernel_rfl) (fun _ _ _ h => h) (Or.inl ⟨by rfl, ?_⟩) hHeld ?_
    · intro w' hSw
      try simp only [Act.put, List.getElem_toArray, List.getElem_cons_succ, List.getElem_cons_zero, List.setIfInBounds_toArray, List.set_cons_zero, List.set_cons_succ]
      (obtain ⟨hc, hr1, hr2⟩ := hSw; go_simp)
    try simp only [Act.put, List.getElem_toArray, List.getElem_cons_succ, List.getElem_cons_zero, List.setIfInBounds_toArray, List.set_cons_zero, List.set_cons_succ]
    refine wpAnyH_take (i := 9) (v := ptr b) rfl (by kernel_rfl) (by kernel_rfl) (by kernel_rfl) (fun _ _ _ h => h) (Or.inl ⟨by rfl, ?_⟩) hHeld ?_
    · intro w' hSw
      try simp only [Act.put, List.getElem_toArray, List.getElem_cons_succ, List.getElem_cons_zero, List.setIfInBounds_toArray, List.set_cons_zero, List.set_cons_succ]
      (obtain ⟨hc, hr1, hr2⟩ := hSw; go_simp)
    try simp only [Act.put, List.getElem_toArray, List.getElem_cons_succ, List.getElem_cons_zero, List.setIfInBounds_toArray, List.set_cons_zero, List.set_cons_succ]
    refine wpAnyH_take (i := 10) (v := (.pointer (some ⟨b, 0, none⟩))) rfl (by kernel_rfl) (by kernel_rfl) (by kernel_rfl) (fun _ _ _ h => h) (Or.inl ⟨by rfl, ?_⟩) hHeld ?_
    · intro w' hSw
      try simp only [Act.put, List.getElem_toArray, List.getElem_cons_succ, List.getElem_cons_zero, List.setIfInBounds_toArray, List.set_cons_zero, List.set_cons_succ]
      (obtain ⟨hc, hr1, hr2⟩ := hSw; go_simp)
    try simp only [Act.put, List.getElem_toArray, List.getElem_cons_succ, List.getElem_cons_zero, List.setIfInBounds_toArray, List.set_cons_zero, List.set_cons_succ]
    refine wpAnyH_take (i := 11) (v := (.slice (some ⟨g, 0, none⟩) (M + 1 + 1) cap)) rfl (by kernel_rfl) (by kernel_rfl) (by kernel_rfl) (fun _ _ _ h => h) (Or.inl ⟨by rfl, ?_⟩) hHeld ?_
    · intro w' hSw
      try simp only [Act.put, List.getElem_toArray, List.getElem_cons_succ, List.getElem_cons_zero, List.setIfInBounds_toArray, List.set_cons_zero, List.set_cons_succ]
      (obtain ⟨hc, hr1, hr2⟩ := hSw; go_simp)
    try simp only [Act.put, List.getElem_toArray, List.getElem_cons_succ, List.getElem_cons_zero, List.setIfInBounds_toArray, List.set_cons_zero, List.set_cons_succ]
    refine wpAnyH_take (i := 12) (v := (.int .i64 ((M : Int) + 1 + 1))) rfl (by kernel_rfl) (by kernel_rfl) (by kernel_rfl) (fun _ _ _ h => h) (Or.inl ⟨by rfl, ?_⟩) hHeld ?_
    · intro w' hSw
      try simp only [Act.put, List.getElem_toArray, List.getElem_cons_succ, List.getElem_cons_zero, List.setIfInBounds_toArray, List.set_cons_zero, List.set_cons_succ]
      (obtain ⟨hc, hr1, hr2⟩ := hSw; go_simp)
    try simp only [Act.put, List.getElem_toArray, List.getElem_cons_succ, List.getElem_cons_zero, List.setIfInBounds_toArray, List.set_cons_zero, List.set_cons_succ]
    refine wpAnyH_take (i := 13) (v := (.int .i64 (M : Int))) rfl (by kernel_rfl) (by kernel_rfl) (by kernel_rfl) (fun _ _ _ h => h) (Or.inl ⟨by rfl, ?_⟩) hHeld ?_
    · intro w' hSw
      try simp only [Act.put, List.getElem_toArray, List.getElem_cons_succ, List.getElem_cons_zero, List.setIfInBounds_toArray, List.set_cons_zero, List.set_cons_succ]
      (obtain ⟨hc, hr1, hr2⟩ := hSw; go_simp)
    try simp only [Act.put, List.getElem_toArray, List.getElem_cons_succ, List.getElem_cons_zero, List.setIfInBounds_toArray, List.set_cons_zero, List.set_cons_succ]
    refine wpAnyH_take (i := 14) (v := (.pointer (some ⟨g, M * 24, none⟩))) rfl (by kernel_rfl) (by kernel_rfl) (by kernel_rfl) (fun _ _ _ h => h) (Or.inl ⟨by rfl, ?_⟩) hHeld ?_
    · intro w' hSw
      try simp only [Act.put, List.getElem_toArray, List.getElem_cons_succ, List.getElem_cons_zero, List.setIfInBounds_toArray, List.set_cons_zero, List.set_cons_succ]
      (obtain ⟨hc, hr1, hr2⟩ := hSw; go_simp)
    try simp only [Act.put, List.getElem_toArray, List.getElem_cons_succ, List.getElem_cons_zero, List.setIfInBounds_toArray, List.set_cons_zero, List.set_cons_succ]
    refine wpAnyH_take (i := 15) (v := (.agg C.toArray)) rfl (by kernel_rfl) (by kernel_rfl) (by kernel_rfl) (fun _ _ _ h => h) (Or.inl ⟨by rfl, ?_⟩) hHeld ?_
    · intro w' hSw
      try simp only [Act.put, List.getElem_toArray, List.getElem_cons_succ, List.getElem_cons_zero, List.setIfInBounds_toArray, List.set_cons_zero, List.set_cons_succ]
      exact exec_load_mid w' 191 (.tmp 33) rfl g (M * 24) rfl C _ hSw.2.2 Tryz.underlying191 rfl hinfC
    try simp only [Act.put, List.getElem_toArray, List.getElem_cons_succ, List.getElem_cons_zero, List.setIfInBounds_toArray, List.set_cons_zero, List.set_cons_succ]
    clear hHeld
    refine wpAnyH_ready (rs := [16, 17]) (by kernel_rfl) (by simp) (AllReadyH.cons rfl (fun K hK => ?_) (AllReadyH.cons rfl (fun K hK => ?_) AllReadyH.nil))
    · rw [if_pos (by rfl)]
      go_simp
      refine hK.out _ _ (hkeep _ (by first | exact ((Touch.refl w []).alloc _).drew | exact ((Touch.refl w []).drew).alloc _)) (fun hHeld => ?_)
      clear hK
      try simp only [Act.put, List.getElem_toArray, List.getElem_cons_succ, List.getElem_cons_zero, List.setIfInBounds_toArray, List.set_cons_zero, List.set_cons_succ]
      clear hHeld
      refine wpAnyH_ready (rs := [17]) (by kernel_rfl) (by simp) (AllReadyH.cons rfl (fun K hK => ?_) AllReadyH.nil)
      rw [if_pos (by rfl)]
      go_simp
      refine hK.out _ _ (hkeep _ (by first | exact (((Touch.refl w []).alloc _).alloc _).drew | exact (((Touch.refl w []).drew).alloc _).alloc _)) (fun hHeld => ?_)
      clear hK
      try simp only [Act.put, List.getElem_toArray, List.getElem_cons_succ, List.getElem_cons_zero, List.setIfInBounds_toArray, List.set_cons_zero, List.set_cons_succ]
      clear hHeld
      refine wpAnyH_ready (rs := [18]) (by kernel_rfl) (by simp) (AllReadyH.cons rfl (fun K hK => ?_) AllReadyH.nil)
      rw [if_pos (by rfl)]
      refine wp_store_mid 191 _ _ rfl w.heap.size 0 A.toArray rfl rfl (there_of (heap_two1 w _ _) (by simp [hAl])) hinf' hA1 ?_
      try simp only [Act.put, List.getElem_toArray, List.getElem_cons_succ, List.getElem_cons_zero, List.setIfInBounds_toArray, List.set_cons_zero, List.set_cons_succ]
      refine hK.out _ _ (hkeep _ (Touch.trans (S := []) (by first | exact (((Touch.refl w []).alloc _).alloc _).drew | exact (((Touch.refl w []).drew).alloc _).alloc _) (setCells_touch _ _ _ _) (by simp))) (fun hHeld => ?_)
      clear hK
      try simp only [Act.put, List.getElem_toArray, List.getElem_cons_succ, List.getElem_cons_zero, List.setIfInBounds_toArray, List.set_cons_zero, List.set_cons_succ]
      clear hHeld
      refine wpAnyH_ready (rs := [19]) (by kernel_rfl) (by simp) (AllReadyH.cons rfl (fun K hK => ?_) AllReadyH.nil)
      rw [if_pos (by rfl)]
      refine wp_store_mid 191 _ _ rfl (w.heap.size + 1) 0 C.toArray rfl rfl (there_of ((setCells_touch _ _ _ _).block _ (by simp <;> omega) (by simp <;> omega) |>.trans (heap_two2 w _ _)) (by simp [hCl])) hinfC' hC1 ?_
      try simp only [Act.put, List.getElem_toArray, List.getElem_cons_succ, List.getElem_cons_zero, List.setIfInBounds_toArray, List.set_cons_zero, List.set_cons_succ]
      refine hK.out _ _ (hkeep _ (Touch.trans (S := []) (Touch.trans (S := []) (by first | exact (((Touch.refl w []).alloc _).alloc _).drew | exact (((Touch.refl w []).drew).alloc _).alloc _) (setCells_touch _ _ _ _) (by simp)) (setCells_touch _ _ _ _) (by simp))) (fun hHeld => ?_)
      clear hK
      try simp only [Act.put, List.getElem_toArray, List.getElem_cons_succ, List.getElem_cons_zero, List.setIfInBounds_toArray, List.set_cons_zero, List.set_cons_succ]
      clear hHeld
      refine wpAnyH_done (by kernel_rfl) ?_ _
      refine then_name (fun W => Touch w W [] ∧ W.heap[w.heap.size]? = some (.cells A.toArray 191 (0, 0)) ∧ W.heap[(w.heap.size + 1)]? = some (.cells C.toArray 191 (0, 0))) ⟨?_, ?_⟩ (fun W1 hW1 => ?_)
      · exact Touch.trans (S := []) (Touch.trans (S := []) (by first | exact (((Touch.refl w []).alloc _).alloc _).drew | exact (((Touch.refl w []).drew).alloc _).alloc _) (setCells_touch _ _ _ _) (by simp)) (setCells_touch _ _ _ _) (by simp)
      · exact two_blocks (W := World.drew _) (heap_two1 w _ _) (heap_two2 w _ _) (by omega) (by rw [hAl]; rfl) (by rw [hCl]; rfl)
      obtain ⟨T1, BT, BB⟩ := hW1
      have hl1 := HS.out.touch T1
      have HT1 : Hid _ := T1
      have HBT : Hid _ := BT
      have HBB : Hid _ := BB
      have hw1s := T1.size
      clear T1 BT BB hl1 hkeep c0 hinf hinfC hinf' hinfC' hA1 hC1
      go_wp2_with fail
      go_loopw [6] (fun t wr => ∃ j : Nat, t = .int .i64 j ∧ j ≤ 12 ∧ wr.heap[w.heap.size]? = some (.cells A.toArray 191 (0, 0)) ∧ wr.heap[(w.heap.size + 1)]? = some (.cells (frC (overK f f2 j)).toArray 191 (0, 0)) ∧ Touch w wr []) (fun t _ => 12 - (intOf t).toNat)
      case atStart => exact ⟨0, rfl, by omega, HBT.out, by rw [overK_zero, ← HC.out]; exact HBB.out, HT1.out⟩
      case round =>
        obtain ⟨j, rfl, hj, hbt, hbb, hT⟩ := hrel
        have hokj := overK_ok hokf hokg j
        have hts := hT.size
        by_cases hjt : j < 12
        · have hjt' : (j : Int) < 12 := by omega
          have m0 : wr.cell? ⟨w.heap.size, j, none⟩ = some (.bool (fget f j).isSome) := by
            have := frC_has hokf j hjt
            rw [← HA.out] at this
            simp [World.cell?, hbt, this]
          have m1 : wr.cell? ⟨w.heap.size, 12 + j, none⟩ = some (.int .u64 ((fget f j).getD 0)) := by
            have := frC_val hokf j hjt
            rw [← HA.out] at this
            simp [World.cell?, hbt, this]
          have HBT2 : Hid _ := hbt
          have HBB2 : Hid _ := hbb
          have HT2 : Hid _ := hT
          cases hq : fget f j with
          | none =>
            rw [hq] at m0 m1
            simp only [Option.isSome_none, Option.getD_none] at m0 m1
            have hov := overK_none hokf hokg j hjt hq
            clear hbt hbb hT
            go_wp2
            go_roundw
            case rel => exact ⟨j + 1, by go_num, by omega, HBT2.out, by rw [hov]; exact HBB2.out, HT2.out⟩
            case measure => simp [intOf] <;> omega
          | some v =>
            rw [hq] at m0 m1
            simp only [Option.isSome_some, Option.getD_some] at m0 m1
            have hov := overK_some hokf hokg j hjt hq
            obtain ⟨D, hD⟩ : ∃ D, D = (frC (overK f f2 j)).toArray := ⟨_, rfl⟩
            rw [← hD] at hbb
            have hDz : D.size = 24 := by rw [hD]; simpa using frC_len hokj
            have ht1 : j < D.size := by omega
            have ht2 : 12 + j < (D.setIfInBounds j (.bool true)).size := by rw [Array.size_setIfInBounds]; omega
            obtain ⟨y1, n1⟩ : ∃ y, wr.cell? ⟨(w.heap.size + 1), j, none⟩ = some y := ⟨_, by simp only [World.cell?, hbb]; exact Array.getElem?_eq_getElem ht1⟩
            have e1 : wr.frozen? ⟨(w.heap.size + 1), j, none⟩ = false := by simp [World.frozen?, hbb]
            have B3 := heap_setCell_same wr (w.heap.size + 1) j D 191 (.bool true) hbb
            obtain ⟨y2, n2⟩ : ∃ y, (wr.setCell ⟨(w.heap.size + 1), j, none⟩ (.bool true)).cell? ⟨(w.heap.size + 1), 12 + j, none⟩ = some y := ⟨_, by simp only [World.cell?, B3]; exact Array.getElem?_eq_getElem ht2⟩
            have e2 : (wr.setCell ⟨(w.heap.size + 1), j, none⟩ (.bool true)).frozen? ⟨(w.heap.size + 1), 12 + j, none⟩ = false := by simp [World.frozen?, B3]
            have B4 := heap_setCell_same (wr.setCell ⟨(w.heap.size + 1), j, none⟩ (.bool true)) (w.heap.size + 1) (12 + j) _ 191 (.int .u64 v) B3
            have hDf : (D.setIfInBounds j (.bool true)).setIfInBounds (12 + j) (.int .u64 v) = (frC (overK f f2 (j + 1))).toArray := by rw [hov, frC_put hokj j hjt v, hD]; simp
            rw [hDf] at B4
            have tS : Touch wr ((wr.setCell ⟨(w.heap.size + 1), j, none⟩ (.bool true)).setCell ⟨(w.heap.size + 1), 12 + j, none⟩ (.int .u64 v)) [(w.heap.size + 1)] := ((Touch.refl wr _).setCell (.inl (by simp)) _).setCell (.inl (by simp)) _
            have hbt4 := (tS.block w.heap.size (lt_of_heap hbt) (by simp <;> omega)).trans hbt
            have HB4 : Hid _ := B4
            have HT4 : Hid _ := hbt4
            have HTS : Hid _ := hT.trans tS (by intro x hx; simp at hx; exact .inr (by omega))
            clear hbt hbb hT B3 B4 tS hbt4 hDf hDz hD ht1 ht2
            go_wp2_with fail
            have hkp : ∀ w', Touch wr w' [(w.heap.size + 1)] → w'.cell? ⟨w.heap.size, 12 + j, none⟩ = some (.int .u64 v) := fun w' t => (t.cell (p := ⟨w.heap.size, 12 + j, none⟩) (World.block_lt_of_cell? wr _ m1) (by simp <;> omega)).trans m1
            refine wp_region_held_drew (S := fun w' => w'.cell? ⟨w.heap.size, 12 + j, none⟩ = some (.int .u64 v)) (by kernel_rfl) (hkp _ (Touch.refl wr _).drew) (fun hHeld => ?_)
            refine wpAnyH_take (i := 0) (v := (.int .i64 (j : Int))) rfl (by kernel_rfl) (by kernel_rfl) (by kernel_rfl) (fun _ _ _ h => h) (Or.inl ⟨by rfl, ?_⟩) hHeld ?_
            · intro w' hSw
              try simp only [Act.put, List.getElem_toArray, List.getElem_cons_succ, List.getElem_cons_zero, List.setIfInBounds_toArray, List.set_cons_zero, List.set_cons_succ]
              go_simp
            try simp only [Act.put, List.getElem_toArray, List.getElem_cons_succ, List.getElem_cons_zero, List.setIfInBounds_toArray, List.set_cons_zero, List.set_cons_succ]
            refine wpAnyH_take (i := 1) (v := (.int .i64 (j : Int))) rfl (by kernel_rfl) (by kernel_rfl) (by kernel_rfl) (fun _ _ _ h => h) (Or.inl ⟨by rfl, ?_⟩) hHeld ?_
            · intro w' hSw
              try simp only [Act.put, List.getElem_toArray, List.getElem_cons_succ, List.getElem_cons_zero, List.setIfInBounds_toArray, List.set_cons_zero, List.set_cons_succ]
              go_simp
            try simp only [Act.put, List.getElem_toArray, List.getElem_cons_succ, List.getElem_cons_zero, List.setIfInBounds_toArray, List.set_cons_zero, List.set_cons_succ]
            refine wpAnyH_take (i := 2) (v := (.int .i64 (j : Int))) rfl (by kernel_rfl) (by kernel_rfl) (by kernel_rfl) (fun _ _ _ h => h) (Or.inl ⟨by rfl, ?_⟩) hHeld ?_
            · intro w' hSw
              try simp only [Act.put, List.getElem_toArray, List.getElem_cons_succ, List.getElem_cons_zero, List.setIfInBounds_toArray, List.set_cons_zero, List.set_cons_succ]
              go_simp
            try simp only [Act.put, List.getElem_toArray, List.getElem_cons_succ, List.getElem_cons_zero, List.setIfInBounds_toArray, List.set_cons_zero, List.set_cons_succ]
            refine wpAnyH_take (i := 3) (v := (.pointer (some ⟨w.heap.size, 12, none⟩))) rfl (by kernel_rfl) (by kernel_rfl) (by kernel_rfl) (fun _ _ _ h => h) (Or.inl ⟨by rfl, ?_⟩) hHeld ?_
            · intro w' hSw
              try simp only [Act.put, List.getElem_toArray, List.getElem_cons_succ, List.getElem_cons_zero, List.setIfInBounds_toArray, List.set_cons_zero, List.set_cons_succ]
              go_simp
            try simp only [Act.put, List.getElem_toArray, List.getElem_cons_succ, List.getElem_cons_zero, List.setIfInBounds_toArray, List.set_cons_zero, List.set_cons_succ]
            refine wpAnyH_take (i := 4) (v := (.pointer (some ⟨w.heap.size, 12 + j, none⟩))) rfl (by kernel_rfl) (by kernel_rfl) (by kernel_rfl) (fun _ _ _ h => h) (Or.inl ⟨by rfl, ?_⟩) hHeld ?_
            · intro w' hSw
              try simp only [Act.put, List.getElem_toArray, List.getElem_cons_succ, List.getElem_cons_zero, List.setIfInBounds_toArray, List.set_cons_zero, List.set_cons_succ]
              go_simp
            try simp only [Act.put, List.getElem_toArray, List.getElem_cons_succ, List.getElem_cons_zero, List.setIfInBounds_toArray, List.set_cons_zero, List.set_cons_succ]
            refine wpAnyH_take (i := 5) (v := (.int .u64 v)) rfl (by kernel_rfl) (by kernel_rfl) (by kernel_rfl) (fun _ _ _ h => h) (Or.inl ⟨by rfl, ?_⟩) hHeld ?_
            · intro w' hSw
              try simp only [Act.put, List.getElem_toArray, List.getElem_cons_succ, List.getElem_cons_zero, List.setIfInBounds_toArray, List.set_cons_zero, List.set_cons_succ]
              go_simp
            try simp only [Act.put, List.getElem_toArray, List.getElem_cons_succ, List.getElem_cons_zero, List.setIfInBounds_toArray, List.set_cons_zero, List.set_cons_succ]
            refine wpAnyH_take (i := 6) (v := (.pointer (some ⟨(w.heap.size + 1), 0, none⟩))) rfl (by kernel_rfl) (by kernel_rfl) (by kernel_rfl) (fun _ _ _ h => h) (Or.inl ⟨by rfl, ?_⟩) hHeld ?_
            · intro w' hSw
              try simp only [Act.put, List.getElem_toArray, List.getElem_cons_succ, List.getElem_cons_zero, List.setIfInBounds_toArray, List.set_cons_zero, List.set_cons_succ]
              go_simp
            try simp only [Act.put, List.getElem_toArray, List.getElem_cons_succ, List.getElem_cons_zero, List.setIfInBounds_toArray, List.set_cons_zero, List.set_cons_succ]
            refine wpAnyH_take (i := 7) (v := (.pointer (some ⟨(w.heap.size + 1), j, none⟩))) rfl (by kernel_rfl) (by kernel_rfl) (by kernel_rfl) (fun _ _ _ h => h) (Or.inl ⟨by rfl, ?_⟩) hHeld ?_
            · intro w' hSw
              try simp only [Act.put, List.getElem_toArray, List.getElem_cons_succ, List.getElem_cons_zero, List.setIfInBounds_toArray, List.set_cons_zero, List.set_cons_succ]
              go_simp
            try simp only [Act.put, List.getElem_toArray, List.getElem_cons_succ, List.getElem_cons_zero, List.setIfInBounds_toArray, List.set_cons_zero, List.set_cons_succ]
            refine wpAnyH_take (i := 9) (v := (.pointer (some ⟨(w.heap.size + 1), 12, none⟩))) rfl (by kernel_rfl) (by kernel_rfl) (by kernel_rfl) (fun _ _ _ h => h) (Or.inl ⟨by rfl, ?_⟩) hHeld ?_
            · intro w' hSw
              try simp only [Act.put, List.getElem_toArray, List.getElem_cons_succ, List.getElem_cons_zero, List.setIfInBounds_toArray, List.set_cons_zero, List.set_cons_succ]
              go_simp
            try simp only [Act.put, List.getElem_toArray, List.getElem_cons_succ, List.getElem_cons_zero, List.setIfInBounds_toArray, List.set_cons_zero, List.set_cons_succ]
            clear hHeld
            refine wpAnyH_ready (rs := [8]) (by kernel_rfl) (by simp) (AllReadyH.cons rfl (fun K hK => ?_) AllReadyH.nil)
            rw [if_pos (by rfl)]
            go_simp
            refine hK.out _ _ (hkp _ (by first | exact ((Touch.refl wr _).setCell (.inl (by simp)) _).drew | exact ((Touch.refl wr _).drew).setCell (.inl (by simp)) _)) (fun hHeld => ?_)
            clear hK
            try simp only [Act.put, List.getElem_toArray, List.getElem_cons_succ, List.getElem_cons_zero, List.setIfInBounds_toArray, List.set_cons_zero, List.set_cons_succ]
            refine wpAnyH_take (i := 10) (v := (.pointer (some ⟨(w.heap.size + 1), 12 + j, none⟩))) rfl (by kernel_rfl) (by kernel_rfl) (by kernel_rfl) (fun _ _ _ h => h) (Or.inl ⟨by rfl, ?_⟩) hHeld ?_
            · intro w' hSw
              try simp only [Act.put, List.getElem_toArray, List.getElem_cons_succ, List.getElem_cons_zero, List.setIfInBounds_toArray, List.set_cons_zero, List.set_cons_succ]
              go_simp
            try simp only [Act.put, List.getElem_toArray, List.getElem_cons_succ, List.getElem_cons_zero, List.setIfInBounds_toArray, List.set_cons_zero, List.set_cons_succ]
            clear hHeld
            refine wpAnyH_ready (rs := [11]) (by kernel_rfl) (by simp) (AllReadyH.cons rfl (fun K hK => ?_) AllReadyH.nil)
            rw [if_pos (by rfl)]
            go_simp
            refine hK.out _ _ (hkp _ (by first | exact (((Touch.refl wr _).setCell (.inl (by simp)) _).setCell (.inl (by simp)) _).drew | exact (((Touch.refl wr _).drew).setCell (.inl (by simp)) _).setCell (.inl (by simp)) _)) (fun hHeld => ?_)
            clear hK
            try simp only [Act.put, List.getElem_toArray, List.getElem_cons_succ, List.getElem_cons_zero, List.setIfInBounds_toArray, List.set_cons_zero, List.set_cons_succ]
            clear hHeld
            refine wpAnyH_done (by kernel_rfl) ?_ _
            clear hkp m0 m1 n1 n2 e1 e2
            go_wp2
            go_roundw
            case rel => exact ⟨j + 1, by go_num, by omega, HT4.out, HB4.out, HTS.out.drew⟩
            case measure => simp [intOf] <;> omega
        · obtain rfl : j = 12 := by omega
          rw [overK_all hokf hokg] at hbb
          have hdr := rdrop_any (HS.out.touch hT)
          unfold dropS at hdr
          dsimp only at hdr
          have HBB2 : Hid _ := hbb
          have HT2 : Hid _ := hT
          clear hbt hbb hT
          go_wp2_with fail
          refine hdr.mono ?_
          rintro e w5 ⟨vl5, rfl, h5', t5, x5⟩
          clear hdr
          obtain ⟨G, hG⟩ : ∃ G, G = frC (fover f f2) := ⟨_, rfl⟩
          have hokG := hokf.over hokg
          have hbb5 := (t5.block (w.heap.size + 1) (lt_of_heap HBB2.out) (fun hh => by have := (HS.out.foot_lt _ hh).2; omega)).trans HBB2.out
          rw [← hG] at hbb5
          have hr5 : w5.rangeAt (w.heap.size + 1) 0 G := fun q u hu => by simp only [World.cell?, hbb5, Nat.zero_add]; simpa using hu
          have hinfG : (Tryz.prog.info? 191).map (·.size) = some G.length := by rw [hG, frC_len hokG]; kernel_rfl
          have hset := rset_any h5' (i := r.length) (by simp) hokG
          rw [← hG, ← HM.out] at hset
          have H5T : Hid _ := t5
          have HX5 : Hid _ := x5
          clear h5' t5 hbb5 x5 hG
          go_wp2_with (first | (refine wpList_load_mid rfl 191 _ rfl (w.heap.size + 1) 0 rfl G _ hr5 Tryz.underlying191 rfl hinfG ?_) | fail)
          refine hset.mono ?_
          rintro e w6 ⟨vl6, rfl, h6, t6, x6⟩
          rw [HM.out, rev_set] at h6
          have H6 : Hid _ := h6
          have H6T : Hid _ := t6
          clear h6 t6 hset
          go_wp2
          go_ret
          have tt : Touch w w5 (rfoot b vl) := (HT2.out.mono (by simp)).trans H5T.out (fun x hx => .inl hx)
          have hx5 : ∀ x ∈ rfoot b vl5, x ∈ rfoot b vl ∨ w.heap.size ≤ x := fun x hx => (HX5.out x hx).imp id (fun h => Nat.le_trans HT2.out.size h)
          exact ⟨vl6, rfl, H6.out, tt.trans H6T.out hx5, fun x hx => (x6 x hx).elim (hx5 x) (fun h => .inr (Nat.le_trans tt.size h))⟩
    · rw [if_pos (by rfl)]
      go_simp
      refine hK.out _ _ (hkeep _ (by first | exact ((Touch.refl w []).alloc _).drew | exact ((Touch.refl w []).drew).alloc _)) (fun hHeld => ?_)
      clear hK
      try simp only [Act.put, List.getElem_toArray, List.getElem_cons_succ, List.getElem_cons_zero, List.setIfInBounds_toArray, List.set_cons_zero, List.set_cons_succ]
      clear hHeld
      refine wpAnyH_ready (rs := [16]) (by kernel_rfl) (by simp) (AllReadyH.cons rfl (fun K hK => ?_) AllReadyH.nil)
      rw [if_pos (by rfl)]
      go_simp
      refine hK.out _ _ (hkeep _ (by first | exact (((Touch.refl w []).alloc _).alloc _).drew | exact (((Touch.refl w []).drew).alloc _).alloc _)) (fun hHeld => ?_)
      clear hK
      try simp only [Act.put, List.getElem_toArray, List.getElem_cons_succ, List.getElem_cons_zero, List.setIfInBounds_toArray, List.set_cons_zero, List.set_cons_succ]
      clear hHeld
      refine wpAnyH_ready (rs := [18]) (by kernel_rfl) (by simp) (AllReadyH.cons rfl (fun K hK => ?_) AllReadyH.nil)
      rw [if_pos (by rfl)]
      refine wp_store_mid 191 _ _ rfl (w.heap.size + 1) 0 A.toArray rfl rfl (there_of (heap_two2 w _ _) (by simp [hAl])) hinf' hA1 ?_
      try simp only [Act.put, List.getElem_toArray, List.getElem_cons_succ, List.getElem_cons_zero, List.setIfInBounds_toArray, List.set_cons_zero, List.set_cons_succ]
      refine hK.out _ _ (hkeep _ (Touch.trans (S := []) (by first | exact (((Touch.refl w []).alloc _).alloc _).drew | exact (((Touch.refl w []).drew).alloc _).alloc _) (setCells_touch _ _ _ _) (by simp))) (fun hHeld => ?_)
      clear hK
      try simp only [Act.put, List.getElem_toArray, List.getElem_cons_succ, List.getElem_cons_zero, List.setIfInBounds_toArray, List.set_cons_zero, List.set_cons_succ]
      clear hHeld
      refine wpAnyH_ready (rs := [19]) (by kernel_rfl) (by simp) (AllReadyH.cons rfl (fun K hK => ?_) AllReadyH.nil)
      rw [if_pos (by rfl)]
      refine wp_store_mid 191 _ _ rfl w.heap.size 0 C.toArray rfl rfl (there_of ((setCells_touch _ _ _ _).block _ (by simp <;> omega) (by simp <;> omega) |>.trans (heap_two1 w _ _)) (by simp [hCl])) hinfC' hC1 ?_
      try simp only [Act.put, List.getElem_toArray, List.getElem_cons_succ, List.getElem_cons_zero, List.setIfInBounds_toArray, List.set_cons_zero, List.set_cons_succ]
      refine hK.out _ _ (hkeep _ (Touch.trans (S := []) (Touch.trans (S := []) (by first | exact (((Touch.refl w []).alloc _).alloc _).drew | exact (((Touch.refl w []).drew).alloc _).alloc _) (setCells_touch _ _ _ _) (by simp)) (setCells_touch _ _ _ _) (by simp))) (fun hHeld => ?_)
      clear hK
      try simp only [Act.put, List.getElem_toArray, List.getElem_cons_succ, List.getElem_cons_zero, List.setIfInBounds_toArray, List.set_cons_zero, List.set_cons_succ]
      clear hHeld
      refine wpAnyH_done (by kernel_rfl) ?_ _
      refine then_name (fun W => Touch w W [] ∧ W.heap[(w.heap.size + 1)]? = some (.cells A.toArray 191 (0, 0)) ∧ W.heap[w.heap.size]? = some (.cells C.toArray 191 (0, 0))) ⟨?_, ?_⟩ (fun W1 hW1 => ?_)
      · exact Touch.trans (S := []) (Touch.trans (S := []) (by first | exact (((Touch.refl w []).alloc _).alloc _).drew | exact (((Touch.refl w []).drew).alloc _).alloc _) (setCells_touch _ _ _ _) (by simp)) (setCells_touch _ _ _ _) (by simp)
      · exact two_blocks (W := World.drew _) (heap_two2 w _ _) (heap_two1 w _ _) (by omega) (by rw [hAl]; rfl) (by rw [hCl]; rfl)
      obtain ⟨T1, BT, BB⟩ := hW1
      have hl1 := HS.out.touch T1
      have HT1 : Hid _ := T1
      have HBT : Hid _ := BT
      have HBB : Hid _ := BB
      have hw1s := T1.size
      clear T1 BT BB hl1 hkeep c0 hinf hinfC hinf' hinfC' hA1 hC1
      go_wp2_with fail
      go_loopw [6] (fun t wr => ∃ j : Nat, t = .int .i64 j ∧ j ≤ 12 ∧ wr.heap[(w.heap.size + 1)]? = some (.cells A.toArray 191 (0, 0)) ∧ wr.heap[w.heap.size]? = some (.cells (frC (overK f f2 j)).toArray 191 (0, 0)) ∧ Touch w wr []) (fun t _ => 12 - (intOf t).toNat)
      case atStart => exact ⟨0, rfl, by omega, HBT.out, by rw [overK_zero, ← HC.out]; exact HBB.out, HT1.out⟩
      case round =>
        obtain ⟨j, rfl, hj, hbt, hbb, hT⟩ := hrel
        have hokj := overK_ok hokf hokg j
        have hts := hT.size
        by_cases hjt : j < 12
        · have hjt' : (j : Int) < 12 := by omega
          have m0 : wr.cell? ⟨(w.heap.size + 1), j, none⟩ = some (.bool (fget f j).isSome) := by
            have := frC_has hokf j hjt
            rw [← HA.out] at this
            simp [World.cell?, hbt, this]
          have m1 : wr.cell? ⟨(w.heap.size + 1), 12 + j, none⟩ = some (.int .u64 ((fget f j).getD 0)) := by
            have := frC_val hokf j hjt
            rw [← HA.out] at this
            simp [World.cell?, hbt, this]
          have HBT2 : Hid _ := hbt
          have HBB2 : Hid _ := hbb
          have HT2 : Hid _ := hT
          cases hq : fget f j with
          | none =>
            rw [hq] at m0 m1
            simp only [Option.isSome_none, Option.getD_none] at m0 m1
            have hov := overK_none hokf hokg j hjt hq
            clear hbt hbb hT
            go_wp2
            go_roundw
            case rel => exact ⟨j + 1, by go_num, by omega, HBT2.out, by rw [hov]; exact HBB2.out, HT2.out⟩
            case measure => simp [intOf] <;> omega
          | some v =>
            rw [hq] at m0 m1
            simp only [Option.isSome_some, Option.getD_some] at m0 m1
            have hov := overK_some hokf hokg j hjt hq
            obtain ⟨D, hD⟩ : ∃ D, D = (frC (overK f f2 j)).toArray := ⟨_, rfl⟩
            rw [← hD] at hbb
            have hDz : D.size = 24 := by rw [hD]; simpa using frC_len hokj
            have ht1 : j < D.size := by omega
            have ht2 : 12 + j < (D.setIfInBounds j (.bool true)).size := by rw [Array.size_setIfInBounds]; omega
            obtain ⟨y1, n1⟩ : ∃ y, wr.cell? ⟨w.heap.size, j, none⟩ = some y := ⟨_, by simp only [World.cell?, hbb]; exact Array.getElem?_eq_getElem ht1⟩
            have e1 : wr.frozen? ⟨w.heap.size, j, none⟩ = false := by simp [World.frozen?, hbb]
            have B3 := heap_setCell_same wr w.heap.size j D 191 (.bool true) hbb
            obtain ⟨y2, n2⟩ : ∃ y, (wr.setCell ⟨w.heap.size, j, none⟩ (.bool true)).cell? ⟨w.heap.size, 12 + j, none⟩ = some y := ⟨_, by simp only [World.cell?, B3]; exact Array.getElem?_eq_getElem ht2⟩
            have e2 : (wr.setCell ⟨w.heap.size, j, none⟩ (.bool true)).frozen? ⟨w.heap.size, 12 + j, none⟩ = false := by simp [World.frozen?, B3]
            have B4 := heap_setCell_same (wr.setCell ⟨w.heap.size, j, none⟩ (.bool true)) w.heap.size (12 + j) _ 191 (.int .u64 v) B3
            have hDf : (D.setIfInBounds j (.bool true)).setIfInBounds (12 + j) (.int .u64 v) = (frC (overK f f2 (j + 1))).toArray := by rw [hov, frC_put hokj j hjt v, hD]; simp
            rw [hDf] at B4
            have tS : Touch wr ((wr.setCell ⟨w.heap.size, j, none⟩ (.bool true)).setCell ⟨w.heap.size, 12 + j, none⟩ (.int .u64 v)) [w.heap.size] := ((Touch.refl wr _).setCell (.inl (by simp)) _).setCell (.inl (by simp)) _
            have hbt4 := (tS.block (w.heap.size + 1) (lt_of_heap hbt) (by simp <;> omega)).trans hbt
            have HB4 : Hid _ := B4
            have HT4 : Hid _ := hbt4
            have HTS : Hid _ := hT.trans tS (by intro x hx; simp at hx; exact .inr (by omega))
            clear hbt hbb hT B3 B4 tS hbt4 hDf hDz hD ht1 ht2
            go_wp2_with fail
            have hkp : ∀ w', Touch wr w' [w.heap.size] → w'.cell? ⟨(w.heap.size + 1), 12 + j, none⟩ = some (.int .u64 v) := fun w' t => (t.cell (p := ⟨(w.heap.size + 1), 12 + j, none⟩) (World.block_lt_of_cell? wr _ m1) (by simp <;> omega)).trans m1
            refine wp_region_held_drew (S := fun w' => w'.cell? ⟨(w.heap.size + 1), 12 + j, none⟩ = some (.int .u64 v)) (by kernel_rfl) (hkp _ (Touch.refl wr _).drew) (fun hHeld => ?_)
            refine wpAnyH_take (i := 0) (v := (.int .i64 (j : Int))) rfl (by kernel_rfl) (by kernel_rfl) (by kernel_rfl) (fun _ _ _ h => h) (Or.inl ⟨by rfl, ?_⟩) hHeld ?_
            · intro w' hSw
              try simp only [Act.put, List.getElem_toArray, List.getElem_cons_succ, List.getElem_cons_zero, List.setIfInBounds_toArray, List.set_cons_zero, List.set_cons_succ]
              go_simp
            try simp only [Act.put, List.getElem_toArray, List.getElem_cons_succ, List.getElem_cons_zero, List.setIfInBounds_toArray, List.set_cons_zero, List.set_cons_succ]
            refine wpAnyH_take (i := 1) (v := (.int .i64 (j : Int))) rfl (by kernel_rfl) (by kernel_rfl) (by kernel_rfl) (fun _ _ _ h => h) (Or.inl ⟨by rfl, ?_⟩) hHeld ?_
            · intro w' hSw
              try simp only [Act.put, List.getElem_toArray, List.getElem_cons_succ, List.getElem_cons_zero, List.setIfInBounds_toArray, List.set_cons_zero, List.set_cons_succ]
              go_simp
            try simp only [Act.put, List.getElem_toArray, List.getElem_cons_succ, List.getElem_cons_zero, List.setIfInBounds_toArray, List.set_cons_zero, List.set_cons_succ]
            refine wpAnyH_take (i := 2) (v := (.int .i64 (j : Int))) rfl (by kernel_rfl) (by kernel_rfl) (by kernel_rfl) (fun _ _ _ h => h) (Or.inl ⟨by rfl, ?_⟩) hHeld ?_
            · intro w' hSw
              try simp only [Act.put, List.getElem_toArray, List.getElem_cons_succ, List.getElem_cons_zero, List.setIfInBounds_toArray, List.set_cons_zero, List.set_cons_succ]
              go_simp
            try simp only [Act.put, List.getElem_toArray, List.getElem_cons_succ, List.getElem_cons_zero, List.setIfInBounds_toArray, List.set_cons_zero, List.set_cons_succ]
            refine wpAnyH_take (i := 3) (v := (.pointer (some ⟨(w.heap.size + 1), 12, none⟩))) rfl (by kernel_rfl) (by kernel_rfl) (by kernel_rfl) (fun _ _ _ h => h) (Or.inl ⟨by rfl, ?_⟩) hHeld ?_
            · intro w' hSw
              try simp only [Act.put, List.getElem_toArray, List.getElem_cons_succ, List.getElem_cons_zero, List.setIfInBounds_toArray, List.set_cons_zero, List.set_cons_succ]
              go_simp
            try simp only [Act.put, List.getElem_toArray, List.getElem_cons_succ, List.getElem_cons_zero, List.setIfInBounds_toArray, List.set_cons_zero, List.set_cons_succ]
            refine wpAnyH_take (i := 4) (v := (.pointer (some ⟨(w.heap.size + 1), 12 + j, none⟩))) rfl (by kernel_rfl) (by kernel_rfl) (by kernel_rfl) (fun _ _ _ h => h) (Or.inl ⟨by rfl, ?_⟩) hHeld ?_
            · intro w' hSw
              try simp only [Act.put, List.getElem_toArray, List.getElem_cons_succ, List.getElem_cons_zero, List.setIfInBounds_toArray, List.set_cons_zero, List.set_cons_succ]
              go_simp
            try simp only [Act.put, List.getElem_toArray, List.getElem_cons_succ, List.getElem_cons_zero, List.setIfInBounds_toArray, List.set_cons_zero, List.set_cons_succ]
            refine wpAnyH_take (i := 5) (v := (.int .u64 v)) rfl (by kernel_rfl) (by kernel_rfl) (by kernel_rfl) (fun _ _ _ h => h) (Or.inl ⟨by rfl, ?_⟩) hHeld ?_
            · intro w' hSw
              try simp only [Act.put, List.getElem_toArray, List.getElem_cons_succ, List.getElem_cons_zero, List.setIfInBounds_toArray, List.set_cons_zero, List.set_cons_succ]
              go_simp
            try simp only [Act.put, List.getElem_toArray, List.getElem_cons_succ, List.getElem_cons_zero, List.setIfInBounds_toArray, List.set_cons_zero, List.set_cons_succ]
            refine wpAnyH_take (i := 6) (v := (.pointer (some ⟨w.heap.size, 0, none⟩))) rfl (by kernel_rfl) (by kernel_rfl) (by kernel_rfl) (fun _ _ _ h => h) (Or.inl ⟨by rfl, ?_⟩) hHeld ?_
            · intro w' hSw
              try simp only [Act.put, List.getElem_toArray, List.getElem_cons_succ, List.getElem_cons_zero, List.setIfInBounds_toArray, List.set_cons_zero, List.set_cons_succ]
              go_simp
            try simp only [Act.put, List.getElem_toArray, List.getElem_cons_succ, List.getElem_cons_zero, List.setIfInBounds_toArray, List.set_cons_zero, List.set_cons_succ]
            refine wpAnyH_take (i := 7) (v := (.pointer (some ⟨w.heap.size, j, none⟩))) rfl (by kernel_rfl) (by kernel_rfl) (by kernel_rfl) (fun _ _ _ h => h) (Or.inl ⟨by rfl, ?_⟩) hHeld ?_
            · intro w' hSw
              try simp only [Act.put, List.getElem_toArray, List.getElem_cons_succ, List.getElem_cons_zero, List.setIfInBounds_toArray, List.set_cons_zero, List.set_cons_succ]
              go_simp
            try simp only [Act.put, List.getElem_toArray, List.getElem_cons_succ, List.getElem_cons_zero, List.setIfInBounds_toArray, List.set_cons_zero, List.set_cons_succ]
            refine wpAnyH_take (i := 9) (v := (.pointer (some ⟨w.heap.size, 12, none⟩))) rfl (by kernel_rfl) (by kernel_rfl) (by kernel_rfl) (fun _ _ _ h => h) (Or.inl ⟨by rfl, ?_⟩) hHeld ?_
            · intro w' hSw
              try simp only [Act.put, List.getElem_toArray, List.getElem_cons_succ, List.getElem_cons_zero, List.setIfInBounds_toArray, List.set_cons_zero, List.set_cons_succ]
              go_simp
            try simp only [Act.put, List.getElem_toArray, List.getElem_cons_succ, List.getElem_cons_zero, List.setIfInBounds_toArray, List.set_cons_zero, List.set_cons_succ]
            clear hHeld
            refine wpAnyH_ready (rs := [8]) (by kernel_rfl) (by simp) (AllReadyH.cons rfl (fun K hK => ?_) AllReadyH.nil)
            rw [if_pos (by rfl)]
            go_simp
            refine hK.out _ _ (hkp _ (by first | exact ((Touch.refl wr _).setCell (.inl (by simp)) _).drew | exact ((Touch.refl wr _).drew).setCell (.inl (by simp)) _)) (fun hHeld => ?_)
            clear hK
            try simp only [Act.put, List.getElem_toArray, List.getElem_cons_succ, List.getElem_cons_zero, List.setIfInBounds_toArray, List.set_cons_zero, List.set_cons_succ]
            refine wpAnyH_take (i := 10) (v := (.pointer (some ⟨w.heap.size, 12 + j, none⟩))) rfl (by kernel_rfl) (by kernel_rfl) (by kernel_rfl) (fun _ _ _ h => h) (Or.inl ⟨by rfl, ?_⟩) hHeld ?_
            · intro w' hSw
              try simp only [Act.put, List.getElem_toArray, List.getElem_cons_succ, List.getElem_cons_zero, List.setIfInBounds_toArray, List.set_cons_zero, List.set_cons_succ]
              go_simp
            try simp only [Act.put, List.getElem_toArray, List.getElem_cons_succ, List.getElem_cons_zero, List.setIfInBounds_toArray, List.set_cons_zero, List.set_cons_succ]
            clear hHeld
            refine wpAnyH_ready (rs := [11]) (by kernel_rfl) (by simp) (AllReadyH.cons rfl (fun K hK => ?_) AllReadyH.nil)
            rw [if_pos (by rfl)]
            go_simp
            refine hK.out _ _ (hkp _ (by first | exact (((Touch.refl wr _).setCell (.inl (by simp)) _).setCell (.inl (by simp)) _).drew | exact (((Touch.refl wr _).drew).setCell (.inl (by simp)) _).setCell (.inl (by simp)) _)) (fun hHeld => ?_)
            clear hK
            try simp only [Act.put, List.getElem_toArray, List.getElem_cons_succ, List.getElem_cons_zero, List.setIfInBounds_toArray, List.set_cons_zero, List.set_cons_succ]
            clear hHeld
            refine wpAnyH_done (by kernel_rfl) ?_ _
            clear hkp m0 m1 n1 n2 e1 e2
            go_wp2
            go_roundw
            case rel => exact ⟨j + 1, by go_num, by omega, HT4.out, HB4.out, HTS.out.drew⟩
            case measure => simp [intOf] <;> omega
        · obtain rfl : j = 12 := by omega
          rw [overK_all hokf hokg] at hbb
          have hdr := rdrop_any (HS.out.touch hT)
          unfold dropS at hdr
          dsimp only at hdr
          have HBB2 : Hid _ := hbb
          have HT2 : Hid _ := hT
          clear hbt hbb hT
          go_wp2_with fail
          refine hdr.mono ?_
          rintro e w5 ⟨vl5, rfl, h5', t5, x5⟩
          clear hdr
          obtain ⟨G, hG⟩ : ∃ G, G = frC (fover f f2) := ⟨_, rfl⟩
          have hokG := hokf.over hokg
          have hbb5 := (t5.block w.heap.size (lt_of_heap HBB2.out) (fun hh => by have := (HS.out.foot_lt _ hh).2; omega)).trans HBB2.out
          rw [← hG] at hbb5
          have hr5 : w5.rangeAt w.heap.size 0 G := fun q u hu => by simp only [World.cell?, hbb5, Nat.zero_add]; simpa using hu
          have hinfG : (Tryz.prog.info? 191).map (·.size) = some G.length := by rw [hG, frC_len hokG]; kernel_rfl
          have hset := rset_any h5' (i := r.length) (by simp) hokG
          rw [← hG, ← HM.out] at hset
          have H5T : Hid _ := t5
          have HX5 : Hid _ := x5
          clear h5' t5 hbb5 x5 hG
          go_wp2_with (first | (refine wpList_load_mid rfl 191 _ rfl w.heap.size 0 rfl G _ hr5 Tryz.underlying191 rfl hinfG ?_) | fail)
          refine hset.mono ?_
          rintro e w6 ⟨vl6, rfl, h6, t6, x6⟩
          rw [HM.out, rev_set] at h6
          have H6 : Hid _ := h6
          have H6T : Hid _ := t6
          clear h6 t6 hset
          go_wp2
          go_ret
          have tt : Touch w w5 (rfoot b vl) := (HT2.out.mono (by simp)).trans H5T.out (fun x hx => .inl hx)
          have hx5 : ∀ x ∈ rfoot b vl5, x ∈ rfoot b vl ∨ w.heap.size ≤ x := fun x hx => (HX5.out x hx).imp id (fun h => Nat.le_trans HT2.out.size h)
          exact ⟨vl6, rfl, H6.out, tt.trans H6T.out hx5, fun x hx => (x6 x hx).elim (hx5 x) (fun h => .inr (Nat.le_trans tt.size h))⟩

end Go.Proofs.YtmiaibpdeofokaaGreatDoor

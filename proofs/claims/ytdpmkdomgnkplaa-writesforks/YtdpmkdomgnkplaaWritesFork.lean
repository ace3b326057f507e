/-
  Fork of both logs BY ITS CONTRACT, AND WritesForks, WALKED.
-/
import Derived.Test.YtdpmkdomgnkplaaWritesLaws
import Derived.Shelf.SlMaps.Clone
namespace Go.Proofs.Ytdpmkdomgnkplaa
set_option linter.unusedVariables false
set_option linter.unusedSimpArgs false
open Go.RowKit Go.Maps Go.Shelf

set_option maxHeartbeats 1000000 in
theorem mclone_any {w : World} {m : Nat} {f : Fr} (h : FrAt w m f) : Calls Try.prog 35 #[.map (some m)] w fun e w' => e = .returned (.map (some w.heap.size)) ∧ FrAt w' w.heap.size f ∧ Touch w w' [] := by
  obtain ⟨⟨es, clock, hb, F, hs, hD⟩, ok⟩ := h
  have hq := fun w => run_eql_map_nil_sl (P := Try.prog) w 59 _ _ (some m) Try.underlying59
  go_enter Try.func35, Try.ntmps35
  go_wp2
  rw [run_callFunc_extern Try.func45 (by kernel_rfl) (by kernel_rfl) (by kernel_rfl) (e := Extern.MapsClone.clone) (by kernel_rfl), run_maps_clone_sl w 59 hb]
  simp only [Result.andThen]
  rw [Oper.upon_value]
  go_wp2
  rw [run_typeAssert_map_sl _ 59 20 _ _ _ Try.underlying59]
  simp only [Result.andThen]
  rw [Oper.upon_value]
  go_wp2
  go_ret
  exact ⟨rfl, ⟨⟨es, clock, (MapKept.heap_alloc w _).1, F, hs, hD⟩, ok⟩, (Touch.refl w []).alloc _⟩

/-- Links and frames, wherever they hang. -/
structure CCh (w : World) (ch : List (Nat × Nat)) (Fs : List Fr) : Prop where
  nodes : Nodes w ch
  len : ch.length = Fs.length
  fr : ∀ k (h : k < ch.length) (h' : k < Fs.length), FrAt w ch[k].2 Fs[k]
theorem CCh.touch {w w' : World} {ch : List (Nat × Nat)} {Fs : List Fr} (h : CCh w ch Fs) (t : Touch w w' []) : CCh w' ch Fs := ⟨h.nodes.touch t (by simp), h.len, fun k hk hk' => (h.fr k hk hk').touch t (by simp)⟩
theorem CCh.tail {w : World} {p : Nat × Nat} {ch : List (Nat × Nat)} {f : Fr} {Fs : List Fr} (h : CCh w (p :: ch) (f :: Fs)) : CCh w ch Fs :=
  ⟨by have := h.nodes.drop 1; simpa using this, by have := h.len; simpa using this, fun k hk hk' => h.fr (k + 1) (by simpa using hk) (by simpa using hk')⟩

/-- A chain of its own. -/
structure NewCh (B : Nat) (w : World) (ch : List (Nat × Nat)) (Fs : List Fr) : Prop where
  c : CCh w ch Fs
  ndn : (ch.map Prod.fst).Nodup
  ndm : (ch.map Prod.snd).Nodup
  lo : ∀ p ∈ ch, B ≤ p.1 ∧ B ≤ p.2
  hi : ∀ p ∈ ch, p.1 < w.heap.size ∧ p.2 < w.heap.size

set_option maxRecDepth 100000 in
set_option maxHeartbeats 1000000 in
theorem copied_any : ∀ (ch : List (Nat × Nat)) (Fs : List Fr) (w : World), CCh w ch Fs →
    Calls Try.prog 34 #[hp ch, .func (.func 35) #[] #[]] w fun e w' => ∃ ch', e = .returned (hp ch') ∧ NewCh w.heap.size w' ch' Fs ∧ Touch w w' []
  | [], Fs, w, h => by
    have hF : Fs = [] := List.eq_nil_of_length_eq_zero (by have := h.len; simpa using this.symm)
    subst hF
    have e0 : hp [] = .pointer none := rfl
    rw [e0]
    have HC : Hid _ := h
    clear h
    go_enter Try.func34, Try.ntmps34
    go_wp2
    go_ret
    exact ⟨[], rfl, ⟨HC.out, by simp, by simp, by simp, by simp⟩, Touch.refl _ _⟩
  | (n, m) :: c, [], w, h => absurd h.len (by simp)
  | (n, m) :: c, f :: Fs, w, h => by
    have ih := fun W (t : Touch w W []) => copied_any c Fs W (h.tail.touch t)
    have hcl := fun W (t : Touch w W []) => mclone_any ((h.fr 0 (by simp) (by simp)).touch t (by simp))
    simp only [List.getElem_cons_zero] at hcl
    have hn := h.nodes 0 (by simp)
    simp only [List.getElem_cons_zero] at hn
    have c0 : w.cell? ⟨n, 0, none⟩ = some (.map (some m)) := by simp [World.cell?, hn]
    have c1 : ∀ W, Touch w W [] → W.cell? ⟨n, 1, none⟩ = some (hp c) := fun W t => by
      have := (t.block _ (lt_of_heap hn) (by simp)).trans hn
      simp [World.cell?, this]
    have hlen := h.len
    have e0 : hp ((n, m) :: c) = ptr n := rfl
    rw [e0]
    clear h hn
    go_enter Try.func34, Try.ntmps34
    go_wp2_with fail
    obtain ⟨pc, hpc⟩ := hp_is c
    rw [hpc] at ih c1
    have hkp : ∀ w', Touch w w' [] → (w'.cell? ⟨n, 0, none⟩ = some (.map (some m)) ∧ w'.cell? ⟨n, 1, none⟩ = some (.pointer pc)) := fun w' T => ⟨(T.cell (p := ⟨n, 0, none⟩) (World.block_lt_of_cell? w _ c0) (by simp)).trans c0, c1 w' T⟩
    clear hpc
    refine wp_region_held_drew (S := fun w' => w'.cell? ⟨n, 0, none⟩ = some (.map (some m)) ∧ w'.cell? ⟨n, 1, none⟩ = some (.pointer pc)) (by kernel_rfl) (hkp _ (Touch.refl _ _).drew) (fun hHeld => ?_)
    refine wpAnyH_take (i := 0) (v := (.func (.func 35) #[] #[])) rfl (by kernel_rfl) (by kernel_rfl) (by kernel_rfl) (fun _ _ _ h => h) (Or.inl ⟨by rfl, ?_⟩) hHeld ?_
    · intro w' hSw
      try simp only [Act.put, List.getElem_toArray, List.getElem_cons_succ, List.getElem_cons_zero, List.setIfInBounds_toArray, List.set_cons_zero, List.set_cons_succ]
      (obtain ⟨q1, q2⟩ := hSw; go_simp)
    try simp only [Act.put, List.getElem_toArray, List.getElem_cons_succ, List.getElem_cons_zero, List.setIfInBounds_toArray, List.set_cons_zero, List.set_cons_succ]
    refine wpAnyH_take (i := 1) (v := ptr n) rfl (by kernel_rfl) (by kernel_rfl) (by kernel_rfl) (fun _ _ _ h => h) (Or.inl ⟨by rfl, ?_⟩) hHeld ?_
    · intro w' hSw
      try simp only [Act.put, List.getElem_toArray, List.getElem_cons_succ, List.getElem_cons_zero, List.setIfInBounds_toArray, List.set_cons_zero, List.set_cons_succ]
      (obtain ⟨q1, q2⟩ := hSw; go_simp)
    try simp only [Act.put, List.getElem_toArray, List.getElem_cons_succ, List.getElem_cons_zero, List.setIfInBounds_toArray, List.set_cons_zero, List.set_cons_succ]
    refine wpAnyH_take (i := 2) (v := ptr n) rfl (by kernel_rfl) (by kernel_rfl) (by kernel_rfl) (fun _ _ _ h => h) (Or.inl ⟨by rfl, ?_⟩) hHeld ?_
    · intro w' hSw
      try simp only [Act.put, List.getElem_toArray, List.getElem_cons_succ, List.getElem_cons_zero, List.setIfInBounds_toArray, List.set_cons_zero, List.set_cons_succ]
      (obtain ⟨q1, q2⟩ := hSw; go_simp)
    try simp only [Act.put, List.getElem_toArray, List.getElem_cons_succ, List.getElem_cons_zero, List.setIfInBounds_toArray, List.set_cons_zero, List.set_cons_succ]
    refine wpAnyH_take (i := 3) (v := (.pointer (some ⟨n, 0, none⟩))) rfl (by kernel_rfl) (by kernel_rfl) (by kernel_rfl) (fun _ _ _ h => h) (Or.inl ⟨by rfl, ?_⟩) hHeld ?_
    · intro w' hSw
      try simp only [Act.put, List.getElem_toArray, List.getElem_cons_succ, List.getElem_cons_zero, List.setIfInBounds_toArray, List.set_cons_zero, List.set_cons_succ]
      (obtain ⟨q1, q2⟩ := hSw; go_simp)
    try simp only [Act.put, List.getElem_toArray, List.getElem_cons_succ, List.getElem_cons_zero, List.setIfInBounds_toArray, List.set_cons_zero, List.set_cons_succ]
    refine wpAnyH_take (i := 4) (v := (.map (some m))) rfl (by kernel_rfl) (by kernel_rfl) (by kernel_rfl) (fun _ _ _ h => h) (Or.inl ⟨by rfl, ?_⟩) hHeld ?_
    · intro w' hSw
      try simp only [Act.put, List.getElem_toArray, List.getElem_cons_succ, List.getElem_cons_zero, List.setIfInBounds_toArray, List.set_cons_zero, List.set_cons_succ]
      (obtain ⟨q1, q2⟩ := hSw; go_simp)
    try simp only [Act.put, List.getElem_toArray, List.getElem_cons_succ, List.getElem_cons_zero, List.setIfInBounds_toArray, List.set_cons_zero, List.set_cons_succ]
    refine wpAnyH_take (i := 6) (v := ptr n) rfl (by kernel_rfl) (by kernel_rfl) (by kernel_rfl) (fun _ _ _ h => h) (Or.inl ⟨by rfl, ?_⟩) hHeld ?_
    · intro w' hSw
      try simp only [Act.put, List.getElem_toArray, List.getElem_cons_succ, List.getElem_cons_zero, List.setIfInBounds_toArray, List.set_cons_zero, List.set_cons_succ]
      (obtain ⟨q1, q2⟩ := hSw; go_simp)
    try simp only [Act.put, List.getElem_toArray, List.getElem_cons_succ, List.getElem_cons_zero, List.setIfInBounds_toArray, List.set_cons_zero, List.set_cons_succ]
    refine wpAnyH_take (i := 7) (v := ptr n) rfl (by kernel_rfl) (by kernel_rfl) (by kernel_rfl) (fun _ _ _ h => h) (Or.inl ⟨by rfl, ?_⟩) hHeld ?_
    · intro w' hSw
      try simp only [Act.put, List.getElem_toArray, List.getElem_cons_succ, List.getElem_cons_zero, List.setIfInBounds_toArray, List.set_cons_zero, List.set_cons_succ]
      (obtain ⟨q1, q2⟩ := hSw; go_simp)
    try simp only [Act.put, List.getElem_toArray, List.getElem_cons_succ, List.getElem_cons_zero, List.setIfInBounds_toArray, List.set_cons_zero, List.set_cons_succ]
    refine wpAnyH_take (i := 8) (v := (.pointer (some ⟨n, 1, none⟩))) rfl (by kernel_rfl) (by kernel_rfl) (by kernel_rfl) (fun _ _ _ h => h) (Or.inl ⟨by rfl, ?_⟩) hHeld ?_
    · intro w' hSw
      try simp only [Act.put, List.getElem_toArray, List.getElem_cons_succ, List.getElem_cons_zero, List.setIfInBounds_toArray, List.set_cons_zero, List.set_cons_succ]
      (obtain ⟨q1, q2⟩ := hSw; go_simp)
    try simp only [Act.put, List.getElem_toArray, List.getElem_cons_succ, List.getElem_cons_zero, List.setIfInBounds_toArray, List.set_cons_zero, List.set_cons_succ]
    refine wpAnyH_take (i := 9) (v := (.pointer pc)) rfl (by kernel_rfl) (by kernel_rfl) (by kernel_rfl) (fun _ _ _ h => h) (Or.inl ⟨by rfl, ?_⟩) hHeld ?_
    · intro w' hSw
      try simp only [Act.put, List.getElem_toArray, List.getElem_cons_succ, List.getElem_cons_zero, List.setIfInBounds_toArray, List.set_cons_zero, List.set_cons_succ]
      (obtain ⟨q1, q2⟩ := hSw; go_simp)
    try simp only [Act.put, List.getElem_toArray, List.getElem_cons_succ, List.getElem_cons_zero, List.setIfInBounds_toArray, List.set_cons_zero, List.set_cons_succ]
    refine wpAnyH_take (i := 10) (v := (.func (.func 35) #[] #[])) rfl (by kernel_rfl) (by kernel_rfl) (by kernel_rfl) (fun _ _ _ h => h) (Or.inl ⟨by rfl, ?_⟩) hHeld ?_
    · intro w' hSw
      try simp only [Act.put, List.getElem_toArray, List.getElem_cons_succ, List.getElem_cons_zero, List.setIfInBounds_toArray, List.set_cons_zero, List.set_cons_succ]
      (obtain ⟨q1, q2⟩ := hSw; go_simp)
    try simp only [Act.put, List.getElem_toArray, List.getElem_cons_succ, List.getElem_cons_zero, List.setIfInBounds_toArray, List.set_cons_zero, List.set_cons_succ]
    clear hHeld
    refine wpAnyH_ready (rs := [5]) (by kernel_rfl) (by simp) (AllReadyH.cons rfl (fun K hK => ?_) AllReadyH.nil)
    rw [if_pos (by rfl)]
    go_simp
    refine (hcl _ (Touch.refl _ _).drew).mono ?_
    rintro e w1 ⟨rfl, f1, t1d⟩
    have t1 : Touch w w1 [] := ((Touch.refl w []).drew).trans t1d (by simp)
    have hs1 : w.heap.size < w1.heap.size := f1.lt
    clear hcl t1d
    go_simp
    refine hK.out _ _ (hkp _ t1) (fun hHeld => ?_)
    clear hK
    try simp only [Act.put, List.getElem_toArray, List.getElem_cons_succ, List.getElem_cons_zero, List.setIfInBounds_toArray, List.set_cons_zero, List.set_cons_succ]
    have F1 : Hid (FrAt w1 w.heap.size f) := f1
    clear f1
    clear hHeld
    refine wpAnyH_ready (rs := [11]) (by kernel_rfl) (by simp) (AllReadyH.cons rfl (fun K hK => ?_) AllReadyH.nil)
    rw [if_pos (by rfl)]
    go_simp
    refine (ih _ t1).mono ?_
    rintro e w2 ⟨ch2, rfl, n2, t2⟩
    obtain ⟨p2, hp2⟩ := hp_is ch2
    rw [hp2]
    have N2 : Hid _ := n2
    have HP2 : Hid _ := hp2
    have T2 : Hid _ := t2
    have t12 : Touch w w2 [] := t1.trans t2 (by simp)
    clear ih n2 hp2 t2
    go_simp
    refine hK.out _ _ (hkp _ t12) (fun hHeld => ?_)
    clear hK
    try simp only [Act.put, List.getElem_toArray, List.getElem_cons_succ, List.getElem_cons_zero, List.setIfInBounds_toArray, List.set_cons_zero, List.set_cons_succ]
    refine wpAnyH_take (i := 12) (v := (.agg #[.map (some w.heap.size), .pointer p2])) rfl (by kernel_rfl) (by kernel_rfl) (by kernel_rfl) (fun _ _ _ h => h) (Or.inl ⟨by rfl, ?_⟩) hHeld ?_
    · intro w' hSw
      try simp only [Act.put, List.getElem_toArray, List.getElem_cons_succ, List.getElem_cons_zero, List.setIfInBounds_toArray, List.set_cons_zero, List.set_cons_succ]
      (go_simp)
    try simp only [Act.put, List.getElem_toArray, List.getElem_cons_succ, List.getElem_cons_zero, List.setIfInBounds_toArray, List.set_cons_zero, List.set_cons_succ]
    clear hHeld
    refine wpAnyH_ready (rs := [13]) (by kernel_rfl) (by simp) (AllReadyH.cons rfl (fun K hK => ?_) AllReadyH.nil)
    rw [if_pos (by rfl)]
    go_simp
    refine hK.out _ _ (hkp _ (t12.alloc _)) (fun hHeld => ?_)
    clear hK
    try simp only [Act.put, List.getElem_toArray, List.getElem_cons_succ, List.getElem_cons_zero, List.setIfInBounds_toArray, List.set_cons_zero, List.set_cons_succ]
    refine wpAnyH_take (i := 14) (v := (ptr w2.heap.size)) rfl (by kernel_rfl) (by kernel_rfl) (by kernel_rfl) (fun _ _ _ h => h) (Or.inl ⟨by rfl, ?_⟩) hHeld ?_
    · intro w' hSw
      try simp only [Act.put, List.getElem_toArray, List.getElem_cons_succ, List.getElem_cons_zero, List.setIfInBounds_toArray, List.set_cons_zero, List.set_cons_succ]
      (go_simp)
    try simp only [Act.put, List.getElem_toArray, List.getElem_cons_succ, List.getElem_cons_zero, List.setIfInBounds_toArray, List.set_cons_zero, List.set_cons_succ]
    clear hHeld
    refine wpAnyH_done (by kernel_rfl) ?_ _
    clear hkp
    go_wp2
    go_ret
    have hnew := heap_alloc_new w2 (.cells #[.map (some w.heap.size), .pointer p2] 62)
    have t23 : Touch w2 (w2.alloc (.cells #[.map (some w.heap.size), .pointer p2] 62)) [] := (Touch.refl w2 []).alloc _
    have c3 := N2.out.c.touch t23
    have F3 := (F1.out.touch T2.out (by simp)).touch t23 (by simp)
    refine ⟨(w2.heap.size, w.heap.size) :: ch2, by simp [hp], ⟨⟨?_, ?_, ?_⟩, ?_, ?_, ?_, ?_⟩, t12.trans t23 (by simp)⟩
    · intro k hk
      cases k with
      | zero => simp only [List.getElem_cons_zero, Nat.zero_add, List.drop_succ_cons, List.drop_zero]; rw [HP2.out]; exact hnew
      | succ k => exact c3.nodes k (by simpa using hk)
    · simp [c3.len]
    · intro k hk hk'
      cases k with
      | zero => exact F3
      | succ k => exact c3.fr k (by simpa using hk) (by simpa using hk')
    · simp only [List.map_cons, List.nodup_cons]
      refine ⟨fun hh => ?_, N2.out.ndn⟩
      obtain ⟨q, hq, e⟩ := List.mem_map.1 hh
      have := (N2.out.hi q hq).1
      omega
    · simp only [List.map_cons, List.nodup_cons]
      refine ⟨fun hh => ?_, N2.out.ndm⟩
      obtain ⟨q, hq, e⟩ := List.mem_map.1 hh
      have := (N2.out.lo q hq).2
      omega
    · intro q hq
      rw [List.mem_cons] at hq
      rcases hq with rfl | hq
      · exact ⟨t12.size, Nat.le_refl _⟩
      · have := N2.out.lo q hq; have := t1.size; omega
    · intro q hq
      rw [World.size_alloc]
      rw [List.mem_cons] at hq
      rcases hq with rfl | hq
      · have := T2.out.size; exact ⟨by simp, by simp; omega⟩
      · have := N2.out.hi q hq; omega

set_option maxRecDepth 100000 in
theorem wfork_any {B : Nat} {w : World} {b : Nat} {ch : List (Nat × Nat)} {Fs : List Fr} (h : PLog B w b ch Fs) : Calls Try.prog 14 #[ptr b] w fun e w' => ∃ b' ch', e = .returned (ptr b') ∧ PLog w.heap.size w' b' ch' Fs ∧ Touch w w' [] := by
  have hc := copied_any ch Fs w ⟨h.nodes, h.len, h.fr⟩
  have c0 := h.cell
  obtain ⟨p, hp'⟩ := hp_is ch
  rw [hp'] at c0 hc
  have hpos := h.pos
  have hle := h.le
  have hlen := h.len
  clear h hp'
  go_enter Try.func14, Try.ntmps14
  go_wp2_with fail
  refine hc.mono ?_
  rintro e w1 ⟨ch1, rfl, n1, t1⟩
  obtain ⟨p1, hp1⟩ := hp_is ch1
  rw [hp1]
  have N1 : Hid _ := n1
  have HP1 : Hid _ := hp1
  clear hc n1 hp1
  go_wp2
  go_ret
  have hnew := heap_alloc_new w1 (.cells #[.pointer p1] 64)
  have t2 : Touch w1 (w1.alloc (.cells #[.pointer p1] 64)) [] := (Touch.refl w1 []).alloc _
  have c2 := N1.out.c.touch t2
  have hl1 := N1.out.c.len
  exact ⟨w1.heap.size, ch1, by simp, ⟨t1.size, N1.out.lo, by rw [HP1.out]; exact hnew, c2.nodes, c2.len, c2.fr, N1.out.ndn, N1.out.ndm, by omega, by omega⟩, t1.trans t2 (by simp)⟩

set_option maxRecDepth 100000 in
theorem rfork_any {B : Nat} {w : World} {b : Nat} {vl : Value} {Rs : List Fr} (h : RLog B w b vl Rs) : Calls Try.prog 15 #[ptr b] w fun e w' => ∃ b' vl', e = .returned (ptr b') ∧ RLog w.heap.size w' b' vl' Rs ∧ Touch w w' [] := by
  obtain ⟨i0, hi0, hz0, hz1, hz2⟩ := info_parts Try.info_frame
  have hzs : (Value.agg (frC f0).toArray).cells.size = 24 := by decide
  have T1 : Touch w (w.alloc (.cells #[] 78)) [] := (Touch.refl w []).alloc _
  have hl1 := h.touch T1
  obtain ⟨g, cap, hvl, _, _⟩ := h.row
  have c1 := hl1.cell.1
  have hsrc := hl1.own
  rw [hvl] at c1 hsrc
  have h5 := h.le
  have hpos := h.pos
  obtain ⟨N, hN⟩ : ∃ N, N = Rs.length := ⟨_, rfl⟩
  rw [← hN] at c1 hsrc h5 hpos
  have HN : Hid (N = Rs.length) := hN
  have HOK : Hid _ := h.ok
  have HT1 : Hid _ := T1
  clear hl1 T1 hN hvl h
  go_enter Try.func15, Try.ntmps15
  go_wp2_with (at_builtin; refine wpList_append_src rfl _ _ 71 rfl w.heap.size 78 i0 _ 24 112 Try.underlying71 hi0 hz0 hz1 hz2 hzs (by decide) w.heap.size 0 0 [] rfl (empty_row w _ 24) _ B N (Rs.flatMap frC) rfl hsrc frF_one (by unfold maxLen; omega) (by omega) (by simp) ?_)
  intro g1 cap1 w3 hown3 hgrow hat hlt
  have t3 : Touch w w3 [] := HT1.out.grown hgrow (fun k hk => .inr (by cases hk; exact Nat.le_refl _))
  try simp only [List.nil_append, Nat.zero_add] at hown3
  have HR : Hid (w3.ownsRow w.heap.size 78 24 (.slice (some ⟨g1, 0, none⟩) N cap1) N (Rs.flatMap frC)) := hown3
  have HT3 : Hid _ := t3
  clear hsrc c1 hgrow t3 hown3
  go_wp2
  go_ret
  have hnew := heap_alloc_new w3 (.cells #[.slice (some ⟨g1, 0, none⟩) N cap1] 73)
  have hr3 := World.ownsRow.alloc HR.out (.cells #[.slice (some ⟨g1, 0, none⟩) N cap1] 73)
  exact ⟨w3.heap.size, .slice (some ⟨g1, 0, none⟩) N cap1, by simp, ⟨HT3.out.size, hnew, by rw [← HN.out]; exact hr3, HOK.out, by rw [← HN.out]; exact hpos, by rw [← HN.out]; exact h5⟩, HT3.out.alloc _⟩

set_option maxRecDepth 100000 in
set_option maxHeartbeats 1600000 in
theorem wforks_any (ao : Option Addr) (cap : Nat) (l : List DeedD) (bo : Option Addr) (cap2 : Nat) (m : List DeedD) (w : World) (hr : DeedRow w (.slice ao l.length cap) l) (hl : l.length ≤ maxLen) (hwf : ∀ e ∈ l, e.Wf)
    (hr2 : DeedRow w (.slice bo m.length cap2) m) (hl2 : m.length ≤ maxLen) (hwf2 : ∀ e ∈ m, e.Wf) :
    Calls Try.prog 5 #[.slice ao l.length cap, .slice bo m.length cap2] w (TrueN w) := by
  have hp := play_any ao cap l w hr hl hwf
  clear hr hl hwf
  obtain ⟨N, hN⟩ : ∃ N, N = m.length := ⟨_, rfl⟩
  have HN : Hid (N = m.length) := hN
  unfold maxLen at hl2
  rw [← hN] at hl2
  go_enter Try.func5, Try.ntmps5
  rw [← hN]
  clear hN
  go_wp2_with fail
  refine hp.mono ?_
  rintro e w1 ⟨b, ch, rb, vr, rfl, h1, t1⟩
  generalize runF [f0] (l.take 60) = Fs at *
  have H1 : Hid _ := h1
  clear hp h1
  go_wp2_with fail
  refine (live_any w1).mono ?_
  rintro e w2 ⟨rfl, t2⟩
  have hP2 := H1.out.touch t2
  have a1 := wfork_any hP2.p
  have t12 := t1.trans t2 (by simp)
  have H2 : Hid _ := hP2
  clear H1 hP2 t1 t2
  go_wp2_with fail
  refine a1.mono ?_
  rintro e w3 ⟨fb, fc, rfl, p3, t3⟩
  have hP3 := H2.out.touch t3
  have a2 := rfork_any hP3.r
  clear a1
  go_wp2_with fail
  refine a2.mono ?_
  rintro e w4 ⟨gb, gv, rfl, r4, t4⟩
  have t24 := t3.trans t4 (by simp)
  have t14 := t12.trans t24 (by simp)
  have hP4 : WPair w2.heap.size w4 fb fc gb gv Fs := by
    refine ⟨p3.touch t4, ⟨Nat.le_trans t3.size r4.hb, r4.st, ownsRow_base r4.own t3.size, r4.ok, r4.pos, r4.le⟩, fun k hk hk' => ?_⟩
    have h1 := (p3.foot_lt k hk).2
    have h2 := (r4.foot_lt k hk').1
    omega
  have HF : Hid (∃ Gs, WPair w2.heap.size w4 fb fc gb gv Gs) := ⟨Fs, hP4⟩
  have hs2 := t12.size
  have H4 : Hid (WBoth w4 b rb Fs) := H2.out.told.touch t24
  have HL : Hid (∀ x ∈ pfoot b ch ++ rfoot rb vr, x < w2.heap.size) := fun x hx => by
    rw [List.mem_append] at hx
    exact hx.elim (fun h => (H2.out.p.foot_lt x h).2) (fun h => (H2.out.r.foot_lt x h).2)
  have HO : Hid (WPair w.heap.size w4 b ch rb vr Fs) := H2.out.touch t24
  have HT : Hid _ := t14
  clear a2 p3 r4 t3 t4 t24 t14 hP3 hP4 t12
  go_wp2_with fail
  go_loopw [10] (fun i wr => ∃ (k : Nat) (fc gc : List (Nat × Nat)) (gv : Value) (Gs : List Fr), i = .int .i64 k ∧ k ≤ N ∧ k ≤ 14 ∧ WPair w2.heap.size wr fb fc gb gv Gs ∧ WPair w.heap.size wr b ch rb vr Fs ∧ Touch w wr []) (fun i _ => 14 - (intOf i).toNat)
  case atStart =>
    obtain ⟨Gs, hG⟩ := HF.out
    exact ⟨0, _, [], _, Gs, rfl, Nat.zero_le _, by omega, hG, HO.out, HT.out⟩
  case round =>
    obtain ⟨k, fc', gc, gv', Gs, rfl, hk, hk14, hG, hO, hT⟩ := hrel
    clear HF HO HT H4
    by_cases hlt : k < N ∧ k < 14
    · obtain ⟨hlt, hlt14⟩ := hlt
      have hlt' : (k : Int) < N := by omega
      have hlt14' : (k : Int) < 14 := by omega
      have hkl : k < m.length := by rw [← HN.out]; exact hlt
      obtain ⟨g, off, rfl, hg, M0, M1, M2⟩ := DeedRow.three hr2 k hkl
      have m0 := (hT.cell (p := ⟨g, off + k * 3, none⟩) hg (by simp)).trans M0
      have m1 := (hT.cell (p := ⟨g, off + k * 3 + 1, none⟩) hg (by simp)).trans M1
      have m2 := (hT.cell (p := ⟨g, off + k * 3 + 2, none⟩) hg (by simp)).trans M2
      have hew := hwf2 m[k] (List.getElem_mem hkl)
      obtain ⟨o, ho⟩ : ∃ o, o = m[k] := ⟨_, rfl⟩
      rw [← ho] at m0 m1 m2 hew
      have hdo := do_any hG o hew
      obtain ⟨a0, a1, a2⟩ := o
      simp only at m0 m1 m2 hdo
      generalize stepS Gs ⟨a0, a1, a2⟩ = Gs' at *
      have HG : Hid _ := hG
      have HO : Hid _ := hO
      have HT : Hid _ := hT
      clear ho hG hO hT M0 M1 M2
      go_wp2_with fail
      refine hdo.mono ?_
      rintro e w5 ⟨rfl, fc5, gv5, hW, hT5, hX⟩
      have hfB : ∀ x ∈ pfoot fb fc' ++ rfoot gb gv', w2.heap.size ≤ x := fun x hx => by
        rw [List.mem_append] at hx
        exact hx.elim (fun h => (HG.out.p.foot_lt x h).1) (fun h => (HG.out.r.foot_lt x h).1)
      have hO5 : WPair w.heap.size w5 b ch rb vr Fs := ⟨HO.out.p.keep hT5 (fun x hx hs => by have := HL.out x (List.mem_append_left _ hx); have := hfB x hs; omega), HO.out.r.keep hT5 (fun x hx hs => by have := HL.out x (List.mem_append_right _ hx); have := hfB x hs; omega), HO.out.ne⟩
      have HW : Hid _ := hW
      have HO5 : Hid _ := hO5
      have HT5 : Hid _ := HT.out.trans hT5 (fun x hx => .inr (Nat.le_trans hs2 (hfB x hx)))
      clear hdo hW hT5 hX m0 m1 m2 hO5
      go_wp2
      go_roundw
      case rel => exact ⟨k + 1, fc5, [], gv5, Gs', by go_num, by omega, by omega, HW.out, HO5.out, HT5.out⟩
      case measure => simp [intOf]; omega
    · have s1 := wsame_any hO.told
      have HG : Hid _ := hG
      have HT : Hid _ := hT
      clear hG hO hT
      by_cases hlt1 : (k : Int) < N
      · have hlt2 : ¬ (k : Int) < 14 := by omega
        clear hlt
        go_wp2_with fail
        refine s1.mono ?_
        rintro e w6 ⟨rfl, t6⟩
        have s2 := wsame_any (HG.out.told.touch t6)
        clear s1
        go_wp2_with fail
        refine s2.mono ?_
        rintro e w7 ⟨rfl, t7⟩
        go_wp2
        go_ret
        exact ⟨by simp, (HT.out.trans t6 (by simp)).trans t7 (by simp)⟩
      · clear hlt
        go_wp2_with fail
        refine s1.mono ?_
        rintro e w6 ⟨rfl, t6⟩
        have s2 := wsame_any (HG.out.told.touch t6)
        clear s1
        go_wp2_with fail
        refine s2.mono ?_
        rintro e w7 ⟨rfl, t7⟩
        go_wp2
        go_ret
        exact ⟨by simp, (HT.out.trans t6 (by simp)).trans t7 (by simp)⟩

end Go.Proofs.Ytdpmkdomgnkplaa

/-
  THE DOCUMENT's LOG: Put, Push, Drop, Merge BY THEIR CONTRACTS.
-/
import Derived.Test.YtmiaibpdeofokaaDoorWritesRefS
import Derived.Deep.RegionLaw
namespace Go.Proofs.YtmiaibpdeofokaaDoor
set_option linter.unusedVariables false
set_option linter.unusedSimpArgs false
open Go.RowKit Go.Maps Go.Shelf

theorem RLog.stays {B : Nat} {w w' : World} {b : Nat} {vl : Value} {Fs : List Fr} (h : RLog B w b vl Fs.reverse) (t : Touch w w' []) (z : Int) : RPost B w b vl (z, Fs) (.returned (.int .i64 z)) w' :=
  ⟨vl, rfl, h.touch t, t.mono (by simp), fun x hx => .inl hx⟩

theorem lenF_rev (Fs : List Fr) : lenF Fs.reverse = lenF Fs := by
  unfold lenF
  rw [List.map_reverse, List.sum_reverse]

theorem frC_put {f : Fr} (h : FrOk f) (t : Nat) (ht : t < 12) (v : Int) : frC (fput f t v) = ((frC f).set t (.bool true)).set (12 + t) (.int .u64 v) := by
  have hl := h.len
  unfold frC fput
  rw [List.map_set, List.map_set, List.set_append_left _ _ (by simp; omega), List.set_append_right _ _ (by simp; omega)]
  simp [hl]

/-- Where the last frame lies. -/
theorem RLog.last {B : Nat} {w : World} {b : Nat} {vl : Value} {Rs : List Fr} (h : RLog B w b vl Rs) (k : Nat) (hk : k < Rs.length) : ∃ g cap, vl = .slice (some ⟨g, 0, none⟩) Rs.length cap ∧ w.rangeAt g (k * 24) (frC Rs[k]) := by
  obtain ⟨g, cap, rfl, _, _⟩ := h.row
  refine ⟨g, cap, rfl, fun j v hv => ?_⟩
  have hj : j < 24 := by have := (List.getElem?_eq_some_iff.1 hv).1; rw [frC_len (h.ok _ (List.getElem_mem hk))] at this; exact this
  have hc := h.own.cells (g := g) rfl (k * 24 + j) _ ((frF_get h.ok k hk j hj).trans hv)
  rw [Addr.add_lit] at hc
  simpa using hc

theorem twelve {f : Fr} (h : f.length = 12) : ∃ o0 o1 o2 o3 o4 o5 o6 o7 o8 o9 o10 o11, f = [o0, o1, o2, o3, o4, o5, o6, o7, o8, o9, o10, o11] := by
  match f, h with
  | [o0, o1, o2, o3, o4, o5, o6, o7, o8, o9, o10, o11], _ => exact ⟨_, _, _, _, _, _, _, _, _, _, _, _, rfl⟩

set_option maxRecDepth 100000 in
set_option maxHeartbeats 1000000 in
theorem rput_any {B : Nat} {w : World} {b : Nat} {vl : Value} {Fs : List Fr} (h : RLog B w b vl Fs.reverse) (t v : Int) (hv : Wf64 v) : Calls Tryd.prog 64 #[ptr b, .int .i64 t, .int .u64 v] w (RPost B w b vl (putS Fs t v)) := by
  cases Fs with
  | nil => exact absurd h.pos (by simp)
  | cons f r =>
  have hr := fun W => rright_any v hv W
  generalize hres : putS (f :: r) t v = res
  unfold putS at hres
  dsimp only at hres
  by_cases h0 : 0 ≤ t ∧ t < 12
  · rw [if_neg (fun hh => hh h0)] at hres
    obtain ⟨t, rfl⟩ := Int.eq_ofNat_of_zero_le h0.1
    have ht : t < 12 := by omega
    have h1 : (t : Int) < 12 := by omega
    clear h0
    cases hrv : rightB v
    · rw [hrv, if_pos rfl] at hres
      subst hres
      rw [hrv] at hr
      have HS : Hid _ := h
      clear h
      go_enter Tryd.func64, Tryd.ntmps64
      go_wp2_with fail
      refine (hr _).mono ?_
      rintro e w1 ⟨rfl, rfl⟩
      clear hr
      go_wp2
      go_ret
      exact HS.out.stays (Touch.refl _ _) 3
    · rw [hrv, if_neg (by simp)] at hres
      rw [hrv] at hr
      have hlen : (f :: r).reverse.length = r.length + 1 := by simp
      obtain ⟨g, cap, hvl, hrg⟩ := h.last r.length (by simp)
      have hlast : (f :: r).reverse[r.length]'(by simp) = f := by simp
      rw [hlast] at hrg
      obtain ⟨c0, _⟩ := h.cell
      rw [hvl, hlen] at c0
      have h5 := h.le
      rw [hlen] at h5
      obtain ⟨M, hM⟩ : ∃ M, M = r.length := ⟨_, rfl⟩
      rw [← hM] at c0 h5 hrg
      have HM : Hid _ := hM
      have hok : FrOk f := h.ok f (by simp)
      have hinf : (Tryd.prog.info? 138).map (·.size) = some (frC f).length := by rw [frC_len hok]; kernel_rfl
      obtain ⟨A, hA⟩ : ∃ A, A = frC f := ⟨_, rfl⟩
      rw [← hA] at hrg hinf
      have HA : Hid _ := hA
      have HS : Hid _ := h
      have HRES : Hid _ := hres
      have hwr : IntKind.i64.wrap (M : Int) = M := by rw [IntKind.wrap_i64] <;> omega
      have hMi : (M : Int) < (M : Int) + 1 := by omega
      have hkeep : ∀ w', Touch w w' [] → (w'.cell? ⟨b, 0, none⟩ = some (.slice (some ⟨g, 0, none⟩) (M + 1) cap) ∧ w'.rangeAt g (M * 24) A) := fun w' t => ⟨(t.cell (p := ⟨b, 0, none⟩) (World.block_lt_of_cell? w _ c0) (by simp)).trans c0, rangeAt_touch hrg t⟩
      have hAl : A.length = 24 := by rw [hA]; exact frC_len hok
      have hA1 : A.toArray.all (·.oneCell') = true := by rw [hA]; exact all_oneCell_toArray (frC_one f)
      have hinf' : (Tryd.prog.info? 138).map (·.size) = some A.toArray.size := by rw [hinf]; simp
      clear h hlast hlen hM hvl hres hA
      go_enter Tryd.func64, Tryd.ntmps64
      go_wp2_with fail
      refine (hr _).mono ?_
      rintro e w1 ⟨rfl, rfl⟩
      clear hr
      go_wp2_with fail
      refine wp_region_held_drew (S := fun w' => w'.cell? ⟨b, 0, none⟩ = some (.slice (some ⟨g, 0, none⟩) (M + 1) cap) ∧ w'.rangeAt g (M * 24) A) (by kernel_rfl) ⟨by simpa using c0, fun j v hv => by simpa using hrg j v hv⟩ (fun hHeld => ?_)
      refine wpAnyH_take (i := 0) (v := ptr b) rfl (by kernel_rfl) (by kernel_rfl) (by kernel_rfl) (fun _ _ _ h => h) (Or.inl ⟨by rfl, ?_⟩) hHeld ?_
      · intro w' hSw
        try simp only [Act.put, List.getElem_toArray, List.getElem_cons_succ, List.getElem_cons_zero, List.setIfInBounds_toArray, List.set_cons_zero, List.set_cons_succ]
        (obtain ⟨hc, hr⟩ := hSw; go_simp)
      try simp only [Act.put, List.getElem_toArray, List.getElem_cons_succ, List.getElem_cons_zero, List.setIfInBounds_toArray, List.set_cons_zero, List.set_cons_succ]
      refine wpAnyH_take (i := 1) (v := ptr b) rfl (by kernel_rfl) (by kernel_rfl) (by kernel_rfl) (fun _ _ _ h => h) (Or.inl ⟨by rfl, ?_⟩) hHeld ?_
      · intro w' hSw
        try simp only [Act.put, List.getElem_toArray, List.getElem_cons_succ, List.getElem_cons_zero, List.setIfInBounds_toArray, List.set_cons_zero, List.set_cons_succ]
        (obtain ⟨hc, hr⟩ := hSw; go_simp)
      try simp only [Act.put, List.getElem_toArray, List.getElem_cons_succ, List.getElem_cons_zero, List.setIfInBounds_toArray, List.set_cons_zero, List.set_cons_succ]
      refine wpAnyH_take (i := 2) (v := (.pointer (some ⟨b, 0, none⟩))) rfl (by kernel_rfl) (by kernel_rfl) (by kernel_rfl) (fun _ _ _ h => h) (Or.inl ⟨by rfl, ?_⟩) hHeld ?_
      · intro w' hSw
        try simp only [Act.put, List.getElem_toArray, List.getElem_cons_succ, List.getElem_cons_zero, List.setIfInBounds_toArray, List.set_cons_zero, List.set_cons_succ]
        (obtain ⟨hc, hr⟩ := hSw; go_simp)
      try simp only [Act.put, List.getElem_toArray, List.getElem_cons_succ, List.getElem_cons_zero, List.setIfInBounds_toArray, List.set_cons_zero, List.set_cons_succ]
      refine wpAnyH_take (i := 3) (v := (.slice (some ⟨g, 0, none⟩) (M + 1) cap)) rfl (by kernel_rfl) (by kernel_rfl) (by kernel_rfl) (fun _ _ _ h => h) (Or.inl ⟨by rfl, ?_⟩) hHeld ?_
      · intro w' hSw
        try simp only [Act.put, List.getElem_toArray, List.getElem_cons_succ, List.getElem_cons_zero, List.setIfInBounds_toArray, List.set_cons_zero, List.set_cons_succ]
        (obtain ⟨hc, hr⟩ := hSw; go_simp)
      try simp only [Act.put, List.getElem_toArray, List.getElem_cons_succ, List.getElem_cons_zero, List.setIfInBounds_toArray, List.set_cons_zero, List.set_cons_succ]
      refine wpAnyH_take (i := 4) (v := ptr b) rfl (by kernel_rfl) (by kernel_rfl) (by kernel_rfl) (fun _ _ _ h => h) (Or.inl ⟨by rfl, ?_⟩) hHeld ?_
      · intro w' hSw
        try simp only [Act.put, List.getElem_toArray, List.getElem_cons_succ, List.getElem_cons_zero, List.setIfInBounds_toArray, List.set_cons_zero, List.set_cons_succ]
        (obtain ⟨hc, hr⟩ := hSw; go_simp)
      try simp only [Act.put, List.getElem_toArray, List.getElem_cons_succ, List.getElem_cons_zero, List.setIfInBounds_toArray, List.set_cons_zero, List.set_cons_succ]
      refine wpAnyH_take (i := 5) (v := ptr b) rfl (by kernel_rfl) (by kernel_rfl) (by kernel_rfl) (fun _ _ _ h => h) (Or.inl ⟨by rfl, ?_⟩) hHeld ?_
      · intro w' hSw
        try simp only [Act.put, List.getElem_toArray, List.getElem_cons_succ, List.getElem_cons_zero, List.setIfInBounds_toArray, List.set_cons_zero, List.set_cons_succ]
        (obtain ⟨hc, hr⟩ := hSw; go_simp)
      try simp only [Act.put, List.getElem_toArray, List.getElem_cons_succ, List.getElem_cons_zero, List.setIfInBounds_toArray, List.set_cons_zero, List.set_cons_succ]
      refine wpAnyH_take (i := 6) (v := (.pointer (some ⟨b, 0, none⟩))) rfl (by kernel_rfl) (by kernel_rfl) (by kernel_rfl) (fun _ _ _ h => h) (Or.inl ⟨by rfl, ?_⟩) hHeld ?_
      · intro w' hSw
        try simp only [Act.put, List.getElem_toArray, List.getElem_cons_succ, List.getElem_cons_zero, List.setIfInBounds_toArray, List.set_cons_zero, List.set_cons_succ]
        (obtain ⟨hc, hr⟩ := hSw; go_simp)
      try simp only [Act.put, List.getElem_toArray, List.getElem_cons_succ, List.getElem_cons_zero, List.setIfInBounds_toArray, List.set_cons_zero, List.set_cons_succ]
      refine wpAnyH_take (i := 7) (v := (.slice (some ⟨g, 0, none⟩) (M + 1) cap)) rfl (by kernel_rfl) (by kernel_rfl) (by kernel_rfl) (fun _ _ _ h => h) (Or.inl ⟨by rfl, ?_⟩) hHeld ?_
      · intro w' hSw
        try simp only [Act.put, List.getElem_toArray, List.getElem_cons_succ, List.getElem_cons_zero, List.setIfInBounds_toArray, List.set_cons_zero, List.set_cons_succ]
        (obtain ⟨hc, hr⟩ := hSw; go_simp)
      try simp only [Act.put, List.getElem_toArray, List.getElem_cons_succ, List.getElem_cons_zero, List.setIfInBounds_toArray, List.set_cons_zero, List.set_cons_succ]
      refine wpAnyH_take (i := 8) (v := (.int .i64 ((M + 1 : Nat) : Int))) rfl (by kernel_rfl) (by kernel_rfl) (by kernel_rfl) (fun _ _ _ h => h) (Or.inl ⟨by rfl, ?_⟩) hHeld ?_
      · intro w' hSw
        try simp only [Act.put, List.getElem_toArray, List.getElem_cons_succ, List.getElem_cons_zero, List.setIfInBounds_toArray, List.set_cons_zero, List.set_cons_succ]
        (obtain ⟨hc, hr⟩ := hSw; go_simp)
      try simp only [Act.put, List.getElem_toArray, List.getElem_cons_succ, List.getElem_cons_zero, List.setIfInBounds_toArray, List.set_cons_zero, List.set_cons_succ]
      refine wpAnyH_take (i := 9) (v := (.int .i64 (M : Int))) rfl (by kernel_rfl) (by kernel_rfl) (by kernel_rfl) (fun _ _ _ h => h) (Or.inl ⟨by rfl, ?_⟩) hHeld ?_
      · intro w' hSw
        try simp only [Act.put, List.getElem_toArray, List.getElem_cons_succ, List.getElem_cons_zero, List.setIfInBounds_toArray, List.set_cons_zero, List.set_cons_succ]
        (obtain ⟨hc, hr⟩ := hSw; go_simp)
      try simp only [Act.put, List.getElem_toArray, List.getElem_cons_succ, List.getElem_cons_zero, List.setIfInBounds_toArray, List.set_cons_zero, List.set_cons_succ]
      refine wpAnyH_take (i := 10) (v := (.pointer (some ⟨g, M * 24, none⟩))) rfl (by kernel_rfl) (by kernel_rfl) (by kernel_rfl) (fun _ _ _ h => h) (Or.inl ⟨by rfl, ?_⟩) hHeld ?_
      · intro w' hSw
        try simp only [Act.put, List.getElem_toArray, List.getElem_cons_succ, List.getElem_cons_zero, List.setIfInBounds_toArray, List.set_cons_zero, List.set_cons_succ]
        (obtain ⟨hc, hr⟩ := hSw; go_simp)
      try simp only [Act.put, List.getElem_toArray, List.getElem_cons_succ, List.getElem_cons_zero, List.setIfInBounds_toArray, List.set_cons_zero, List.set_cons_succ]
      refine wpAnyH_take (i := 11) (v := (.agg A.toArray)) rfl (by kernel_rfl) (by kernel_rfl) (by kernel_rfl) (fun _ _ _ h => h) (Or.inl ⟨by rfl, ?_⟩) hHeld ?_
      · intro w' hSw
        try simp only [Act.put, List.getElem_toArray, List.getElem_cons_succ, List.getElem_cons_zero, List.setIfInBounds_toArray, List.set_cons_zero, List.set_cons_succ]
        exact exec_load_mid w' 138 (.tmp 32) rfl g (M * 24) rfl A _ hSw.2 Tryd.underlying138 rfl hinf
      try simp only [Act.put, List.getElem_toArray, List.getElem_cons_succ, List.getElem_cons_zero, List.setIfInBounds_toArray, List.set_cons_zero, List.set_cons_succ]
      clear hHeld
      refine wpAnyH_ready (rs := [12]) (by kernel_rfl) (by simp) (AllReadyH.cons rfl (fun K hK => ?_) AllReadyH.nil)
      rw [if_pos (by rfl)]
      go_simp
      refine hK.out _ _ (hkeep _ (by first | exact (Touch.refl w []).drew.alloc _ | exact ((Touch.refl w []).alloc _).drew)) (fun hHeld => ?_)
      clear hK
      try simp only [Act.put, List.getElem_toArray, List.getElem_cons_succ, List.getElem_cons_zero, List.setIfInBounds_toArray, List.set_cons_zero, List.set_cons_succ]
      clear hHeld
      refine wpAnyH_ready (rs := [13]) (by kernel_rfl) (by simp) (AllReadyH.cons rfl (fun K hK => ?_) AllReadyH.nil)
      rw [if_pos (by rfl)]
      refine wp_store_mid 138 _ _ rfl w.heap.size 0 A.toArray rfl rfl (by first | exact there_drew_new w _ _ _ (by simp [hAl]) | exact there_new_drew w _ _ _ (by simp [hAl])) hinf' hA1 ?_
      try simp only [Act.put, List.getElem_toArray, List.getElem_cons_succ, List.getElem_cons_zero, List.setIfInBounds_toArray, List.set_cons_zero, List.set_cons_succ]
      refine hK.out _ _ (hkeep _ (by first | exact (((Touch.refl w []).alloc _).drew).trans (setCells_touch _ _ _ _) (by simp) | exact (((Touch.refl w []).drew).alloc _).trans (setCells_touch _ _ _ _) (by simp))) (fun hHeld => ?_)
      clear hK
      try simp only [Act.put, List.getElem_toArray, List.getElem_cons_succ, List.getElem_cons_zero, List.setIfInBounds_toArray, List.set_cons_zero, List.set_cons_succ]
      clear hHeld
      refine wpAnyH_done (by kernel_rfl) ?_ _
      refine then_name (fun W => Touch w W [] ∧ W.heap[w.heap.size]? = some (.cells A.toArray 138 (0, 0))) ⟨?_, ?_⟩ (fun W1 hW1 => ?_)
      · first | exact (((Touch.refl w []).alloc _).drew).trans (setCells_touch _ _ _ _) (by simp) | exact (((Touch.refl w []).drew).alloc _).trans (setCells_touch _ _ _ _) (by simp)
      · refine setCells_whole (w := World.drew _) (heap_alloc_new w _) ?_
        rw [hAl]; rfl
      obtain ⟨T1, B1⟩ := hW1
      have hln := rlen_any (HS.out.touch T1)
      rw [lenF_rev] at hln
      have hl1 := HS.out.touch T1
      have m0 : W1.cell? ⟨w.heap.size, t, none⟩ = some (.bool (fget f t).isSome) := by
        have := frC_has hok t ht
        rw [← HA.out] at this
        simp [World.cell?, B1, this]
      have HT1 : Hid _ := T1
      have HB1 : Hid _ := B1
      have HL1 : Hid _ := hl1
      have hti : (t : Int) < 12 := h1
      clear T1 B1 hl1 hkeep hrg c0 hinf
      cases hq : (fget f (t : Int)).isSome
      · rw [hq] at m0
        by_cases h16 : 16 ≤ lenF (f :: r)
        · have hres := HRES.out
          rw [if_pos ⟨hq, h16⟩] at hres
          subst hres
          have h16' : (16 : Int) ≤ (lenF (f :: r) : Nat) := by omega
          go_wp2_with fail
          refine hln.mono ?_
          rintro e w2 ⟨rfl, t2⟩
          clear hln
          go_wp2
          go_ret
          exact HS.out.stays (HT1.out.trans t2 (by simp)) 4
        · have hres := HRES.out
          rw [if_neg (fun hh => h16 hh.2)] at hres
          subst hres
          have h16' : ¬ (16 : Int) ≤ (lenF (f :: r) : Nat) := by omega
          go_wp2_with fail
          refine hln.mono ?_
          rintro e w2 ⟨rfl, t2⟩
          clear hln m0
          have t12 : Touch w w2 [] := HT1.out.trans t2 (by simp)
          have B2 := (t2.block _ (lt_of_heap HB1.out) (by simp)).trans HB1.out
          obtain ⟨T, hT⟩ : ∃ T, T = A.toArray := ⟨_, rfl⟩
          rw [← hT] at B2
          have hTz : T.size = 24 := by rw [hT]; simpa using hAl
          have ht1 : t < T.size := by omega
          have ht2 : 12 + t < (T.setIfInBounds t (.bool true)).size := by rw [Array.size_setIfInBounds]; omega
          obtain ⟨y1, m1⟩ : ∃ y, w2.cell? ⟨w.heap.size, t, none⟩ = some y := ⟨_, by simp only [World.cell?, B2]; exact Array.getElem?_eq_getElem ht1⟩
          have f1 : w2.frozen? ⟨w.heap.size, t, none⟩ = false := by simp [World.frozen?, B2]
          have B3 := heap_setCell_same w2 w.heap.size t T 138 (.bool true) B2
          obtain ⟨y2, m2⟩ : ∃ y, (w2.setCell ⟨w.heap.size, t, none⟩ (.bool true)).cell? ⟨w.heap.size, 12 + t, none⟩ = some y := ⟨_, by simp only [World.cell?, B3]; exact Array.getElem?_eq_getElem ht2⟩
          have f2 : (w2.setCell ⟨w.heap.size, t, none⟩ (.bool true)).frozen? ⟨w.heap.size, 12 + t, none⟩ = false := by simp [World.frozen?, B3]
          have B4 := heap_setCell_same (w2.setCell ⟨w.heap.size, t, none⟩ (.bool true)) w.heap.size (12 + t) _ 138 (.int .u64 v) B3
          have hTf : (T.setIfInBounds t (.bool true)).setIfInBounds (12 + t) (.int .u64 v) = (frC (fput f t v)).toArray := by rw [frC_put hok t ht v, hT, HA.out]; simp
          rw [hTf] at B4
          have tS : Touch w ((w2.setCell ⟨w.heap.size, t, none⟩ (.bool true)).setCell ⟨w.heap.size, 12 + t, none⟩ (.int .u64 v)) [] := (t12.setCell (.inr (Nat.le_refl _)) _).setCell (.inr (Nat.le_refl _)) _
          have HB4 : Hid _ := B4
          have HTS : Hid _ := tS
          clear B2 B3 B4 tS hTf hTz hT t12 t2 ht1 ht2
          go_wp2_with fail
          refine wp_name fun W5 hW5 => ?_
          have hB5 := HB4.out
          have hT5 := HTS.out
          rw [← hW5] at hB5 hT5
          obtain ⟨A2, hA2⟩ : ∃ A2, A2 = frC (fput f t v) := ⟨_, rfl⟩
          rw [← hA2] at hB5
          have hr5 : W5.rangeAt w.heap.size 0 A2 := fun j u hu => by simp only [World.cell?, hB5, Nat.zero_add]; simpa using hu
          have hl5 := HS.out.touch hT5
          have hok2 := hok.put (t := t) hv
          have hinf2 : (Tryd.prog.info? 138).map (·.size) = some A2.length := by rw [hA2, frC_len hok2]; kernel_rfl
          obtain ⟨g5, cap5, hv5, _⟩ := hl5.last r.length (by simp)
          obtain ⟨c5, _⟩ := hl5.cell
          rw [hv5, List.length_reverse, List.length_cons, ← HM.out] at c5
          have hset := fun W (tW : Touch W5 W []) => rset_any (hl5.touch tW) (i := r.length) (by simp) hok2
          rw [← hA2, ← HM.out] at hset
          have hnb : w.heap.size ∉ rfoot b vl := fun hh => by have := (HS.out.foot_lt _ hh).2; omega
          have HA2 : Hid _ := hA2
          have HT5 : Hid _ := hT5
          clear hW5 hB5 hl5 hv5 hA2 hT5 m1 f1 m2 f2
          refine wp_region_held_drew (S := fun w' => w'.rangeAt w.heap.size 0 A2) (by kernel_rfl) (fun j u hu => by simpa using hr5 j u hu) (fun hHeld => ?_)
          refine wpAnyH_take (i := 0) (v := ptr b) rfl (by kernel_rfl) (by kernel_rfl) (by kernel_rfl) (fun _ _ _ h => h) (Or.inl ⟨by rfl, ?_⟩) hHeld ?_
          · intro w' hSw
            try simp only [Act.put, List.getElem_toArray, List.getElem_cons_succ, List.getElem_cons_zero, List.setIfInBounds_toArray, List.set_cons_zero, List.set_cons_succ]
            go_simp
          try simp only [Act.put, List.getElem_toArray, List.getElem_cons_succ, List.getElem_cons_zero, List.setIfInBounds_toArray, List.set_cons_zero, List.set_cons_succ]
          refine wpAnyH_take (i := 1) (v := ptr b) rfl (by kernel_rfl) (by kernel_rfl) (by kernel_rfl) (fun _ _ _ h => h) (Or.inl ⟨by rfl, ?_⟩) hHeld ?_
          · intro w' hSw
            try simp only [Act.put, List.getElem_toArray, List.getElem_cons_succ, List.getElem_cons_zero, List.setIfInBounds_toArray, List.set_cons_zero, List.set_cons_succ]
            go_simp
          try simp only [Act.put, List.getElem_toArray, List.getElem_cons_succ, List.getElem_cons_zero, List.setIfInBounds_toArray, List.set_cons_zero, List.set_cons_succ]
          refine wpAnyH_take (i := 2) (v := ptr b) rfl (by kernel_rfl) (by kernel_rfl) (by kernel_rfl) (fun _ _ _ h => h) (Or.inl ⟨by rfl, ?_⟩) hHeld ?_
          · intro w' hSw
            try simp only [Act.put, List.getElem_toArray, List.getElem_cons_succ, List.getElem_cons_zero, List.setIfInBounds_toArray, List.set_cons_zero, List.set_cons_succ]
            go_simp
          try simp only [Act.put, List.getElem_toArray, List.getElem_cons_succ, List.getElem_cons_zero, List.setIfInBounds_toArray, List.set_cons_zero, List.set_cons_succ]
          refine wpAnyH_take (i := 3) (v := (.pointer (some ⟨b, 0, none⟩))) rfl (by kernel_rfl) (by kernel_rfl) (by kernel_rfl) (fun _ _ _ h => h) (Or.inl ⟨by rfl, ?_⟩) hHeld ?_
          · intro w' hSw
            try simp only [Act.put, List.getElem_toArray, List.getElem_cons_succ, List.getElem_cons_zero, List.setIfInBounds_toArray, List.set_cons_zero, List.set_cons_succ]
            go_simp
          try simp only [Act.put, List.getElem_toArray, List.getElem_cons_succ, List.getElem_cons_zero, List.setIfInBounds_toArray, List.set_cons_zero, List.set_cons_succ]
          refine wpAnyH_take (i := 7) (v := (.agg A2.toArray)) rfl (by kernel_rfl) (by kernel_rfl) (by kernel_rfl) (fun _ _ _ h => h) (Or.inl ⟨by rfl, ?_⟩) hHeld ?_
          · intro w' hSw
            try simp only [Act.put, List.getElem_toArray, List.getElem_cons_succ, List.getElem_cons_zero, List.setIfInBounds_toArray, List.set_cons_zero, List.set_cons_succ]
            exact exec_load_mid w' 138 (.tmp 7) rfl w.heap.size 0 rfl A2 _ hSw Tryd.underlying138 rfl hinf2
          try simp only [Act.put, List.getElem_toArray, List.getElem_cons_succ, List.getElem_cons_zero, List.setIfInBounds_toArray, List.set_cons_zero, List.set_cons_succ]
          clear hHeld
          refine wpAnyH_ready (rs := [4]) (by kernel_rfl) (by simp) (AllReadyH.cons rfl (fun K hK => ?_) AllReadyH.nil)
          rw [if_pos (by rfl)]
          go_simp
          refine hK.out _ _ (fun j u hu => by simpa using hr5 j u hu) (fun hHeld => ?_)
          clear hK
          try simp only [Act.put, List.getElem_toArray, List.getElem_cons_succ, List.getElem_cons_zero, List.setIfInBounds_toArray, List.set_cons_zero, List.set_cons_succ]
          refine wpAnyH_take (i := 5) (v := (.int .i64 ((M + 1 : Nat) : Int))) rfl (by kernel_rfl) (by kernel_rfl) (by kernel_rfl) (fun _ _ _ h => h) (Or.inl ⟨by rfl, ?_⟩) hHeld ?_
          · intro w' hSw
            try simp only [Act.put, List.getElem_toArray, List.getElem_cons_succ, List.getElem_cons_zero, List.setIfInBounds_toArray, List.set_cons_zero, List.set_cons_succ]
            go_simp
          try simp only [Act.put, List.getElem_toArray, List.getElem_cons_succ, List.getElem_cons_zero, List.setIfInBounds_toArray, List.set_cons_zero, List.set_cons_succ]
          refine wpAnyH_take (i := 6) (v := (.int .i64 (M : Int))) rfl (by kernel_rfl) (by kernel_rfl) (by kernel_rfl) (fun _ _ _ h => h) (Or.inl ⟨by rfl, ?_⟩) hHeld ?_
          · intro w' hSw
            try simp only [Act.put, List.getElem_toArray, List.getElem_cons_succ, List.getElem_cons_zero, List.setIfInBounds_toArray, List.set_cons_zero, List.set_cons_succ]
            go_simp
          try simp only [Act.put, List.getElem_toArray, List.getElem_cons_succ, List.getElem_cons_zero, List.setIfInBounds_toArray, List.set_cons_zero, List.set_cons_succ]
          clear hHeld
          refine wpAnyH_ready (rs := [8]) (by kernel_rfl) (by simp) (AllReadyH.cons rfl (fun K hK => ?_) AllReadyH.nil)
          rw [if_pos (by rfl)]
          go_simp
          refine (hset _ (Touch.refl _ _).drew).mono ?_
          rintro e w6 ⟨vl6, rfl, h6, t6d, x6⟩
          have t6 : Touch W5 w6 (rfoot b vl) := ((Touch.refl W5 (rfoot b vl)).drew).trans t6d (fun x hx => .inl hx)
          clear t6d
          go_simp
          refine hK.out _ _ (rangeAt_keep hr5 t6 hnb) (fun hHeld => ?_)
          clear hK
          try simp only [Act.put, List.getElem_toArray, List.getElem_cons_succ, List.getElem_cons_zero, List.setIfInBounds_toArray, List.set_cons_zero, List.set_cons_succ]
          clear hHeld
          refine wpAnyH_done (by kernel_rfl) ?_ _
          rw [HM.out, rev_set] at h6
          have H6 : Hid _ := h6
          have H6T : Hid _ := t6
          clear h6 t6 hset
          go_wp2
          go_ret
          exact ⟨vl6, rfl, H6.out, (HT5.out.mono (by simp)).trans H6T.out (fun x hx => .inl hx), fun x hx => (x6 x hx).imp id (fun h => Nat.le_trans HT5.out.size h)⟩
      · rw [hq] at m0
        have hres := HRES.out
        rw [if_neg (fun hh => by rw [hq] at hh; cases hh.1)] at hres
        subst hres
        clear hln
        have t12 : Touch w W1 [] := HT1.out
        have B2 := HB1.out
        obtain ⟨T, hT⟩ : ∃ T, T = A.toArray := ⟨_, rfl⟩
        rw [← hT] at B2
        have hTz : T.size = 24 := by rw [hT]; simpa using hAl
        have ht1 : t < T.size := by omega
        have ht2 : 12 + t < (T.setIfInBounds t (.bool true)).size := by rw [Array.size_setIfInBounds]; omega
        have m1 := m0
        clear m0
        have f1 : W1.frozen? ⟨w.heap.size, t, none⟩ = false := by simp [World.frozen?, B2]
        have B3 := heap_setCell_same W1 w.heap.size t T 138 (.bool true) B2
        obtain ⟨y2, m2⟩ : ∃ y, (W1.setCell ⟨w.heap.size, t, none⟩ (.bool true)).cell? ⟨w.heap.size, 12 + t, none⟩ = some y := ⟨_, by simp only [World.cell?, B3]; exact Array.getElem?_eq_getElem ht2⟩
        have f2 : (W1.setCell ⟨w.heap.size, t, none⟩ (.bool true)).frozen? ⟨w.heap.size, 12 + t, none⟩ = false := by simp [World.frozen?, B3]
        have B4 := heap_setCell_same (W1.setCell ⟨w.heap.size, t, none⟩ (.bool true)) w.heap.size (12 + t) _ 138 (.int .u64 v) B3
        have hTf : (T.setIfInBounds t (.bool true)).setIfInBounds (12 + t) (.int .u64 v) = (frC (fput f t v)).toArray := by rw [frC_put hok t ht v, hT, HA.out]; simp
        rw [hTf] at B4
        have tS : Touch w ((W1.setCell ⟨w.heap.size, t, none⟩ (.bool true)).setCell ⟨w.heap.size, 12 + t, none⟩ (.int .u64 v)) [] := (t12.setCell (.inr (Nat.le_refl _)) _).setCell (.inr (Nat.le_refl _)) _
        have HB4 : Hid _ := B4
        have HTS : Hid _ := tS
        clear B2 B3 B4 tS hTf hTz hT t12 ht1 ht2
        go_wp2_with fail
        refine wp_name fun W5 hW5 => ?_
        have hB5 := HB4.out
        have hT5 := HTS.out
        rw [← hW5] at hB5 hT5
        obtain ⟨A2, hA2⟩ : ∃ A2, A2 = frC (fput f t v) := ⟨_, rfl⟩
        rw [← hA2] at hB5
        have hr5 : W5.rangeAt w.heap.size 0 A2 := fun j u hu => by simp only [World.cell?, hB5, Nat.zero_add]; simpa using hu
        have hl5 := HS.out.touch hT5
        have hok2 := hok.put (t := t) hv
        have hinf2 : (Tryd.prog.info? 138).map (·.size) = some A2.length := by rw [hA2, frC_len hok2]; kernel_rfl
        obtain ⟨g5, cap5, hv5, _⟩ := hl5.last r.length (by simp)
        obtain ⟨c5, _⟩ := hl5.cell
        rw [hv5, List.length_reverse, List.length_cons, ← HM.out] at c5
        have hset := fun W (tW : Touch W5 W []) => rset_any (hl5.touch tW) (i := r.length) (by simp) hok2
        rw [← hA2, ← HM.out] at hset
        have hnb : w.heap.size ∉ rfoot b vl := fun hh => by have := (HS.out.foot_lt _ hh).2; omega
        have HA2 : Hid _ := hA2
        have HT5 : Hid _ := hT5
        clear hW5 hB5 hl5 hv5 hA2 hT5 m1 f1 m2 f2
        refine wp_region_held_drew (S := fun w' => w'.rangeAt w.heap.size 0 A2) (by kernel_rfl) (fun j u hu => by simpa using hr5 j u hu) (fun hHeld => ?_)
        refine wpAnyH_take (i := 0) (v := ptr b) rfl (by kernel_rfl) (by kernel_rfl) (by kernel_rfl) (fun _ _ _ h => h) (Or.inl ⟨by rfl, ?_⟩) hHeld ?_
        · intro w' hSw
          try simp only [Act.put, List.getElem_toArray, List.getElem_cons_succ, List.getElem_cons_zero, List.setIfInBounds_toArray, List.set_cons_zero, List.set_cons_succ]
          go_simp
        try simp only [Act.put, List.getElem_toArray, List.getElem_cons_succ, List.getElem_cons_zero, List.setIfInBounds_toArray, List.set_cons_zero, List.set_cons_succ]
        refine wpAnyH_take (i := 1) (v := ptr b) rfl (by kernel_rfl) (by kernel_rfl) (by kernel_rfl) (fun _ _ _ h => h) (Or.inl ⟨by rfl, ?_⟩) hHeld ?_
        · intro w' hSw
          try simp only [Act.put, List.getElem_toArray, List.getElem_cons_succ, List.getElem_cons_zero, List.setIfInBounds_toArray, List.set_cons_zero, List.set_cons_succ]
          go_simp
        try simp only [Act.put, List.getElem_toArray, List.getElem_cons_succ, List.getElem_cons_zero, List.setIfInBounds_toArray, List.set_cons_zero, List.set_cons_succ]
        refine wpAnyH_take (i := 2) (v := ptr b) rfl (by kernel_rfl) (by kernel_rfl) (by kernel_rfl) (fun _ _ _ h => h) (Or.inl ⟨by rfl, ?_⟩) hHeld ?_
        · intro w' hSw
          try simp only [Act.put, List.getElem_toArray, List.getElem_cons_succ, List.getElem_cons_zero, List.setIfInBounds_toArray, List.set_cons_zero, List.set_cons_succ]
          go_simp
        try simp only [Act.put, List.getElem_toArray, List.getElem_cons_succ, List.getElem_cons_zero, List.setIfInBounds_toArray, List.set_cons_zero, List.set_cons_succ]
        refine wpAnyH_take (i := 3) (v := (.pointer (some ⟨b, 0, none⟩))) rfl (by kernel_rfl) (by kernel_rfl) (by kernel_rfl) (fun _ _ _ h => h) (Or.inl ⟨by rfl, ?_⟩) hHeld ?_
        · intro w' hSw
          try simp only [Act.put, List.getElem_toArray, List.getElem_cons_succ, List.getElem_cons_zero, List.setIfInBounds_toArray, List.set_cons_zero, List.set_cons_succ]
          go_simp
        try simp only [Act.put, List.getElem_toArray, List.getElem_cons_succ, List.getElem_cons_zero, List.setIfInBounds_toArray, List.set_cons_zero, List.set_cons_succ]
        refine wpAnyH_take (i := 7) (v := (.agg A2.toArray)) rfl (by kernel_rfl) (by kernel_rfl) (by kernel_rfl) (fun _ _ _ h => h) (Or.inl ⟨by rfl, ?_⟩) hHeld ?_
        · intro w' hSw
          try simp only [Act.put, List.getElem_toArray, List.getElem_cons_succ, List.getElem_cons_zero, List.setIfInBounds_toArray, List.set_cons_zero, List.set_cons_succ]
          exact exec_load_mid w' 138 (.tmp 7) rfl w.heap.size 0 rfl A2 _ hSw Tryd.underlying138 rfl hinf2
        try simp only [Act.put, List.getElem_toArray, List.getElem_cons_succ, List.getElem_cons_zero, List.setIfInBounds_toArray, List.set_cons_zero, List.set_cons_succ]
        clear hHeld
        refine wpAnyH_ready (rs := [4]) (by kernel_rfl) (by simp) (AllReadyH.cons rfl (fun K hK => ?_) AllReadyH.nil)
        rw [if_pos (by rfl)]
        go_simp
        refine hK.out _ _ (fun j u hu => by simpa using hr5 j u hu) (fun hHeld => ?_)
        clear hK
        try simp only [Act.put, List.getElem_toArray, List.getElem_cons_succ, List.getElem_cons_zero, List.setIfInBounds_toArray, List.set_cons_zero, List.set_cons_succ]
        refine wpAnyH_take (i := 5) (v := (.int .i64 ((M + 1 : Nat) : Int))) rfl (by kernel_rfl) (by kernel_rfl) (by kernel_rfl) (fun _ _ _ h => h) (Or.inl ⟨by rfl, ?_⟩) hHeld ?_
        · intro w' hSw
          try simp only [Act.put, List.getElem_toArray, List.getElem_cons_succ, List.getElem_cons_zero, List.setIfInBounds_toArray, List.set_cons_zero, List.set_cons_succ]
          go_simp
        try simp only [Act.put, List.getElem_toArray, List.getElem_cons_succ, List.getElem_cons_zero, List.setIfInBounds_toArray, List.set_cons_zero, List.set_cons_succ]
        refine wpAnyH_take (i := 6) (v := (.int .i64 (M : Int))) rfl (by kernel_rfl) (by kernel_rfl) (by kernel_rfl) (fun _ _ _ h => h) (Or.inl ⟨by rfl, ?_⟩) hHeld ?_
        · intro w' hSw
          try simp only [Act.put, List.getElem_toArray, List.getElem_cons_succ, List.getElem_cons_zero, List.setIfInBounds_toArray, List.set_cons_zero, List.set_cons_succ]
          go_simp
        try simp only [Act.put, List.getElem_toArray, List.getElem_cons_succ, List.getElem_cons_zero, List.setIfInBounds_toArray, List.set_cons_zero, List.set_cons_succ]
        clear hHeld
        refine wpAnyH_ready (rs := [8]) (by kernel_rfl) (by simp) (AllReadyH.cons rfl (fun K hK => ?_) AllReadyH.nil)
        rw [if_pos (by rfl)]
        go_simp
        refine (hset _ (Touch.refl _ _).drew).mono ?_
        rintro e w6 ⟨vl6, rfl, h6, t6d, x6⟩
        have t6 : Touch W5 w6 (rfoot b vl) := ((Touch.refl W5 (rfoot b vl)).drew).trans t6d (fun x hx => .inl hx)
        clear t6d
        go_simp
        refine hK.out _ _ (rangeAt_keep hr5 t6 hnb) (fun hHeld => ?_)
        clear hK
        try simp only [Act.put, List.getElem_toArray, List.getElem_cons_succ, List.getElem_cons_zero, List.setIfInBounds_toArray, List.set_cons_zero, List.set_cons_succ]
        clear hHeld
        refine wpAnyH_done (by kernel_rfl) ?_ _
        rw [HM.out, rev_set] at h6
        have H6 : Hid _ := h6
        have H6T : Hid _ := t6
        clear h6 t6 hset
        go_wp2
        go_ret
        exact ⟨vl6, rfl, H6.out, (HT5.out.mono (by simp)).trans H6T.out (fun x hx => .inl hx), fun x hx => (x6 x hx).imp id (fun h => Nat.le_trans HT5.out.size h)⟩
  · rw [if_pos h0] at hres
    subst hres
    have HS : Hid _ := h
    clear h
    by_cases h1 : 0 ≤ t
    · have h2 : ¬ t < 12 := fun hh => h0 ⟨h1, hh⟩
      clear h0
      go_enter Tryd.func64, Tryd.ntmps64
      go_wp2
      go_ret
      exact HS.out.stays (Touch.refl _ _) 2
    · clear h0
      go_enter Tryd.func64, Tryd.ntmps64
      go_wp2
      go_ret
      exact HS.out.stays (Touch.refl _ _) 2

end Go.Proofs.YtmiaibpdeofokaaDoor

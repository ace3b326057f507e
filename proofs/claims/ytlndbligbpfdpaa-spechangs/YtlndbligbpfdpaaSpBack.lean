/-
  package spec: A LEFT ARM's WAY BACK (begin's closure) BY ITS CONTRACT. Written by mkback.py.
-/
import Derived.Test.YtlndbligbpfdpaaSpReach
namespace Go.Proofs.Ytlndbligbpfdpaa
set_option linter.unusedVariables false
set_option linter.unusedSimpArgs false
open Go.RowKit
attribute [local go_sem] Oper.semAt_some

theorem WObj.stput {w : World} {p : Nat} {T : TypeId} {tl : List Value} {D0 : WD} {v0 o0 vp : Value} (h : WObj w p T tl v0 o0 vp D0) (D : WD) (vs vo : Value) : WObj (stPut w p D vs vo) p T tl vs vo vp { D with fuel := D0.fuel } :=
  ⟨by
    rw [heap_setCell_same _ _ _ _ _ _ (heap_setCell_same _ _ _ _ _ _ (heap_setCell_same _ _ _ _ _ _ (heap_setCell_same _ _ _ _ _ _ (heap_setCell_same _ _ _ _ _ _ (heap_setCell_same _ _ _ _ _ _ (heap_setCell_same _ _ _ _ _ _ h.st))))))]
    simp⟩
theorem WObj.set9 {w : World} {b : Nat} {T : TypeId} {v0 : Value} {tl : List Value} {vs vo vp : Value} {D : WD} (h : WObj w b T (v0 :: tl) vs vo vp D) (v : Value) : WObj (w.setCell ⟨b, 9, none⟩ v) b T (v :: tl) vs vo vp D := ⟨by rw [heap_setCell_same _ _ _ _ _ _ h.st]; simp⟩
theorem WObj.set10 {w : World} {b : Nat} {T : TypeId} {v0 v1 : Value} {tl : List Value} {vs vo vp : Value} {D : WD} (h : WObj w b T (v0 :: v1 :: tl) vs vo vp D) (v : Value) : WObj (w.setCell ⟨b, 10, none⟩ v) b T (v0 :: v :: tl) vs vo vp D := ⟨by rw [heap_setCell_same _ _ _ _ _ _ h.st]; simp⟩
theorem WObj.set11 {w : World} {b : Nat} {T : TypeId} {v0 v1 v2 : Value} {tl : List Value} {vs vo vp : Value} {D : WD} (h : WObj w b T (v0 :: v1 :: v2 :: tl) vs vo vp D) (v : Value) : WObj (w.setCell ⟨b, 11, none⟩ v) b T (v0 :: v1 :: v :: tl) vs vo vp D := ⟨by rw [heap_setCell_same _ _ _ _ _ _ h.st]; simp⟩

theorem nd_parts {s h p q : Nat} {a c d : List Nat} (nd : (s :: h :: p :: q :: (a ++ (c ++ d))).Nodup) : (∀ x ∈ a, x ∉ c) ∧ (∀ x ∈ a, x ∉ d) ∧ (∀ x ∈ c, x ∉ d) := by
  have h1 : (a ++ (c ++ d)).Nodup := by
    simp only [List.nodup_cons] at nd
    exact nd.2.2.2.2
  rw [List.nodup_append] at h1
  obtain ⟨_, h2, h3⟩ := h1
  rw [List.nodup_append] at h2
  refine ⟨fun x hx hc => h3 x hx x (by simp [hc]) rfl, fun x hx hd => h3 x hx x (by simp [hd]) rfl, fun x hx hd => h2.2.2 x hx x hd rfl⟩

/-- A block that is what was kept of it. -/
theorem BObj.back {w w' : World} {b : Nat} {B : Gd} {vp : Value} {D0 D' : WD} {h0 : List Int} {L : List MkT} {arms : List Bool} {vs0 vo0 vh0 vl va : Value} {m : MkD} {s h p q : Nat} {vs vo vh : Value} (kb : BObj w b B vp D0 h0 L arms vs0 vo0 vh0 vl va) (k : MkC w b B m s h p q vs vo vh)
    (hap : ∀ x ∈ s :: h :: p :: q :: (ob vs ++ (ob vo ++ ob vh)), ∀ i, x ∉ comp b vs0 vo0 vh0 vl va (ftL L) i) (hge : ∀ x ∈ s :: h :: p :: q :: (ob vs ++ (ob vo ++ ob vh)), B.ok x) (o' : WObj w' b 75 [vh, vl, va] vs vo vp D') (es : D'.st = m.D.st) (eo : D'.out = m.D.out) (t : Touch w w' [b]) : BObj w' b B vp D' m.h L arms vs vo vh vl va := by
  obtain ⟨n1, n2, n3⟩ := nd_parts k.nd
  have hF : ∀ i, 1 ≤ i → i ≤ 3 → ∀ x ∈ comp b vs vo vh vl va (ftL L) i, x ∈ s :: h :: p :: q :: (ob vs ++ (ob vo ++ ob vh)) := by
    intro i h1 h3 x hx
    match i, hx with
    | 1, hx => have : x ∈ ob vs := hx; simp [this]
    | 2, hx => have : x ∈ ob vo := hx; simp [this]
    | 3, hx => have : x ∈ ob vh := hx; simp [this]
  have hO : ∀ i, i = 0 ∨ 4 ≤ i → ∀ x ∈ comp b vs vo vh vl va (ftL L) i, x ∈ comp b vs0 vo0 vh0 vl va (ftL L) i := by
    intro i hi x hx
    match i, hx with
    | 0, hx => exact hx
    | 4, hx => exact hx
    | 5, hx => exact hx
    | 6, hx => exact hx
    | n + 7, hx => simp [comp] at hx
  have hS : ∀ x ∈ s :: h :: p :: q :: (ob vs ++ (ob vo ++ ob vh)), x ∉ [b] := fun x hx hm => hap x hx 0 (by simpa [comp] using hm)
  have hS2 : ∀ i, i ≠ 0 → ∀ x ∈ comp b vs0 vo0 vh0 vl va (ftL L) i, x ∉ [b] := fun i hi x hx hm => kb.ap i 0 hi x hx (by simpa [comp] using hm)
  have kk := k.touch t hS
  have hs := t.size
  refine ⟨o', by rw [es]; exact kk.so, by rw [eo]; exact kk.uo, kk.hp, ownsRow_touch kb.lf t (fun g hg => hS2 4 (by decide) g (mem_ob.2 hg)), ownsRow_touch kb.ar t (fun g hg => hS2 5 (by decide) g (mem_ob.2 hg)), fun u hu => (kb.mks u hu).touch t (fun x hx => hS2 6 (by decide) x (by simp only [comp, ftL]; exact List.mem_flatMap.2 ⟨u, hu, hx⟩)), kb.mn, ?_, ?_, ?_, Nat.le_trans kb.hB hs⟩
  · intro i j hij x hx hx'
    by_cases hi : 1 ≤ i ∧ i ≤ 3
    · by_cases hj : 1 ≤ j ∧ j ≤ 3
      · match i, j, hx, hx' with
        | 1, 2, hx, hx' => exact n1 x hx hx'
        | 2, 1, hx, hx' => exact n1 x hx' hx
        | 1, 3, hx, hx' => exact n2 x hx hx'
        | 3, 1, hx, hx' => exact n2 x hx' hx
        | 2, 3, hx, hx' => exact n3 x hx hx'
        | 3, 2, hx, hx' => exact n3 x hx' hx
        | 1, 1, _, _ => exact hij rfl
        | 2, 2, _, _ => exact hij rfl
        | 3, 3, _, _ => exact hij rfl
      · exact hap x (hF i hi.1 hi.2 x hx) j (hO j (by omega) x hx')
    · by_cases hj : 1 ≤ j ∧ j ≤ 3
      · exact hap x (hF j hj.1 hj.2 x hx') i (hO i (by omega) x hx)
      · exact kb.ap i j hij x (hO i (by omega) x hx) (hO j (by omega) x hx')
  · intro i x hx
    by_cases hi : 1 ≤ i ∧ i ≤ 3
    · match i, hx with
      | 1, hx => exact own_lt kk.so x (mem_ob.1 hx)
      | 2, hx => exact own_lt kk.uo x (mem_ob.1 hx)
      | 3, hx => exact own_lt kk.hp x (mem_ob.1 hx)
    · have := kb.lt i x (hO i (by omega) x hx); omega
  · intro i x hx
    by_cases hi : 1 ≤ i ∧ i ≤ 3
    · match i, hx with
      | 1, hx => exact hge x (hF 1 (by omega) (by omega) x hx)
      | 2, hx => exact hge x (hF 2 (by omega) (by omega) x hx)
      | 3, hx => exact hge x (hF 3 (by omega) (by omega) x hx)
    · exact kb.ge i x (hO i (by omega) x hx)

set_option maxRecDepth 100000 in
set_option maxHeartbeats 2000000 in
theorem back_any {w : World} {b : Nat} {B : Gd} {vp : Value} {D0 : WD} {h0 : List Int} {L : List MkT} {arms : List Bool} {vs0 vo0 vh0 vl va : Value} {m : MkD} {s h p q : Nat} {vs vo vh : Value} (kb : BObj w b B vp D0 h0 L arms vs0 vo0 vh0 vl va) (k : MkC w b B m s h p q vs vo vh)
    (hap : ∀ x ∈ s :: h :: p :: q :: (ob vs ++ (ob vo ++ ob vh)), ∀ i, x ∉ comp b vs0 vo0 vh0 vl va (ftL L) i) (hge : ∀ x ∈ s :: h :: p :: q :: (ob vs ++ (ob vo ++ ob vh)), B.ok x) (he : 0 ≤ m.e ∧ m.e ≤ 1000) :
    Calls Try.prog 104 #[.pointer (some ⟨s, 0, none⟩), .pointer (some ⟨h, 0, none⟩), .pointer (some ⟨p, 0, none⟩), .pointer (some ⟨q, 0, none⟩)] w fun e w' => e = .returned (.tuple #[]) ∧ BObj w' b B vp { m.D with fuel := D0.fuel, pc := m.e + 1 } m.h L arms vs vo vh vl va ∧ Touch w w' [b] := by
  obtain ⟨sa, sc, rfl⟩ := owns_slice k.so
  obtain ⟨oa, oc, rfl⟩ := owns_slice k.uo
  obtain ⟨ha, hc, rfl⟩ := owns_slice k.hp
  have hn := hap
  have hsb : s ≠ b := fun e => hap s (by simp) 0 (by simp [comp, e])
  have hhb : h ≠ b := fun e => hap h (by simp) 0 (by simp [comp, e])
  have hpb : p ≠ b := fun e => hap p (by simp) 0 (by simp [comp, e])
  have hqb : q ≠ b := fun e => hap q (by simp) 0 (by simp [comp, e])
  have td : Touch w w.drew [b] := (Touch.refl w [b]).drew
  -- what can be read all along
  have HRD : Hid (∀ W, Touch w W [b] → W.cell? ⟨p, 0, none⟩ = some (.pointer (some ⟨b, 0, none⟩)) ∧ W.cell? ⟨q, 0, none⟩ = some (.int .i64 m.e) ∧ W.cell? ⟨h, 0, none⟩ = some (.slice ha m.h.length hc) ∧ W.cell? ⟨s, 0, none⟩ = some (.int .i64 m.D.pc) ∧ W.cell? ⟨s, 1, none⟩ = some (.slice sa m.D.st.length sc) ∧ W.cell? ⟨s, 2, none⟩ = some (.int .u64 m.D.l0) ∧ W.cell? ⟨s, 3, none⟩ = some (.int .u64 m.D.l1) ∧ W.cell? ⟨s, 4, none⟩ = some (.int .u64 m.D.l2) ∧ W.cell? ⟨s, 5, none⟩ = some (.int .u64 m.D.l3) ∧ W.cell? ⟨s, 6, none⟩ = some (.slice oa m.D.out.length oc)) := fun W t => by
    have kk := k.touch t (fun x hx hm => hap x hx 0 (by simpa [comp] using hm))
    obtain ⟨x0, x1, x2, x3, x4, x5, x6⟩ := kk.st.cells
    exact ⟨by unfold World.cell?; rw [kk.pb]; rfl, by unfold World.cell?; rw [kk.qe]; rfl, by unfold World.cell?; rw [kk.hb]; rfl, x0, x1, x2, x3, x4, x5, x6⟩
  obtain ⟨y0, y1, y2, y3, y4, y5, y6, _, _⟩ := kb.o.cells
  have r0 := kb.o.fr 0
  have r1 := kb.o.fr 1
  have r2 := kb.o.fr 2
  have r3 := kb.o.fr 3
  have r4 := kb.o.fr 4
  have r5 := kb.o.fr 5
  have r6 := kb.o.fr 6
  have tP : Touch w (stPut w b m.D (.slice sa m.D.st.length sc) (.slice oa m.D.out.length oc)).drew [b] := (stPut_touch _ _ _ _ _).drew
  have hP : WObj (stPut w b m.D (.slice sa m.D.st.length sc) (.slice oa m.D.out.length oc)) b 75 [vh0, vl, va] (.slice sa m.D.st.length sc) (.slice oa m.D.out.length oc) vp { m.D with fuel := D0.fuel } := kb.o.stput m.D _ _
  have z9 : (stPut w b m.D (.slice sa m.D.st.length sc) (.slice oa m.D.out.length oc)).cell? ⟨b, 9, none⟩ = some vh0 := by unfold World.cell?; rw [hP.st]; rfl
  have f9 := hP.fr 9
  have s0 := HRD.out _ td
  have s1 := HRD.out _ tP
  have HP9 : Hid (WObj ((stPut w b m.D (.slice sa m.D.st.length sc) (.slice oa m.D.out.length oc)).setCell ⟨b, 9, none⟩ (.slice ha m.h.length hc)).drew b 75 [.slice ha m.h.length hc, vl, va] (.slice sa m.D.st.length sc) (.slice oa m.D.out.length oc) vp { m.D with fuel := D0.fuel }) := (hP.set9 _).touch ((Touch.refl _ []).drew) (by simp)
  have HTQ : Hid (Touch w ((stPut w b m.D (.slice sa m.D.st.length sc) (.slice oa m.D.out.length oc)).setCell ⟨b, 9, none⟩ (.slice ha m.h.length hc)).drew [b]) := ((stPut_touch _ _ _ _ _).setCell (.inl (by simp)) _).drew
  have s2 := HRD.out _ HTQ.out
  have HS2 : Hid _ := s2
  have HFIN : Hid (∀ (w' : World) D', WObj w' b 75 [.slice ha m.h.length hc, vl, va] (.slice sa m.D.st.length sc) (.slice oa m.D.out.length oc) vp D' → D'.st = m.D.st → D'.out = m.D.out → Touch w w' [b] → BObj w' b B vp D' m.h L arms (.slice sa m.D.st.length sc) (.slice oa m.D.out.length oc) (.slice ha m.h.length hc) vl va) := fun w' D' o' es eo t => kb.back k hap hge o' es eo t
  have hwr : IntKind.i64.wrap (m.e + 1) = m.e + 1 := by rw [IntKind.wrap_i64]; omega
  clear hn hap kb k hP hge
  go_enter Try.func104, Try.ntmps104
  go_wp2_with fail
  refine wp_region_held_drew (S := (fun W : World => W.cell? ⟨p, 0, none⟩ = some (.pointer (some ⟨b, 0, none⟩)) ∧ W.cell? ⟨q, 0, none⟩ = some (.int .i64 m.e) ∧ W.cell? ⟨h, 0, none⟩ = some (.slice ha m.h.length hc) ∧ W.cell? ⟨s, 0, none⟩ = some (.int .i64 m.D.pc) ∧ W.cell? ⟨s, 1, none⟩ = some (.slice sa m.D.st.length sc) ∧ W.cell? ⟨s, 2, none⟩ = some (.int .u64 m.D.l0) ∧ W.cell? ⟨s, 3, none⟩ = some (.int .u64 m.D.l1) ∧ W.cell? ⟨s, 4, none⟩ = some (.int .u64 m.D.l2) ∧ W.cell? ⟨s, 5, none⟩ = some (.int .u64 m.D.l3) ∧ W.cell? ⟨s, 6, none⟩ = some (.slice oa m.D.out.length oc))) (by kernel_rfl) s0 (fun hHeld => ?_)
  try simp only [Act.put, List.getElem_toArray, List.getElem_cons_succ, List.getElem_cons_zero, List.setIfInBounds_toArray, List.set_cons_zero, List.set_cons_succ]
  refine wpAnyH_take (i := 0) (v := (.pointer (some ⟨b, 0, none⟩))) rfl (by kernel_rfl) (by kernel_rfl) (by kernel_rfl) (fun _ _ _ h => h) (Or.inl ⟨by rfl, ?_⟩) hHeld ?_
  · intro w' hSw
    try simp only [Act.put, List.getElem_toArray, List.getElem_cons_succ, List.getElem_cons_zero, List.setIfInBounds_toArray, List.set_cons_zero, List.set_cons_succ]
    go_simp
  try simp only [Act.put, List.getElem_toArray, List.getElem_cons_succ, List.getElem_cons_zero, List.setIfInBounds_toArray, List.set_cons_zero, List.set_cons_succ]
  refine wpAnyH_take (i := 1) (v := (.pointer (some ⟨b, 0, none⟩))) rfl (by kernel_rfl) (by kernel_rfl) (by kernel_rfl) (fun _ _ _ h => h) (Or.inl ⟨by rfl, ?_⟩) hHeld ?_
  · intro w' hSw
    try simp only [Act.put, List.getElem_toArray, List.getElem_cons_succ, List.getElem_cons_zero, List.setIfInBounds_toArray, List.set_cons_zero, List.set_cons_succ]
    go_simp
  try simp only [Act.put, List.getElem_toArray, List.getElem_cons_succ, List.getElem_cons_zero, List.setIfInBounds_toArray, List.set_cons_zero, List.set_cons_succ]
  refine wpAnyH_take (i := 2) (v := (stV m.D (.slice sa m.D.st.length sc) (.slice oa m.D.out.length oc))) rfl (by kernel_rfl) (by kernel_rfl) (by kernel_rfl) (fun _ _ _ h => h) (Or.inl ⟨by rfl, ?_⟩) hHeld ?_
  · intro w' hSw
    try simp only [Act.put, List.getElem_toArray, List.getElem_cons_succ, List.getElem_cons_zero, List.setIfInBounds_toArray, List.set_cons_zero, List.set_cons_succ]
    go_simp
  try simp only [Act.put, List.getElem_toArray, List.getElem_cons_succ, List.getElem_cons_zero, List.setIfInBounds_toArray, List.set_cons_zero, List.set_cons_succ]
  refine wpAnyH_take (i := 3) (v := (.slice ha m.h.length hc)) rfl (by kernel_rfl) (by kernel_rfl) (by kernel_rfl) (fun _ _ _ h => h) (Or.inl ⟨by rfl, ?_⟩) hHeld ?_
  · intro w' hSw
    try simp only [Act.put, List.getElem_toArray, List.getElem_cons_succ, List.getElem_cons_zero, List.setIfInBounds_toArray, List.set_cons_zero, List.set_cons_succ]
    go_simp
  try simp only [Act.put, List.getElem_toArray, List.getElem_cons_succ, List.getElem_cons_zero, List.setIfInBounds_toArray, List.set_cons_zero, List.set_cons_succ]
  refine wpAnyH_take (i := 4) (v := (.pointer (some ⟨b, 0, none⟩))) rfl (by kernel_rfl) (by kernel_rfl) (by kernel_rfl) (fun _ _ _ h => h) (Or.inl ⟨by rfl, ?_⟩) hHeld ?_
  · intro w' hSw
    try simp only [Act.put, List.getElem_toArray, List.getElem_cons_succ, List.getElem_cons_zero, List.setIfInBounds_toArray, List.set_cons_zero, List.set_cons_succ]
    go_simp
  try simp only [Act.put, List.getElem_toArray, List.getElem_cons_succ, List.getElem_cons_zero, List.setIfInBounds_toArray, List.set_cons_zero, List.set_cons_succ]
  refine wpAnyH_take (i := 5) (v := (.pointer (some ⟨b, 0, none⟩))) rfl (by kernel_rfl) (by kernel_rfl) (by kernel_rfl) (fun _ _ _ h => h) (Or.inl ⟨by rfl, ?_⟩) hHeld ?_
  · intro w' hSw
    try simp only [Act.put, List.getElem_toArray, List.getElem_cons_succ, List.getElem_cons_zero, List.setIfInBounds_toArray, List.set_cons_zero, List.set_cons_succ]
    go_simp
  try simp only [Act.put, List.getElem_toArray, List.getElem_cons_succ, List.getElem_cons_zero, List.setIfInBounds_toArray, List.set_cons_zero, List.set_cons_succ]
  refine wpAnyH_take (i := 6) (v := (.pointer (some ⟨b, 0, none⟩))) rfl (by kernel_rfl) (by kernel_rfl) (by kernel_rfl) (fun _ _ _ h => h) (Or.inl ⟨by rfl, ?_⟩) hHeld ?_
  · intro w' hSw
    try simp only [Act.put, List.getElem_toArray, List.getElem_cons_succ, List.getElem_cons_zero, List.setIfInBounds_toArray, List.set_cons_zero, List.set_cons_succ]
    go_simp
  try simp only [Act.put, List.getElem_toArray, List.getElem_cons_succ, List.getElem_cons_zero, List.setIfInBounds_toArray, List.set_cons_zero, List.set_cons_succ]
  clear hHeld
  refine wpAnyH_ready (rs := [7]) (by kernel_rfl) (by simp) (AllReadyH.cons rfl (fun K hK => ?_) AllReadyH.nil)
  rw [if_pos (by rfl)]
  go_simp
  refine hK.out _ _ s1 (fun hHeld => ?_)
  clear hK
  try simp only [Act.put, List.getElem_toArray, List.getElem_cons_succ, List.getElem_cons_zero, List.setIfInBounds_toArray, List.set_cons_zero, List.set_cons_succ]
  refine wpAnyH_take (i := 8) (v := (.pointer (some ⟨b, 0, none⟩))) rfl (by kernel_rfl) (by kernel_rfl) (by kernel_rfl) (fun _ _ _ h => h) (Or.inl ⟨by rfl, ?_⟩) hHeld ?_
  · intro w' hSw
    try simp only [Act.put, List.getElem_toArray, List.getElem_cons_succ, List.getElem_cons_zero, List.setIfInBounds_toArray, List.set_cons_zero, List.set_cons_succ]
    go_simp
  try simp only [Act.put, List.getElem_toArray, List.getElem_cons_succ, List.getElem_cons_zero, List.setIfInBounds_toArray, List.set_cons_zero, List.set_cons_succ]
  refine wpAnyH_take (i := 9) (v := (.pointer (some ⟨b, 9, none⟩))) rfl (by kernel_rfl) (by kernel_rfl) (by kernel_rfl) (fun _ _ _ h => h) (Or.inl ⟨by rfl, ?_⟩) hHeld ?_
  · intro w' hSw
    try simp only [Act.put, List.getElem_toArray, List.getElem_cons_succ, List.getElem_cons_zero, List.setIfInBounds_toArray, List.set_cons_zero, List.set_cons_succ]
    go_simp
  try simp only [Act.put, List.getElem_toArray, List.getElem_cons_succ, List.getElem_cons_zero, List.setIfInBounds_toArray, List.set_cons_zero, List.set_cons_succ]
  clear hHeld
  refine wpAnyH_ready (rs := [10]) (by kernel_rfl) (by simp) (AllReadyH.cons rfl (fun K hK => ?_) AllReadyH.nil)
  rw [if_pos (by rfl)]
  go_simp
  refine hK.out _ _ s2 (fun hHeld => ?_)
  clear hK
  try simp only [Act.put, List.getElem_toArray, List.getElem_cons_succ, List.getElem_cons_zero, List.setIfInBounds_toArray, List.set_cons_zero, List.set_cons_succ]
  clear hHeld
  refine wpAnyH_done (by kernel_rfl) ?_ _
  generalize ((stPut w b m.D (.slice sa m.D.st.length sc) (.slice oa m.D.out.length oc)).setCell ⟨b, 9, none⟩ (.slice ha m.h.length hc)).drew = W9 at *
  clear s0 s1 y0 y1 y2 y3 y4 y5 y6 r0 r1 r2 r3 r4 r5 r6 z9 f9 tP td
  have c0 := HP9.out.cells.c0
  have g0 := HP9.out.fr 0
  obtain ⟨u0, u1, u2, _⟩ := HS2.out
  go_wp2
  go_end0
  have ho := HP9.out.set0 (m.e + 1)
  have ht := HTQ.out.setCell (p := ⟨b, 0, none⟩) (.inl (by simp)) (.int .i64 (m.e + 1))
  exact ⟨rfl, HFIN.out _ _ ho rfl rfl ht, ht⟩

end Go.Proofs.Ytlndbligbpfdpaa

/-
  package waits: Register, Sleep, remove, Wake BY THEIR CONTRACTS.
-/
import Derived.Test.YteffdibdnoppjabWtObj
namespace Go.Proofs.Yteffdibdnoppjab
set_option linter.unusedVariables false
set_option linter.unusedSimpArgs false
open Go.RowKit Go.Maps
attribute [local go_sem] Oper.semAt_some

/-- What becomes of a call that changes lists: the object at the same place, its blocks the old ones or new ones. -/
def WPost (w : World) (b k : Nat) (F : List Nat) (L' : List WD) (w' : World) : Prop := ∃ F', WAt w' b F' (k + 1) L' ∧ Touch w w' F ∧ ∀ x ∈ F', x ∈ F ∨ w.heap.size ≤ x

theorem WAt.mono {w : World} {b k k' : Nat} {F : List Nat} {L : List WD} (h : WAt w b F k L) (hk : k ≤ k') : WAt w b F k' L := by
  obtain ⟨mb, vo, n, rfl, ho, hn⟩ := h; exact ⟨mb, vo, n, rfl, ho, Nat.le_trans hn hk⟩
theorem WAt.stay {w w' : World} {b k : Nat} {F : List Nat} {L : List WD} (h : WAt w b F k L) (t : Touch w w' []) : WPost w b k F L w' :=
  ⟨F, (h.touch t (by simp)).mono (Nat.le_succ _), t.mono (by simp), fun x hx => .inl hx⟩

/-- Registered. -/
def regE (L : List WD) (th : Int) (tv : List Int) : Int × List WD :=
  if noTh th ∨ tv.any noT then (2, L) else if tv = [] then (3, L) else if (findW L th).isSome then (6, L) else (0, L ++ [⟨th, setP tv, false⟩])

theorem setP_pos {tv : List Int} (h : tv.any noT = false) (hne : tv ≠ []) : setP tv ≠ 0 := by
  intro h0
  cases tv with
  | nil => exact hne rfl
  | cons x l =>
    have hx : noT x = false := by simp at h; exact h.1
    have hx2 : 0 ≤ x ∧ x < 12 := by simp [noT] at hx; omega
    have := setP_bit (x :: l) x.toNat (by omega)
    rw [h0] at this
    have hm : ((x.toNat : Nat) : Int) ∈ x :: l := by rw [Int.toNat_of_nonneg hx2.1]; simp
    simp [hm] at this
    omega
theorem wwf_reg {L : List WD} {th : Int} {tv : List Int} (h : WWf L) (h1 : noTh th = false) (h2 : tv.any noT = false) (h3 : tv ≠ []) (h4 : (findW L th).isSome = false) : WWf (L ++ [⟨th, setP tv, false⟩]) := by
  have hf : findW L th = none := by cases hq : findW L th <;> simp_all
  refine ⟨?_, ?_⟩
  · rw [List.map_append, List.nodup_append]
    refine ⟨h.nod, by simp, ?_⟩
    intro a ha c hc
    simp at hc
    subst hc
    exact fun e => (findW_none.1 hf) (e ▸ ha)
  · intro x hx
    rcases List.mem_append.1 hx with hx | hx
    · exact h.rng x hx
    · simp at hx
      subst hx
      simp [noTh] at h1
      exact ⟨h1.1, h1.2, setP_lt tv, setP_pos h2 h3⟩
theorem find_app {L : List WD} {x : WD} (h : findW L x.th = none) (t : Int) : findW (L ++ [x]) t = if t = x.th then some x else findW L t := by
  unfold findW at h ⊢
  rw [List.find?_append]
  by_cases ht : t = x.th
  · subst ht
    rw [h, if_pos rfl]
    simp
  · rw [if_neg ht]
    have : ([x].find? fun y => y.th == t) = none := by simp; exact fun e => ht e.symm
    rw [this]
    simp
theorem mapW_app {L : List WD} {x : WD} (h : findW L x.th = none) : mapW (L ++ [x]) = updF (mapW L) x.th x.val := by
  funext t
  unfold mapW updF
  rw [find_app h]
  by_cases ht : t = x.th
  · simp [ht]
  · simp [ht]

set_option maxRecDepth 100000 in
set_option maxHeartbeats 4000000 in
theorem register_any {w : World} {b k : Nat} {F : List Nat} {L : List WD} (h : WAt w b F k L) (hk : k ≤ 1000) (th : Int) (h64 : W64 th) {v : Value} {tv : List Int} (hr : IRow w v tv) (hl : tv.length ≤ 1000) :
    Calls Try.prog 5 #[ptr b, .int .i64 th, v] w fun e w' => e = .returned (.int .i64 (regE L th tv).1) ∧ WPost w b k F (regE L th tv).2 w' := by
  have hst := h.stay (Touch.refl w [])
  have HST : Hid _ := hst
  have HH : Hid _ := h
  have hnt : HidC _ _ _ _ _ := ⟨nothread_any th w⟩
  have hcn : HidC _ _ _ _ _ := ⟨containsNo_any hr hl⟩
  obtain ⟨ao, cap, rfl⟩ := hr.shape
  have HR : Hid _ := hr
  clear hst hr
  cases h1 : noTh th with
  | true =>
    have e1 : regE L th tv = (2, L) := by unfold regE; rw [if_pos (.inl h1)]
    rw [e1]
    rw [h1] at hnt
    clear h1 e1 h hcn
    clear HR
    generalize tv.length = N at *
    go_enter Try.func5, Try.ntmps5
    go_wp2_with fail
    refine hnt.out.mono ?_
    rintro e w1 ⟨rfl, rfl⟩
    clear hnt
    go_wp2
    go_ret
    exact ⟨rfl, HST.out⟩
  | false =>
    rw [h1] at hnt
    cases h2 : tv.any noT with
    | true =>
      have e1 : regE L th tv = (2, L) := by unfold regE; rw [if_pos (.inr h2)]
      rw [e1]
      rw [h2] at hcn
      clear h1 h2 e1 h
      clear HR
      generalize tv.length = N at *
      go_enter Try.func5, Try.ntmps5
      go_wp2_with fail
      refine hnt.out.mono ?_
      rintro e w1 ⟨rfl, rfl⟩
      clear hnt
      go_wp2_with fail
      refine hcn.out.mono ?_
      rintro e w1 ⟨rfl, rfl⟩
      clear hcn
      go_wp2
      go_ret
      exact ⟨rfl, HST.out⟩
    | false =>
      rw [h2] at hcn
      have hno : ¬ (noTh th = true ∨ tv.any noT = true) := by rw [h1, h2]; simp
      by_cases h3 : tv = []
      · have e1 : regE L th tv = (3, L) := by unfold regE; rw [if_neg hno, if_pos h3]
        rw [e1]
        subst h3
        clear h1 h2 e1 h hno
        simp only [List.length_nil] at hcn ⊢
        go_enter Try.func5, Try.ntmps5
        go_wp2_with fail
        refine hnt.out.mono ?_
        rintro e w1 ⟨rfl, rfl⟩
        clear hnt
        go_wp2_with fail
        refine hcn.out.mono ?_
        rintro e w1 ⟨rfl, rfl⟩
        clear hcn
        go_wp2
        go_ret
        exact ⟨rfl, HST.out⟩
      · have hpos : ¬ ((tv.length : Int) = 0) := by
          intro e; exact h3 (List.eq_nil_of_length_eq_zero (by omega))
        obtain ⟨mb, vo, n, rfl, ho, hn⟩ := h
        obtain ⟨c0, c1, f1⟩ := ho.cells
        have hlk := ho.map.lookOk Try.underlying36 (Try.zero_wait _) h64
        rw [mapW_get] at hlk
        have hms : (mapW L th).isSome = (findW L th).isSome := by unfold mapW; rw [Option.isSome_map]
        rw [hms] at hlk
        generalize hof : (ofP L th : Int) = o1 at hlk
        generalize slP L th = o2 at hlk
        have HO : Hid _ := ho
        have hbl := lt_of_heap ho.st
        cases h4 : (findW L th).isSome with
        | true =>
          rw [h4] at hlk
          have e1 : regE L th tv = (6, L) := by unfold regE; rw [if_neg hno, if_neg h3, if_pos h4]
          rw [e1]
          have HS2 : Hid (Touch w (w.alloc (.cells #[.int .u32 o1, .bool o2] 43)) []) := (Touch.refl w []).alloc _
          clear h1 h2 h3 h4 e1 hno hms hof ho
          clear HR
          generalize tv.length = N at *
          go_enter Try.func5, Try.ntmps5
          go_wp2_with fail
          refine hnt.out.mono ?_
          rintro e w1 ⟨rfl, rfl⟩
          clear hnt
          go_wp2_with fail
          refine hcn.out.mono ?_
          rintro e w1 ⟨rfl, rfl⟩
          clear hcn
          go_wp2
          go_ret
          exact ⟨rfl, WAt.stay HH.out HS2.out⟩
        | false =>
          rw [h4] at hlk
          have e1 : regE L th tv = (0, L ++ [⟨th, setP tv, false⟩]) := by unfold regE; rw [if_neg hno, if_neg h3, if_neg (by rw [h4]; simp)]
          rw [e1]
          have HWF : Hid _ := wwf_reg ho.wf h1 h2 h3 h4
          have hf : findW L th = none := by cases hq : findW L th <;> simp_all
          have HMW : Hid _ := mapW_app (x := ⟨th, setP tv, false⟩) hf
          -- behind the lookup: a block for what was found
          have t1 : Touch w (w.alloc (.cells #[.int .u32 o1, .bool o2] 43)).drew [] := ((Touch.refl w []).alloc _).drew
          have hset : HidC _ _ _ _ _ := ⟨setOf_any (SRow.keep HR.out t1 (by simp)) hl⟩
          obtain ⟨w2, hstr, hm2, hg2⟩ := (ho.map.touch t1 (by simp)).store Try.underlying36 (by unfold maxLen; omega) h64 (.agg #[.int .u32 (setP tv : Int), .bool false])
          have t2 : Touch w w2 [mb] := (t1.mono (by simp)).grown hg2 (by intro q hq; cases hq; exact .inl (by simp))
          obtain ⟨ao1, cap1, rfl⟩ := owns_slice ho.ord
          have hord2 : intOwn w2 0 (.slice ao1 (L.map WD.th).length cap1) (L.map WD.th) := ownsRow_touch ho.ord t2 (fun q hq hs => (ho.n1 q hq).2 (by simpa using hs))
          have hlen := ho.wf.len
          obtain ⟨ao', cap', w3, hrun, hown, ht3, hbl3⟩ := run_push hord2 (by rw [List.length_map]; omega) (Nat.zero_le _) th 31
          have d0 : w2.cell? ⟨b, 1, none⟩ = some (.slice ao1 (L.map WD.th).length cap1) := (t2.cell (p := ⟨b, 1, none⟩) hbl (by simpa using ho.n0)).trans c1
          have e0 : w2.cell? ⟨b, 0, none⟩ = some (.map (some mb)) := (t2.cell (p := ⟨b, 0, none⟩) hbl (by simpa using ho.n0)).trans c0
          have g1 : w3.frozen? ⟨b, 1, none⟩ = false := by
            have hb3 : b ∉ (Value.slice ao1 (L.map WD.th).length cap1).ownBlock.toList := fun hs => (ho.n1 b (by simpa using hs)).1 rfl
            rw [ht3.frozen (p := ⟨b, 1, none⟩) (Nat.lt_of_lt_of_le hbl t2.size) hb3, t2.frozen (p := ⟨b, 1, none⟩) hbl (by simpa using ho.n0)]
            exact f1
          have k1 : w3.cell? ⟨b, 1, none⟩ = some (.slice ao1 (L.map WD.th).length cap1) := by
            have hb3 : b ∉ (Value.slice ao1 (L.map WD.th).length cap1).ownBlock.toList := fun hs => (ho.n1 b (by simpa using hs)).1 rfl
            exact (ht3.cell (p := ⟨b, 1, none⟩) (Nat.lt_of_lt_of_le hbl t2.size) hb3).trans d0
          have HT2 : Hid _ := t2
          have HT3 : Hid _ := ht3
          have HM2 : Hid _ := hm2
          have HB3 : Hid _ := hbl3
          have HOW : Hid _ := hown
          have hkeep : ∀ W, Touch w W [] → W.cell? ⟨b, 0, none⟩ = some (.map (some mb)) := fun W t => (t.cell (p := ⟨b, 0, none⟩) hbl (by simp)).trans c0
          have m0 := hkeep _ t1
          have HKP : Hid _ := hkeep
          generalize hq2 : (setP tv : Int) = q2 at hset hstr HM2
          generalize hN1 : (L.map WD.th).length = N1 at *
          clear h1 h2 h3 h4 e1 hno hms hof ho t2 ht3 hm2 hbl3 hown hord2 hg2 hf hkeep t1
          clear HR
          generalize hN : tv.length = N at *
          go_enter Try.func5, Try.ntmps5
          go_wp2_with fail
          refine hnt.out.mono ?_
          rintro e w1 ⟨rfl, rfl⟩
          clear hnt
          go_wp2_with fail
          refine hcn.out.mono ?_
          rintro e w1 ⟨rfl, rfl⟩
          clear hcn
          go_wp2_with fail
          go_region_held3 (fun w' => w'.cell? ⟨b, 0, none⟩ = some (.map (some mb))) (first | exact m0 | exact e0) (first | (go_at_call 13; refine hset.out.mono ?_; rintro e w4 ⟨rfl, rfl⟩))
          clear hset hstr m0 HKP
          go_wp2_with (at_builtin; refine Lib.wpList_append_run _ rfl _ _ _ _ rfl _ _ rfl rfl _ _ hrun ?_)
          go_wp2
          go_ret
          have ht2 := HT2.out
          have ht3 := HT3.out
          have hO : WObj w b mb _ n L := HO.out
          have hvb : ∀ q, (Value.slice ao1 N1 cap1).ownBlock = some q → q ≠ b ∧ q ≠ mb ∧ q < w.heap.size := fun q hq => ⟨(hO.n1 q hq).1, (hO.n1 q hq).2, (int_lt hO.ord q hq).2⟩
          have hb3 : b ∉ (Value.slice ao1 N1 cap1).ownBlock.toList := fun hs => (hvb b (by simpa using hs)).1 rfl
          have hm3 : mb ∉ (Value.slice ao1 N1 cap1).ownBlock.toList := fun hs => (hvb mb (by simpa using hs)).2.1 rfl
          have hst3 : w3.heap[b]? = some (.cells #[.map (some mb), .slice ao1 N1 cap1] 38 (0, 0)) := (ht3.block b (Nat.lt_of_lt_of_le hbl ht2.size) hb3).trans ((ht2.block b hbl (by simpa using hO.n0)).trans hO.st)
          have t4 : Touch w3 (w3.setCell ⟨b, 1, none⟩ (.slice ao' (N1 + 1) cap')) [b] := (Touch.refl w3 [b]).setCell (.inl (by simp)) _
          have hmb : mb < w.heap.size := hO.map.lt
          have hnew : ∀ g, (Value.slice ao' (N1 + 1) cap').ownBlock = some g → (g ≠ b ∧ g ≠ mb) ∧ ((Value.slice ao1 N1 cap1).ownBlock = some g ∨ w.heap.size ≤ g) := by
            intro g hg
            rcases HB3.out g hg with h5 | h5
            · exact ⟨⟨(hvb g h5).1, (hvb g h5).2.1⟩, .inl h5⟩
            · have := ht2.size
              exact ⟨⟨by omega, by omega⟩, .inr (by omega)⟩
          refine ⟨rfl, b :: mb :: (Value.slice ao' (N1 + 1) cap').ownBlock.toList, ⟨mb, _, n + 1, rfl, ⟨heap_setCell_same _ _ _ _ _ _ hst3, ?_, ?_, hO.n0, fun g hg => (hnew g hg).1, HWF.out⟩, by omega⟩, ?_, ?_⟩
          · rw [HMW.out]
            have hm2 : MapF w2 mb (n + 1) _ := HM2.out
            rw [← hq2] at hm2
            exact (hm2.touch ht3 hm3).touch t4 (by simp; exact fun e => hO.n0 e.symm)
          · have := ownsRow_touch HOW.out t4 (fun g hg hs => (hnew g hg).1.1 (by simpa using hs))
            show World.ownsRow _ _ _ _ _ _ _
            simpa using this
          · refine ((ht2.mono (R := b :: mb :: (Value.slice ao1 N1 cap1).ownBlock.toList) (by simp)).trans ht3 (fun x hx => .inl (by simp at hx ⊢; exact .inr (.inr hx)))).setCell (.inl (by simp)) _
          · intro x hx
            simp only [List.mem_cons] at hx ⊢
            rcases hx with rfl | rfl | hx
            · exact .inl (.inl rfl)
            · exact .inl (.inr (.inl rfl))
            · rcases (hnew x (by simpa using hx)).2 with h5 | h5
              · exact .inl (.inr (.inr (by simpa using h5)))
              · exact .inr h5

end Go.Proofs.Yteffdibdnoppjab

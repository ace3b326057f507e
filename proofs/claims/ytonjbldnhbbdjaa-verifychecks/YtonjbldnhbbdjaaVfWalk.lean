/-
  package verify: walk BY ITS CONTRACT.
-/
import Derived.Test.YtonjbldnhbbdjaaVfWays
import Derived.WalkMore
import Derived.ScopeJumps
namespace Go.Proofs.Ytonjbldnhbbdjaa
set_option linter.unusedVariables false
set_option linter.unusedSimpArgs false
open Go.RowKit
attribute [local go_sem] Oper.semAt_some

def isUn : Value → Bool
  | .int _ x => x == -1
  | _ => false
/-- How many places have no number. -/
def unC (w : World) (g : Nat) : Nat := match w.heap[g]? with
  | some (.cells cs _ _) => cs.toList.countP isUn
  | _ => 0
def cntU (D : List Int) : Nat := D.countP (· == -1)
theorem WAt.cnt {w : World} {b : Nat} {vl : Value} {gd N : Nat} {D : List Int} (h : WAt w b vl gd N D) : unC w gd = cntU D := by
  unfold unC
  rw [h.row]
  show (D.map (Value.int .i64)).countP isUn = _
  rw [List.countP_map]
  rfl
theorem cnt_le : ∀ (D D' : List Int), D'.length = D.length → (∀ j, dAt D j ≠ -1 → dAt D' j ≠ -1) → cntU D' ≤ cntU D
  | [], D', hl, _ => by
    have : D' = [] := List.eq_nil_of_length_eq_zero hl
    subst this; exact Nat.le_refl _
  | x :: D, [], hl, _ => by simp at hl
  | x :: D, y :: D', hl, h => by
    have ih := cnt_le D D' (by simpa using hl) (fun j hj => by have := h (j + 1); simpa [dAt] using this (by simpa [dAt] using hj))
    have h0 := h 0
    simp only [dAt, List.getD_cons_zero] at h0
    unfold cntU at ih ⊢
    rw [List.countP_cons, List.countP_cons]
    by_cases hx : x = -1
    · subst hx; simp; split <;> omega
    · have := h0 hx
      simp [hx, this]; exact ih
theorem cnt_lt : ∀ (D D' : List Int), D'.length = D.length → (∀ j, dAt D j ≠ -1 → dAt D' j ≠ -1) → (∃ j, j < D.length ∧ dAt D j = -1 ∧ dAt D' j ≠ -1) → cntU D' < cntU D
  | [], D', hl, _, ⟨j, hj, _⟩ => by simp at hj
  | x :: D, [], hl, _, _ => by simp at hl
  | x :: D, y :: D', hl, h, ⟨j, hj, h1, h2⟩ => by
    have hs : ∀ j, dAt D j ≠ -1 → dAt D' j ≠ -1 := fun j hj => by have := h (j + 1); simpa [dAt] using this (by simpa [dAt] using hj)
    have hle := cnt_le D D' (by simpa using hl) hs
    cases j with
    | zero =>
      simp only [dAt, List.getD_cons_zero] at h1 h2
      unfold cntU at hle ⊢
      rw [List.countP_cons, List.countP_cons]
      simp [h1, h2]
      omega
    | succ j =>
      have ih := cnt_lt D D' (by simpa using hl) hs ⟨j, by simpa using hj, by simpa [dAt] using h1, by simpa [dAt] using h2⟩
      have h0 := h 0
      simp only [dAt, List.getD_cons_zero] at h0
      unfold cntU at ih ⊢
      rw [List.countP_cons, List.countP_cons]
      by_cases hx : x = -1
      · subst hx; simp; split <;> omega
      · have := h0 hx
        simp [hx, this]; exact ih

/-- What holds at every jump. -/
structure JInv (l : List InsD) (b gd N cap : Nat) (ao : Option Addr) (w : World) (RES : Int × Nat × List Int) (m : Nat) (D : List Int) (G : List Bool) (w' : World) : Prop where
  ob : WAt w' b (.slice ao N cap) gd N D
  inv : WInv l D G m
  fin : finV l D G = RES
  t : Touch w w' [gd]
  le : m ≤ N

/-- What walk answers. -/
def WalkPost (w : World) (b gd N : Nat) (vl : Value) (RES : Int × Nat × List Int) (e : Ending) (w' : World) : Prop :=
  e = .returned (.tuple #[.int .i64 RES.2.1, .int .i64 RES.1]) ∧ Touch w w' [gd] ∧ (RES.1 = 0 → WAt w' b vl gd N RES.2.2)

set_option maxRecDepth 100000 in
set_option maxHeartbeats 4000000 in
theorem walk_any {w : World} {b gd N cap : Nat} {ao : Option Addr} {D0 : List Int} {G0 : List Bool} {l : List InsD} {RES : Int × Nat × List Int} (h : WAt w b (.slice ao N cap) gd N D0) (hN : N = l.length) (hn : N ≤ 900) (hr : InsV w (.slice ao N cap) l) (hgne : l ≠ [] → ∀ q, (Value.slice ao N cap).ownBlock = some q → q ≠ gd)
    (ha : ∀ k, k < l.length → opAt l k = 23 ∨ opAt l k = 24 → -1000 ≤ argAt l k ∧ argAt l k ≤ 1000) (hI : WInv l D0 G0 0) (hR : finV l D0 G0 = RES) :
    Calls Try.prog 30 #[.pointer (some ⟨b, 0, none⟩)] w (WalkPost w b gd N (.slice ao N cap) RES) := by
  have HN : Hid _ := hN
  have HR : Hid _ := hr
  have HA : Hid _ := ha
  have HJ0 : Hid (JInv l b gd N cap ao w RES 0 D0 G0 w) := ⟨h, hI, hR, Touch.refl _ _, Nat.zero_le _⟩
  clear h hN hr ha hI hR
  go_enter Try.func30, Try.ntmps30
  go_wp2
  refine wp_scope_jumps 0 (fun a' w' => ∃ (m : Nat) (D : List Int) (G : List Bool) (u2 u3 u5 u6 u7 u8 u9 u10 u11 u12 u13 u14 u15 u16 u17 u18 u19 u20 u21 u22 u23 u24 u25 u26 u27 u28 u29 u30 u31 u32 u33 u34 u35 u36 u37 u38 u39 : Value), a' = { tmps := #[.pointer (some ⟨b, 0, none⟩), undef, u2, u3, .int .i64 m, u5, u6, u7, u8, u9, u10, u11, u12, u13, u14, u15, u16, u17, u18, u19, u20, u21, u22, u23, u24, u25, u26, u27, u28, u29, u30, u31, u32, u33, u34, u35, u36, u37, u38, u39], defers := [] } ∧ JInv l b gd N cap ao w RES m D G w') (fun _ w' => unC w' gd) rfl ?_ ?_
  · go_wp2
    go_step3
    go_wp2_with fail
    obtain ⟨c0, hc0⟩ : ∃ c0, c0 = cntU D0 := ⟨_, rfl⟩
    go_loopw [5] (fun i wr => ∃ (a : Nat) (D : List Int) (G : List Bool), i = .int .i64 a ∧ JInv l b gd N cap ao w RES a D G wr ∧ cntU D ≤ c0) (fun i _ => N - (intOf i).toNat)
    case atStart => exact ⟨_, _, _, rfl, HJ0.out, by omega⟩
    case round =>
      obtain ⟨a, D, G, rfl, hJ, hcn⟩ := hrel
      have hW := hJ.ob
      have d0 : wr.cell? ⟨b, 0, none⟩ = some (.slice ao N cap) := by unfold World.cell?; rw [hW.st]; rfl
      have d1 : wr.cell? ⟨b, 1, none⟩ = some (.slice (some ⟨gd, 0, none⟩) N N) := by unfold World.cell?; rw [hW.st]; rfl
      have HJ : Hid _ := hJ
      by_cases hlt : a < N
      · have da := hW.at a hlt
        have haN : (a : Int) < N := by omega
        have ha0 : (0 : Int) ≤ a := by omega
        have haw : IntKind.i64.wrap ((a : Int) + 1) = (a : Int) + 1 := by rw [IntKind.wrap_i64]; omega
        by_cases hu : dAt D a = -1
        · rw [hu] at da
          clear hW hJ
          go_wp2
          go_roundw
          case rel =>
            exact ⟨a + 1, D, G, rfl, ⟨HJ.out.ob, HJ.out.inv.skip hu, HJ.out.fin, HJ.out.t, hlt⟩, hcn⟩
          case measure => simp [intOf]; omega
        · have hb : (dAt D a == -1) = false := by simpa using hu
          have hal : a < l.length := by rw [← HN.out]; exact hlt
          have hth : HidC _ _ _ _ _ := ⟨through_any hW HN.out hn (SRow.keepB HR.out hJ.t (fun hne q hq => by simpa using hgne hne q hq)) a hlt (fun g' off' e => hgne (fun q => by rw [q] at hal; simp at hal) g' (by rw [e]; rfl)) (HA.out a hal) (hJ.inv.rng a)⟩
          obtain ⟨hs1, hs2⟩ := hJ.inv.step hal hu
          have HS1 : Hid _ := hs1
          have HS2 : Hid _ := hs2
          have HEX : Hid ((sprV l D a).1 = 0 → Ext l.length (behV l D a) D l.length (sprV l D a).2.1 (sprV l D a).2.2) := fun q => (spr_settled hJ.inv.dl hu (by rw [← q])).1
          generalize hsp : sprV l D a = r at *
          obtain ⟨re, rD, rm⟩ := r
          generalize dAt D a = dd at *
          clear hW hJ hs1 hs2 hsp
          by_cases hre : re = 0
          · subst hre
            obtain ⟨G', hf', hI', hj'⟩ := HS2.out rfl
            have hex := HEX.out rfl
            try simp only at hf' hI' hj' hex
            have hlen : rD.length = D.length := hex.len
            have hold : ∀ j, dAt D j ≠ -1 → dAt rD j ≠ -1 := fun j hj => by rw [hex.old j hj]; exact hj
            have hle := cnt_le D rD hlen hold
            have HI : Hid _ := hI'
            have HF : Hid _ := hf'
            have HDL : Hid (D.length = l.length) := HJ.out.inv.dl
            clear HS1 HS2 HEX hI' hf'
            by_cases hm : rm < (a : Int)
            · obtain ⟨j, rfl, hjl, hj1, hj2⟩ := hj' hm
              have HLT : Hid (cntU rD < cntU D) := cnt_lt D rD hlen hold ⟨j, by rw [HDL.out]; exact hjl, hj1, hj2⟩
              have HI2 : Hid (WInv l rD G' j) := by have := HI.out; rw [if_pos hm] at this; show WInv l rD G' j; simpa using this
              clear HI hj' hex hold
              go_wp2_with fail
              refine hth.out.mono ?_
              rintro e w2 ⟨he, ⟨D', q1, q2, q3⟩, t2⟩
              simp only [if_true] at he
              subst he
              obtain rfl := q2 rfl
              have T2 : Hid _ := t2
              have Q3 : Hid _ := q3
              clear hth q3 t2 q1 q2
              go_wp2
              go_step3
              have HNJ : Hid (JInv l b gd N cap ao w RES j D' G' w2) := ⟨Q3.out, HI2.out, by rw [← HF.out]; exact HJ.out.fin, HJ.out.t.trans T2.out (by simp), by have := HN.out; omega⟩
              exact ⟨rfl, j, D', G', _, _, _, _, _, _, _, _, _, _, _, _, _, _, _, _, _, _, _, _, _, _, _, _, _, _, _, _, _, _, _, _, _, _, _, _, _, rfl, HNJ.out⟩
            · have HI2 : Hid (WInv l rD G' (a + 1)) := by have := HI.out; rw [if_neg hm] at this; exact this
              clear HI hj' hex hold
              go_wp2_with fail
              refine hth.out.mono ?_
              rintro e w2 ⟨he, ⟨D', q1, q2, q3⟩, t2⟩
              simp only [if_true] at he
              subst he
              obtain rfl := q2 rfl
              have T2 : Hid _ := t2
              have Q3 : Hid _ := q3
              clear hth q3 t2 q1 q2
              go_wp2
              go_roundw
              case rel =>
                exact ⟨a + 1, D', G', rfl, ⟨Q3.out, HI2.out, by rw [← HF.out]; exact HJ.out.fin, HJ.out.t.trans T2.out (by simp), hlt⟩, by omega⟩
              case measure => simp [intOf]; omega
          · have HRES : Hid (RES = (re, a, [])) := by show _ = _; rw [← HJ.out.fin]; exact HS1.out hre
            have hre' : (re == 0) = false := by simpa using hre
            clear HS1 HS2 HEX
            go_wp2_with fail
            refine hth.out.mono ?_
            rintro e w2 ⟨he, ⟨D', q1, q2, q3⟩, t2⟩
            simp only [hre, if_false] at he
            subst he
            have T2 : Hid _ := t2
            clear hth q3 t2 q1 q2
            go_wp2
            try rw [Exit.noGoto_ret]
            try simp only [Exit.jump]
            refine bodyPost_ret (v := .tuple #[.int .i64 a, .int .i64 re]) (by simp [results, Try.results30, go_sem]) rfl ?_
            rw [HRES.out]
            exact ⟨rfl, HJ.out.t.trans T2.out (by simp), fun q => absurd q hre⟩
      · obtain rfl : a = N := by have := hJ.le; omega
        have HRES : Hid (RES = (0, 0, D)) := by
          show _ = _
          rw [← hJ.fin]
          have := hJ.inv
          rw [HN.out] at this
          exact this.done
        clear hW hJ
        go_wp2
        try rw [Exit.noGoto_ret]
        try simp only [Exit.jump]
        refine bodyPost_ret (v := .tuple #[.int .i64 0, .int .i64 0]) (by simp [results, Try.results30, go_sem]) rfl ?_
        rw [HRES.out]
        exact ⟨rfl, HJ.out.t, fun _ => HJ.out.ob⟩
  · rintro a' w' ⟨m, D1, G1, u2, u3, u5, u6, u7, u8, u9, u10, u11, u12, u13, u14, u15, u16, u17, u18, u19, u20, u21, u22, u23, u24, u25, u26, u27, u28, u29, u30, u31, u32, u33, u34, u35, u36, u37, u38, u39, rfl, hJ1⟩
    have HJ1 : Hid _ := hJ1
    obtain ⟨c0, hc0⟩ : ∃ c0, c0 = cntU D1 := ⟨_, rfl⟩
    have HC0 : Hid (unC w' gd = c0) := by show _ = _; rw [hc0, hJ1.ob.cnt]
    clear hJ1 HJ0
    go_wp2_with fail
    go_loopw [5] (fun i wr => ∃ (a : Nat) (D : List Int) (G : List Bool), i = .int .i64 a ∧ JInv l b gd N cap ao w RES a D G wr ∧ cntU D ≤ c0) (fun i _ => N - (intOf i).toNat)
    case atStart => exact ⟨_, _, _, rfl, HJ1.out, by omega⟩
    case round =>
      obtain ⟨a, D, G, rfl, hJ, hcn⟩ := hrel
      have hW := hJ.ob
      have d0 : wr.cell? ⟨b, 0, none⟩ = some (.slice ao N cap) := by unfold World.cell?; rw [hW.st]; rfl
      have d1 : wr.cell? ⟨b, 1, none⟩ = some (.slice (some ⟨gd, 0, none⟩) N N) := by unfold World.cell?; rw [hW.st]; rfl
      have HJ : Hid _ := hJ
      by_cases hlt : a < N
      · have da := hW.at a hlt
        have haN : (a : Int) < N := by omega
        have ha0 : (0 : Int) ≤ a := by omega
        have haw : IntKind.i64.wrap ((a : Int) + 1) = (a : Int) + 1 := by rw [IntKind.wrap_i64]; omega
        by_cases hu : dAt D a = -1
        · rw [hu] at da
          clear hW hJ
          go_wp2
          go_roundw
          case rel =>
            exact ⟨a + 1, D, G, rfl, ⟨HJ.out.ob, HJ.out.inv.skip hu, HJ.out.fin, HJ.out.t, hlt⟩, hcn⟩
          case measure => simp [intOf]; omega
        · have hb : (dAt D a == -1) = false := by simpa using hu
          have hal : a < l.length := by rw [← HN.out]; exact hlt
          have hth : HidC _ _ _ _ _ := ⟨through_any hW HN.out hn (SRow.keepB HR.out hJ.t (fun hne q hq => by simpa using hgne hne q hq)) a hlt (fun g' off' e => hgne (fun q => by rw [q] at hal; simp at hal) g' (by rw [e]; rfl)) (HA.out a hal) (hJ.inv.rng a)⟩
          obtain ⟨hs1, hs2⟩ := hJ.inv.step hal hu
          have HS1 : Hid _ := hs1
          have HS2 : Hid _ := hs2
          have HEX : Hid ((sprV l D a).1 = 0 → Ext l.length (behV l D a) D l.length (sprV l D a).2.1 (sprV l D a).2.2) := fun q => (spr_settled hJ.inv.dl hu (by rw [← q])).1
          generalize hsp : sprV l D a = r at *
          obtain ⟨re, rD, rm⟩ := r
          generalize dAt D a = dd at *
          clear hW hJ hs1 hs2 hsp
          by_cases hre : re = 0
          · subst hre
            obtain ⟨G', hf', hI', hj'⟩ := HS2.out rfl
            have hex := HEX.out rfl
            try simp only at hf' hI' hj' hex
            have hlen : rD.length = D.length := hex.len
            have hold : ∀ j, dAt D j ≠ -1 → dAt rD j ≠ -1 := fun j hj => by rw [hex.old j hj]; exact hj
            have hle := cnt_le D rD hlen hold
            have HI : Hid _ := hI'
            have HF : Hid _ := hf'
            have HDL : Hid (D.length = l.length) := HJ.out.inv.dl
            clear HS1 HS2 HEX hI' hf'
            by_cases hm : rm < (a : Int)
            · obtain ⟨j, rfl, hjl, hj1, hj2⟩ := hj' hm
              have HLT : Hid (cntU rD < cntU D) := cnt_lt D rD hlen hold ⟨j, by rw [HDL.out]; exact hjl, hj1, hj2⟩
              have HI2 : Hid (WInv l rD G' j) := by have := HI.out; rw [if_pos hm] at this; show WInv l rD G' j; simpa using this
              clear HI hj' hex hold
              go_wp2_with fail
              refine hth.out.mono ?_
              rintro e w2 ⟨he, ⟨D', q1, q2, q3⟩, t2⟩
              simp only [if_true] at he
              subst he
              obtain rfl := q2 rfl
              have T2 : Hid _ := t2
              have Q3 : Hid _ := q3
              clear hth q3 t2 q1 q2
              go_wp2
              go_step3
              have HNJ : Hid (JInv l b gd N cap ao w RES j D' G' w2) := ⟨Q3.out, HI2.out, by rw [← HF.out]; exact HJ.out.fin, HJ.out.t.trans T2.out (by simp), by have := HN.out; omega⟩
              exact ⟨rfl, ⟨j, D', G', _, _, _, _, _, _, _, _, _, _, _, _, _, _, _, _, _, _, _, _, _, _, _, _, _, _, _, _, _, _, _, _, _, _, _, _, _, rfl, HNJ.out⟩, by show unC w2 gd < unC w' gd; rw [HC0.out, Q3.out.cnt]; have := HLT.out; omega⟩
            · have HI2 : Hid (WInv l rD G' (a + 1)) := by have := HI.out; rw [if_neg hm] at this; exact this
              clear HI hj' hex hold
              go_wp2_with fail
              refine hth.out.mono ?_
              rintro e w2 ⟨he, ⟨D', q1, q2, q3⟩, t2⟩
              simp only [if_true] at he
              subst he
              obtain rfl := q2 rfl
              have T2 : Hid _ := t2
              have Q3 : Hid _ := q3
              clear hth q3 t2 q1 q2
              go_wp2
              go_roundw
              case rel =>
                exact ⟨a + 1, D', G', rfl, ⟨Q3.out, HI2.out, by rw [← HF.out]; exact HJ.out.fin, HJ.out.t.trans T2.out (by simp), hlt⟩, by omega⟩
              case measure => simp [intOf]; omega
          · have HRES : Hid (RES = (re, a, [])) := by show _ = _; rw [← HJ.out.fin]; exact HS1.out hre
            have hre' : (re == 0) = false := by simpa using hre
            clear HS1 HS2 HEX
            go_wp2_with fail
            refine hth.out.mono ?_
            rintro e w2 ⟨he, ⟨D', q1, q2, q3⟩, t2⟩
            simp only [hre, if_false] at he
            subst he
            have T2 : Hid _ := t2
            clear hth q3 t2 q1 q2
            go_wp2
            try rw [Exit.noGoto_ret]
            try simp only [Exit.jump]
            refine bodyPost_ret (v := .tuple #[.int .i64 a, .int .i64 re]) (by simp [results, Try.results30, go_sem]) rfl ?_
            rw [HRES.out]
            exact ⟨rfl, HJ.out.t.trans T2.out (by simp), fun q => absurd q hre⟩
      · obtain rfl : a = N := by have := hJ.le; omega
        have HRES : Hid (RES = (0, 0, D)) := by
          show _ = _
          rw [← hJ.fin]
          have := hJ.inv
          rw [HN.out] at this
          exact this.done
        clear hW hJ
        go_wp2
        try rw [Exit.noGoto_ret]
        try simp only [Exit.jump]
        refine bodyPost_ret (v := .tuple #[.int .i64 0, .int .i64 0]) (by simp [results, Try.results30, go_sem]) rfl ?_
        rw [HRES.out]
        exact ⟨rfl, HJ.out.t, fun _ => HJ.out.ob⟩

end Go.Proofs.Ytonjbldnhbbdjaa

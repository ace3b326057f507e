/-
  package trace: meets BY ITS CONTRACT.
-/
import Derived.Test.YtmiaibpdeofokaaGreatDoorTrNote
import Derived.Maps.RangeWalk
namespace Go.Proofs.YtmiaibpdeofokaaGreatDoor
set_option linter.unusedVariables false
set_option linter.unusedSimpArgs false
open Go.RowKit Go.Maps
attribute [local go_sem] Oper.semAt_some

/-- Both touched one, and one of them wrote it. -/
def Meets (G1 G2 : Int → Option Int) : Prop := ∃ x k1 k2, W64 x ∧ G1 x = some k1 ∧ G2 x = some k2 ∧ max k1 k2 = 3
def MeetP (w : World) (G1 G2 : Int → Option Int) (e : Ending) (w' : World) : Prop := ∃ r : Bool, e = .returned (.bool r) ∧ (r = true ↔ Meets G1 G2) ∧ Touch w w' []
theorem held_of {F : Int → Option Value} {D : DataW Value} {x : Int} {v : Value} (h1 : ∀ z, D.atKey (.int .i64 x) z = ((F x).map DataW.held).getD z) (h2 : ∀ z, D.atKey (.int .i64 x) z = DataW.held v) : F x = some v := by
  cases hq : F x with
  | none =>
    have a := h1 .nil
    have b := h2 .nil
    rw [hq] at a
    rw [a] at b
    simp at b
  | some u =>
    have a := h1 .nil
    have b := h2 .nil
    rw [hq] at a
    rw [a] at b
    simp at b
    rw [b]
theorem lift_some {G : Int → Option Int} {x : Int} {v : Value} (h : liftK G x = some v) : ∃ k, v = .int .u8 k ∧ G x = some k := by
  unfold liftK at h
  cases hq : G x with
  | none => rw [hq] at h; cases h
  | some k => rw [hq] at h; simp at h; exact ⟨k, h.symm, rfl⟩

set_option maxRecDepth 100000 in
set_option maxHeartbeats 4000000 in
theorem meets_any {w : World} {m1 m2 n1 n2 : Nat} {G1 G2 : Int → Option Int} (h1 : MapF w m1 n1 (liftK G1)) (h2 : MapF w m2 n2 (liftK G2)) (a b c a' b' c' : Int) :
    Calls Tryz.prog 36 #[.agg #[.int .i64 a, .int .i64 b, .int .i64 c, .map (some m1)], .agg #[.int .i64 a', .int .i64 b', .int .i64 c', .map (some m2)]] w (MeetP w G1 G2) := by
  have TQ : Touch w ((w.alloc (.cells #[.int .i64 a, .int .i64 b, .int .i64 c, .map (some m1)] 74)).alloc (.cells #[.int .i64 a', .int .i64 b', .int .i64 c', .map (some m2)] 74)) [] := ((Touch.refl w []).alloc _).alloc _
  have hm1 := h1.touch TQ (by simp)
  have hm2 := h2.touch TQ (by simp)
  have hl1 := h1.lt
  have hl2 := h2.lt
  have c3 : ((w.alloc (.cells #[.int .i64 a, .int .i64 b, .int .i64 c, .map (some m1)] 74)).alloc (.cells #[.int .i64 a', .int .i64 b', .int .i64 c', .map (some m2)] 74)).cell? ⟨w.heap.size, 3, none⟩ = some (.map (some m1)) := by simp [go_sem]
  have e3 : ((w.alloc (.cells #[.int .i64 a, .int .i64 b, .int .i64 c, .map (some m1)] 74)).alloc (.cells #[.int .i64 a', .int .i64 b', .int .i64 c', .map (some m2)] 74)).cell? ⟨w.heap.size + 1, 3, none⟩ = some (.map (some m2)) := by simp [go_sem]
  have hQs : ((w.alloc (.cells #[.int .i64 a, .int .i64 b, .int .i64 c, .map (some m1)] 74)).alloc (.cells #[.int .i64 a', .int .i64 b', .int .i64 c', .map (some m2)] 74)).heap.size = w.heap.size + 2 := by simp
  obtain ⟨D, hD, hmD, hF⟩ := hm1
  have HF : Hid (∀ x, W64 x → has D (.int .i64 x) = (liftK G1 x).isSome ∧ ∀ z, D.atKey (.int .i64 x) z = ((liftK G1 x).map DataW.held).getD z) := hF
  have HM2 : Hid (MapF ((w.alloc (.cells #[.int .i64 a, .int .i64 b, .int .i64 c, .map (some m1)] 74)).alloc (.cells #[.int .i64 a', .int .i64 b', .int .i64 c', .map (some m2)] 74)) m2 n2 (liftK G2)) := hm2
  have HTQ : Hid _ := TQ
  have HE3 : Hid _ := e3
  have HQS : Hid _ := hQs
  clear h1 h2 TQ hm2 hF hmD e3 hQs
  go_enter Tryz.func36, Tryz.ntmps36
  go_wp2_with (first
    | (at_range; refine wpList_range_own _ rfl _ 72 rfl 3 46 keyedI Tryz.underlying72 rawR m1 n1 D rfl hD ?_; intro w0 hrg0 hg0 hs0)
    | go_in)
  go_frame
  generalize hRR : ((w.alloc (.cells #[.int .i64 a, .int .i64 b, .int .i64 c, .map (some m1)] 74)).alloc (.cells #[.int .i64 a', .int .i64 b', .int .i64 c', .map (some m2)] 74)).heap.size = rr at *
  have HRR : Hid (rr = w.heap.size + 2) := HQS.out
  generalize ((w.alloc (.cells #[.int .i64 a, .int .i64 b, .int .i64 c, .map (some m1)] 74)).alloc (.cells #[.int .i64 a', .int .i64 b', .int .i64 c', .map (some m2)] 74)) = Q at *
  have T0 : Touch Q w0 [] := (Touch.refl Q []).grown hg0 (by simp)
  have HM0 : Hid (MapF w0 m2 n2 (liftK G2)) := HM2.out.touch T0 (by simp)
  have HE0 : Hid (w0.cell? ⟨w.heap.size + 1, 3, none⟩ = some (.map (some m2))) := (T0.cell (by have := HQS.out; show w.heap.size + 1 < _; omega) (by simp)).trans HE3.out
  have HT0 : Hid (Touch w w0 []) := HTQ.out.trans T0 (by simp)
  clear hg0 T0 HTQ HE3 HM2 c3 hRR
  go_loopw [] (fun wr => ∃ (left : Lit → Bool) (cnt : Nat), wr.ranges Tryz.prog 3 rawR m1 rr n1 D left cnt ∧ (∀ x, W64 x → (G1 x).isSome = true → left (.int .i64 x) = false → ¬ ∃ k1 k2, G1 x = some k1 ∧ G2 x = some k2 ∧ max k1 k2 = 3) ∧ MapF wr m2 n2 (liftK G2) ∧ wr.cell? ⟨w.heap.size + 1, 3, none⟩ = some (.map (some m2)) ∧ wr.heap.size = w0.heap.size ∧ Touch w wr []) (fun wr => wr.rangeLeft m1 rr)
  case atStart => exact ⟨_, _, hrg0, fun x hx hs hl => (by rw [(HF.out x hx).1] at hl; unfold liftK at hl; rw [Option.isSome_map, hs] at hl; cases hl), HM0.out, HE0.out, rfl, HT0.out⟩
  case round =>
    obtain ⟨left, cnt, hrg, hno, hm2, he3, hsz, hT⟩ := hrel
    have HNO : Hid _ := hno
    have HM2 : Hid (MapF wr m2 n2 (liftK G2)) := hm2
    have HT : Hid _ := hT
    have HE3 : Hid _ := he3
    have HSZ : Hid _ := hsz
    clear hno hm2 hT he3 hsz HM0 HE0 HT0
    go_wp2_with (first
      | (at_next; refine wpList_next_ranges _ rfl _ rfl 3 keyedI rawR (Value.int .i64) (fun v : Value => v) (fun key kl hk => by obtain ⟨x, e, _⟩ := Maps.keyOf_int_inv Tryz.underlying3 hk; exact ⟨x, e⟩) (fun v y _ => ⟨v, rfl⟩) m1 rr n1 D left cnt rfl hrg ?_ ?_)
      | go_in)
    · intro hc0 hl0
      have HFI : Hid (¬ Meets G1 G2) := fun ⟨x, k1, k2, hx, g1, g2, h3⟩ => HNO.out x hx (by rw [g1]; rfl) (hl0 _) ⟨k1, k2, g1, g2, h3⟩
      clear hrg hl0 hc0
      go_wp2
      go_ret
      exact ⟨false, rfl, ⟨fun h => (by cases h), fun h => absurd h HFI.out⟩, HT.out⟩
    · intro x v kl y1 y2 w1 cnt1 hkey hlk hv hat hrg1 hlt hg1 hs1 hen
      obtain ⟨x', ex, ekl, hwx⟩ := Maps.keyOf_int_inv Tryz.underlying3 hkey
      cases ex
      subst ekl
      have hx : W64 x := by simp [Lit.wf, IntKind.min, IntKind.max, IntKind.signed, IntKind.bits] at hwx; exact ⟨by omega, by omega⟩
      have hy : y1 = DataW.held v := by unfold rawR at hv; simp at hv; exact hv.1.symm
      obtain ⟨k1, rfl, hG1⟩ := lift_some (held_of (HF.out x hx).2 (fun z => (hat z).trans hy))
      have hrr := HRR.out
      have T1 : Touch wr w1 [rr] := (Touch.refl wr [rr]).grown hg1 (by intro q hq; cases hq; exact .inl (by simp))
      have hm2' := HM2.out.touch T1 (by simp; omega)
      have hlk2 := hm2'.lookOk Tryz.underlying72 (z := .int .u8 0) (by kernel_rfl) hx
      have hcell : w1.cell? ⟨w.heap.size + 1, 3, none⟩ = some (.map (some m2)) := (T1.cell (by show w.heap.size + 1 < _; have := HM2.out.lt; have := hrg.lt; omega) (by simp; omega)).trans HE3.out
      have HRG : Hid (w1.ranges Tryz.prog 3 rawR m1 rr n1 D (fun z => left z && !z.sameKey (.int .i64 x)) cnt1) := hrg1
      have HLE : Hid _ := hrg.left_eq
      have HT1 : Hid (Touch w w1 []) := HT.out.trans T1 (fun z hz => .inr (by simp at hz; omega))
      have HM1 : Hid (MapF w1 m2 n2 (liftK G2)) := hm2'
      have HE1 : Hid _ := hcell
      have HS1 : Hid (w1.heap.size = w0.heap.size) := hs1.trans HSZ.out
      have HNX : Hid ((∀ k2, G2 x = some k2 → max k1 k2 ≠ 3) → ∀ z, W64 z → (G1 z).isSome = true → (left (.int .i64 z) && !(Lit.int .i64 z).sameKey (.int .i64 x)) = false → ¬ ∃ k1 k2, G1 z = some k1 ∧ G2 z = some k2 ∧ max k1 k2 = 3) := fun hk z hz hs hl => by
        by_cases e : z = x
        · subst e
          rintro ⟨j1, j2, g1, g2, h3⟩
          rw [hG1] at g1
          cases g1
          exact hk j2 g2 h3
        · refine HNO.out z hz hs ?_
          have hne : (Lit.int .i64 z).sameKey (.int .i64 x) = false := by simp [Lit.sameKey, e]
          rw [hne] at hl
          simpa using hl
      clear hrg hrg1 hg1 hs1 hm2' T1 hkey hlk hv hat hy hwx HNO HM2 HE3 HSZ HT hrr
      cases hq : G2 x with
      | none =>
        have e1 : liftK G2 x = none := by unfold liftK; rw [hq]; rfl
        rw [e1] at hlk2
        simp only [Option.getD_none, Option.isSome_none] at hlk2
        have HN2 : Hid _ := HNX.out (fun k2 h => by rw [hq] at h; cases h)
        clear hq e1 HNX
        go_wp2
        go_roundw
        case rel => exact ⟨_, cnt1, HRG.out, HN2.out, HM1.out, HE1.out, HS1.out, HT1.out⟩
        case measure => rw [World.ranges.left_eq HRG.out, HLE.out]; exact hlt
      | some k2 =>
        have e1 : liftK G2 x = some (.int .u8 k2) := by unfold liftK; rw [hq]; rfl
        rw [e1] at hlk2
        simp only [Option.getD_some, Option.isSome_some] at hlk2
        by_cases h3 : max k1 k2 = 3
        · have HME : Hid (Meets G1 G2) := ⟨x, k1, k2, hx, hG1, hq, h3⟩
          have hmx : (if k1 < k2 then k2 else k1) = 3 := by split <;> omega
          have hmx2 : ((if k1 < k2 then k2 else k1) == 3) = true := by rw [hmx]; rfl
          clear hq e1 HNX hmx
          by_cases hc : k1 < k2
          · rw [if_pos hc] at hmx2
            clear h3
            go_wp2
            go_ret
            exact ⟨true, rfl, ⟨fun _ => HME.out, fun _ => rfl⟩, HT1.out⟩
          · rw [if_neg hc] at hmx2
            clear h3
            go_wp2
            go_ret
            exact ⟨true, rfl, ⟨fun _ => HME.out, fun _ => rfl⟩, HT1.out⟩
        · have HN2 : Hid _ := HNX.out (fun k h => by rw [hq] at h; cases h; exact h3)
          have hmx2 : ((if k1 < k2 then k2 else k1) == 3) = false := by
            have : (if k1 < k2 then k2 else k1) ≠ 3 := by split <;> omega
            simpa using this
          clear hq e1 HNX
          by_cases hc : k1 < k2
          · rw [if_pos hc] at hmx2
            clear h3
            go_wp2
            go_roundw
            case rel => exact ⟨_, cnt1, HRG.out, HN2.out, HM1.out, HE1.out, HS1.out, HT1.out⟩
            case measure => rw [World.ranges.left_eq HRG.out, HLE.out]; exact hlt
          · rw [if_neg hc] at hmx2
            clear h3
            go_wp2
            go_roundw
            case rel => exact ⟨_, cnt1, HRG.out, HN2.out, HM1.out, HE1.out, HS1.out, HT1.out⟩
            case measure => rw [World.ranges.left_eq HRG.out, HLE.out]; exact hlt

end Go.Proofs.YtmiaibpdeofokaaGreatDoor

/-
  package spec: toEnd BY ITS CONTRACT.
-/
import Derived.Test.YtlndbligbpfdpaaSpWf
namespace Go.Proofs.Ytlndbligbpfdpaa
set_option linter.unusedVariables false
set_option linter.unusedSimpArgs false
open Go.RowKit
attribute [local go_sem] Oper.semAt_some

/-- A block from behind its Atomic on. -/
def runB (l : List InsD) : Nat → BX → Int × BX
  | 0, X => match hereP l X.D.pc with
    | none => (3, X)
    | some _ => (11, X)
  | n + 1, X => match hereP l X.D.pc with
    | none => (3, X)
    | some i => if (doB l { X with D := { X.D with fuel := X.D.fuel - 1 } } i).1 = 0 then (if i.op = 22 then doB l { X with D := { X.D with fuel := X.D.fuel - 1 } } i else runB l n (doB l { X with D := { X.D with fuel := X.D.fuel - 1 } } i).2) else doB l { X with D := { X.D with fuel := X.D.fuel - 1 } } i
theorem run_some {l : List InsD} {n : Nat} {X : BX} {i : InsD} (hh : hereP l X.D.pc = some i) : runB l (n + 1) X = if (doB l { X with D := { X.D with fuel := X.D.fuel - 1 } } i).1 = 0 then (if i.op = 22 then doB l { X with D := { X.D with fuel := X.D.fuel - 1 } } i else runB l n (doB l { X with D := { X.D with fuel := X.D.fuel - 1 } } i).2) else doB l { X with D := { X.D with fuel := X.D.fuel - 1 } } i := by
  simp only [runB, hh]
def endB (l : List InsD) (X : BX) : Int × BX := if opAtW l X.D.pc = 21 then runB l X.D.fuel.toNat { X with D := { X.D with pc := X.D.pc + 1 } } else (3, X)

/-- How toEnd ends. -/
def TEndP (w0 : World) (S0 : List Nat) (b : Nat) (vp : Value) (r : Int × BX) (e : Ending) (w' : World) : Prop :=
  (r.1 = 0 ∧ e = .returned (.int .u8 1) ∧ BAt w0 S0 w' b vp r.2) ∨ (r.1 = -1 ∧ e = .panicked [{ v := .iface 80 (.agg #[]), recovered := false }] ∧ Touch w0 w' S0) ∨ (0 < r.1 ∧ e = .panicked [{ v := .iface 78 (.agg #[.int .i64 r.1]), recovered := false }] ∧ Touch w0 w' S0)

/-- here, whatever is there. -/
theorem here_none {w : World} {b : Nat} {T : TypeId} {tl : List Value} {vs vo : Value} {ao : Option Addr} {cap : Nat} {D : WD} {l : List InsD} (h : WObj w b T tl vs vo (.slice ao l.length cap) D) (hl : InsRow w (.slice ao l.length cap) l) (hh : hereP l D.pc = none) :
    Calls Try.prog 40 #[.pointer (some ⟨b, 0, none⟩)] w (StuckP 3 w) := by
  cases hp : placeP D.pc l.length with
  | false => exact here_far h hp
  | true =>
    have hp2 := hp
    unfold placeP at hp2
    simp only [Bool.and_eq_true, decide_eq_true_eq] at hp2
    have hk : D.pc.toNat < l.length := by omega
    have hg : l.getD D.pc.toNat ⟨0, 0, 0⟩ = l[D.pc.toNat] := by rw [List.getD_eq_getElem?_getD, List.getElem?_eq_getElem hk]; rfl
    unfold hereP at hh
    rw [if_pos hp, hg] at hh
    refine here_wrong h hl D.pc.toNat hk (by omega) ?_
    cases hr : rightI l[D.pc.toNat] with
    | false => rfl
    | true => rw [if_pos hr] at hh; cases hh
theorem here_some {w : World} {b : Nat} {T : TypeId} {tl : List Value} {vs vo : Value} {ao : Option Addr} {cap : Nat} {D : WD} {l : List InsD} {i : InsD} (h : WObj w b T tl vs vo (.slice ao l.length cap) D) (hl : InsRow w (.slice ao l.length cap) l) (hh : hereP l D.pc = some i) :
    Calls Try.prog 40 #[.pointer (some ⟨b, 0, none⟩)] w (fun e w' => e = .returned i.v ∧ Touch w w' []) ∧ (0 ≤ D.pc ∧ D.pc < l.length) ∧ rightI i = true ∧ i ∈ l := by
  cases hp : placeP D.pc l.length with
  | false => unfold hereP at hh; rw [if_neg (by rw [hp]; simp)] at hh; cases hh
  | true =>
    have hp2 := hp
    unfold placeP at hp2
    simp only [Bool.and_eq_true, decide_eq_true_eq] at hp2
    have hk : D.pc.toNat < l.length := by omega
    have hg : l.getD D.pc.toNat ⟨0, 0, 0⟩ = l[D.pc.toNat] := by rw [List.getD_eq_getElem?_getD, List.getElem?_eq_getElem hk]; rfl
    unfold hereP at hh
    rw [if_pos hp, hg] at hh
    cases hr : rightI l[D.pc.toNat] with
    | false => rw [if_neg (by rw [hr]; simp)] at hh; cases hh
    | true =>
      rw [if_pos hr] at hh
      simp only [Option.some.injEq] at hh
      subst hh
      exact ⟨here_ok h hl D.pc.toNat hk (by omega) hr, hp2, hr, List.getElem_mem hk⟩
theorem right_arg {i : InsD} (h : rightI i = true) : 0 ≤ i.arg ∧ i.arg ≤ 255 := by
  unfold rightI at h
  simp only [Bool.and_eq_true, decide_eq_true_eq] at h
  have h1 := h.1.2
  have h0 := h.1.1.2
  have : highP i.op ≤ 63 := by unfold highP; split; decide; split; decide; decide
  omega

theorem BW.mono {X : BX} {k m : Nat} (h : BW X k) (hm : k ≤ m) : BW X m := ⟨h.s, h.m, Nat.le_trans h.ms hm, Nat.le_trans h.arms hm⟩
/-- The fuel as it lies. -/
def fuelAt (b : Nat) (w : World) : Nat := match w.cell? ⟨b, 8, none⟩ with
  | some (.int _ f) => f.toNat
  | _ => 0
theorem BAt.fuel {w0 w : World} {S0 : List Nat} {b : Nat} {vp : Value} {X : BX} (h : BAt w0 S0 w b vp X) : fuelAt b w = X.D.fuel.toNat := by
  obtain ⟨L, vs, vo, vh, vl, va, hL, k, t0⟩ := h
  unfold fuelAt
  rw [k.o.cells.c8]

theorem doB_fuel (l : List InsD) (X : BX) (i : InsD) : (doB l X i).2.D.fuel = X.D.fuel := by
  unfold doB
  split
  · rfl
  split
  · unfold reachB
    split
    · rfl
    split
    · rfl
    split
    · rfl
    · rfl
  split
  · split
    · rfl
    · unfold brB
      split
      · rfl
      split
      · split <;> rfl
      split
      · rfl
      split
      · split <;> rfl
      · rfl
  · show (stepW l X.D).2.fuel = _
    unfold stepW
    split
    · rfl
    split
    · rfl
    split
    · rfl
    split
    · rfl
    unfold doW
    split
    · split <;> rfl
    split
    · unfold WD.setL; split; rfl; split; rfl; split <;> rfl
    split
    · split <;> rfl
    split
    · split
      · rfl
      · split <;> rfl
    · rfl

set_option maxRecDepth 100000 in
set_option maxHeartbeats 2000000 in
theorem toEnd_any {w0 w : World} {S0 : List Nat} {b : Nat} {ap : Option Addr} {cp : Nat} {l : List InsD} {X : BX} (hk : BAt w0 S0 w b (.slice ap l.length cp) X) (hl : ∀ W, Touch w0 W S0 → InsRow W (.slice ap l.length cp) l) (hll : l.length ≤ 1000) (hlw : ∀ i ∈ l, i.Wf) (hX : BW X 0) (hf : X.D.fuel ≤ 300) :
    Calls Try.prog 33 #[.pointer (some ⟨b, 0, none⟩)] w (TEndP w0 S0 b (.slice ap l.length cp) (endB l X)) := by
  obtain ⟨L, vs, vo, vh, vl, va, hL, k, t0⟩ := hk
  have HSA : HidC _ _ _ _ _ := ⟨standsAt_any k.o (hl _ t0) 21 (by decide)⟩
  have HLL : Hid _ := hl
  cases hop : (opAtW l X.D.pc == 21) with
  | false =>
    have hE : endB l X = (3, X) := by unfold endB; rw [if_neg (by simpa using hop)]
    rw [hE]
    rw [hop] at HSA
    have HT0 : Hid _ := t0
    clear k t0 hL hX hl hlw
    go_enter Try.func33, Try.ntmps33
    go_wp2_with fail
    refine HSA.out.mono ?_
    rintro e w1 ⟨rfl, q, rfl⟩
    go_wp2_with fail
    refine (sneed_no 3 _).mono ?_
    rintro e w2 ⟨rfl, t2⟩
    exact ⟨rfl, .inr (.inr ⟨by show (0 : Int) < 3; decide, rfl, (HT0.out.drewN q).trans t2 (by simp)⟩)⟩
  | true =>
    have hpc0 : -9223372036854775808 ≤ X.D.pc ∧ X.D.pc < 9223372036854775807 := by
      have h21 : opAtW l X.D.pc = 21 := by simpa using hop
      unfold opAtW at h21
      split at h21
      · rename_i hpl
        simp only [placeP, Bool.and_eq_true, decide_eq_true_eq] at hpl
        omega
      · omega
    have hE : endB l X = runB l X.D.fuel.toNat { X with D := { X.D with pc := X.D.pc + 1 } } := by unfold endB; rw [if_pos (by simpa using hop)]
    rw [hE]
    rw [hop] at HSA
    have HRUN : Hid (runB l X.D.fuel.toNat { X with D := { X.D with pc := X.D.pc + 1 } } = runB l X.D.fuel.toNat { X with D := { X.D with pc := X.D.pc + 1 } }) := rfl
    have HSTART : Hid (∀ q, BAt w0 S0 ((w.drewN q).setCell ⟨b, 0, none⟩ (.int .i64 (X.D.pc + 1))) b (.slice ap l.length cp) { X with D := { X.D with pc := X.D.pc + 1 } }) := fun q => by
      have kq := k.touch ((Touch.refl w []).drewN q)
      exact ⟨L, vs, vo, vh, vl, va, hL, kq.pc _, (t0.drewN q).setCell (by exact k.ge 0 b (by simp [comp])) _⟩
    have HC0 : Hid (∀ q, (w.drewN q).cell? ⟨b, 0, none⟩ = some (.int .i64 X.D.pc) ∧ (w.drewN q).frozen? ⟨b, 0, none⟩ = false) := fun q => by
      have kq := k.touch ((Touch.refl w []).drewN q)
      exact ⟨kq.o.cells.c0, kq.o.fr 0⟩
    have HBW : Hid (BW { X with D := { X.D with pc := X.D.pc + 1 } } 0) := ⟨hX.s.pc _, hX.m, hX.ms, hX.arms⟩
    have HLW : Hid _ := hlw
    have hwr : IntKind.i64.wrap (X.D.pc + 1) = X.D.pc + 1 := by rw [IntKind.wrap_i64]; omega
    generalize hR : runB l X.D.fuel.toNat { X with D := { X.D with pc := X.D.pc + 1 } } = R at *
    have HR : Hid _ := hR
    have HFU : Hid _ := hf
    clear k t0 hL hX hl hlw hop hE HRUN hR hf
    go_enter Try.func33, Try.ntmps33
    go_wp2_with fail
    refine HSA.out.mono ?_
    rintro e w1 ⟨rfl, q, rfl⟩
    obtain ⟨c0, f0⟩ := HC0.out q
    have hst := HSTART.out q
    have HST : Hid _ := hst
    clear HSA HC0 HSTART hst
    go_wp2_with fail
    refine (sneed_ok 3 _).mono ?_
    rintro e _ ⟨rfl, rfl⟩
    go_wp2_with fail
    generalize (w.drewN q).setCell ⟨b, 0, none⟩ (.int .i64 (X.D.pc + 1)) = W0 at *
    clear c0 f0
    go_loopw [] (fun wr => ∃ X' n, BAt w0 S0 wr b (.slice ap l.length cp) X' ∧ BW X' (300 - n) ∧ n = X'.D.fuel.toNat ∧ X'.D.fuel ≤ 300 ∧ runB l n X' = R) (fun wr => fuelAt b wr)
    case atStart => exact ⟨{ X with D := { X.D with pc := X.D.pc + 1 } }, X.D.fuel.toNat, HST.out, HBW.out.mono (Nat.zero_le _), rfl, HFU.out, HR.out⟩
    case round =>
      obtain ⟨X', n, hb, hw, hn, hfu, hrun⟩ := hrel
      have HB : Hid _ := hb
      obtain ⟨L', vs', vo', vh', vl', va', hL', k', t'⟩ := hb
      have hrow := HLL.out _ t'
      cases hh : hereP l X'.D.pc with
      | none =>
        have hR3 : R = (3, X') := by rw [← hrun]; cases n with
          | zero => unfold runB; rw [hh]
          | succ n => unfold runB; rw [hh]
        have HH : HidC _ _ _ _ _ := ⟨here_none k'.o hrow hh⟩
        have HR3 : Hid _ := hR3
        have HT' : Hid _ := t'
        clear hR3 k' hrow hw hn hfu hrun hL' t' hh
        go_wp2_with fail
        refine HH.out.mono ?_
        rintro e w1 ⟨rfl, t1⟩
        exact ⟨rfl, by rw [HR3.out]; exact .inr (.inr ⟨by show (0 : Int) < 3; decide, rfl, HT'.out.trans t1 (by simp)⟩)⟩
      | some i =>
        obtain ⟨hcall, hpc, hri, hmem⟩ := here_some k'.o hrow hh
        have HH : HidC _ _ _ _ _ := ⟨hcall⟩
        have hiw := HLW.out i hmem
        have harg := right_arg hri
        obtain ⟨io, ia, iv⟩ := i
        have HK' : Hid _ := k'
        have HT' : Hid _ := t'
        cases n with
        | zero =>
          have hR3 : R = (11, X') := by rw [← hrun]; unfold runB; rw [hh]
          have HR3 : Hid _ := hR3
          have HBN : Hid (∀ W, Touch wr W [] → HidC Try.prog 61 #[.pointer (some ⟨b, 0, none⟩)] W (StuckP 11 W)) := fun W t => ⟨burn_no (HK'.out.o.touch t (by simp)) (by omega)⟩
          clear hR3 k' hrow hw hn hfu hrun hL' t' hh hcall hpc hri hmem hiw harg
          go_wp2_with fail
          refine HH.out.mono ?_
          rintro e w1 ⟨rfl, t1⟩
          have HT1 : Hid _ := t1.alloc (.cells #[.int .u8 io, .int .i64 ia, .int .u64 iv] 48)
          clear t1
          go_wp2_with fail
          refine (HBN.out _ HT1.out).out.mono ?_
          rintro e w2 ⟨rfl, t2⟩
          exact ⟨rfl, by rw [HR3.out]; exact .inr (.inr ⟨by show (0 : Int) < 11; decide, rfl, (HT'.out.trans HT1.out (by simp)).trans t2 (by simp)⟩)⟩
        | succ n =>
          have hfpos : 0 < X'.D.fuel := by omega
          have hR4 : R = if (doB l { X' with D := { X'.D with fuel := X'.D.fuel - 1 } } ⟨io, ia, iv⟩).1 = 0 then (if io = 22 then doB l { X' with D := { X'.D with fuel := X'.D.fuel - 1 } } ⟨io, ia, iv⟩ else runB l n (doB l { X' with D := { X'.D with fuel := X'.D.fuel - 1 } } ⟨io, ia, iv⟩).2) else doB l { X' with D := { X'.D with fuel := X'.D.fuel - 1 } } ⟨io, ia, iv⟩ := by rw [← hrun]; exact run_some hh
          have HR4 : Hid _ := hR4
          have hbw : BW { X' with D := { X'.D with fuel := X'.D.fuel - 1 } } (300 - (n + 1)) := ⟨hw.s.fuel _, hw.m, hw.ms, hw.arms⟩
          have HBN : Hid (∀ W, Touch wr W [] → HidC Try.prog 61 #[.pointer (some ⟨b, 0, none⟩)] W (fun e w' => e = .returned (.tuple #[]) ∧ WObj w' b 75 [vh', vl', va'] vs' vo' (.slice ap l.length cp) { X'.D with fuel := X'.D.fuel - 1 } ∧ Touch W w' [b])) := fun W t => ⟨burn_ok (HK'.out.o.touch t (by simp)) hfpos hfu⟩
          have HDO : Hid (∀ W p, BAtP w0 S0 W b (.slice ap l.length cp) { X' with D := { X'.D with fuel := X'.D.fuel - 1 } } p → HidC Try.prog 62 #[.pointer (some ⟨b, 0, none⟩), .agg #[.int .u8 io, .int .i64 ia, .int .u64 iv]] W (BPostP W p w0 S0 b (.slice ap l.length cp) (doB l { X' with D := { X'.D with fuel := X'.D.fuel - 1 } } ⟨io, ia, iv⟩))) := fun W p hp => ⟨do_any hp HLL.out hll (hbw.wf (by omega)) io ia iv (fun _ => harg) (by show 0 ≤ X'.D.pc ∧ X'.D.pc < 9223372036854775807; omega)⟩
          have HKEEP : Hid ((doB l { X' with D := { X'.D with fuel := X'.D.fuel - 1 } } ⟨io, ia, iv⟩).1 = 0 → BW (doB l { X' with D := { X'.D with fuel := X'.D.fuel - 1 } } ⟨io, ia, iv⟩).2 (300 - n)) := fun h0 => by
            have := do_keep hbw HLW.out (i := ⟨io, ia, iv⟩) (fun _ => by show 0 ≤ ia ∧ ia ≤ 1000; have h : 0 ≤ ia ∧ ia ≤ 255 := harg; omega) h0
            exact this.mono (by omega)
          have HFUEL : Hid ((doB l { X' with D := { X'.D with fuel := X'.D.fuel - 1 } } ⟨io, ia, iv⟩).2.D.fuel = X'.D.fuel - 1) := doB_fuel _ _ _
          have HNF : Hid (n = (X'.D.fuel - 1).toNat ∧ X'.D.fuel - 1 ≤ 300) := ⟨by omega, by omega⟩
          have HLM : Hid _ := hL'
          have HFW : Hid (fuelAt b wr = n + 1) := by show _ = _; rw [(show BAt w0 S0 wr b (.slice ap l.length cp) X' from HB.out).fuel]; exact hn.symm
          generalize doB l { X' with D := { X'.D with fuel := X'.D.fuel - 1 } } ⟨io, ia, iv⟩ = r at *
          clear hR4 k' hrow hw hn hfu hrun hL' t' hh hcall hpc hri hmem hiw harg hbw hfpos
          go_wp2_with fail
          refine HH.out.mono ?_
          rintro e w1 ⟨rfl, t1⟩
          have HT1 : Hid _ := t1.alloc (.cells #[.int .u8 io, .int .i64 ia, .int .u64 iv] 48)
          have HBX : Hid (BoxI (w1.alloc (.cells #[.int .u8 io, .int .i64 ia, .int .u64 iv] 48)) w1.heap.size io ia iv) := BoxI.new w1 io ia iv
          have HSZ : Hid _ := t1.size
          clear t1 HH
          go_wp2_with fail
          refine (HBN.out _ HT1.out).out.mono ?_
          rintro e w2 ⟨rfl, o2, t2⟩
          have hne : w1.heap.size ∉ [b] := by simp only [List.mem_singleton]; have := HK'.out.o.lt; have := HSZ.out; omega
          have HB2 : Hid _ := HBX.out.touch t2 hne
          have hat : BAtP w0 S0 w2 b (.slice ap l.length cp) { X' with D := { X'.D with fuel := X'.D.fuel - 1 } } w1.heap.size := by
            refine ⟨L', vs', vo', vh', vl', va', HLM.out, (HK'.out.touch HT1.out).fuel (X'.D.fuel - 1) o2 t2, (HT'.out.trans HT1.out (by simp)).trans t2 (fun x hx => by simp at hx; subst hx; exact HK'.out.ge 0 x (by simp [comp])), ?_, ?_⟩
            · have := t2.size; have h2 : (w1.alloc (.cells #[.int .u8 io, .int .i64 ia, .int .u64 iv] 48)).heap.size = w1.heap.size + 1 := by simp
              omega
            · intro j hj
              have := HK'.out.lt j _ hj
              have := HSZ.out
              omega
          have HD := HDO.out w2 w1.heap.size hat
          obtain ⟨x0, x1, x2⟩ := HB2.out.cells
          generalize w1.heap.size = pb at *
          clear hat o2 t2 hne HDO HBN
          go_wp2_with fail
          refine HD.out.mono ?_
          rintro e w3 ⟨⟨h0, rfl, hb3⟩ | ⟨h0, rfl, t⟩ | ⟨h0, rfl, t⟩, hpp⟩
          · have HB3 : Hid _ := hb3
            have HP3 : Hid (BoxI w3 pb io ia iv) := ⟨(hpp h0).trans HB2.out.st⟩
            obtain ⟨y0, y1, y2⟩ := HP3.out.cells
            have H0 : Hid _ := h0
            clear hb3 hpp h0 x0 x1 x2 HD
            by_cases h22 : io = 22
            · subst h22
              have HF : Hid (R = r) := by show _ = _; rw [HR4.out, if_pos H0.out, if_pos rfl]
              go_wp2
              go_ret
              rw [HF.out]
              exact .inl ⟨H0.out, rfl, HB3.out⟩
            · have HF : Hid (R = runB l n r.2) := by show _ = _; rw [HR4.out, if_pos H0.out, if_neg h22]
              go_wp2
              go_roundw
              case rel => exact ⟨r.2, n, HB3.out, HKEEP.out H0.out, by rw [HFUEL.out]; exact HNF.out.1, by rw [HFUEL.out]; exact HNF.out.2, HF.out.symm⟩
              case measure =>
                have e1 := (show BAt w0 S0 w3 b (.slice ap l.length cp) r.2 from HB3.out).fuel
                have e2 := HFW.out
                have e3 := HFUEL.out
                have e4 := HNF.out.1
                rw [e3] at e1
                omega
          · have hR : R = r := by rw [HR4.out, if_neg (by rw [h0]; decide)]
            exact ⟨rfl, by rw [hR]; exact .inr (.inl ⟨h0, rfl, t⟩)⟩
          · have hR : R = r := by rw [HR4.out, if_neg (by omega)]
            exact ⟨rfl, by rw [hR]; exact .inr (.inr ⟨h0, rfl, t⟩)⟩

end Go.Proofs.Ytlndbligbpfdpaa

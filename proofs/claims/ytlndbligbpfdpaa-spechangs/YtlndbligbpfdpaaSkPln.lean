/-
  package spec: toBlock BY ITS CONTRACT, wherever it stands.
-/
import Derived.Test.YtlndbligbpfdpaaSpPlain
namespace Go.Proofs.Ytlndbligbpfdpaa
set_option linter.unusedVariables false
set_option linter.unusedSimpArgs false
open Go.RowKit
attribute [local go_sem] Oper.semAt_some

/-- toBlock: how it ends (4 at a block, 1 at a halt, 3: stuck, and why), and the walk then. -/
def plnN (l : List InsD) : Nat → WD → (Int × Int) × WD
  | 0, D => if opAtW l D.pc = 21 then ((4, 0), D) else if opAtW l D.pc = 28 then ((1, 0), D) else ((3, 11), D)
  | n + 1, D => if opAtW l D.pc = 21 then ((4, 0), D) else if opAtW l D.pc = 28 then ((1, 0), D) else if (stepW l { D with fuel := D.fuel - 1 }).1 = 0 then plnN l n (stepW l { D with fuel := D.fuel - 1 }).2 else ((3, (stepW l { D with fuel := D.fuel - 1 }).1), { D with fuel := D.fuel - 1 })
theorem pln_21 {l : List InsD} {n : Nat} {D : WD} (h : opAtW l D.pc = 21) : plnN l n D = ((4, 0), D) := by
  cases n <;> (unfold plnN; rw [if_pos h])
theorem pln_28 {l : List InsD} {n : Nat} {D : WD} (h : opAtW l D.pc = 28) : plnN l n D = ((1, 0), D) := by
  cases n <;> (unfold plnN; rw [if_neg (by omega), if_pos h])
theorem pln_0 {l : List InsD} {D : WD} (h : opAtW l D.pc ≠ 21) (h2 : opAtW l D.pc ≠ 28) : plnN l 0 D = ((3, 11), D) := by
  unfold plnN; rw [if_neg h, if_neg h2]
theorem pln_s {l : List InsD} {n : Nat} {D : WD} (h : opAtW l D.pc ≠ 21) (h2 : opAtW l D.pc ≠ 28) : plnN l (n + 1) D = if (stepW l { D with fuel := D.fuel - 1 }).1 = 0 then plnN l n (stepW l { D with fuel := D.fuel - 1 }).2 else ((3, (stepW l { D with fuel := D.fuel - 1 }).1), { D with fuel := D.fuel - 1 }) := by
  conv => lhs; unfold plnN
  rw [if_neg h, if_neg h2]
theorem stepW_fuel (l : List InsD) (D : WD) : (stepW l D).2.fuel = D.fuel := by
  unfold stepW
  split
  · rfl
  split
  · rfl
  split
  · rfl
  split
  · rfl
  unfold doW
  split
  · split <;> rfl
  split
  · unfold WD.setL; split; rfl; split; rfl; split <;> rfl
  split
  · split <;> rfl
  split
  · split
    · rfl
    · split <;> rfl
  · rfl

/-- A walk, since the world w0: of the older blocks S0 may be changed. -/
def TBk (w0 : World) (S0 : List Nat) (w : World) (b : Nat) (vp : Value) (D : WD) : Prop := ∃ vs vo, WOwn w b 0 60 [] vs vo vp D ∧ Touch w0 w S0 ∧ (∀ g, vs.ownBlock = some g → g ∈ S0 ∨ w0.heap.size ≤ g) ∧ (∀ g, vo.ownBlock = some g → g ∈ S0 ∨ w0.heap.size ≤ g) ∧ b ∈ S0
def TbP (w0 : World) (S0 : List Nat) (b : Nat) (vp : Value) (R : (Int × Int) × WD) (e : Ending) (w' : World) : Prop :=
  (R.1.1 ≠ 3 ∧ R.1.2 = 0 ∧ e = .returned (.int .u8 R.1.1) ∧ TBk w0 S0 w' b vp R.2) ∨ (R.1.1 = 3 ∧ R.1.2 ≠ 0 ∧ e = .panicked [{ v := .iface 78 (.agg #[.int .i64 R.1.2]), recovered := false }] ∧ TBk w0 S0 w' b vp R.2)
theorem TBk.touch {w0 w w' : World} {S0 : List Nat} {b : Nat} {vp : Value} {D : WD} (h : TBk w0 S0 w b vp D) (t : Touch w w' []) : TBk w0 S0 w' b vp D := by
  obtain ⟨vs, vo, k, t0, h1, h2, h3⟩ := h
  exact ⟨vs, vo, k.touch t, t0.trans t (by simp), h1, h2, h3⟩
theorem TBk.fuel {w0 w : World} {S0 : List Nat} {b : Nat} {vp : Value} {D : WD} (h : TBk w0 S0 w b vp D) : fuelAt b w = D.fuel.toNat := by
  obtain ⟨vs, vo, k, t0, _⟩ := h
  unfold fuelAt
  rw [k.o.cells.c8]

set_option maxRecDepth 100000 in
set_option maxHeartbeats 2000000 in
theorem toBlock_any {w0 w : World} {S0 : List Nat} {b : Nat} {ap : Option Addr} {cp : Nat} {l : List InsD} {D : WD} (hk : TBk w0 S0 w b (.slice ap l.length cp) D) (hl : ∀ W, Touch w0 W S0 → InsRow W (.slice ap l.length cp) l) (hll : l.length ≤ 1000) (hlw : ∀ i ∈ l, i.Wf) (hX : SWf D []) (hf : D.fuel ≤ 300) :
    Calls Try.prog 38 #[.pointer (some ⟨b, 0, none⟩)] w (TbP w0 S0 b (.slice ap l.length cp) (plnN l D.fuel.toNat D)) := by
  generalize hR : plnN l D.fuel.toNat D = R
  have HLL : Hid _ := hl
  have HLW : Hid _ := hlw
  have HK : Hid _ := hk
  have HX : Hid _ := hX
  have HF : Hid _ := hf
  have HR : Hid _ := hR
  clear hl hlw hk hX hf hR
  go_enter Try.func38, Try.ntmps38
  go_wp2_with fail
  go_loopw [] (fun wr => ∃ D' n, TBk w0 S0 wr b (.slice ap l.length cp) D' ∧ SWf D' [] ∧ n = D'.fuel.toNat ∧ D'.fuel ≤ 300 ∧ plnN l n D' = R) (fun wr => fuelAt b wr)
  case atStart => exact ⟨D, D.fuel.toNat, HK.out, HX.out, rfl, HF.out, HR.out⟩
  case round =>
    obtain ⟨D', n, hb, hw, hn, hfu, hrun⟩ := hrel
    have HB : Hid _ := hb
    have HFW : Hid (fuelAt b wr = D'.fuel.toNat) := hb.fuel
    obtain ⟨vs', vo', k', t', hs1, hs2, hb0⟩ := hb
    have HS : Hid (∀ W, Touch wr W [] → ∀ o : Int, 0 ≤ o → HidC Try.prog 60 #[.pointer (some ⟨b, 0, none⟩), .int .u8 o] W fun e w' => e = .returned (.bool (opAtW l D'.pc == o)) ∧ ∃ q, w' = W.drewN q) := fun W t o ho => ⟨standsAt_any (k'.o.touch t (by simp)) (HLL.out W (t'.trans t (by simp))) o (by omega)⟩
    have HS1 := HS.out wr (Touch.refl _ _) 21 (by decide)
    by_cases h21 : opAtW l D'.pc = 21
    · have hR4 : R = ((4, 0), D') := by rw [← hrun]; exact pln_21 h21
      rw [h21] at HS1
      have HR4 : Hid _ := hR4
      clear hR4 k' hw hn hfu hrun t' hs1 hs2 hb0 HS HR HK
      go_wp2_with fail
      refine HS1.out.mono ?_
      rintro e w1 ⟨rfl, q, rfl⟩
      go_wp2
      go_ret
      rw [HR4.out]
      exact .inl ⟨by show (4 : Int) ≠ 3; decide, rfl, rfl, (show TBk w0 S0 wr b (.slice ap l.length cp) D' from HB.out).touch ((Touch.refl wr []).drewN _)⟩
    have h21' : (opAtW l D'.pc == 21) = false := by simpa using h21
    rw [h21'] at HS1
    by_cases h28 : opAtW l D'.pc = 28
    · have hR4 : R = ((1, 0), D') := by rw [← hrun]; exact pln_28 h28
      simp only [h28] at HS
      have HR4 : Hid _ := hR4
      clear hR4 k' hw hn hfu hrun t' hs1 hs2 hb0 HR HK h21 h21' h28
      go_wp2_with fail
      refine HS1.out.mono ?_
      rintro e w1 ⟨rfl, q, rfl⟩
      have HS2 := HS.out _ ((Touch.refl wr []).drewN q) 28 (by decide)
      clear HS HS1
      go_wp2_with fail
      refine HS2.out.mono ?_
      rintro e w1 ⟨rfl, q2, rfl⟩
      go_wp2
      go_ret
      rw [HR4.out]
      exact .inl ⟨by show (1 : Int) ≠ 3; decide, rfl, rfl, (show TBk w0 S0 wr b (.slice ap l.length cp) D' from HB.out).touch ((Touch.refl wr []).drewN _)⟩
    have h28' : (opAtW l D'.pc == 28) = false := by simpa using h28
    have HO : Hid (∀ W, Touch wr W [] → WOwn W b 0 60 [] vs' vo' (.slice ap l.length cp) D') := fun W t => k'.touch t
    have HT' : Hid _ := t'
    have HSS : Hid (b ∈ S0 ∧ (∀ g, vs'.ownBlock = some g → g ∈ S0 ∨ w0.heap.size ≤ g) ∧ (∀ g, vo'.ownBlock = some g → g ∈ S0 ∨ w0.heap.size ≤ g)) := ⟨hb0, hs1, hs2⟩
    have HWF : Hid _ := hw
    cases n with
    | zero =>
      have hR4 : R = ((3, 11), D') := by rw [← hrun]; exact pln_0 h21 h28
      have HR4 : Hid _ := hR4
      have HBN : Hid (∀ W, Touch wr W [] → HidC Try.prog 61 #[.pointer (some ⟨b, 0, none⟩)] W (StuckP 11 W)) := fun W t => ⟨burn_no (HO.out W t).o (by omega)⟩
      clear hR4 k' hw hn hfu hrun t' hs1 hs2 hb0 HR HK h21 h21' h28
      go_wp2_with fail
      refine HS1.out.mono ?_
      rintro e w1 ⟨rfl, q, rfl⟩
      have HS2 := HS.out _ ((Touch.refl wr []).drewN q) 28 (by decide)
      rw [h28'] at HS2
      clear HS HS1
      go_wp2_with fail
      refine HS2.out.mono ?_
      rintro e w1 ⟨rfl, q2, rfl⟩
      have HB2 := HBN.out (wr.drewN (q + q2)) ((Touch.refl wr []).drewN (q + q2))
      clear HBN HS2
      go_wp2_with fail
      refine HB2.out.mono ?_
      rintro e w2 ⟨rfl, t2⟩
      refine ⟨rfl, ?_⟩
      rw [HR4.out]
      exact .inr ⟨rfl, by show (11 : Int) ≠ 0; decide, rfl, (show TBk w0 S0 wr b (.slice ap l.length cp) D' from HB.out).touch (((Touch.refl wr []).drewN (q + q2)).trans t2 (by simp))⟩
    | succ n =>
      have hfpos : 0 < D'.fuel := by omega
      have hR4 : R = if (stepW l { D' with fuel := D'.fuel - 1 }).1 = 0 then plnN l n (stepW l { D' with fuel := D'.fuel - 1 }).2 else ((3, (stepW l { D' with fuel := D'.fuel - 1 }).1), { D' with fuel := D'.fuel - 1 }) := by rw [← hrun]; exact pln_s h21 h28
      have HR4 : Hid _ := hR4
      have hwf : SWf { D' with fuel := D'.fuel - 1 } [] := hw.fuel _
      have HBN : Hid (∀ W, Touch wr W [] → HidC Try.prog 61 #[.pointer (some ⟨b, 0, none⟩)] W (fun e w' => e = .returned (.tuple #[]) ∧ WObj w' b 60 [] vs' vo' (.slice ap l.length cp) { D' with fuel := D'.fuel - 1 } ∧ Touch W w' [b])) := fun W t => ⟨burn_ok (HO.out W t).o hfpos hfu⟩
      have HST : Hid (∀ W, WOwn W b 0 60 [] vs' vo' (.slice ap l.length cp) { D' with fuel := D'.fuel - 1 } → Touch w0 W S0 → HidC Try.prog 24 #[.pointer (some ⟨b, 0, none⟩)] W (StepE W b 0 60 [] vs' vo' (.slice ap l.length cp) (stepW l { D' with fuel := D'.fuel - 1 }))) := fun W h t => ⟨step_any h (HLL.out W t) (by omega) hwf.st hwf.ws⟩
      have HKEEP : Hid ((stepW l { D' with fuel := D'.fuel - 1 }).1 = 0 → SWf (stepW l { D' with fuel := D'.fuel - 1 }).2 []) := fun h0 => step_keep hwf HLW.out h0
      have HFUEL : Hid ((stepW l { D' with fuel := D'.fuel - 1 }).2.fuel = D'.fuel - 1) := stepW_fuel _ _
      have HNF : Hid (n = (D'.fuel - 1).toNat ∧ D'.fuel - 1 ≤ 300 ∧ n + 1 = D'.fuel.toNat) := ⟨by omega, by omega, hn⟩
      generalize stepW l { D' with fuel := D'.fuel - 1 } = r at *
      clear hR4 k' hw hn hfu hrun t' hs1 hs2 hb0 HR HK h21 h21' h28 hfpos hwf
      go_wp2_with fail
      refine HS1.out.mono ?_
      rintro e w1 ⟨rfl, q, rfl⟩
      have HS2 := HS.out _ ((Touch.refl wr []).drewN q) 28 (by decide)
      rw [h28'] at HS2
      clear HS HS1
      go_wp2_with fail
      refine HS2.out.mono ?_
      rintro e w1 ⟨rfl, q2, rfl⟩
      have tq : Touch wr (wr.drewN (q + q2)) [] := (Touch.refl wr []).drewN (q + q2)
      have HB2 := HBN.out (wr.drewN (q + q2)) tq
      have HOQ : Hid _ := HO.out _ tq
      have HTQ : Hid (Touch w0 (wr.drewN (q + q2)) S0) := HT'.out.trans tq (by simp)
      clear HBN HS2 tq HO
      go_wp2_with fail
      refine HB2.out.mono ?_
      rintro e w2 ⟨rfl, o2, t2⟩
      have ho2 : WOwn w2 b 0 60 [] vs' vo' (.slice ap l.length cp) { D' with fuel := D'.fuel - 1 } := (show WOwn (wr.drewN (q + q2)) b 0 60 [] vs' vo' (.slice ap l.length cp) D' from HOQ.out).keep t2 o2 rfl rfl
      have ht2 : Touch w0 w2 S0 := HTQ.out.trans t2 (fun x hx => by simp at hx; subst hx; exact .inl HSS.out.1)
      have HS3 := HST.out w2 ho2 ht2
      have HO2 : Hid _ := ho2
      have HT2 : Hid _ := ht2
      clear HB2 HST ho2 ht2 o2 t2 HOQ HTQ
      go_wp2_with fail
      refine HS3.out.mono ?_
      rintro e w3 (⟨h0, rfl, vs3, vo3, k3, t3, g1, g2⟩ | ⟨h0, rfl, t3⟩)
      · have hnew : TBk w0 S0 w3 b (.slice ap l.length cp) r.2 := by
          have hsz := HT2.out.size
          refine ⟨vs3, vo3, k3, HT2.out.trans t3 (fun x hx => ?_), fun g hg => ?_, fun g hg => ?_, HSS.out.1⟩
          · simp only [List.mem_cons, List.mem_append, Option.mem_toList] at hx
            rcases hx with rfl | hx | hx
            · exact .inl HSS.out.1
            · exact HSS.out.2.1 x hx
            · exact HSS.out.2.2 x hx
          · rcases g1 g hg with q | q
            · exact HSS.out.2.1 g q
            · exact .inr (by omega)
          · rcases g2 g hg with q | q
            · exact HSS.out.2.2 g q
            · exact .inr (by omega)
        have HN3 : Hid _ := hnew
        have HRR : Hid (plnN l n r.2 = R) := by show _ = _; rw [HR4.out, if_pos h0]
        have HK3 : Hid _ := HKEEP.out h0
        clear hnew k3 t3 g1 g2 h0 HS3 HKEEP HR4 HO2 HT2
        go_wp2
        go_roundw
        case rel => exact ⟨r.2, n, HN3.out, HK3.out, by rw [HFUEL.out]; exact HNF.out.1, by rw [HFUEL.out]; exact HNF.out.2.1, HRR.out⟩
        case measure =>
          have e1 := (show TBk w0 S0 w3 b (.slice ap l.length cp) r.2 from HN3.out).fuel
          have e2 := HFW.out
          have e3 := HFUEL.out
          have e4 := HNF.out
          rw [e3] at e1
          omega
      · refine ⟨rfl, ?_⟩
        rw [HR4.out, if_neg h0]
        refine .inr ⟨rfl, h0, rfl, ?_⟩
        have : TBk w0 S0 w2 b (.slice ap l.length cp) { D' with fuel := D'.fuel - 1 } := ⟨vs', vo', HO2.out, HT2.out, HSS.out.2.1, HSS.out.2.2, HSS.out.1⟩
        exact this.touch t3

end Go.Proofs.Ytlndbligbpfdpaa

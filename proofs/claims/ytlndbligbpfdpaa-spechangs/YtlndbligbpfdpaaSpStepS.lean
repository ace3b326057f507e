/-
  package spec: step BY ITS CONTRACT, SetLocal.
-/
import Derived.Test.YtlndbligbpfdpaaSpStepR
namespace Go.Proofs.Ytlndbligbpfdpaa
set_option linter.unusedVariables false
set_option linter.unusedSimpArgs false
open Go.RowKit
attribute [local go_sem] Oper.semAt_some

/-- A local is set. -/
def WD.setL (D : WD) (k : Int) (x : Int) : WD := if k = 0 then { D with l0 := x } else if k = 1 then { D with l1 := x } else if k = 2 then { D with l2 := x } else { D with l3 := x }
theorem WD.setL_st (D : WD) (k x : Int) : (D.setL k x).st = D.st := by unfold WD.setL; split; rfl; split; rfl; split <;> rfl
theorem WD.setL_out (D : WD) (k x : Int) : (D.setL k x).out = D.out := by unfold WD.setL; split; rfl; split; rfl; split <;> rfl
theorem WD.setL_pc (D : WD) (k x : Int) : (D.setL k x).pc = D.pc := by unfold WD.setL; split; rfl; split; rfl; split <;> rfl
theorem WObj.setL {w : World} {b : Nat} {T : TypeId} {tl : List Value} {vs vo vp : Value} {D : WD} (h : WObj w b T tl vs vo vp D) (k : Nat) (hk : k < 4) (x : Int) : WObj (w.setCell ⟨b, 2 + k, none⟩ (.int .u64 x)) b T tl vs vo vp (D.setL k x) := ⟨by
  rw [heap_setCell_same _ _ _ _ _ _ h.st]
  have hk : k = 0 ∨ k = 1 ∨ k = 2 ∨ k = 3 := by omega
  rcases hk with rfl | rfl | rfl | rfl <;> simp [WD.setL]⟩
theorem WObj.locAt {w : World} {b : Nat} {T : TypeId} {tl : List Value} {vs vo vp : Value} {D : WD} (h : WObj w b T tl vs vo vp D) (k : Nat) (hk : k < 4) : w.cell? ⟨b, 2 + k, none⟩ = some (.int .u64 (D.loc k)) := by
  have hc := h.cells
  have hk : k = 0 ∨ k = 1 ∨ k = 2 ∨ k = 3 := by omega
  rcases hk with rfl | rfl | rfl | rfl
  · exact hc.c2
  · exact hc.c3
  · exact hc.c4
  · exact hc.c5
theorem WOwn.keep {w w' : World} {b B : Nat} {T : TypeId} {tl : List Value} {vs vo vp : Value} {D D' : WD} (h : WOwn w b B T tl vs vo vp D) (t : Touch w w' [b]) (h' : WObj w' b T tl vs vo vp D') (es : D'.st = D.st) (eo : D'.out = D.out) : WOwn w' b B T tl vs vo vp D' := by
  have hB := h.hB
  have hs := t.size
  refine ⟨h', ?_, ?_, h.n, by omega, h.hb, h.hc⟩
  · rw [es]; exact ownsRow_touch h.s t (fun g hg hx => by simp at hx; subst hx; exact h.hb _ hg rfl)
  · rw [eo]; exact ownsRow_touch h.u t (fun g hg hx => by simp at hx; subst hx; exact h.hc _ hg rfl)
theorem WOwn.touch {w w' : World} {b B : Nat} {T : TypeId} {tl : List Value} {vs vo vp : Value} {D : WD} (h : WOwn w b B T tl vs vo vp D) (t : Touch w w' []) : WOwn w' b B T tl vs vo vp D := h.keep (t.mono (by simp)) (h.o.touch t (by simp)) rfl rfl
theorem StepP.after {w W : World} {b B : Nat} {T : TypeId} {tl : List Value} {vs vo vo5 vp : Value} {D : WD} {e : Ending} {w' : World} (t : Touch w W (b :: (vs.ownBlock.toList ++ vo.ownBlock.toList))) (hv : ∀ g, vo5.ownBlock = some g → vo.ownBlock = some g ∨ w.heap.size ≤ g) (h : StepP W b B T tl vs vo5 vp D e w') : StepP w b B T tl vs vo vp D e w' := by
  obtain ⟨rfl, v1, v2, h1, t2, h3, h4⟩ := h
  have hs := t.size
  refine ⟨rfl, v1, v2, h1, t.trans t2 ?_, ?_, ?_⟩
  · intro x hx
    simp at hx
    rcases hx with rfl | hx | hx
    · exact .inl (by simp)
    · exact .inl (by simp [hx])
    · rcases hv x hx with q | q
      · exact .inl (by simp [q])
      · exact .inr q
  · intro g hg
    rcases h3 g hg with q | q
    · exact .inl q
    · exact .inr (by omega)
  · intro g hg
    rcases h4 g hg with q | q
    · exact hv g q
    · exact .inr (by omega)

set_option maxRecDepth 100000 in
set_option maxHeartbeats 2000000 in
theorem step_set {w : World} {b B : Nat} {T : TypeId} {tl : List Value} {vo vp : Value} {ao : Option Addr} {n cap : Nat} {D : WD} (h : WOwn w b B T tl (.slice ao n cap) vo vp D) (hn : n ≤ 1000) (hpc : 0 ≤ D.pc ∧ D.pc < 9223372036854775807) (k : Nat) (hk : k < 4) {iv : Int} (hh : Calls Try.prog 40 #[.pointer (some ⟨b, 0, none⟩)] w fun e w' => e = .returned (.agg #[.int .u8 3, .int .i64 (k : Int), .int .u64 iv]) ∧ Touch w w' []) (hf : fitsW 3 n = true) :
    Calls Try.prog 24 #[.pointer (some ⟨b, 0, none⟩)] w (StepP w b B T tl (.slice ao n cap) vo vp { D.setL k (D.st.getD (n - 1) 0) with st := D.st.take (n - 1) ++ [], pc := D.pc + 1 }) := by
  have HH : HidC _ _ _ _ _ := ⟨hh⟩
  have HG : Hid (∀ W, HidC Try.prog 42 #[.int .u8 3] W fun e w' => e = .returned (.bool true) ∧ W = w') := fun W => ⟨hangs_any 3 W⟩
  have hlen : D.st.length = n := by
    obtain ⟨a5, c5, e⟩ := owns_slice h.s
    simp only [Value.slice.injEq] at e
    exact e.2.1.symm
  have hpn : 1 ≤ n := by
    unfold fitsW at hf
    simp only [Bool.and_eq_true, decide_eq_true_eq] at hf
    have h5 : popV 3 = 1 := rfl
    omega
  have HP : Hid (∀ W, Touch w W [] → HidC Try.prog 43 #[.pointer (some ⟨b, 0, none⟩), .int .u8 3] W fun e w' => (∃ a c, e = .returned (.slice a 1 c) ∧ VRow W (.slice a 1 c) (D.st.drop (n - 1))) ∧ W = w') := fun W t => ⟨popped_ok (h.o.touch t (by simp)) (ownsRow_touch h.s t (by simp)) hn 3 hf⟩
  have HU : Hid (∀ W a c, HidC Try.prog 47 #[.pointer (some ⟨b, 0, none⟩), .agg #[.int .u8 3, .int .i64 (k : Int), .int .u64 iv], .slice a 1 c] W (PushP W [])) := fun W a c => ⟨pushed_none 3 k iv _ (by decide)⟩
  have HC : Hid (∀ W, Touch w W [] → W.cell? ⟨b, 0, none⟩ = some (.int .i64 D.pc)) := fun W t => (h.o.touch t (by simp)).cells.c0
  have hwr : IntKind.i64.wrap (D.pc + 1) = D.pc + 1 := by rw [IntKind.wrap_i64]; omega
  have HO : Hid _ := h
  have HD : Hid (∀ W : World, ∀ v' D2, WObj W b T tl v' vo vp D2 → W.cell? ⟨b, 0, none⟩ = some (.int .i64 D2.pc) ∧ W.frozen? ⟨b, 0, none⟩ = false) := fun W v' D2 q => ⟨q.cells.c0, q.fr 0⟩
  have HN : Hid (n ≤ 1000) := hn
  have HK : Hid (k < 4) := hk
  have hbl := h.o.lt
  have hk4 : (k : Int) < 4 := by omega
  have hk0 : (0 : Int) ≤ k := by omega
  clear hh h hf hn
  go_enter Try.func24, Try.ntmps24
  go_wp2_with fail
  refine HH.out.mono ?_
  rintro e w1 ⟨rfl, t1⟩
  clear HH
  have HT : Hid (Touch w (w1.alloc (.cells #[.int .u8 3, .int .i64 (k : Int), .int .u64 iv] 48)) []) := t1.alloc _
  have HBX : Hid _ := BoxI.new w1 3 k iv
  obtain ⟨x0, x1, x2⟩ := HBX.out.cells
  have c0 := HC.out _ HT.out
  have hbs : b < w1.heap.size := Nat.lt_of_lt_of_le hbl t1.size
  go_wp2_with fail
  refine (HG.out _).out.mono ?_
  rintro e _ ⟨rfl, rfl⟩
  clear HG
  go_wp2_with fail
  refine (sneed_ok 3 _).mono ?_
  rintro e _ ⟨rfl, rfl⟩
  go_wp2_with fail
  refine (HP.out _ HT.out).out.mono ?_
  rintro e _ ⟨⟨a, c, rfl, hr⟩, rfl⟩
  have hgd : (D.st.drop (n - 1)).getD 0 0 = D.st.getD (n - 1) 0 := by simp [List.getD]
  obtain ⟨g, off, rfl, hc⟩ := vrow_at hr (by rw [List.length_drop]; omega) (by omega)
  have hc0 := hc 0 (by omega)
  rw [hgd, Nat.add_zero] at hc0
  clear hc hgd hr HP
  generalize hX : D.st.getD (n - 1) 0 = X at *
  clear hX
  go_wp2_with fail
  generalize hQ : w1.alloc (.cells #[.int .u8 3, .int .i64 (k : Int), .int .u64 iv] 48) = Q at *
  have HQ : Hid _ := hQ
  clear hQ
  have td : Touch Q Q.drew [] := (Touch.refl Q []).drew
  have HOd : Hid (WOwn Q.drew b B T tl (.slice ao n cap) vo vp D) := HO.out.touch (HT.out.trans td (by simp))
  have l0 := HOd.out.o.locAt k hk
  have f0 := HOd.out.o.fr (2 + k)
  have m0 : Q.drew.cell? ⟨g, off, none⟩ = some (.int .u64 X) := hc0
  have m1 : Q.drew.cell? ⟨w1.heap.size, 1, none⟩ = some (.int .i64 (k : Int)) := x1
  clear hc0 x0 x1 x2 c0
  have HO5 : Hid (WOwn (Q.setCell ⟨b, 2 + k, none⟩ (.int .u64 X)).drew b B T tl (.slice ao n cap) vo vp (D.setL k X)) := ((HO.out.touch HT.out).keep ((Touch.refl Q [b]).setCell (.inl (by simp)) _) ((HO.out.touch HT.out).o.setL k hk X) (D.setL_st _ _) (D.setL_out _ _)).touch ((Touch.refl _ []).drew)
  have HT5 : Hid (Touch w (Q.setCell ⟨b, 2 + k, none⟩ (.int .u64 X)).drew (b :: ((Value.slice ao n cap).ownBlock.toList ++ vo.ownBlock.toList))) := ((HT.out.mono (by simp)).setCell (.inl (by simp)) _).drew
  have HB5 : Hid (BoxI (Q.setCell ⟨b, 2 + k, none⟩ (.int .u64 X)).drew w1.heap.size 3 k iv) := (HBX.out.touch ((Touch.refl Q [b]).setCell (.inl (by simp)) _) (by simp; omega)).touch ((Touch.refl _ []).drew) (by simp)
  go_region
  generalize (Q.setCell ⟨b, 2 + k, none⟩ (.int .u64 X)).drew = W5 at *
  clear l0 f0 m0 m1
  obtain ⟨x0, x1, x2⟩ := HB5.out.cells
  have HX : Hid (∀ W a2 m c2 pu, Touch W5 W [] → VRow W (.slice a2 m c2) pu → m = pu.length → m ≤ 1000 → HidC Try.prog 46 #[.pointer (some ⟨b, 0, none⟩), .int .i64 1, .slice a2 m c2] W (ExchP W b B T tl (.slice ao n cap) vo vp { D.setL k X with st := D.st.take (n - 1) ++ pu })) := fun W a2 m c2 pu t hr hm hm2 => ⟨by
    have q := HO5.out.touch t
    have r := exchange_any q.o q.s q.hB q.hb HN.out 1 hpn hr hm hm2
    rw [D.setL_st] at r
    exact r⟩
  go_wp2_with fail
  refine (HU.out _ _ c).out.mono ?_
  rintro e w3 ⟨v3, rfl, o3, t3⟩
  clear HU
  obtain ⟨a2, c2, rfl⟩ := owns_slice o3
  have HT3 : Hid (Touch W5 w3 []) := t3
  have HX3 : HidC _ _ _ _ _ := HX.out w3 a2 _ c2 [] HT3.out (vrow_of o3) rfl (by simp)
  clear HX o3 t3 x0 x1 x2
  go_wp2_with fail
  refine HX3.out.mono ?_
  rintro e w4 ⟨rfl, hx⟩
  clear HX3
  have HF : Hid _ := StepP.after HT5.out (fun g hg => .inl hg) (step_tail (D2 := { D.setL k X with st := D.st.take (n - 1) ++ [] }) HO5.out HT3.out (by rfl) hx (D.pc + 1))
  obtain ⟨v', h4, _⟩ := hx
  obtain ⟨d0, d1⟩ := HD.out _ _ _ h4
  go_wp2
  go_end0
  exact ⟨rfl, HF.out.2⟩

end Go.Proofs.Ytlndbligbpfdpaa

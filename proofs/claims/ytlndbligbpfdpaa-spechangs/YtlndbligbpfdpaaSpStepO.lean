/-
  package spec: step BY ITS CONTRACT, Out.
-/
import Derived.Test.YtlndbligbpfdpaaSpStepS
namespace Go.Proofs.Ytlndbligbpfdpaa
set_option linter.unusedVariables false
set_option linter.unusedSimpArgs false
open Go.RowKit
attribute [local go_sem] Oper.semAt_some

set_option maxRecDepth 100000 in
set_option maxHeartbeats 2000000 in
theorem step_out_no {w : World} {b B : Nat} {T : TypeId} {tl : List Value} {vp : Value} {au : Option Addr} {nu cu : Nat} {ao : Option Addr} {n cap : Nat} {D : WD} (h : WOwn w b B T tl (.slice ao n cap) (.slice au nu cu) vp D) (hn : n ≤ 1000) (hpc : 0 ≤ D.pc ∧ D.pc < 9223372036854775807) {ia iv : Int} (hh : Calls Try.prog 40 #[.pointer (some ⟨b, 0, none⟩)] w fun e w' => e = .returned (.agg #[.int .u8 27, .int .i64 ia, .int .u64 iv]) ∧ Touch w w' []) (hf : fitsW 27 n = true) (hsp : ¬ nu < 24) :
    Calls Try.prog 24 #[.pointer (some ⟨b, 0, none⟩)] w (StuckP 4 w) := by
  have HH : HidC _ _ _ _ _ := ⟨hh⟩
  have HG : Hid (∀ W, HidC Try.prog 42 #[.int .u8 27] W fun e w' => e = .returned (.bool true) ∧ W = w') := fun W => ⟨hangs_any 27 W⟩
  have hlen : D.st.length = n := by
    obtain ⟨a5, c5, e⟩ := owns_slice h.s
    simp only [Value.slice.injEq] at e
    exact e.2.1.symm
  have hpn : 1 ≤ n := by
    unfold fitsW at hf
    simp only [Bool.and_eq_true, decide_eq_true_eq] at hf
    have h5 : popV 27 = 1 := rfl
    omega
  have HP : Hid (∀ W, Touch w W [] → HidC Try.prog 43 #[.pointer (some ⟨b, 0, none⟩), .int .u8 27] W fun e w' => (∃ a c, e = .returned (.slice a 1 c) ∧ VRow W (.slice a 1 c) (D.st.drop (n - 1))) ∧ W = w') := fun W t => ⟨popped_ok (h.o.touch t (by simp)) (ownsRow_touch h.s t (by simp)) hn 27 hf⟩
  have HU : Hid (∀ W a c, HidC Try.prog 47 #[.pointer (some ⟨b, 0, none⟩), .agg #[.int .u8 27, .int .i64 ia, .int .u64 iv], .slice a 1 c] W (PushP W [])) := fun W a c => ⟨pushed_none 27 ia iv _ (by decide)⟩
  have HC : Hid (∀ W, Touch w W [] → W.cell? ⟨b, 0, none⟩ = some (.int .i64 D.pc)) := fun W t => (h.o.touch t (by simp)).cells.c0
  have hwr : IntKind.i64.wrap (D.pc + 1) = D.pc + 1 := by rw [IntKind.wrap_i64]; omega
  have HO : Hid _ := h
  have HC6 : Hid (∀ W, Touch w W [] → W.cell? ⟨b, 6, none⟩ = some (.slice au nu cu)) := fun W t => (h.o.touch t (by simp)).cells.c6
  have HD : Hid (∀ W : World, ∀ v' u' D2, WObj W b T tl v' u' vp D2 → W.cell? ⟨b, 0, none⟩ = some (.int .i64 D2.pc) ∧ W.frozen? ⟨b, 0, none⟩ = false) := fun W v' u' D2 q => ⟨q.cells.c0, q.fr 0⟩
  have HN : Hid (n ≤ 1000) := hn
  have hbl := h.o.lt
  clear hh h hf hn
  go_enter Try.func24, Try.ntmps24
  go_wp2_with fail
  refine HH.out.mono ?_
  rintro e w1 ⟨rfl, t1⟩
  clear HH
  have HT : Hid (Touch w (w1.alloc (.cells #[.int .u8 27, .int .i64 ia, .int .u64 iv] 48)) []) := t1.alloc _
  have HBX : Hid _ := BoxI.new w1 27 ia iv
  obtain ⟨x0, x1, x2⟩ := HBX.out.cells
  have c0 := HC.out _ HT.out
  have c6 := HC6.out _ HT.out
  have hbs : b < w1.heap.size := Nat.lt_of_lt_of_le hbl t1.size
  go_wp2_with fail
  refine (HG.out _).out.mono ?_
  rintro e _ ⟨rfl, rfl⟩
  clear HG
  go_wp2_with fail
  refine (sneed_ok 3 _).mono ?_
  rintro e _ ⟨rfl, rfl⟩
  go_wp2_with fail
  refine (HP.out _ HT.out).out.mono ?_
  rintro e _ ⟨⟨a, c, rfl, hr⟩, rfl⟩
  have hdd : decide ((nu : Int) < 24) = false := decide_eq_false (by omega)
  have hgd : (D.st.drop (n - 1)).getD 0 0 = D.st.getD (n - 1) 0 := by simp [List.getD]
  obtain ⟨g, off, rfl, hc⟩ := vrow_at hr (by rw [List.length_drop]; omega) (by omega)
  have hc0 := hc 0 (by omega)
  rw [hgd, Nat.add_zero] at hc0
  clear hc hgd hr HP
  go_wp2_with fail
  refine (sneed_no 4 _).mono ?_
  rintro e w2 ⟨rfl, t2⟩
  exact ⟨rfl, rfl, HT.out.trans t2 (by simp)⟩

set_option maxRecDepth 100000 in
set_option maxHeartbeats 2000000 in
theorem step_out {w : World} {b B : Nat} {T : TypeId} {tl : List Value} {vp : Value} {au : Option Addr} {nu cu : Nat} {ao : Option Addr} {n cap : Nat} {D : WD} (h : WOwn w b B T tl (.slice ao n cap) (.slice au nu cu) vp D) (hn : n ≤ 1000) (hpc : 0 ≤ D.pc ∧ D.pc < 9223372036854775807) {ia iv : Int} (hh : Calls Try.prog 40 #[.pointer (some ⟨b, 0, none⟩)] w fun e w' => e = .returned (.agg #[.int .u8 27, .int .i64 ia, .int .u64 iv]) ∧ Touch w w' []) (hf : fitsW 27 n = true) (hsp : nu < 24) :
    Calls Try.prog 24 #[.pointer (some ⟨b, 0, none⟩)] w (StepP w b B T tl (.slice ao n cap) (.slice au nu cu) vp { D with out := D.out ++ [D.st.getD (n - 1) 0], st := D.st.take (n - 1) ++ [], pc := D.pc + 1 }) := by
  have HH : HidC _ _ _ _ _ := ⟨hh⟩
  have HG : Hid (∀ W, HidC Try.prog 42 #[.int .u8 27] W fun e w' => e = .returned (.bool true) ∧ W = w') := fun W => ⟨hangs_any 27 W⟩
  have hlen : D.st.length = n := by
    obtain ⟨a5, c5, e⟩ := owns_slice h.s
    simp only [Value.slice.injEq] at e
    exact e.2.1.symm
  have hpn : 1 ≤ n := by
    unfold fitsW at hf
    simp only [Bool.and_eq_true, decide_eq_true_eq] at hf
    have h5 : popV 27 = 1 := rfl
    omega
  have HP : Hid (∀ W, Touch w W [] → HidC Try.prog 43 #[.pointer (some ⟨b, 0, none⟩), .int .u8 27] W fun e w' => (∃ a c, e = .returned (.slice a 1 c) ∧ VRow W (.slice a 1 c) (D.st.drop (n - 1))) ∧ W = w') := fun W t => ⟨popped_ok (h.o.touch t (by simp)) (ownsRow_touch h.s t (by simp)) hn 27 hf⟩
  have HU : Hid (∀ W a c, HidC Try.prog 47 #[.pointer (some ⟨b, 0, none⟩), .agg #[.int .u8 27, .int .i64 ia, .int .u64 iv], .slice a 1 c] W (PushP W [])) := fun W a c => ⟨pushed_none 27 ia iv _ (by decide)⟩
  have HC : Hid (∀ W, Touch w W [] → W.cell? ⟨b, 0, none⟩ = some (.int .i64 D.pc)) := fun W t => (h.o.touch t (by simp)).cells.c0
  have hwr : IntKind.i64.wrap (D.pc + 1) = D.pc + 1 := by rw [IntKind.wrap_i64]; omega
  have HO : Hid _ := h
  have HC6 : Hid (∀ W, Touch w W [] → W.cell? ⟨b, 6, none⟩ = some (.slice au nu cu)) := fun W t => (h.o.touch t (by simp)).cells.c6
  have HD : Hid (∀ W : World, ∀ v' u' D2, WObj W b T tl v' u' vp D2 → W.cell? ⟨b, 0, none⟩ = some (.int .i64 D2.pc) ∧ W.frozen? ⟨b, 0, none⟩ = false) := fun W v' u' D2 q => ⟨q.cells.c0, q.fr 0⟩
  have HN : Hid (n ≤ 1000) := hn
  have hbl := h.o.lt
  clear hh h hf hn
  go_enter Try.func24, Try.ntmps24
  go_wp2_with fail
  refine HH.out.mono ?_
  rintro e w1 ⟨rfl, t1⟩
  clear HH
  have HT : Hid (Touch w (w1.alloc (.cells #[.int .u8 27, .int .i64 ia, .int .u64 iv] 48)) []) := t1.alloc _
  have HBX : Hid _ := BoxI.new w1 27 ia iv
  obtain ⟨x0, x1, x2⟩ := HBX.out.cells
  have c0 := HC.out _ HT.out
  have c6 := HC6.out _ HT.out
  have hbs : b < w1.heap.size := Nat.lt_of_lt_of_le hbl t1.size
  go_wp2_with fail
  refine (HG.out _).out.mono ?_
  rintro e _ ⟨rfl, rfl⟩
  clear HG
  go_wp2_with fail
  refine (sneed_ok 3 _).mono ?_
  rintro e _ ⟨rfl, rfl⟩
  go_wp2_with fail
  refine (HP.out _ HT.out).out.mono ?_
  rintro e _ ⟨⟨a, c, rfl, hr⟩, rfl⟩
  have hdd : decide ((nu : Int) < 24) = true := decide_eq_true (by omega)
  have hgd : (D.st.drop (n - 1)).getD 0 0 = D.st.getD (n - 1) 0 := by simp [List.getD]
  obtain ⟨g, off, rfl, hc⟩ := vrow_at hr (by rw [List.length_drop]; omega) (by omega)
  have hc0 := hc 0 (by omega)
  rw [hgd, Nat.add_zero] at hc0
  clear hc hgd hr HP
  generalize hX : D.st.getD (n - 1) 0 = X at *
  clear hX
  go_wp2_with fail
  refine (sneed_ok 4 _).mono ?_
  rintro e _ ⟨rfl, rfl⟩
  go_wp2_with fail
  generalize hQ : w1.alloc (.cells #[.int .u8 27, .int .i64 ia, .int .u64 iv] 48) = Q at *
  have HQ : Hid _ := hQ
  clear hQ
  have td : Touch Q Q.drew [] := (Touch.refl Q []).drew
  have HOd : Hid (WOwn Q.drew b B T tl (.slice ao n cap) (.slice au nu cu) vp D) := HO.out.touch (HT.out.trans td (by simp))
  have m0 : Q.drew.cell? ⟨g, off, none⟩ = some (.int .u64 X) := hc0
  have m6 : Q.drew.cell? ⟨b, 6, none⟩ = some (.slice au nu cu) := HOd.out.o.cells.c6
  have t6 : Touch Q (Q.alloc (.cells #[.int .u64 X] 25)).drew [] := ((Touch.refl _ []).alloc _).drew
  have HO6 : Hid (WOwn (Q.alloc (.cells #[.int .u64 X] 25)).drew b B T tl (.slice ao n cap) (.slice au nu cu) vp D) := HO.out.touch (HT.out.trans t6 (by simp))
  have n6 := HO6.out.o.cells.c6
  have hul : D.out.length = nu := by
    obtain ⟨a5, c5, e⟩ := owns_slice HO.out.u
    simp only [Value.slice.injEq] at e
    exact e.2.1.symm
  obtain ⟨a7, c7, w7, hrun, ho7, t7, hb7⟩ := val_app HO6.out.u (by omega) HO6.out.hB (vrow_of (ownsRow_touch (own_one Q 0 (by omega) X) ((Touch.refl _ []).drew) (by simp))) rfl (by omega) 23
  have h7 : WObj w7 b T tl (.slice ao n cap) (.slice au nu cu) vp D := HO6.out.o.touch t7 (fun hx => HO.out.hc b (by simpa using hx) rfl)
  have n7 := h7.cells.c6
  have f7 := h7.fr 6
  rw [hul] at hrun ho7 hb7
  clear hc0 x0 x1 x2 c0 c6 hdd
  have hbl := HO.out.o.lt
  have hn7 : b ∉ (Value.slice au nu cu).ownBlock.toList := fun hx => HO.out.hc b (by simpa using hx) rfl
  have tQ7 : Touch Q w7 (Value.slice au nu cu).ownBlock.toList := (t6.mono (by simp)).trans t7 (fun x hx => .inl hx)
  have tS : Touch w7 (w7.setCell ⟨b, 6, none⟩ (.slice a7 (nu + 1) c7)) [b] := (Touch.refl w7 [b]).setCell (.inl (by simp)) _
  have hw67 : ∀ g, (Value.slice a7 (nu + 1) c7).ownBlock = some g → (Value.slice au nu cu).ownBlock = some g ∨ w.heap.size ≤ g := fun g hg => by
    rcases hb7 g hg with q | q
    · exact .inl q
    · have := (HT.out.trans t6 (by simp)).size
      exact .inr (by omega)
  have hs7 : valOwn w7 B (.slice ao n cap) D.st := ownsRow_touch HO6.out.s t7 (fun g hg hx => HO6.out.n g hg (by simpa using hx))
  have hnb7 : ∀ g, (Value.slice a7 (nu + 1) c7).ownBlock = some g → g ≠ b := fun g hg => by
    rcases hw67 g hg with q | q
    · exact HO.out.hc g q
    · omega
  have HO5 : Hid (WOwn (w7.setCell ⟨b, 6, none⟩ (.slice a7 (nu + 1) c7)) b B T tl (.slice ao n cap) (.slice a7 (nu + 1) c7) vp { D with out := D.out ++ [X] }) := by
    refine ⟨h7.set6 _ _, ownsRow_touch hs7 tS (fun g hg hx => by simp at hx; subst hx; exact HO.out.hb _ hg rfl), ownsRow_touch ho7 tS (fun g hg hx => by simp at hx; subst hx; exact hnb7 _ hg rfl), ?_, ?_, HO.out.hb, hnb7⟩
    · intro g hg hg2
      rcases hb7 g hg2 with q | q
      · exact HO6.out.n g hg q
      · have := own_lt HO6.out.s g hg; omega
    · have := HO6.out.hB
      have := t7.size
      have := tS.size
      omega
  have HT5 : Hid (Touch w (w7.setCell ⟨b, 6, none⟩ (.slice a7 (nu + 1) c7)) (b :: ((Value.slice ao n cap).ownBlock.toList ++ (Value.slice au nu cu).ownBlock.toList))) := ((HT.out.mono (by simp)).trans tQ7 (fun x hx => .inl (by simp at hx; simp [hx]))).setCell (.inl (by simp)) _
  have HB5 : Hid (BoxI (w7.setCell ⟨b, 6, none⟩ (.slice a7 (nu + 1) c7)) w1.heap.size 27 ia iv) := (HBX.out.touch tQ7 (fun hx => by have := own_lt HO.out.u w1.heap.size (by simpa using hx); have := t1.size; omega)).touch tS (by simp; omega)
  have HW : Hid _ := hw67
  clear hnb7 hbl
  clear hw67 hs7 tS tQ7 hn7 t7 hb7 ho7 h7 t6
  go_region_law (first | (refine step_append_run (by rfl) (.tmp 38) (.tmp 42) 23 23 (by rfl) (by rfl) (.slice au nu cu) (.slice (some ⟨Q.heap.size, 0, none⟩) 1 1) (.slice a7 (nu + 1) c7) w7 (by rfl) (by rfl) hrun ?_))
  all_goals
    generalize w7.setCell ⟨b, 6, none⟩ (.slice a7 (nu + 1) c7) = W5 at *
    clear m0 m6 n6 n7 f7 hrun
    obtain ⟨x0, x1, x2⟩ := HB5.out.cells
    have HX : Hid (∀ W a2 m c2 pu, Touch W5 W [] → VRow W (.slice a2 m c2) pu → m = pu.length → m ≤ 1000 → HidC Try.prog 46 #[.pointer (some ⟨b, 0, none⟩), .int .i64 1, .slice a2 m c2] W (ExchP W b B T tl (.slice ao n cap) (.slice a7 (nu + 1) c7) vp { D with out := D.out ++ [X], st := D.st.take (n - 1) ++ pu })) := fun W a2 m c2 pu t hr hm hm2 => ⟨by
      have q := HO5.out.touch t
      exact exchange_any q.o q.s q.hB q.hb HN.out 1 hpn hr hm hm2⟩
    go_wp2_with fail
    refine (HU.out _ _ c).out.mono ?_
    rintro e w3 ⟨v3, rfl, o3, t3⟩
    clear HU
    obtain ⟨a2, c2, rfl⟩ := owns_slice o3
    have HT3 : Hid (Touch W5 w3 []) := t3
    have HX3 : HidC _ _ _ _ _ := HX.out w3 a2 _ c2 [] HT3.out (vrow_of o3) rfl (by simp)
    clear HX o3 t3 x0 x1 x2
    go_wp2_with fail
    refine HX3.out.mono ?_
    rintro e w4 ⟨rfl, hx⟩
    clear HX3
    have HF : Hid _ := StepP.after HT5.out HW.out (step_tail (D2 := { D with out := D.out ++ [X], st := D.st.take (n - 1) ++ [] }) HO5.out HT3.out (by rfl) hx (D.pc + 1))
    obtain ⟨v', h4, _⟩ := hx
    obtain ⟨d0, d1⟩ := HD.out _ _ _ _ h4
    go_wp2
    go_end0
    exact ⟨rfl, HF.out.2⟩

end Go.Proofs.Ytlndbligbpfdpaa

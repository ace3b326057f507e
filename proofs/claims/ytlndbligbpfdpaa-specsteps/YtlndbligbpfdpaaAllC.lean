/-
  package spec: step BY ITS CONTRACT, where its switch has no case.
-/
import Derived.Test.YtlndbligbpfdpaaAllB
namespace Go.Proofs.Ytlndbligbpfdpaa
set_option linter.unusedVariables false
set_option linter.unusedSimpArgs false
open Go.RowKit
attribute [local go_sem] Oper.semAt_some

/-- A walk whose lists are its own, none of them twice. -/
structure WOwn (w : World) (b B : Nat) (T : TypeId) (tl : List Value) (vs vo vp : Value) (D : WD) : Prop where
  o : WObj w b T tl vs vo vp D
  s : valOwn w B vs D.st
  u : valOwn w B vo D.out
  n : ∀ g, vs.ownBlock = some g → vo.ownBlock ≠ some g
  hB : B ≤ w.heap.size
  hb : ∀ g, vs.ownBlock = some g → g ≠ b
  hc : ∀ g, vo.ownBlock = some g → g ≠ b
/-- Behind a step. -/
def StepP (w : World) (b B : Nat) (T : TypeId) (tl : List Value) (vs vo vp : Value) (D : WD) (e : Ending) (w' : World) : Prop :=
  e = .returned (.tuple #[]) ∧ ∃ vs' vo', WOwn w' b B T tl vs' vo' vp D ∧ Touch w w' (b :: (vs.ownBlock.toList ++ vo.ownBlock.toList)) ∧ (∀ g, vs'.ownBlock = some g → vs.ownBlock = some g ∨ w.heap.size ≤ g) ∧ (∀ g, vo'.ownBlock = some g → vo.ownBlock = some g ∨ w.heap.size ≤ g)

theorem own_ge {w : World} {B : Nat} {v : Value} {l : List Int} (h : valOwn w B v l) (g : Nat) (hg : v.ownBlock = some g) : B ≤ g := by
  rcases h.2 with ⟨e5, h5⟩ | ⟨g5, cap5, cur5, e5, hb5, _⟩
  · rw [e5] at hg; simp [Value.ownBlock] at hg
  · rw [e5] at hg; simp [Value.ownBlock] at hg; omega
theorem own_lt {w : World} {B : Nat} {v : Value} {l : List Int} (h : valOwn w B v l) (g : Nat) (hg : v.ownBlock = some g) : g < w.heap.size := by
  rcases h.2 with ⟨e5, h5⟩ | ⟨g5, cap5, cur5, e5, hb5, h6, _⟩
  · rw [e5] at hg; simp [Value.ownBlock] at hg
  · rw [e5] at hg; simp [Value.ownBlock] at hg; subst hg; exact lt_of_heap h6

/-- What exchange and the new place leave. -/
theorem step_tail {w w3 w4 : World} {b B : Nat} {T : TypeId} {tl : List Value} {vs vo vp : Value} {D D2 : WD} (h : WOwn w b B T tl vs vo vp D) (t1 : Touch w w3 []) (ho : D2.out = D.out) (hx : ∃ v', WObj w4 b T tl v' vo vp D2 ∧ valOwn w4 B v' D2.st ∧ Touch w3 w4 (b :: vs.ownBlock.toList) ∧ (∀ g, v'.ownBlock = some g → vs.ownBlock = some g ∨ w3.heap.size ≤ g)) (pc : Int) :
    StepP w b B T tl vs vo vp { D2 with pc := pc } (.returned (.tuple #[])) (w4.setCell ⟨b, 0, none⟩ (.int .i64 pc)) := by
  obtain ⟨v', h1, h2, t4, hg4⟩ := hx
  have tb : Touch w4 (w4.setCell ⟨b, 0, none⟩ (.int .i64 pc)) [b] := (Touch.refl w4 [b]).setCell (.inl (by simp)) _
  have hnb : ∀ g, v'.ownBlock = some g → g ≠ b := fun g hg => by
    rcases hg4 g hg with q | q
    · exact h.hb g q
    · have := h.o.lt
      have := t1.size
      omega
  have ht : Touch w w4 (b :: vs.ownBlock.toList) := (t1.mono (by simp)).trans t4 (fun x hx => .inl hx)
  have hu : valOwn w4 B vo D.out := ownsRow_touch h.u ht (fun g hg hs => by
    simp at hs
    rcases hs with rfl | hs
    · exact h.hc _ hg rfl
    · exact h.n g hs hg)
  refine ⟨rfl, v', vo, ⟨h1.set0 pc, ?_, ?_, ?_, ?_, ?_, h.hc⟩, ?_, ?_, fun g hg => .inl hg⟩
  · exact ownsRow_touch h2 tb (fun g hg hs => by simp at hs; subst hs; exact hnb _ hg rfl)
  · show valOwn _ B vo D2.out
    rw [ho]
    exact ownsRow_touch hu tb (fun g hg hs => by simp at hs; subst hs; exact h.hc _ hg rfl)
  · intro g hg hg2
    rcases hg4 g hg with q | q
    · exact h.n g q hg2
    · have := own_lt h.u g hg2
      have := t1.size
      omega
  · have := h.hB
    have := (ht.trans tb (fun x hx => .inl (by simp at hx; simp [hx]))).size
    omega
  · exact hnb
  · exact (ht.mono (fun x hx => by simp at hx ⊢; rcases hx with q | q; exact .inl q; exact .inr (.inl q))).trans tb (fun x hx => .inl (by simp at hx; simp [hx]))
  · intro g hg
    rcases hg4 g hg with q | q
    · exact .inl q
    · have := t1.size
      exact .inr (by omega)

set_option maxRecDepth 100000 in
set_option maxHeartbeats 2000000 in
theorem step_rest {w : World} {b B : Nat} {T : TypeId} {tl : List Value} {vo vp : Value} {ao : Option Addr} {n cap : Nat} {D : WD} (h : WOwn w b B T tl (.slice ao n cap) vo vp D) (hn : n ≤ 1000) (hw : ∀ x ∈ D.st, Wf64 x) (hpc : 0 ≤ D.pc ∧ D.pc < 9223372036854775807) {io ia iv : Int} (hh : Calls Try.prog 40 #[.pointer (some ⟨b, 0, none⟩)] w fun e w' => e = .returned (.agg #[.int .u8 io, .int .i64 ia, .int .u64 iv]) ∧ Touch w w' []) (hpl : plainO io = true) (hf : fitsW io n = true) (hi : io = 2 → 0 ≤ ia ∧ ia < 4) (h27 : io ≠ 27) (h3 : io ≠ 3) (h19 : io ≠ 19) (h20 : io ≠ 20) :
    Calls Try.prog 24 #[.pointer (some ⟨b, 0, none⟩)] w (StepP w b B T tl (.slice ao n cap) vo vp { D with st := D.st.take (n - (popV io).toNat) ++ pushW D ⟨io, ia, iv⟩ (D.st.drop (n - (popV io).toNat)), pc := D.pc + 1 }) := by
  have HH : HidC _ _ _ _ _ := ⟨hh⟩
  have HG : Hid (∀ W, HidC Try.prog 42 #[.int .u8 io] W fun e w' => e = .returned (.bool true) ∧ W = w') := fun W => ⟨by have q := hangs_any io W; rw [hpl] at q; exact q⟩
  have hlen : D.st.length = n := by
    obtain ⟨a5, c5, e⟩ := owns_slice h.s
    simp only [Value.slice.injEq] at e
    exact e.2.1.symm
  have hpn : (popV io).toNat ≤ n := by
    unfold fitsW at hf
    simp only [Bool.and_eq_true, decide_eq_true_eq] at hf
    have := pop_le io
    omega
  have HP : Hid (∀ W, Touch w W [] → HidC Try.prog 43 #[.pointer (some ⟨b, 0, none⟩), .int .u8 io] W fun e w' => (∃ a c, e = .returned (.slice a (popV io).toNat c) ∧ VRow W (.slice a (popV io).toNat c) (D.st.drop (n - (popV io).toNat))) ∧ W = w') := fun W t => ⟨popped_ok (h.o.touch t (by simp)) (ownsRow_touch h.s t (by simp)) hn io hf⟩
  have HU : Hid (∀ W a c, Touch w W [] → VRow W (.slice a (popV io).toNat c) (D.st.drop (n - (popV io).toNat)) → HidC Try.prog 47 #[.pointer (some ⟨b, 0, none⟩), .agg #[.int .u8 io, .int .i64 ia, .int .u64 iv], .slice a (popV io).toNat c] W (PushP W (pushW D ⟨io, ia, iv⟩ (D.st.drop (n - (popV io).toNat))))) := fun W a c t hr => ⟨pushed_any (h.o.touch t (by simp)) ⟨io, ia, iv⟩ hi rfl (by rw [List.length_drop]; omega) (fun x hx => hw x (List.mem_of_mem_drop hx)) hr⟩
  have HX : Hid (∀ W a2 m c2 pu, Touch w W [] → VRow W (.slice a2 m c2) pu → m = pu.length → m ≤ 1000 → HidC Try.prog 46 #[.pointer (some ⟨b, 0, none⟩), .int .i64 ((popV io).toNat : Int), .slice a2 m c2] W (ExchP W b B T tl (.slice ao n cap) vo vp { D with st := D.st.take (n - (popV io).toNat) ++ pu })) := fun W a2 m c2 pu t hr hm hm2 => ⟨exchange_any (h.o.touch t (by simp)) (ownsRow_touch h.s t (by simp)) (Nat.le_trans h.hB t.size) h.hb hn _ hpn hr hm hm2⟩
  have HL : Hid ((pushW D ⟨io, ia, iv⟩ (D.st.drop (n - (popV io).toNat))).length ≤ 1000) := by
    show _ ≤ _
    unfold pushW
    repeat' split
    all_goals simp
  have HC : Hid (∀ W, Touch w W [] → W.cell? ⟨b, 0, none⟩ = some (.int .i64 D.pc)) := fun W t => (h.o.touch t (by simp)).cells.c0
  have hwr : IntKind.i64.wrap (D.pc + 1) = D.pc + 1 := by rw [IntKind.wrap_i64]; omega
  have HO : Hid _ := h
  have HD : Hid (∀ W : World, ∀ v' D2, WObj W b T tl v' vo vp D2 → W.cell? ⟨b, 0, none⟩ = some (.int .i64 D2.pc) ∧ W.frozen? ⟨b, 0, none⟩ = false) := fun W v' D2 q => ⟨q.cells.c0, q.fr 0⟩
  generalize hP : pushW D ⟨io, ia, iv⟩ (D.st.drop (n - (popV io).toNat)) = P at *
  clear hh hpl h hf hlen hpn hi hw hP hn
  generalize hM : (popV io).toNat = M at *
  clear hM
  go_enter Try.func24, Try.ntmps24
  go_wp2_with fail
  refine HH.out.mono ?_
  rintro e w1 ⟨rfl, t1⟩
  clear HH
  have HT : Hid (Touch w (w1.alloc (.cells #[.int .u8 io, .int .i64 ia, .int .u64 iv] 48)) []) := t1.alloc _
  obtain ⟨x0, x1, x2⟩ := (BoxI.new w1 io ia iv).cells
  have c0 := HC.out _ HT.out
  go_wp2_with fail
  refine (HG.out _).out.mono ?_
  rintro e _ ⟨rfl, rfl⟩
  clear HG
  go_wp2_with fail
  refine (sneed_ok 3 _).mono ?_
  rintro e _ ⟨rfl, rfl⟩
  go_wp2_with fail
  refine (HP.out _ HT.out).out.mono ?_
  rintro e _ ⟨⟨a, c, rfl, hr⟩, rfl⟩
  have HR : Hid _ := hr
  clear hr HP
  go_wp2_with fail
  refine (HU.out _ a c HT.out HR.out).out.mono ?_
  rintro e w3 ⟨v3, rfl, o3, t3⟩
  clear HU HR
  obtain ⟨a2, c2, rfl⟩ := owns_slice o3
  have HT3 : Hid (Touch w w3 []) := HT.out.trans t3 (by simp)
  have HX3 : HidC _ _ _ _ _ := HX.out w3 a2 _ c2 P HT3.out (vrow_of o3) rfl HL.out
  clear HX o3 t3 c0 x0 x1 x2
  go_wp2_with fail
  refine HX3.out.mono ?_
  rintro e w4 ⟨rfl, hx⟩
  clear HX3
  have HF : Hid _ := step_tail (D2 := { D with st := D.st.take (n - M) ++ P }) HO.out HT3.out rfl hx (D.pc + 1)
  obtain ⟨v', h4, _⟩ := hx
  obtain ⟨d0, d1⟩ := HD.out _ _ _ h4
  go_wp2
  go_end0
  exact ⟨rfl, HF.out.2⟩

end Go.Proofs.Ytlndbligbpfdpaa
/-
  package spec: step BY ITS CONTRACT, Jump and IfZero. Written by mkstep.py.
-/
namespace Go.Proofs.Ytlndbligbpfdpaa
set_option linter.unusedVariables false
set_option linter.unusedSimpArgs false
open Go.RowKit
attribute [local go_sem] Oper.semAt_some

set_option maxRecDepth 100000 in
set_option maxHeartbeats 2000000 in
theorem step_jump {w : World} {b B : Nat} {T : TypeId} {tl : List Value} {vo : Value} {ap : Option Addr} {np cp : Nat} {ao : Option Addr} {n cap : Nat} {D : WD} (h : WOwn w b B T tl (.slice ao n cap) vo (.slice ap np cp) D) (hn : n ≤ 1000) (hpc : 0 ≤ D.pc ∧ D.pc < 9223372036854775807) {ia iv : Int} (hh : Calls Try.prog 40 #[.pointer (some ⟨b, 0, none⟩)] w fun e w' => e = .returned (.agg #[.int .u8 19, .int .i64 ia, .int .u64 iv]) ∧ Touch w w' []) (hf : fitsW 19 n = true) (ha : ia ≤ np) :
    Calls Try.prog 24 #[.pointer (some ⟨b, 0, none⟩)] w (StepP w b B T tl (.slice ao n cap) vo (.slice ap np cp) { D with st := D.st.take (n - 0) ++ [], pc := ia }) := by
  have HH : HidC _ _ _ _ _ := ⟨hh⟩
  have HG : Hid (∀ W, HidC Try.prog 42 #[.int .u8 19] W fun e w' => e = .returned (.bool true) ∧ W = w') := fun W => ⟨hangs_any 19 W⟩
  have hlen : D.st.length = n := by
    obtain ⟨a5, c5, e⟩ := owns_slice h.s
    simp only [Value.slice.injEq] at e
    exact e.2.1.symm
  have hpn : 0 ≤ n := by
    unfold fitsW at hf
    simp only [Bool.and_eq_true, decide_eq_true_eq] at hf
    have h5 : popV 19 = 0 := rfl
    omega
  have HP : Hid (∀ W, Touch w W [] → HidC Try.prog 43 #[.pointer (some ⟨b, 0, none⟩), .int .u8 19] W fun e w' => (∃ a c, e = .returned (.slice a 0 c) ∧ VRow W (.slice a 0 c) (D.st.drop (n - 0))) ∧ W = w') := fun W t => ⟨popped_ok (h.o.touch t (by simp)) (ownsRow_touch h.s t (by simp)) hn 19 hf⟩
  have HU : Hid (∀ W a c, HidC Try.prog 47 #[.pointer (some ⟨b, 0, none⟩), .agg #[.int .u8 19, .int .i64 ia, .int .u64 iv], .slice a 0 c] W (PushP W [])) := fun W a c => ⟨pushed_none 19 ia iv _ (by decide)⟩
  have HX : Hid (∀ W a2 m c2 pu, Touch w W [] → VRow W (.slice a2 m c2) pu → m = pu.length → m ≤ 1000 → HidC Try.prog 46 #[.pointer (some ⟨b, 0, none⟩), .int .i64 0, .slice a2 m c2] W (ExchP W b B T tl (.slice ao n cap) vo (.slice ap np cp) { D with st := D.st.take (n - 0) ++ pu })) := fun W a2 m c2 pu t hr hm hm2 => ⟨exchange_any (h.o.touch t (by simp)) (ownsRow_touch h.s t (by simp)) (Nat.le_trans h.hB t.size) h.hb hn 0 hpn hr hm hm2⟩
  have HC : Hid (∀ W, Touch w W [] → W.cell? ⟨b, 0, none⟩ = some (.int .i64 D.pc)) := fun W t => (h.o.touch t (by simp)).cells.c0
  have hwr : IntKind.i64.wrap (D.pc + 1) = D.pc + 1 := by rw [IntKind.wrap_i64]; omega
  have HO : Hid _ := h
  have HD : Hid (∀ W : World, ∀ v' D2, WObj W b T tl v' vo (.slice ap np cp) D2 → W.cell? ⟨b, 0, none⟩ = some (.int .i64 D2.pc) ∧ W.frozen? ⟨b, 0, none⟩ = false) := fun W v' D2 q => ⟨q.cells.c0, q.fr 0⟩
  have HTG : Hid (∀ W, Touch w W [] → HidC Try.prog 44 #[.pointer (some ⟨b, 0, none⟩), .int .i64 ia] W fun e w' => e = .returned (.int .i64 ia) ∧ W = w') := fun W t => ⟨target_ok (h.o.touch t (by simp)) ia ha⟩
  clear hh h hf hpn hn
  go_enter Try.func24, Try.ntmps24
  go_wp2_with fail
  refine HH.out.mono ?_
  rintro e w1 ⟨rfl, t1⟩
  clear HH
  have HT : Hid (Touch w (w1.alloc (.cells #[.int .u8 19, .int .i64 ia, .int .u64 iv] 48)) []) := t1.alloc _
  obtain ⟨x0, x1, x2⟩ := (BoxI.new w1 19 ia iv).cells
  have c0 := HC.out _ HT.out
  go_wp2_with fail
  refine (HG.out _).out.mono ?_
  rintro e _ ⟨rfl, rfl⟩
  clear HG
  go_wp2_with fail
  refine (sneed_ok 3 _).mono ?_
  rintro e _ ⟨rfl, rfl⟩
  go_wp2_with fail
  refine (HP.out _ HT.out).out.mono ?_
  rintro e _ ⟨⟨a, c, rfl, hr⟩, rfl⟩
  go_wp2_with fail
  refine (HTG.out _ HT.out).out.mono ?_
  rintro e _ ⟨rfl, rfl⟩
  go_wp2_with fail
  refine (HU.out _ _ c).out.mono ?_
  rintro e w3 ⟨v3, rfl, o3, t3⟩
  clear HU
  obtain ⟨a2, c2, rfl⟩ := owns_slice o3
  have HT3 : Hid (Touch w w3 []) := HT.out.trans t3 (by simp)
  have HX3 : HidC _ _ _ _ _ := HX.out w3 a2 _ c2 [] HT3.out (vrow_of o3) rfl (by simp)
  clear HX o3 t3 c0 x0 x1 x2
  go_wp2_with fail
  refine HX3.out.mono ?_
  rintro e w4 ⟨rfl, hx⟩
  clear HX3
  have HF : Hid _ := step_tail (D2 := { D with st := D.st.take (n - 0) ++ [] }) HO.out HT3.out rfl hx (ia)
  obtain ⟨v', h4, _⟩ := hx
  obtain ⟨d0, d1⟩ := HD.out _ _ _ h4
  go_wp2
  go_end0
  exact ⟨rfl, HF.out.2⟩

set_option maxRecDepth 100000 in
set_option maxHeartbeats 2000000 in
theorem step_jump_no {w : World} {b B : Nat} {T : TypeId} {tl : List Value} {vo : Value} {ap : Option Addr} {np cp : Nat} {ao : Option Addr} {n cap : Nat} {D : WD} (h : WOwn w b B T tl (.slice ao n cap) vo (.slice ap np cp) D) (hn : n ≤ 1000) (hpc : 0 ≤ D.pc ∧ D.pc < 9223372036854775807) {ia iv : Int} (hh : Calls Try.prog 40 #[.pointer (some ⟨b, 0, none⟩)] w fun e w' => e = .returned (.agg #[.int .u8 19, .int .i64 ia, .int .u64 iv]) ∧ Touch w w' []) (hf : fitsW 19 n = true) (ha : ¬ ia ≤ np) :
    Calls Try.prog 24 #[.pointer (some ⟨b, 0, none⟩)] w (StuckP 2 w) := by
  have HH : HidC _ _ _ _ _ := ⟨hh⟩
  have HG : Hid (∀ W, HidC Try.prog 42 #[.int .u8 19] W fun e w' => e = .returned (.bool true) ∧ W = w') := fun W => ⟨hangs_any 19 W⟩
  have hlen : D.st.length = n := by
    obtain ⟨a5, c5, e⟩ := owns_slice h.s
    simp only [Value.slice.injEq] at e
    exact e.2.1.symm
  have hpn : 0 ≤ n := by
    unfold fitsW at hf
    simp only [Bool.and_eq_true, decide_eq_true_eq] at hf
    have h5 : popV 19 = 0 := rfl
    omega
  have HP : Hid (∀ W, Touch w W [] → HidC Try.prog 43 #[.pointer (some ⟨b, 0, none⟩), .int .u8 19] W fun e w' => (∃ a c, e = .returned (.slice a 0 c) ∧ VRow W (.slice a 0 c) (D.st.drop (n - 0))) ∧ W = w') := fun W t => ⟨popped_ok (h.o.touch t (by simp)) (ownsRow_touch h.s t (by simp)) hn 19 hf⟩
  have HU : Hid (∀ W a c, HidC Try.prog 47 #[.pointer (some ⟨b, 0, none⟩), .agg #[.int .u8 19, .int .i64 ia, .int .u64 iv], .slice a 0 c] W (PushP W [])) := fun W a c => ⟨pushed_none 19 ia iv _ (by decide)⟩
  have HX : Hid (∀ W a2 m c2 pu, Touch w W [] → VRow W (.slice a2 m c2) pu → m = pu.length → m ≤ 1000 → HidC Try.prog 46 #[.pointer (some ⟨b, 0, none⟩), .int .i64 0, .slice a2 m c2] W (ExchP W b B T tl (.slice ao n cap) vo (.slice ap np cp) { D with st := D.st.take (n - 0) ++ pu })) := fun W a2 m c2 pu t hr hm hm2 => ⟨exchange_any (h.o.touch t (by simp)) (ownsRow_touch h.s t (by simp)) (Nat.le_trans h.hB t.size) h.hb hn 0 hpn hr hm hm2⟩
  have HC : Hid (∀ W, Touch w W [] → W.cell? ⟨b, 0, none⟩ = some (.int .i64 D.pc)) := fun W t => (h.o.touch t (by simp)).cells.c0
  have hwr : IntKind.i64.wrap (D.pc + 1) = D.pc + 1 := by rw [IntKind.wrap_i64]; omega
  have HO : Hid _ := h
  have HD : Hid (∀ W : World, ∀ v' D2, WObj W b T tl v' vo (.slice ap np cp) D2 → W.cell? ⟨b, 0, none⟩ = some (.int .i64 D2.pc) ∧ W.frozen? ⟨b, 0, none⟩ = false) := fun W v' D2 q => ⟨q.cells.c0, q.fr 0⟩
  have HTG : Hid (∀ W, Touch w W [] → HidC Try.prog 44 #[.pointer (some ⟨b, 0, none⟩), .int .i64 ia] W (StuckP 2 W)) := fun W t => ⟨target_no (h.o.touch t (by simp)) ia ha⟩
  clear hh h hf hpn hn
  go_enter Try.func24, Try.ntmps24
  go_wp2_with fail
  refine HH.out.mono ?_
  rintro e w1 ⟨rfl, t1⟩
  clear HH
  have HT : Hid (Touch w (w1.alloc (.cells #[.int .u8 19, .int .i64 ia, .int .u64 iv] 48)) []) := t1.alloc _
  obtain ⟨x0, x1, x2⟩ := (BoxI.new w1 19 ia iv).cells
  have c0 := HC.out _ HT.out
  go_wp2_with fail
  refine (HG.out _).out.mono ?_
  rintro e _ ⟨rfl, rfl⟩
  clear HG
  go_wp2_with fail
  refine (sneed_ok 3 _).mono ?_
  rintro e _ ⟨rfl, rfl⟩
  go_wp2_with fail
  refine (HP.out _ HT.out).out.mono ?_
  rintro e _ ⟨⟨a, c, rfl, hr⟩, rfl⟩
  go_wp2_with fail
  refine (HTG.out _ HT.out).out.mono ?_
  rintro e w2 ⟨rfl, t2⟩
  exact ⟨rfl, rfl, HT.out.trans t2 (by simp)⟩

set_option maxRecDepth 100000 in
set_option maxHeartbeats 2000000 in
theorem step_zero_stay {w : World} {b B : Nat} {T : TypeId} {tl : List Value} {vo : Value} {ap : Option Addr} {np cp : Nat} {ao : Option Addr} {n cap : Nat} {D : WD} (h : WOwn w b B T tl (.slice ao n cap) vo (.slice ap np cp) D) (hn : n ≤ 1000) (hpc : 0 ≤ D.pc ∧ D.pc < 9223372036854775807) {ia iv : Int} (hh : Calls Try.prog 40 #[.pointer (some ⟨b, 0, none⟩)] w fun e w' => e = .returned (.agg #[.int .u8 20, .int .i64 ia, .int .u64 iv]) ∧ Touch w w' []) (hf : fitsW 20 n = true) (htr : truthB (classB (ofB (D.st.getD (n - 1) 0).toNat)) = true) :
    Calls Try.prog 24 #[.pointer (some ⟨b, 0, none⟩)] w (StepP w b B T tl (.slice ao n cap) vo (.slice ap np cp) { D with st := D.st.take (n - 1) ++ [], pc := D.pc + 1 }) := by
  have HH : HidC _ _ _ _ _ := ⟨hh⟩
  have HG : Hid (∀ W, HidC Try.prog 42 #[.int .u8 20] W fun e w' => e = .returned (.bool true) ∧ W = w') := fun W => ⟨hangs_any 20 W⟩
  have hlen : D.st.length = n := by
    obtain ⟨a5, c5, e⟩ := owns_slice h.s
    simp only [Value.slice.injEq] at e
    exact e.2.1.symm
  have hpn : 1 ≤ n := by
    unfold fitsW at hf
    simp only [Bool.and_eq_true, decide_eq_true_eq] at hf
    have h5 : popV 20 = 1 := rfl
    omega
  have HP : Hid (∀ W, Touch w W [] → HidC Try.prog 43 #[.pointer (some ⟨b, 0, none⟩), .int .u8 20] W fun e w' => (∃ a c, e = .returned (.slice a 1 c) ∧ VRow W (.slice a 1 c) (D.st.drop (n - 1))) ∧ W = w') := fun W t => ⟨popped_ok (h.o.touch t (by simp)) (ownsRow_touch h.s t (by simp)) hn 20 hf⟩
  have HU : Hid (∀ W a c, HidC Try.prog 47 #[.pointer (some ⟨b, 0, none⟩), .agg #[.int .u8 20, .int .i64 ia, .int .u64 iv], .slice a 1 c] W (PushP W [])) := fun W a c => ⟨pushed_none 20 ia iv _ (by decide)⟩
  have HX : Hid (∀ W a2 m c2 pu, Touch w W [] → VRow W (.slice a2 m c2) pu → m = pu.length → m ≤ 1000 → HidC Try.prog 46 #[.pointer (some ⟨b, 0, none⟩), .int .i64 1, .slice a2 m c2] W (ExchP W b B T tl (.slice ao n cap) vo (.slice ap np cp) { D with st := D.st.take (n - 1) ++ pu })) := fun W a2 m c2 pu t hr hm hm2 => ⟨exchange_any (h.o.touch t (by simp)) (ownsRow_touch h.s t (by simp)) (Nat.le_trans h.hB t.size) h.hb hn 1 hpn hr hm hm2⟩
  have HC : Hid (∀ W, Touch w W [] → W.cell? ⟨b, 0, none⟩ = some (.int .i64 D.pc)) := fun W t => (h.o.touch t (by simp)).cells.c0
  have hwr : IntKind.i64.wrap (D.pc + 1) = D.pc + 1 := by rw [IntKind.wrap_i64]; omega
  have HO : Hid _ := h
  have HD : Hid (∀ W : World, ∀ v' D2, WObj W b T tl v' vo (.slice ap np cp) D2 → W.cell? ⟨b, 0, none⟩ = some (.int .i64 D2.pc) ∧ W.frozen? ⟨b, 0, none⟩ = false) := fun W v' D2 q => ⟨q.cells.c0, q.fr 0⟩
  have HTR : Hid (∀ W, HidC Try.prog 45 #[.int .u64 (D.st.getD (n - 1) 0)] W fun e w' => e = .returned (.bool true) ∧ W = w') := fun W => ⟨by have q := truth_any (D.st.getD (n - 1) 0) W; rw [htr] at q; exact q⟩
  have hn1 : 1 ≤ n := hpn
  clear hh h hf hpn hn
  go_enter Try.func24, Try.ntmps24
  go_wp2_with fail
  refine HH.out.mono ?_
  rintro e w1 ⟨rfl, t1⟩
  clear HH
  have HT : Hid (Touch w (w1.alloc (.cells #[.int .u8 20, .int .i64 ia, .int .u64 iv] 48)) []) := t1.alloc _
  obtain ⟨x0, x1, x2⟩ := (BoxI.new w1 20 ia iv).cells
  have c0 := HC.out _ HT.out
  go_wp2_with fail
  refine (HG.out _).out.mono ?_
  rintro e _ ⟨rfl, rfl⟩
  clear HG
  go_wp2_with fail
  refine (sneed_ok 3 _).mono ?_
  rintro e _ ⟨rfl, rfl⟩
  go_wp2_with fail
  refine (HP.out _ HT.out).out.mono ?_
  rintro e _ ⟨⟨a, c, rfl, hr⟩, rfl⟩
  have hgd : (D.st.drop (n - 1)).getD 0 0 = D.st.getD (n - 1) 0 := by simp [List.getD]
  obtain ⟨g, off, rfl, hc⟩ := vrow_at hr (by rw [List.length_drop]; omega) (by omega)
  have hc0 := hc 0 (by omega)
  rw [hgd, Nat.add_zero] at hc0
  clear hc hgd hr
  go_wp2_with fail
  refine (HTR.out _).out.mono ?_
  rintro e _ ⟨rfl, rfl⟩
  go_wp2_with fail
  refine (HU.out _ _ c).out.mono ?_
  rintro e w3 ⟨v3, rfl, o3, t3⟩
  clear HU
  obtain ⟨a2, c2, rfl⟩ := owns_slice o3
  have HT3 : Hid (Touch w w3 []) := HT.out.trans t3 (by simp)
  have HX3 : HidC _ _ _ _ _ := HX.out w3 a2 _ c2 [] HT3.out (vrow_of o3) rfl (by simp)
  clear HX o3 t3 c0 x0 x1 x2
  go_wp2_with fail
  refine HX3.out.mono ?_
  rintro e w4 ⟨rfl, hx⟩
  clear HX3
  have HF : Hid _ := step_tail (D2 := { D with st := D.st.take (n - 1) ++ [] }) HO.out HT3.out rfl hx (D.pc + 1)
  obtain ⟨v', h4, _⟩ := hx
  obtain ⟨d0, d1⟩ := HD.out _ _ _ h4
  go_wp2
  go_end0
  exact ⟨rfl, HF.out.2⟩

set_option maxRecDepth 100000 in
set_option maxHeartbeats 2000000 in
theorem step_zero_go {w : World} {b B : Nat} {T : TypeId} {tl : List Value} {vo : Value} {ap : Option Addr} {np cp : Nat} {ao : Option Addr} {n cap : Nat} {D : WD} (h : WOwn w b B T tl (.slice ao n cap) vo (.slice ap np cp) D) (hn : n ≤ 1000) (hpc : 0 ≤ D.pc ∧ D.pc < 9223372036854775807) {ia iv : Int} (hh : Calls Try.prog 40 #[.pointer (some ⟨b, 0, none⟩)] w fun e w' => e = .returned (.agg #[.int .u8 20, .int .i64 ia, .int .u64 iv]) ∧ Touch w w' []) (hf : fitsW 20 n = true) (htr : truthB (classB (ofB (D.st.getD (n - 1) 0).toNat)) = false) (ha : ia ≤ np) :
    Calls Try.prog 24 #[.pointer (some ⟨b, 0, none⟩)] w (StepP w b B T tl (.slice ao n cap) vo (.slice ap np cp) { D with st := D.st.take (n - 1) ++ [], pc := ia }) := by
  have HH : HidC _ _ _ _ _ := ⟨hh⟩
  have HG : Hid (∀ W, HidC Try.prog 42 #[.int .u8 20] W fun e w' => e = .returned (.bool true) ∧ W = w') := fun W => ⟨hangs_any 20 W⟩
  have hlen : D.st.length = n := by
    obtain ⟨a5, c5, e⟩ := owns_slice h.s
    simp only [Value.slice.injEq] at e
    exact e.2.1.symm
  have hpn : 1 ≤ n := by
    unfold fitsW at hf
    simp only [Bool.and_eq_true, decide_eq_true_eq] at hf
    have h5 : popV 20 = 1 := rfl
    omega
  have HP : Hid (∀ W, Touch w W [] → HidC Try.prog 43 #[.pointer (some ⟨b, 0, none⟩), .int .u8 20] W fun e w' => (∃ a c, e = .returned (.slice a 1 c) ∧ VRow W (.slice a 1 c) (D.st.drop (n - 1))) ∧ W = w') := fun W t => ⟨popped_ok (h.o.touch t (by simp)) (ownsRow_touch h.s t (by simp)) hn 20 hf⟩
  have HU : Hid (∀ W a c, HidC Try.prog 47 #[.pointer (some ⟨b, 0, none⟩), .agg #[.int .u8 20, .int .i64 ia, .int .u64 iv], .slice a 1 c] W (PushP W [])) := fun W a c => ⟨pushed_none 20 ia iv _ (by decide)⟩
  have HX : Hid (∀ W a2 m c2 pu, Touch w W [] → VRow W (.slice a2 m c2) pu → m = pu.length → m ≤ 1000 → HidC Try.prog 46 #[.pointer (some ⟨b, 0, none⟩), .int .i64 1, .slice a2 m c2] W (ExchP W b B T tl (.slice ao n cap) vo (.slice ap np cp) { D with st := D.st.take (n - 1) ++ pu })) := fun W a2 m c2 pu t hr hm hm2 => ⟨exchange_any (h.o.touch t (by simp)) (ownsRow_touch h.s t (by simp)) (Nat.le_trans h.hB t.size) h.hb hn 1 hpn hr hm hm2⟩
  have HC : Hid (∀ W, Touch w W [] → W.cell? ⟨b, 0, none⟩ = some (.int .i64 D.pc)) := fun W t => (h.o.touch t (by simp)).cells.c0
  have hwr : IntKind.i64.wrap (D.pc + 1) = D.pc + 1 := by rw [IntKind.wrap_i64]; omega
  have HO : Hid _ := h
  have HD : Hid (∀ W : World, ∀ v' D2, WObj W b T tl v' vo (.slice ap np cp) D2 → W.cell? ⟨b, 0, none⟩ = some (.int .i64 D2.pc) ∧ W.frozen? ⟨b, 0, none⟩ = false) := fun W v' D2 q => ⟨q.cells.c0, q.fr 0⟩
  have HTR : Hid (∀ W, HidC Try.prog 45 #[.int .u64 (D.st.getD (n - 1) 0)] W fun e w' => e = .returned (.bool false) ∧ W = w') := fun W => ⟨by have q := truth_any (D.st.getD (n - 1) 0) W; rw [htr] at q; exact q⟩
  have hn1 : 1 ≤ n := hpn
  have HTG : Hid (∀ W, Touch w W [] → HidC Try.prog 44 #[.pointer (some ⟨b, 0, none⟩), .int .i64 ia] W fun e w' => e = .returned (.int .i64 ia) ∧ W = w') := fun W t => ⟨target_ok (h.o.touch t (by simp)) ia ha⟩
  clear hh h hf hpn hn
  go_enter Try.func24, Try.ntmps24
  go_wp2_with fail
  refine HH.out.mono ?_
  rintro e w1 ⟨rfl, t1⟩
  clear HH
  have HT : Hid (Touch w (w1.alloc (.cells #[.int .u8 20, .int .i64 ia, .int .u64 iv] 48)) []) := t1.alloc _
  obtain ⟨x0, x1, x2⟩ := (BoxI.new w1 20 ia iv).cells
  have c0 := HC.out _ HT.out
  go_wp2_with fail
  refine (HG.out _).out.mono ?_
  rintro e _ ⟨rfl, rfl⟩
  clear HG
  go_wp2_with fail
  refine (sneed_ok 3 _).mono ?_
  rintro e _ ⟨rfl, rfl⟩
  go_wp2_with fail
  refine (HP.out _ HT.out).out.mono ?_
  rintro e _ ⟨⟨a, c, rfl, hr⟩, rfl⟩
  have hgd : (D.st.drop (n - 1)).getD 0 0 = D.st.getD (n - 1) 0 := by simp [List.getD]
  obtain ⟨g, off, rfl, hc⟩ := vrow_at hr (by rw [List.length_drop]; omega) (by omega)
  have hc0 := hc 0 (by omega)
  rw [hgd, Nat.add_zero] at hc0
  clear hc hgd hr
  go_wp2_with fail
  refine (HTR.out _).out.mono ?_
  rintro e _ ⟨rfl, rfl⟩
  go_wp2_with fail
  refine (HTG.out _ HT.out).out.mono ?_
  rintro e _ ⟨rfl, rfl⟩
  go_wp2_with fail
  refine (HU.out _ _ c).out.mono ?_
  rintro e w3 ⟨v3, rfl, o3, t3⟩
  clear HU
  obtain ⟨a2, c2, rfl⟩ := owns_slice o3
  have HT3 : Hid (Touch w w3 []) := HT.out.trans t3 (by simp)
  have HX3 : HidC _ _ _ _ _ := HX.out w3 a2 _ c2 [] HT3.out (vrow_of o3) rfl (by simp)
  clear HX o3 t3 c0 x0 x1 x2
  go_wp2_with fail
  refine HX3.out.mono ?_
  rintro e w4 ⟨rfl, hx⟩
  clear HX3
  have HF : Hid _ := step_tail (D2 := { D with st := D.st.take (n - 1) ++ [] }) HO.out HT3.out rfl hx (ia)
  obtain ⟨v', h4, _⟩ := hx
  obtain ⟨d0, d1⟩ := HD.out _ _ _ h4
  go_wp2
  go_end0
  exact ⟨rfl, HF.out.2⟩

set_option maxRecDepth 100000 in
set_option maxHeartbeats 2000000 in
theorem step_zero_no {w : World} {b B : Nat} {T : TypeId} {tl : List Value} {vo : Value} {ap : Option Addr} {np cp : Nat} {ao : Option Addr} {n cap : Nat} {D : WD} (h : WOwn w b B T tl (.slice ao n cap) vo (.slice ap np cp) D) (hn : n ≤ 1000) (hpc : 0 ≤ D.pc ∧ D.pc < 9223372036854775807) {ia iv : Int} (hh : Calls Try.prog 40 #[.pointer (some ⟨b, 0, none⟩)] w fun e w' => e = .returned (.agg #[.int .u8 20, .int .i64 ia, .int .u64 iv]) ∧ Touch w w' []) (hf : fitsW 20 n = true) (htr : truthB (classB (ofB (D.st.getD (n - 1) 0).toNat)) = false) (ha : ¬ ia ≤ np) :
    Calls Try.prog 24 #[.pointer (some ⟨b, 0, none⟩)] w (StuckP 2 w) := by
  have HH : HidC _ _ _ _ _ := ⟨hh⟩
  have HG : Hid (∀ W, HidC Try.prog 42 #[.int .u8 20] W fun e w' => e = .returned (.bool true) ∧ W = w') := fun W => ⟨hangs_any 20 W⟩
  have hlen : D.st.length = n := by
    obtain ⟨a5, c5, e⟩ := owns_slice h.s
    simp only [Value.slice.injEq] at e
    exact e.2.1.symm
  have hpn : 1 ≤ n := by
    unfold fitsW at hf
    simp only [Bool.and_eq_true, decide_eq_true_eq] at hf
    have h5 : popV 20 = 1 := rfl
    omega
  have HP : Hid (∀ W, Touch w W [] → HidC Try.prog 43 #[.pointer (some ⟨b, 0, none⟩), .int .u8 20] W fun e w' => (∃ a c, e = .returned (.slice a 1 c) ∧ VRow W (.slice a 1 c) (D.st.drop (n - 1))) ∧ W = w') := fun W t => ⟨popped_ok (h.o.touch t (by simp)) (ownsRow_touch h.s t (by simp)) hn 20 hf⟩
  have HU : Hid (∀ W a c, HidC Try.prog 47 #[.pointer (some ⟨b, 0, none⟩), .agg #[.int .u8 20, .int .i64 ia, .int .u64 iv], .slice a 1 c] W (PushP W [])) := fun W a c => ⟨pushed_none 20 ia iv _ (by decide)⟩
  have HX : Hid (∀ W a2 m c2 pu, Touch w W [] → VRow W (.slice a2 m c2) pu → m = pu.length → m ≤ 1000 → HidC Try.prog 46 #[.pointer (some ⟨b, 0, none⟩), .int .i64 1, .slice a2 m c2] W (ExchP W b B T tl (.slice ao n cap) vo (.slice ap np cp) { D with st := D.st.take (n - 1) ++ pu })) := fun W a2 m c2 pu t hr hm hm2 => ⟨exchange_any (h.o.touch t (by simp)) (ownsRow_touch h.s t (by simp)) (Nat.le_trans h.hB t.size) h.hb hn 1 hpn hr hm hm2⟩
  have HC : Hid (∀ W, Touch w W [] → W.cell? ⟨b, 0, none⟩ = some (.int .i64 D.pc)) := fun W t => (h.o.touch t (by simp)).cells.c0
  have hwr : IntKind.i64.wrap (D.pc + 1) = D.pc + 1 := by rw [IntKind.wrap_i64]; omega
  have HO : Hid _ := h
  have HD : Hid (∀ W : World, ∀ v' D2, WObj W b T tl v' vo (.slice ap np cp) D2 → W.cell? ⟨b, 0, none⟩ = some (.int .i64 D2.pc) ∧ W.frozen? ⟨b, 0, none⟩ = false) := fun W v' D2 q => ⟨q.cells.c0, q.fr 0⟩
  have HTR : Hid (∀ W, HidC Try.prog 45 #[.int .u64 (D.st.getD (n - 1) 0)] W fun e w' => e = .returned (.bool false) ∧ W = w') := fun W => ⟨by have q := truth_any (D.st.getD (n - 1) 0) W; rw [htr] at q; exact q⟩
  have hn1 : 1 ≤ n := hpn
  have HTG : Hid (∀ W, Touch w W [] → HidC Try.prog 44 #[.pointer (some ⟨b, 0, none⟩), .int .i64 ia] W (StuckP 2 W)) := fun W t => ⟨target_no (h.o.touch t (by simp)) ia ha⟩
  clear hh h hf hpn hn
  go_enter Try.func24, Try.ntmps24
  go_wp2_with fail
  refine HH.out.mono ?_
  rintro e w1 ⟨rfl, t1⟩
  clear HH
  have HT : Hid (Touch w (w1.alloc (.cells #[.int .u8 20, .int .i64 ia, .int .u64 iv] 48)) []) := t1.alloc _
  obtain ⟨x0, x1, x2⟩ := (BoxI.new w1 20 ia iv).cells
  have c0 := HC.out _ HT.out
  go_wp2_with fail
  refine (HG.out _).out.mono ?_
  rintro e _ ⟨rfl, rfl⟩
  clear HG
  go_wp2_with fail
  refine (sneed_ok 3 _).mono ?_
  rintro e _ ⟨rfl, rfl⟩
  go_wp2_with fail
  refine (HP.out _ HT.out).out.mono ?_
  rintro e _ ⟨⟨a, c, rfl, hr⟩, rfl⟩
  have hgd : (D.st.drop (n - 1)).getD 0 0 = D.st.getD (n - 1) 0 := by simp [List.getD]
  obtain ⟨g, off, rfl, hc⟩ := vrow_at hr (by rw [List.length_drop]; omega) (by omega)
  have hc0 := hc 0 (by omega)
  rw [hgd, Nat.add_zero] at hc0
  clear hc hgd hr
  go_wp2_with fail
  refine (HTR.out _).out.mono ?_
  rintro e _ ⟨rfl, rfl⟩
  go_wp2_with fail
  refine (HTG.out _ HT.out).out.mono ?_
  rintro e w2 ⟨rfl, t2⟩
  exact ⟨rfl, rfl, HT.out.trans t2 (by simp)⟩

end Go.Proofs.Ytlndbligbpfdpaa
/-
  package spec: step BY ITS CONTRACT, SetLocal.
-/
namespace Go.Proofs.Ytlndbligbpfdpaa
set_option linter.unusedVariables false
set_option linter.unusedSimpArgs false
open Go.RowKit
attribute [local go_sem] Oper.semAt_some

/-- A local is set. -/
def WD.setL (D : WD) (k : Int) (x : Int) : WD := if k = 0 then { D with l0 := x } else if k = 1 then { D with l1 := x } else if k = 2 then { D with l2 := x } else { D with l3 := x }
theorem WD.setL_st (D : WD) (k x : Int) : (D.setL k x).st = D.st := by unfold WD.setL; split; rfl; split; rfl; split <;> rfl
theorem WD.setL_out (D : WD) (k x : Int) : (D.setL k x).out = D.out := by unfold WD.setL; split; rfl; split; rfl; split <;> rfl
theorem WD.setL_pc (D : WD) (k x : Int) : (D.setL k x).pc = D.pc := by unfold WD.setL; split; rfl; split; rfl; split <;> rfl
theorem WObj.setL {w : World} {b : Nat} {T : TypeId} {tl : List Value} {vs vo vp : Value} {D : WD} (h : WObj w b T tl vs vo vp D) (k : Nat) (hk : k < 4) (x : Int) : WObj (w.setCell ⟨b, 2 + k, none⟩ (.int .u64 x)) b T tl vs vo vp (D.setL k x) := ⟨by
  rw [heap_setCell_same _ _ _ _ _ _ h.st]
  have hk : k = 0 ∨ k = 1 ∨ k = 2 ∨ k = 3 := by omega
  rcases hk with rfl | rfl | rfl | rfl <;> simp [WD.setL]⟩
theorem WObj.locAt {w : World} {b : Nat} {T : TypeId} {tl : List Value} {vs vo vp : Value} {D : WD} (h : WObj w b T tl vs vo vp D) (k : Nat) (hk : k < 4) : w.cell? ⟨b, 2 + k, none⟩ = some (.int .u64 (D.loc k)) := by
  have hc := h.cells
  have hk : k = 0 ∨ k = 1 ∨ k = 2 ∨ k = 3 := by omega
  rcases hk with rfl | rfl | rfl | rfl
  · exact hc.c2
  · exact hc.c3
  · exact hc.c4
  · exact hc.c5
theorem WOwn.keep {w w' : World} {b B : Nat} {T : TypeId} {tl : List Value} {vs vo vp : Value} {D D' : WD} (h : WOwn w b B T tl vs vo vp D) (t : Touch w w' [b]) (h' : WObj w' b T tl vs vo vp D') (es : D'.st = D.st) (eo : D'.out = D.out) : WOwn w' b B T tl vs vo vp D' := by
  have hB := h.hB
  have hs := t.size
  refine ⟨h', ?_, ?_, h.n, by omega, h.hb, h.hc⟩
  · rw [es]; exact ownsRow_touch h.s t (fun g hg hx => by simp at hx; subst hx; exact h.hb _ hg rfl)
  · rw [eo]; exact ownsRow_touch h.u t (fun g hg hx => by simp at hx; subst hx; exact h.hc _ hg rfl)
theorem WOwn.touch {w w' : World} {b B : Nat} {T : TypeId} {tl : List Value} {vs vo vp : Value} {D : WD} (h : WOwn w b B T tl vs vo vp D) (t : Touch w w' []) : WOwn w' b B T tl vs vo vp D := h.keep (t.mono (by simp)) (h.o.touch t (by simp)) rfl rfl
theorem StepP.after {w W : World} {b B : Nat} {T : TypeId} {tl : List Value} {vs vo vo5 vp : Value} {D : WD} {e : Ending} {w' : World} (t : Touch w W (b :: (vs.ownBlock.toList ++ vo.ownBlock.toList))) (hv : ∀ g, vo5.ownBlock = some g → vo.ownBlock = some g ∨ w.heap.size ≤ g) (h : StepP W b B T tl vs vo5 vp D e w') : StepP w b B T tl vs vo vp D e w' := by
  obtain ⟨rfl, v1, v2, h1, t2, h3, h4⟩ := h
  have hs := t.size
  refine ⟨rfl, v1, v2, h1, t.trans t2 ?_, ?_, ?_⟩
  · intro x hx
    simp at hx
    rcases hx with rfl | hx | hx
    · exact .inl (by simp)
    · exact .inl (by simp [hx])
    · rcases hv x hx with q | q
      · exact .inl (by simp [q])
      · exact .inr q
  · intro g hg
    rcases h3 g hg with q | q
    · exact .inl q
    · exact .inr (by omega)
  · intro g hg
    rcases h4 g hg with q | q
    · exact hv g q
    · exact .inr (by omega)

set_option maxRecDepth 100000 in
set_option maxHeartbeats 2000000 in
theorem step_set {w : World} {b B : Nat} {T : TypeId} {tl : List Value} {vo vp : Value} {ao : Option Addr} {n cap : Nat} {D : WD} (h : WOwn w b B T tl (.slice ao n cap) vo vp D) (hn : n ≤ 1000) (hpc : 0 ≤ D.pc ∧ D.pc < 9223372036854775807) (k : Nat) (hk : k < 4) {iv : Int} (hh : Calls Try.prog 40 #[.pointer (some ⟨b, 0, none⟩)] w fun e w' => e = .returned (.agg #[.int .u8 3, .int .i64 (k : Int), .int .u64 iv]) ∧ Touch w w' []) (hf : fitsW 3 n = true) :
    Calls Try.prog 24 #[.pointer (some ⟨b, 0, none⟩)] w (StepP w b B T tl (.slice ao n cap) vo vp { D.setL k (D.st.getD (n - 1) 0) with st := D.st.take (n - 1) ++ [], pc := D.pc + 1 }) := by
  have HH : HidC _ _ _ _ _ := ⟨hh⟩
  have HG : Hid (∀ W, HidC Try.prog 42 #[.int .u8 3] W fun e w' => e = .returned (.bool true) ∧ W = w') := fun W => ⟨hangs_any 3 W⟩
  have hlen : D.st.length = n := by
    obtain ⟨a5, c5, e⟩ := owns_slice h.s
    simp only [Value.slice.injEq] at e
    exact e.2.1.symm
  have hpn : 1 ≤ n := by
    unfold fitsW at hf
    simp only [Bool.and_eq_true, decide_eq_true_eq] at hf
    have h5 : popV 3 = 1 := rfl
    omega
  have HP : Hid (∀ W, Touch w W [] → HidC Try.prog 43 #[.pointer (some ⟨b, 0, none⟩), .int .u8 3] W fun e w' => (∃ a c, e = .returned (.slice a 1 c) ∧ VRow W (.slice a 1 c) (D.st.drop (n - 1))) ∧ W = w') := fun W t => ⟨popped_ok (h.o.touch t (by simp)) (ownsRow_touch h.s t (by simp)) hn 3 hf⟩
  have HU : Hid (∀ W a c, HidC Try.prog 47 #[.pointer (some ⟨b, 0, none⟩), .agg #[.int .u8 3, .int .i64 (k : Int), .int .u64 iv], .slice a 1 c] W (PushP W [])) := fun W a c => ⟨pushed_none 3 k iv _ (by decide)⟩
  have HC : Hid (∀ W, Touch w W [] → W.cell? ⟨b, 0, none⟩ = some (.int .i64 D.pc)) := fun W t => (h.o.touch t (by simp)).cells.c0
  have hwr : IntKind.i64.wrap (D.pc + 1) = D.pc + 1 := by rw [IntKind.wrap_i64]; omega
  have HO : Hid _ := h
  have HD : Hid (∀ W : World, ∀ v' D2, WObj W b T tl v' vo vp D2 → W.cell? ⟨b, 0, none⟩ = some (.int .i64 D2.pc) ∧ W.frozen? ⟨b, 0, none⟩ = false) := fun W v' D2 q => ⟨q.cells.c0, q.fr 0⟩
  have HN : Hid (n ≤ 1000) := hn
  have HK : Hid (k < 4) := hk
  have hbl := h.o.lt
  have hk4 : (k : Int) < 4 := by omega
  have hk0 : (0 : Int) ≤ k := by omega
  clear hh h hf hn
  go_enter Try.func24, Try.ntmps24
  go_wp2_with fail
  refine HH.out.mono ?_
  rintro e w1 ⟨rfl, t1⟩
  clear HH
  have HT : Hid (Touch w (w1.alloc (.cells #[.int .u8 3, .int .i64 (k : Int), .int .u64 iv] 48)) []) := t1.alloc _
  have HBX : Hid _ := BoxI.new w1 3 k iv
  obtain ⟨x0, x1, x2⟩ := HBX.out.cells
  have c0 := HC.out _ HT.out
  have hbs : b < w1.heap.size := Nat.lt_of_lt_of_le hbl t1.size
  go_wp2_with fail
  refine (HG.out _).out.mono ?_
  rintro e _ ⟨rfl, rfl⟩
  clear HG
  go_wp2_with fail
  refine (sneed_ok 3 _).mono ?_
  rintro e _ ⟨rfl, rfl⟩
  go_wp2_with fail
  refine (HP.out _ HT.out).out.mono ?_
  rintro e _ ⟨⟨a, c, rfl, hr⟩, rfl⟩
  have hgd : (D.st.drop (n - 1)).getD 0 0 = D.st.getD (n - 1) 0 := by simp [List.getD]
  obtain ⟨g, off, rfl, hc⟩ := vrow_at hr (by rw [List.length_drop]; omega) (by omega)
  have hc0 := hc 0 (by omega)
  rw [hgd, Nat.add_zero] at hc0
  clear hc hgd hr HP
  generalize hX : D.st.getD (n - 1) 0 = X at *
  clear hX
  go_wp2_with fail
  generalize hQ : w1.alloc (.cells #[.int .u8 3, .int .i64 (k : Int), .int .u64 iv] 48) = Q at *
  have HQ : Hid _ := hQ
  clear hQ
  have td : Touch Q Q.drew [] := (Touch.refl Q []).drew
  have HOd : Hid (WOwn Q.drew b B T tl (.slice ao n cap) vo vp D) := HO.out.touch (HT.out.trans td (by simp))
  have l0 := HOd.out.o.locAt k hk
  have f0 := HOd.out.o.fr (2 + k)
  have m0 : Q.drew.cell? ⟨g, off, none⟩ = some (.int .u64 X) := hc0
  have m1 : Q.drew.cell? ⟨w1.heap.size, 1, none⟩ = some (.int .i64 (k : Int)) := x1
  clear hc0 x0 x1 x2 c0
  have HO5 : Hid (WOwn (Q.setCell ⟨b, 2 + k, none⟩ (.int .u64 X)).drew b B T tl (.slice ao n cap) vo vp (D.setL k X)) := ((HO.out.touch HT.out).keep ((Touch.refl Q [b]).setCell (.inl (by simp)) _) ((HO.out.touch HT.out).o.setL k hk X) (D.setL_st _ _) (D.setL_out _ _)).touch ((Touch.refl _ []).drew)
  have HT5 : Hid (Touch w (Q.setCell ⟨b, 2 + k, none⟩ (.int .u64 X)).drew (b :: ((Value.slice ao n cap).ownBlock.toList ++ vo.ownBlock.toList))) := ((HT.out.mono (by simp)).setCell (.inl (by simp)) _).drew
  have HB5 : Hid (BoxI (Q.setCell ⟨b, 2 + k, none⟩ (.int .u64 X)).drew w1.heap.size 3 k iv) := (HBX.out.touch ((Touch.refl Q [b]).setCell (.inl (by simp)) _) (by simp; omega)).touch ((Touch.refl _ []).drew) (by simp)
  go_region
  generalize (Q.setCell ⟨b, 2 + k, none⟩ (.int .u64 X)).drew = W5 at *
  clear l0 f0 m0 m1
  obtain ⟨x0, x1, x2⟩ := HB5.out.cells
  have HX : Hid (∀ W a2 m c2 pu, Touch W5 W [] → VRow W (.slice a2 m c2) pu → m = pu.length → m ≤ 1000 → HidC Try.prog 46 #[.pointer (some ⟨b, 0, none⟩), .int .i64 1, .slice a2 m c2] W (ExchP W b B T tl (.slice ao n cap) vo vp { D.setL k X with st := D.st.take (n - 1) ++ pu })) := fun W a2 m c2 pu t hr hm hm2 => ⟨by
    have q := HO5.out.touch t
    have r := exchange_any q.o q.s q.hB q.hb HN.out 1 hpn hr hm hm2
    rw [D.setL_st] at r
    exact r⟩
  go_wp2_with fail
  refine (HU.out _ _ c).out.mono ?_
  rintro e w3 ⟨v3, rfl, o3, t3⟩
  clear HU
  obtain ⟨a2, c2, rfl⟩ := owns_slice o3
  have HT3 : Hid (Touch W5 w3 []) := t3
  have HX3 : HidC _ _ _ _ _ := HX.out w3 a2 _ c2 [] HT3.out (vrow_of o3) rfl (by simp)
  clear HX o3 t3 x0 x1 x2
  go_wp2_with fail
  refine HX3.out.mono ?_
  rintro e w4 ⟨rfl, hx⟩
  clear HX3
  have HF : Hid _ := StepP.after HT5.out (fun g hg => .inl hg) (step_tail (D2 := { D.setL k X with st := D.st.take (n - 1) ++ [] }) HO5.out HT3.out (by rfl) hx (D.pc + 1))
  obtain ⟨v', h4, _⟩ := hx
  obtain ⟨d0, d1⟩ := HD.out _ _ _ h4
  go_wp2
  go_end0
  exact ⟨rfl, HF.out.2⟩

end Go.Proofs.Ytlndbligbpfdpaa
/-
  package spec: step BY ITS CONTRACT, Out.
-/
namespace Go.Proofs.Ytlndbligbpfdpaa
set_option linter.unusedVariables false
set_option linter.unusedSimpArgs false
open Go.RowKit
attribute [local go_sem] Oper.semAt_some

set_option maxRecDepth 100000 in
set_option maxHeartbeats 2000000 in
theorem step_out_no {w : World} {b B : Nat} {T : TypeId} {tl : List Value} {vp : Value} {au : Option Addr} {nu cu : Nat} {ao : Option Addr} {n cap : Nat} {D : WD} (h : WOwn w b B T tl (.slice ao n cap) (.slice au nu cu) vp D) (hn : n ≤ 1000) (hpc : 0 ≤ D.pc ∧ D.pc < 9223372036854775807) {ia iv : Int} (hh : Calls Try.prog 40 #[.pointer (some ⟨b, 0, none⟩)] w fun e w' => e = .returned (.agg #[.int .u8 27, .int .i64 ia, .int .u64 iv]) ∧ Touch w w' []) (hf : fitsW 27 n = true) (hsp : ¬ nu < 24) :
    Calls Try.prog 24 #[.pointer (some ⟨b, 0, none⟩)] w (StuckP 4 w) := by
  have HH : HidC _ _ _ _ _ := ⟨hh⟩
  have HG : Hid (∀ W, HidC Try.prog 42 #[.int .u8 27] W fun e w' => e = .returned (.bool true) ∧ W = w') := fun W => ⟨hangs_any 27 W⟩
  have hlen : D.st.length = n := by
    obtain ⟨a5, c5, e⟩ := owns_slice h.s
    simp only [Value.slice.injEq] at e
    exact e.2.1.symm
  have hpn : 1 ≤ n := by
    unfold fitsW at hf
    simp only [Bool.and_eq_true, decide_eq_true_eq] at hf
    have h5 : popV 27 = 1 := rfl
    omega
  have HP : Hid (∀ W, Touch w W [] → HidC Try.prog 43 #[.pointer (some ⟨b, 0, none⟩), .int .u8 27] W fun e w' => (∃ a c, e = .returned (.slice a 1 c) ∧ VRow W (.slice a 1 c) (D.st.drop (n - 1))) ∧ W = w') := fun W t => ⟨popped_ok (h.o.touch t (by simp)) (ownsRow_touch h.s t (by simp)) hn 27 hf⟩
  have HU : Hid (∀ W a c, HidC Try.prog 47 #[.pointer (some ⟨b, 0, none⟩), .agg #[.int .u8 27, .int .i64 ia, .int .u64 iv], .slice a 1 c] W (PushP W [])) := fun W a c => ⟨pushed_none 27 ia iv _ (by decide)⟩
  have HC : Hid (∀ W, Touch w W [] → W.cell? ⟨b, 0, none⟩ = some (.int .i64 D.pc)) := fun W t => (h.o.touch t (by simp)).cells.c0
  have hwr : IntKind.i64.wrap (D.pc + 1) = D.pc + 1 := by rw [IntKind.wrap_i64]; omega
  have HO : Hid _ := h
  have HC6 : Hid (∀ W, Touch w W [] → W.cell? ⟨b, 6, none⟩ = some (.slice au nu cu)) := fun W t => (h.o.touch t (by simp)).cells.c6
  have HD : Hid (∀ W : World, ∀ v' u' D2, WObj W b T tl v' u' vp D2 → W.cell? ⟨b, 0, none⟩ = some (.int .i64 D2.pc) ∧ W.frozen? ⟨b, 0, none⟩ = false) := fun W v' u' D2 q => ⟨q.cells.c0, q.fr 0⟩
  have HN : Hid (n ≤ 1000) := hn
  have hbl := h.o.lt
  clear hh h hf hn
  go_enter Try.func24, Try.ntmps24
  go_wp2_with fail
  refine HH.out.mono ?_
  rintro e w1 ⟨rfl, t1⟩
  clear HH
  have HT : Hid (Touch w (w1.alloc (.cells #[.int .u8 27, .int .i64 ia, .int .u64 iv] 48)) []) := t1.alloc _
  have HBX : Hid _ := BoxI.new w1 27 ia iv
  obtain ⟨x0, x1, x2⟩ := HBX.out.cells
  have c0 := HC.out _ HT.out
  have c6 := HC6.out _ HT.out
  have hbs : b < w1.heap.size := Nat.lt_of_lt_of_le hbl t1.size
  go_wp2_with fail
  refine (HG.out _).out.mono ?_
  rintro e _ ⟨rfl, rfl⟩
  clear HG
  go_wp2_with fail
  refine (sneed_ok 3 _).mono ?_
  rintro e _ ⟨rfl, rfl⟩
  go_wp2_with fail
  refine (HP.out _ HT.out).out.mono ?_
  rintro e _ ⟨⟨a, c, rfl, hr⟩, rfl⟩
  have hdd : decide ((nu : Int) < 24) = false := decide_eq_false (by omega)
  have hgd : (D.st.drop (n - 1)).getD 0 0 = D.st.getD (n - 1) 0 := by simp [List.getD]
  obtain ⟨g, off, rfl, hc⟩ := vrow_at hr (by rw [List.length_drop]; omega) (by omega)
  have hc0 := hc 0 (by omega)
  rw [hgd, Nat.add_zero] at hc0
  clear hc hgd hr HP
  go_wp2_with fail
  refine (sneed_no 4 _).mono ?_
  rintro e w2 ⟨rfl, t2⟩
  exact ⟨rfl, rfl, HT.out.trans t2 (by simp)⟩

set_option maxRecDepth 100000 in
set_option maxHeartbeats 2000000 in
theorem step_out {w : World} {b B : Nat} {T : TypeId} {tl : List Value} {vp : Value} {au : Option Addr} {nu cu : Nat} {ao : Option Addr} {n cap : Nat} {D : WD} (h : WOwn w b B T tl (.slice ao n cap) (.slice au nu cu) vp D) (hn : n ≤ 1000) (hpc : 0 ≤ D.pc ∧ D.pc < 9223372036854775807) {ia iv : Int} (hh : Calls Try.prog 40 #[.pointer (some ⟨b, 0, none⟩)] w fun e w' => e = .returned (.agg #[.int .u8 27, .int .i64 ia, .int .u64 iv]) ∧ Touch w w' []) (hf : fitsW 27 n = true) (hsp : nu < 24) :
    Calls Try.prog 24 #[.pointer (some ⟨b, 0, none⟩)] w (StepP w b B T tl (.slice ao n cap) (.slice au nu cu) vp { D with out := D.out ++ [D.st.getD (n - 1) 0], st := D.st.take (n - 1) ++ [], pc := D.pc + 1 }) := by
  have HH : HidC _ _ _ _ _ := ⟨hh⟩
  have HG : Hid (∀ W, HidC Try.prog 42 #[.int .u8 27] W fun e w' => e = .returned (.bool true) ∧ W = w') := fun W => ⟨hangs_any 27 W⟩
  have hlen : D.st.length = n := by
    obtain ⟨a5, c5, e⟩ := owns_slice h.s
    simp only [Value.slice.injEq] at e
    exact e.2.1.symm
  have hpn : 1 ≤ n := by
    unfold fitsW at hf
    simp only [Bool.and_eq_true, decide_eq_true_eq] at hf
    have h5 : popV 27 = 1 := rfl
    omega
  have HP : Hid (∀ W, Touch w W [] → HidC Try.prog 43 #[.pointer (some ⟨b, 0, none⟩), .int .u8 27] W fun e w' => (∃ a c, e = .returned (.slice a 1 c) ∧ VRow W (.slice a 1 c) (D.st.drop (n - 1))) ∧ W = w') := fun W t => ⟨popped_ok (h.o.touch t (by simp)) (ownsRow_touch h.s t (by simp)) hn 27 hf⟩
  have HU : Hid (∀ W a c, HidC Try.prog 47 #[.pointer (some ⟨b, 0, none⟩), .agg #[.int .u8 27, .int .i64 ia, .int .u64 iv], .slice a 1 c] W (PushP W [])) := fun W a c => ⟨pushed_none 27 ia iv _ (by decide)⟩
  have HC : Hid (∀ W, Touch w W [] → W.cell? ⟨b, 0, none⟩ = some (.int .i64 D.pc)) := fun W t => (h.o.touch t (by simp)).cells.c0
  have hwr : IntKind.i64.wrap (D.pc + 1) = D.pc + 1 := by rw [IntKind.wrap_i64]; omega
  have HO : Hid _ := h
  have HC6 : Hid (∀ W, Touch w W [] → W.cell? ⟨b, 6, none⟩ = some (.slice au nu cu)) := fun W t => (h.o.touch t (by simp)).cells.c6
  have HD : Hid (∀ W : World, ∀ v' u' D2, WObj W b T tl v' u' vp D2 → W.cell? ⟨b, 0, none⟩ = some (.int .i64 D2.pc) ∧ W.frozen? ⟨b, 0, none⟩ = false) := fun W v' u' D2 q => ⟨q.cells.c0, q.fr 0⟩
  have HN : Hid (n ≤ 1000) := hn
  have hbl := h.o.lt
  clear hh h hf hn
  go_enter Try.func24, Try.ntmps24
  go_wp2_with fail
  refine HH.out.mono ?_
  rintro e w1 ⟨rfl, t1⟩
  clear HH
  have HT : Hid (Touch w (w1.alloc (.cells #[.int .u8 27, .int .i64 ia, .int .u64 iv] 48)) []) := t1.alloc _
  have HBX : Hid _ := BoxI.new w1 27 ia iv
  obtain ⟨x0, x1, x2⟩ := HBX.out.cells
  have c0 := HC.out _ HT.out
  have c6 := HC6.out _ HT.out
  have hbs : b < w1.heap.size := Nat.lt_of_lt_of_le hbl t1.size
  go_wp2_with fail
  refine (HG.out _).out.mono ?_
  rintro e _ ⟨rfl, rfl⟩
  clear HG
  go_wp2_with fail
  refine (sneed_ok 3 _).mono ?_
  rintro e _ ⟨rfl, rfl⟩
  go_wp2_with fail
  refine (HP.out _ HT.out).out.mono ?_
  rintro e _ ⟨⟨a, c, rfl, hr⟩, rfl⟩
  have hdd : decide ((nu : Int) < 24) = true := decide_eq_true (by omega)
  have hgd : (D.st.drop (n - 1)).getD 0 0 = D.st.getD (n - 1) 0 := by simp [List.getD]
  obtain ⟨g, off, rfl, hc⟩ := vrow_at hr (by rw [List.length_drop]; omega) (by omega)
  have hc0 := hc 0 (by omega)
  rw [hgd, Nat.add_zero] at hc0
  clear hc hgd hr HP
  generalize hX : D.st.getD (n - 1) 0 = X at *
  clear hX
  go_wp2_with fail
  refine (sneed_ok 4 _).mono ?_
  rintro e _ ⟨rfl, rfl⟩
  go_wp2_with fail
  generalize hQ : w1.alloc (.cells #[.int .u8 27, .int .i64 ia, .int .u64 iv] 48) = Q at *
  have HQ : Hid _ := hQ
  clear hQ
  have td : Touch Q Q.drew [] := (Touch.refl Q []).drew
  have HOd : Hid (WOwn Q.drew b B T tl (.slice ao n cap) (.slice au nu cu) vp D) := HO.out.touch (HT.out.trans td (by simp))
  have m0 : Q.drew.cell? ⟨g, off, none⟩ = some (.int .u64 X) := hc0
  have m6 : Q.drew.cell? ⟨b, 6, none⟩ = some (.slice au nu cu) := HOd.out.o.cells.c6
  have t6 : Touch Q (Q.alloc (.cells #[.int .u64 X] 25)).drew [] := ((Touch.refl _ []).alloc _).drew
  have HO6 : Hid (WOwn (Q.alloc (.cells #[.int .u64 X] 25)).drew b B T tl (.slice ao n cap) (.slice au nu cu) vp D) := HO.out.touch (HT.out.trans t6 (by simp))
  have n6 := HO6.out.o.cells.c6
  have hul : D.out.length = nu := by
    obtain ⟨a5, c5, e⟩ := owns_slice HO.out.u
    simp only [Value.slice.injEq] at e
    exact e.2.1.symm
  obtain ⟨a7, c7, w7, hrun, ho7, t7, hb7⟩ := val_app HO6.out.u (by omega) HO6.out.hB (vrow_of (ownsRow_touch (own_one Q 0 (by omega) X) ((Touch.refl _ []).drew) (by simp))) rfl (by omega) 23
  have h7 : WObj w7 b T tl (.slice ao n cap) (.slice au nu cu) vp D := HO6.out.o.touch t7 (fun hx => HO.out.hc b (by simpa using hx) rfl)
  have n7 := h7.cells.c6
  have f7 := h7.fr 6
  rw [hul] at hrun ho7 hb7
  clear hc0 x0 x1 x2 c0 c6 hdd
  have hbl := HO.out.o.lt
  have hn7 : b ∉ (Value.slice au nu cu).ownBlock.toList := fun hx => HO.out.hc b (by simpa using hx) rfl
  have tQ7 : Touch Q w7 (Value.slice au nu cu).ownBlock.toList := (t6.mono (by simp)).trans t7 (fun x hx => .inl hx)
  have tS : Touch w7 (w7.setCell ⟨b, 6, none⟩ (.slice a7 (nu + 1) c7)) [b] := (Touch.refl w7 [b]).setCell (.inl (by simp)) _
  have hw67 : ∀ g, (Value.slice a7 (nu + 1) c7).ownBlock = some g → (Value.slice au nu cu).ownBlock = some g ∨ w.heap.size ≤ g := fun g hg => by
    rcases hb7 g hg with q | q
    · exact .inl q
    · have := (HT.out.trans t6 (by simp)).size
      exact .inr (by omega)
  have hs7 : valOwn w7 B (.slice ao n cap) D.st := ownsRow_touch HO6.out.s t7 (fun g hg hx => HO6.out.n g hg (by simpa using hx))
  have hnb7 : ∀ g, (Value.slice a7 (nu + 1) c7).ownBlock = some g → g ≠ b := fun g hg => by
    rcases hw67 g hg with q | q
    · exact HO.out.hc g q
    · omega
  have HO5 : Hid (WOwn (w7.setCell ⟨b, 6, none⟩ (.slice a7 (nu + 1) c7)) b B T tl (.slice ao n cap) (.slice a7 (nu + 1) c7) vp { D with out := D.out ++ [X] }) := by
    refine ⟨h7.set6 _ _, ownsRow_touch hs7 tS (fun g hg hx => by simp at hx; subst hx; exact HO.out.hb _ hg rfl), ownsRow_touch ho7 tS (fun g hg hx => by simp at hx; subst hx; exact hnb7 _ hg rfl), ?_, ?_, HO.out.hb, hnb7⟩
    · intro g hg hg2
      rcases hb7 g hg2 with q | q
      · exact HO6.out.n g hg q
      · have := own_lt HO6.out.s g hg; omega
    · have := HO6.out.hB
      have := t7.size
      have := tS.size
      omega
  have HT5 : Hid (Touch w (w7.setCell ⟨b, 6, none⟩ (.slice a7 (nu + 1) c7)) (b :: ((Value.slice ao n cap).ownBlock.toList ++ (Value.slice au nu cu).ownBlock.toList))) := ((HT.out.mono (by simp)).trans tQ7 (fun x hx => .inl (by simp at hx; simp [hx]))).setCell (.inl (by simp)) _
  have HB5 : Hid (BoxI (w7.setCell ⟨b, 6, none⟩ (.slice a7 (nu + 1) c7)) w1.heap.size 27 ia iv) := (HBX.out.touch tQ7 (fun hx => by have := own_lt HO.out.u w1.heap.size (by simpa using hx); have := t1.size; omega)).touch tS (by simp; omega)
  have HW : Hid _ := hw67
  clear hnb7 hbl
  clear hw67 hs7 tS tQ7 hn7 t7 hb7 ho7 h7 t6
  go_region_law (first | (refine step_append_run (by rfl) (.tmp 38) (.tmp 42) 23 23 (by rfl) (by rfl) (.slice au nu cu) (.slice (some ⟨Q.heap.size, 0, none⟩) 1 1) (.slice a7 (nu + 1) c7) w7 (by rfl) (by rfl) hrun ?_))
  all_goals
    generalize w7.setCell ⟨b, 6, none⟩ (.slice a7 (nu + 1) c7) = W5 at *
    clear m0 m6 n6 n7 f7 hrun
    obtain ⟨x0, x1, x2⟩ := HB5.out.cells
    have HX : Hid (∀ W a2 m c2 pu, Touch W5 W [] → VRow W (.slice a2 m c2) pu → m = pu.length → m ≤ 1000 → HidC Try.prog 46 #[.pointer (some ⟨b, 0, none⟩), .int .i64 1, .slice a2 m c2] W (ExchP W b B T tl (.slice ao n cap) (.slice a7 (nu + 1) c7) vp { D with out := D.out ++ [X], st := D.st.take (n - 1) ++ pu })) := fun W a2 m c2 pu t hr hm hm2 => ⟨by
      have q := HO5.out.touch t
      exact exchange_any q.o q.s q.hB q.hb HN.out 1 hpn hr hm hm2⟩
    go_wp2_with fail
    refine (HU.out _ _ c).out.mono ?_
    rintro e w3 ⟨v3, rfl, o3, t3⟩
    clear HU
    obtain ⟨a2, c2, rfl⟩ := owns_slice o3
    have HT3 : Hid (Touch W5 w3 []) := t3
    have HX3 : HidC _ _ _ _ _ := HX.out w3 a2 _ c2 [] HT3.out (vrow_of o3) rfl (by simp)
    clear HX o3 t3 x0 x1 x2
    go_wp2_with fail
    refine HX3.out.mono ?_
    rintro e w4 ⟨rfl, hx⟩
    clear HX3
    have HF : Hid _ := StepP.after HT5.out HW.out (step_tail (D2 := { D with out := D.out ++ [X], st := D.st.take (n - 1) ++ [] }) HO5.out HT3.out (by rfl) hx (D.pc + 1))
    obtain ⟨v', h4, _⟩ := hx
    obtain ⟨d0, d1⟩ := HD.out _ _ _ _ h4
    go_wp2
    go_end0
    exact ⟨rfl, HF.out.2⟩

end Go.Proofs.Ytlndbligbpfdpaa

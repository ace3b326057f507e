/-
  package spec: step BY ITS CONTRACT, where its switch has no case.
-/
import Derived.Test.YtlndbligbpfdpaaSpStepN
import Derived.Test.YtlndbligbpfdpaaSpPushA
namespace Go.Proofs.Ytlndbligbpfdpaa
set_option linter.unusedVariables false
set_option linter.unusedSimpArgs false
open Go.RowKit
attribute [local go_sem] Oper.semAt_some

/-- A walk whose lists are its own, none of them twice. -/
structure WOwn (w : World) (b B : Nat) (T : TypeId) (tl : List Value) (vs vo vp : Value) (D : WD) : Prop where
  o : WObj w b T tl vs vo vp D
  s : valOwn w B vs D.st
  u : valOwn w B vo D.out
  n : ∀ g, vs.ownBlock = some g → vo.ownBlock ≠ some g
  hB : B ≤ w.heap.size
  hb : ∀ g, vs.ownBlock = some g → g ≠ b
  hc : ∀ g, vo.ownBlock = some g → g ≠ b
/-- Behind a step. -/
def StepP (w : World) (b B : Nat) (T : TypeId) (tl : List Value) (vs vo vp : Value) (D : WD) (e : Ending) (w' : World) : Prop :=
  e = .returned (.tuple #[]) ∧ ∃ vs' vo', WOwn w' b B T tl vs' vo' vp D ∧ Touch w w' (b :: (vs.ownBlock.toList ++ vo.ownBlock.toList)) ∧ (∀ g, vs'.ownBlock = some g → vs.ownBlock = some g ∨ w.heap.size ≤ g) ∧ (∀ g, vo'.ownBlock = some g → vo.ownBlock = some g ∨ w.heap.size ≤ g)

theorem own_ge {w : World} {B : Nat} {v : Value} {l : List Int} (h : valOwn w B v l) (g : Nat) (hg : v.ownBlock = some g) : B ≤ g := by
  rcases h.2 with ⟨e5, h5⟩ | ⟨g5, cap5, cur5, e5, hb5, _⟩
  · rw [e5] at hg; simp [Value.ownBlock] at hg
  · rw [e5] at hg; simp [Value.ownBlock] at hg; omega
theorem own_lt {w : World} {B : Nat} {v : Value} {l : List Int} (h : valOwn w B v l) (g : Nat) (hg : v.ownBlock = some g) : g < w.heap.size := by
  rcases h.2 with ⟨e5, h5⟩ | ⟨g5, cap5, cur5, e5, hb5, h6, _⟩
  · rw [e5] at hg; simp [Value.ownBlock] at hg
  · rw [e5] at hg; simp [Value.ownBlock] at hg; subst hg; exact lt_of_heap h6

/-- What exchange and the new place leave. -/
theorem step_tail {w w3 w4 : World} {b B : Nat} {T : TypeId} {tl : List Value} {vs vo vp : Value} {D D2 : WD} (h : WOwn w b B T tl vs vo vp D) (t1 : Touch w w3 []) (ho : D2.out = D.out) (hx : ∃ v', WObj w4 b T tl v' vo vp D2 ∧ valOwn w4 B v' D2.st ∧ Touch w3 w4 (b :: vs.ownBlock.toList) ∧ (∀ g, v'.ownBlock = some g → vs.ownBlock = some g ∨ w3.heap.size ≤ g)) (pc : Int) :
    StepP w b B T tl vs vo vp { D2 with pc := pc } (.returned (.tuple #[])) (w4.setCell ⟨b, 0, none⟩ (.int .i64 pc)) := by
  obtain ⟨v', h1, h2, t4, hg4⟩ := hx
  have tb : Touch w4 (w4.setCell ⟨b, 0, none⟩ (.int .i64 pc)) [b] := (Touch.refl w4 [b]).setCell (.inl (by simp)) _
  have hnb : ∀ g, v'.ownBlock = some g → g ≠ b := fun g hg => by
    rcases hg4 g hg with q | q
    · exact h.hb g q
    · have := h.o.lt
      have := t1.size
      omega
  have ht : Touch w w4 (b :: vs.ownBlock.toList) := (t1.mono (by simp)).trans t4 (fun x hx => .inl hx)
  have hu : valOwn w4 B vo D.out := ownsRow_touch h.u ht (fun g hg hs => by
    simp at hs
    rcases hs with rfl | hs
    · exact h.hc _ hg rfl
    · exact h.n g hs hg)
  refine ⟨rfl, v', vo, ⟨h1.set0 pc, ?_, ?_, ?_, ?_, ?_, h.hc⟩, ?_, ?_, fun g hg => .inl hg⟩
  · exact ownsRow_touch h2 tb (fun g hg hs => by simp at hs; subst hs; exact hnb _ hg rfl)
  · show valOwn _ B vo D2.out
    rw [ho]
    exact ownsRow_touch hu tb (fun g hg hs => by simp at hs; subst hs; exact h.hc _ hg rfl)
  · intro g hg hg2
    rcases hg4 g hg with q | q
    · exact h.n g q hg2
    · have := own_lt h.u g hg2
      have := t1.size
      omega
  · have := h.hB
    have := (ht.trans tb (fun x hx => .inl (by simp at hx; simp [hx]))).size
    omega
  · exact hnb
  · exact (ht.mono (fun x hx => by simp at hx ⊢; rcases hx with q | q; exact .inl q; exact .inr (.inl q))).trans tb (fun x hx => .inl (by simp at hx; simp [hx]))
  · intro g hg
    rcases hg4 g hg with q | q
    · exact .inl q
    · have := t1.size
      exact .inr (by omega)

set_option maxRecDepth 100000 in
set_option maxHeartbeats 2000000 in
theorem step_rest {w : World} {b B : Nat} {T : TypeId} {tl : List Value} {vo vp : Value} {ao : Option Addr} {n cap : Nat} {D : WD} (h : WOwn w b B T tl (.slice ao n cap) vo vp D) (hn : n ≤ 1000) (hw : ∀ x ∈ D.st, Wf64 x) (hpc : 0 ≤ D.pc ∧ D.pc < 9223372036854775807) {io ia iv : Int} (hh : Calls Try.prog 40 #[.pointer (some ⟨b, 0, none⟩)] w fun e w' => e = .returned (.agg #[.int .u8 io, .int .i64 ia, .int .u64 iv]) ∧ Touch w w' []) (hpl : plainO io = true) (hf : fitsW io n = true) (hi : io = 2 → 0 ≤ ia ∧ ia < 4) (h27 : io ≠ 27) (h3 : io ≠ 3) (h19 : io ≠ 19) (h20 : io ≠ 20) :
    Calls Try.prog 24 #[.pointer (some ⟨b, 0, none⟩)] w (StepP w b B T tl (.slice ao n cap) vo vp { D with st := D.st.take (n - (popV io).toNat) ++ pushW D ⟨io, ia, iv⟩ (D.st.drop (n - (popV io).toNat)), pc := D.pc + 1 }) := by
  have HH : HidC _ _ _ _ _ := ⟨hh⟩
  have HG : Hid (∀ W, HidC Try.prog 42 #[.int .u8 io] W fun e w' => e = .returned (.bool true) ∧ W = w') := fun W => ⟨by have q := hangs_any io W; rw [hpl] at q; exact q⟩
  have hlen : D.st.length = n := by
    obtain ⟨a5, c5, e⟩ := owns_slice h.s
    simp only [Value.slice.injEq] at e
    exact e.2.1.symm
  have hpn : (popV io).toNat ≤ n := by
    unfold fitsW at hf
    simp only [Bool.and_eq_true, decide_eq_true_eq] at hf
    have := pop_le io
    omega
  have HP : Hid (∀ W, Touch w W [] → HidC Try.prog 43 #[.pointer (some ⟨b, 0, none⟩), .int .u8 io] W fun e w' => (∃ a c, e = .returned (.slice a (popV io).toNat c) ∧ VRow W (.slice a (popV io).toNat c) (D.st.drop (n - (popV io).toNat))) ∧ W = w') := fun W t => ⟨popped_ok (h.o.touch t (by simp)) (ownsRow_touch h.s t (by simp)) hn io hf⟩
  have HU : Hid (∀ W a c, Touch w W [] → VRow W (.slice a (popV io).toNat c) (D.st.drop (n - (popV io).toNat)) → HidC Try.prog 47 #[.pointer (some ⟨b, 0, none⟩), .agg #[.int .u8 io, .int .i64 ia, .int .u64 iv], .slice a (popV io).toNat c] W (PushP W (pushW D ⟨io, ia, iv⟩ (D.st.drop (n - (popV io).toNat))))) := fun W a c t hr => ⟨pushed_any (h.o.touch t (by simp)) ⟨io, ia, iv⟩ hi rfl (by rw [List.length_drop]; omega) (fun x hx => hw x (List.mem_of_mem_drop hx)) hr⟩
  have HX : Hid (∀ W a2 m c2 pu, Touch w W [] → VRow W (.slice a2 m c2) pu → m = pu.length → m ≤ 1000 → HidC Try.prog 46 #[.pointer (some ⟨b, 0, none⟩), .int .i64 ((popV io).toNat : Int), .slice a2 m c2] W (ExchP W b B T tl (.slice ao n cap) vo vp { D with st := D.st.take (n - (popV io).toNat) ++ pu })) := fun W a2 m c2 pu t hr hm hm2 => ⟨exchange_any (h.o.touch t (by simp)) (ownsRow_touch h.s t (by simp)) (Nat.le_trans h.hB t.size) h.hb hn _ hpn hr hm hm2⟩
  have HL : Hid ((pushW D ⟨io, ia, iv⟩ (D.st.drop (n - (popV io).toNat))).length ≤ 1000) := by
    show _ ≤ _
    unfold pushW
    repeat' split
    all_goals simp
  have HC : Hid (∀ W, Touch w W [] → W.cell? ⟨b, 0, none⟩ = some (.int .i64 D.pc)) := fun W t => (h.o.touch t (by simp)).cells.c0
  have hwr : IntKind.i64.wrap (D.pc + 1) = D.pc + 1 := by rw [IntKind.wrap_i64]; omega
  have HO : Hid _ := h
  have HD : Hid (∀ W : World, ∀ v' D2, WObj W b T tl v' vo vp D2 → W.cell? ⟨b, 0, none⟩ = some (.int .i64 D2.pc) ∧ W.frozen? ⟨b, 0, none⟩ = false) := fun W v' D2 q => ⟨q.cells.c0, q.fr 0⟩
  generalize hP : pushW D ⟨io, ia, iv⟩ (D.st.drop (n - (popV io).toNat)) = P at *
  clear hh hpl h hf hlen hpn hi hw hP hn
  generalize hM : (popV io).toNat = M at *
  clear hM
  go_enter Try.func24, Try.ntmps24
  go_wp2_with fail
  refine HH.out.mono ?_
  rintro e w1 ⟨rfl, t1⟩
  clear HH
  have HT : Hid (Touch w (w1.alloc (.cells #[.int .u8 io, .int .i64 ia, .int .u64 iv] 48)) []) := t1.alloc _
  obtain ⟨x0, x1, x2⟩ := (BoxI.new w1 io ia iv).cells
  have c0 := HC.out _ HT.out
  go_wp2_with fail
  refine (HG.out _).out.mono ?_
  rintro e _ ⟨rfl, rfl⟩
  clear HG
  go_wp2_with fail
  refine (sneed_ok 3 _).mono ?_
  rintro e _ ⟨rfl, rfl⟩
  go_wp2_with fail
  refine (HP.out _ HT.out).out.mono ?_
  rintro e _ ⟨⟨a, c, rfl, hr⟩, rfl⟩
  have HR : Hid _ := hr
  clear hr HP
  go_wp2_with fail
  refine (HU.out _ a c HT.out HR.out).out.mono ?_
  rintro e w3 ⟨v3, rfl, o3, t3⟩
  clear HU HR
  obtain ⟨a2, c2, rfl⟩ := owns_slice o3
  have HT3 : Hid (Touch w w3 []) := HT.out.trans t3 (by simp)
  have HX3 : HidC _ _ _ _ _ := HX.out w3 a2 _ c2 P HT3.out (vrow_of o3) rfl HL.out
  clear HX o3 t3 c0 x0 x1 x2
  go_wp2_with fail
  refine HX3.out.mono ?_
  rintro e w4 ⟨rfl, hx⟩
  clear HX3
  have HF : Hid _ := step_tail (D2 := { D with st := D.st.take (n - M) ++ P }) HO.out HT3.out rfl hx (D.pc + 1)
  obtain ⟨v', h4, _⟩ := hx
  obtain ⟨d0, d1⟩ := HD.out _ _ _ h4
  go_wp2
  go_end0
  exact ⟨rfl, HF.out.2⟩

end Go.Proofs.Ytlndbligbpfdpaa

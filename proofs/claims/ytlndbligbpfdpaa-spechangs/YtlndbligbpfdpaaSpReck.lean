/-
  package spec: reckoned, popped BY THEIR CONTRACTS.
-/
import Derived.Test.YtlndbligbpfdpaaAllB
import Derived.Test.YtlndbligbpfdpaaValueRefs2
import Derived.Test.YtlndbligbpfdpaaVfEff
namespace Go.Proofs.Ytlndbligbpfdpaa
set_option linter.unusedVariables false
set_option linter.unusedSimpArgs false
open Go.RowKit
attribute [local go_sem] Oper.semAt_some

/-- What an operation makes of two values. -/
def reckV (o a b : Int) : Int :=
  if o = 8 then (arithB .add (ofB a.toNat) (ofB b.toNat) : Int) else if o = 9 then (arithB .sub (ofB a.toNat) (ofB b.toNat) : Int) else if o = 10 then (arithB .mul (ofB a.toNat) (ofB b.toNat) : Int) else if o = 11 then (arithB .quo (ofB a.toNat) (ofB b.toNat) : Int) else if o = 13 then oneV (lessB (ofB a.toNat) (ofB b.toNat)) else oneV (((ofB a.toNat : Nat) : Int) == (ofB b.toNat : Nat))

set_option maxRecDepth 100000 in
set_option maxHeartbeats 1000000 in
theorem reckoned_any (o a b : Int) (w : World) : Calls Try.prog 71 #[.int .u8 o, .int .u64 a, .int .u64 b] w fun e w' => e = .returned (.int .u64 (reckV o a b)) ∧ Touch w w' [] := by
  rcases (show o = 8 ∨ o = 9 ∨ o = 10 ∨ o = 11 ∨ o = 13 ∨ (o ≠ 8 ∧ o ≠ 9 ∧ o ≠ 10 ∧ o ≠ 11 ∧ o ≠ 13) by omega) with rfl | rfl | rfl | rfl | rfl | ⟨h8, h9, h10, h11, h13⟩
  · have hc : HidC _ _ _ _ _ := ⟨add_any a b w⟩
    have e : reckV 8 a b = (arithB .add (ofB a.toNat) (ofB b.toNat) : Int) := rfl
    rw [e]
    generalize (arithB .add (ofB a.toNat) (ofB b.toNat)) = x at *
    go_enter Try.func71, Try.ntmps71
    go_wp2_with fail
    refine hc.out.mono ?_
    rintro e w1 ⟨rfl, t1⟩
    have HT : Hid _ := t1
    clear hc t1
    go_wp2
    go_ret
    exact ⟨rfl, HT.out⟩
  · have hc : HidC _ _ _ _ _ := ⟨sub_any a b w⟩
    have e : reckV 9 a b = (arithB .sub (ofB a.toNat) (ofB b.toNat) : Int) := rfl
    rw [e]
    generalize (arithB .sub (ofB a.toNat) (ofB b.toNat)) = x at *
    go_enter Try.func71, Try.ntmps71
    go_wp2_with fail
    refine hc.out.mono ?_
    rintro e w1 ⟨rfl, t1⟩
    have HT : Hid _ := t1
    clear hc t1
    go_wp2
    go_ret
    exact ⟨rfl, HT.out⟩
  · have hc : HidC _ _ _ _ _ := ⟨mul_any a b w⟩
    have e : reckV 10 a b = (arithB .mul (ofB a.toNat) (ofB b.toNat) : Int) := rfl
    rw [e]
    generalize (arithB .mul (ofB a.toNat) (ofB b.toNat)) = x at *
    go_enter Try.func71, Try.ntmps71
    go_wp2_with fail
    refine hc.out.mono ?_
    rintro e w1 ⟨rfl, t1⟩
    have HT : Hid _ := t1
    clear hc t1
    go_wp2
    go_ret
    exact ⟨rfl, HT.out⟩
  · have hc : HidC _ _ _ _ _ := ⟨div_any a b w⟩
    have e : reckV 11 a b = (arithB .quo (ofB a.toNat) (ofB b.toNat) : Int) := rfl
    rw [e]
    generalize (arithB .quo (ofB a.toNat) (ofB b.toNat)) = x at *
    go_enter Try.func71, Try.ntmps71
    go_wp2_with fail
    refine hc.out.mono ?_
    rintro e w1 ⟨rfl, t1⟩
    have HT : Hid _ := t1
    clear hc t1
    go_wp2
    go_ret
    exact ⟨rfl, HT.out⟩
  · have hc : HidC _ _ _ _ _ := ⟨less_any a b w⟩
    have e : reckV 13 a b = oneV (lessB (ofB a.toNat) (ofB b.toNat)) := rfl
    rw [e]
    generalize lessB (ofB a.toNat) (ofB b.toNat) = x at *
    have ht : HidC _ _ _ _ _ := ⟨struth_any x w⟩
    go_enter Try.func71, Try.ntmps71
    go_wp2_with fail
    refine hc.out.mono ?_
    rintro e w1 ⟨rfl, rfl⟩
    clear hc
    go_wp2_with fail
    refine ht.out.mono ?_
    rintro e w1 ⟨rfl, rfl⟩
    clear ht
    go_wp2
    go_ret
    exact ⟨rfl, Touch.refl _ _⟩
  · have hc : HidC _ _ _ _ _ := ⟨same_any a b w⟩
    have e : reckV o a b = oneV (((ofB a.toNat : Nat) : Int) == (ofB b.toNat : Nat)) := by unfold reckV; rw [if_neg h8, if_neg h9, if_neg h10, if_neg h11, if_neg h13]
    rw [e]
    generalize (((ofB a.toNat : Nat) : Int) == (ofB b.toNat : Nat)) = x at *
    have ht : HidC _ _ _ _ _ := ⟨struth_any x w⟩
    clear e
    go_enter Try.func71, Try.ntmps71
    go_wp2_with fail
    refine hc.out.mono ?_
    rintro e w1 ⟨rfl, rfl⟩
    clear hc
    go_wp2_with fail
    refine ht.out.mono ?_
    rintro e w1 ⟨rfl, rfl⟩
    clear ht
    go_wp2
    go_ret
    exact ⟨rfl, Touch.refl _ _⟩

/-- Are the values there that an operation pops, and has what it pushes room? -/
def fitsW (o : Int) (n : Nat) : Bool := decide (popV o ≤ n) && decide ((n : Int) - popV o + pushV o ≤ 12)

set_option maxRecDepth 100000 in
set_option maxHeartbeats 1000000 in
theorem popped_no {w : World} {b : Nat} {T : TypeId} {tl : List Value} {vo vp : Value} {ao : Option Addr} {n cap : Nat} {D : WD} (h : WObj w b T tl (.slice ao n cap) vo vp D) (hn : n ≤ 1000) (o : Int) (hf : fitsW o n = false) :
    Calls Try.prog 43 #[.pointer (some ⟨b, 0, none⟩), .int .u8 o] w (StuckP 12 w) := by
  have c := h.cells
  have c1 := c.c1
  have hef : HidC _ _ _ _ _ := ⟨eff_any o w⟩
  have hnd : HidC _ _ _ _ _ := ⟨sneed_no 12 w⟩
  have p0 := pop_le o
  have p1 := push_le o
  unfold fitsW at hf
  generalize popV o = po at *
  generalize pushV o = pu at *
  have hw1 : IntKind.i64.wrap ((n : Int) - po) = (n : Int) - po := by rw [IntKind.wrap_i64]; omega
  have hw2 : IntKind.i64.wrap ((n : Int) - po + pu) = (n : Int) - po + pu := by rw [IntKind.wrap_i64]; omega
  clear h c
  by_cases h1 : po ≤ n
  · have h2 : decide ((0 : Int) ≤ (n : Int) - po) = true := decide_eq_true (by omega)
    have h3 : decide ((n : Int) - po + pu ≤ 12) = false := by
      rw [decide_eq_true (show po ≤ (n : Int) from h1)] at hf
      simpa using hf
    clear hf
    go_enter Try.func43, Try.ntmps43
    go_wp2_with fail
    refine hef.out.mono ?_
    rintro e _ ⟨rfl, rfl⟩
    clear hef
    go_wp2_with fail
    refine hnd.out.mono ?_
    rintro e w1 ⟨rfl, t1⟩
    exact ⟨rfl, rfl, t1⟩
  · have h2 : decide ((0 : Int) ≤ (n : Int) - po) = false := decide_eq_false (by omega)
    clear hf
    go_enter Try.func43, Try.ntmps43
    go_wp2_with fail
    refine hef.out.mono ?_
    rintro e _ ⟨rfl, rfl⟩
    clear hef
    go_wp2_with fail
    refine hnd.out.mono ?_
    rintro e w1 ⟨rfl, t1⟩
    exact ⟨rfl, rfl, t1⟩

/-! ### Rows of values -/
abbrev vcell : Int → List Value := fun x => [Value.int .u64 x]
abbrev VRow := SRow 1 vcell
abbrev valOwn (w : World) (B : Nat) (v : Value) (l : List Int) : Prop := w.ownsRow B 25 1 v l.length (l.map (Value.int .u64))
theorem vrow_of {w : World} {B : Nat} {v : Value} {l : List Int} (h : valOwn w B v l) : VRow w v l := srow_of (cells := vcell) (n := 1) (fun _ => rfl) (by rw [flat_one]; exact h)
theorem vrow_drop {w : World} {g off cap : Nat} {l : List Int} (h : VRow w (.slice (some ⟨g, off, none⟩) l.length cap) l) (m c p : Nat) (hm : m ≤ l.length) (hp : m < l.length → p = off + m) : VRow w (.slice (some ⟨g, p, none⟩) (l.length - m) c) (l.drop m) := by
  refine ⟨_, c, by rw [List.length_drop], fun hne => ?_⟩
  have hlt : m < l.length := by
    rcases Nat.lt_or_ge m l.length with q | q
    · exact q
    · exact absurd (List.drop_of_length_le q) hne
  obtain ⟨g', off', e, hg, _⟩ := h.at m hlt
  simp only [Option.some.injEq, Addr.mk.injEq] at e
  obtain ⟨rfl, rfl, _⟩ := e
  refine ⟨g, p, rfl, hg, fun k hk j hj => ?_⟩
  rw [List.length_drop] at hk
  obtain ⟨g2, off2, e2, _, hc⟩ := h.at (m + k) (by omega)
  simp only [Option.some.injEq, Addr.mk.injEq] at e2
  obtain ⟨rfl, rfl, _⟩ := e2
  have := hc j hj
  rw [List.getElem_drop, hp hlt]
  have e3 : off + m + k * 1 + j = off + (m + k) * 1 + j := by omega
  rw [e3]
  exact this

set_option maxRecDepth 100000 in
set_option maxHeartbeats 1000000 in
theorem popped_ok {w : World} {b B : Nat} {T : TypeId} {tl : List Value} {vo vp : Value} {ao : Option Addr} {n cap : Nat} {D : WD} (h : WObj w b T tl (.slice ao n cap) vo vp D) (hv : valOwn w B (.slice ao n cap) D.st) (hn : n ≤ 1000) (o : Int) (hf : fitsW o n = true) :
    Calls Try.prog 43 #[.pointer (some ⟨b, 0, none⟩), .int .u8 o] w fun e w' => (∃ a c, e = .returned (.slice a (popV o).toNat c) ∧ VRow w (.slice a (popV o).toNat c) (D.st.drop (n - (popV o).toNat))) ∧ w = w' := by
  have c := h.cells
  have c1 := c.c1
  have hef : HidC _ _ _ _ _ := ⟨eff_any o w⟩
  have hnd : HidC _ _ _ _ _ := ⟨sneed_ok 12 w⟩
  have p0 := pop_le o
  have p1 := push_le o
  unfold fitsW at hf
  generalize popV o = po at *
  generalize pushV o = pu at *
  simp only [Bool.and_eq_true, decide_eq_true_eq] at hf
  obtain ⟨m, hm⟩ := Int.eq_ofNat_of_zero_le p0.1
  have hm' : po = (m : Int) := hm
  subst hm'
  simp only [Int.toNat_natCast]
  have hmn : m ≤ n := by omega
  have hlen : D.st.length = n := by
    obtain ⟨a2, c2, e⟩ := owns_slice hv
    simp only [Value.slice.injEq] at e
    exact e.2.1.symm
  have hcap : n ≤ cap ∧ cap ≤ 9223372036854775807 := by
    rcases hv.2 with ⟨e5, h5⟩ | ⟨g5, cap5, cur5, e5, hb5, _, hn5, hm5, _⟩
    · simp only [Value.slice.injEq] at e5; omega
    · simp only [Value.slice.injEq] at e5; unfold maxLen at hm5; omega
  have hw1 : IntKind.i64.wrap ((n : Int) - m) = (n : Int) - m := by rw [IntKind.wrap_i64]; omega
  have hw2 : IntKind.i64.wrap ((n : Int) - m + pu) = (n : Int) - m + pu := by rw [IntKind.wrap_i64]; omega
  have h2 : decide ((0 : Int) ≤ (n : Int) - m) = true := decide_eq_true (by omega)
  have h3 : decide ((n : Int) - m + pu ≤ 12) = true := decide_eq_true hf.2
  obtain ⟨q, hq⟩ : ∃ q : Nat, (q : Int) = (n : Int) - m := ⟨n - m, by omega⟩
  have hqm : n - m = q := by omega
  have hnq : n - q = m := by omega
  have hqn : (q : Int) ≤ n := by omega
  have hqc : (q : Int) ≤ cap := by omega
  have hqc2 : q ≤ cap := by omega
  have hqn2 : q ≤ n := by omega
  have hnc : (n : Int) ≤ cap := by omega
  rw [← hq] at hw1 hw2 h2 h3
  rw [hqm]
  have HQ : Hid _ := hq
  have hsub : ((n : Int) - (m : Int)) = (q : Int) := hq.symm
  have HR : Hid _ := vrow_of hv
  have HL : Hid _ := hlen
  have hform : (ao = none ∧ n = 0 ∧ cap = 0) ∨ ∃ g, ao = some ⟨g, 0, none⟩ := by
    rcases hv.2 with ⟨e5, h5⟩ | ⟨g5, cap5, cur5, e5, _⟩
    · simp only [Value.slice.injEq] at e5; exact .inl e5
    · simp only [Value.slice.injEq] at e5; exact .inr ⟨g5, e5.1⟩
  obtain ⟨p1a, p1b⟩ := p1
  clear h c hf hv hq hm hlen hqm hcap p0
  rcases hform with ⟨rfl, rfl, rfl⟩ | ⟨g, rfl⟩
  · obtain rfl : m = 0 := by omega
    obtain rfl : q = 0 := by omega
    have h4 : decide (pu ≤ (12 : Int)) = true := decide_eq_true (by omega)
    have HV : Hid (VRow w (.slice none 0 0) (D.st.drop 0)) := by
      have := HR.out
      rw [List.drop_zero]
      exact this
    go_enter Try.func43, Try.ntmps43
    go_wp2_with fail
    refine hef.out.mono ?_
    rintro e _ ⟨rfl, rfl⟩
    clear hef
    go_wp2_with fail
    refine hnd.out.mono ?_
    rintro e _ ⟨rfl, rfl⟩
    clear hnd
    go_wp2
    go_ret
    exact ⟨⟨none, 0, rfl, HV.out⟩, rfl⟩
  · have HV : Hid (∀ p c, (q < n → p = 0 + q) → VRow w (.slice (some ⟨g, p, none⟩) m c) (D.st.drop q)) := fun p c hp => by
      have hr := HR.out
      rw [← HL.out] at hr
      have := vrow_drop hr q c p (by rw [HL.out]; exact hqn2) (by rw [HL.out]; exact hp)
      rw [HL.out, hnq] at this
      exact this
    by_cases hcc : cap = q
    · have hm0 : m = 0 := by omega
      subst hm0
      obtain rfl : n = q := by omega
      subst hcc
      go_enter Try.func43, Try.ntmps43
      go_wp2_with fail
      refine hef.out.mono ?_
      rintro e _ ⟨rfl, rfl⟩
      clear hef
      go_wp2_with fail
      refine hnd.out.mono ?_
      rintro e _ ⟨rfl, rfl⟩
      clear hnd
      go_wp2
      go_ret
      exact ⟨⟨some ⟨g, 0, none⟩, 0, rfl, HV.out _ _ (fun h => by omega)⟩, rfl⟩
    · go_enter Try.func43, Try.ntmps43
      go_wp2_with fail
      refine hef.out.mono ?_
      rintro e _ ⟨rfl, rfl⟩
      clear hef
      go_wp2_with fail
      refine hnd.out.mono ?_
      rintro e _ ⟨rfl, rfl⟩
      clear hnd
      go_wp2
      go_ret
      exact ⟨⟨some ⟨g, q, none⟩, cap - q, rfl, HV.out _ _ (fun h => by omega)⟩, rfl⟩

end Go.Proofs.Ytlndbligbpfdpaa

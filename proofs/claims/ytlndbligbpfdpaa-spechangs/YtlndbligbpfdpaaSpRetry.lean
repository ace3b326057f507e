/-
  package spec: retry BY ITS CONTRACT.
-/
import Derived.Test.YtlndbligbpfdpaaSpInner
namespace Go.Proofs.Ytlndbligbpfdpaa
set_option linter.unusedVariables false
set_option linter.unusedSimpArgs false
open Go.RowKit
attribute [local go_sem] Oper.semAt_some

set_option maxRecDepth 100000 in
theorem retry_none {w : World} {b : Nat} {B : Gd} {vp : Value} {D : WD} {h : List Int} {arms : List Bool} {vs vo vh vl va : Value} (k : BObj w b B vp D h [] arms vs vo vh vl va) :
    Calls Try.prog 99 #[.pointer (some ⟨b, 0, none⟩)] w fun e w' => e = .panicked [{ v := .iface 80 (.agg #[]), recovered := false }] ∧ Touch w w' [] := by
  obtain ⟨la, lc, rfl⟩ := owns_slice k.lf
  have c10 := k.c9.2.1
  simp only [List.length_nil] at c10
  clear k
  go_enter Try.func99, Try.ntmps99
  go_wp2
  exact ⟨rfl, rfl, Touch.refl _ _⟩

set_option maxRecDepth 100000 in
set_option maxHeartbeats 1000000 in
theorem retry_some {w : World} {b : Nat} {B : Gd} {vp : Value} {D : WD} {h : List Int} {L : List MkT} {t : MkT} {arms : List Bool} {vs vo vh vl va : Value} (k : BObj w b B vp D h (L ++ [t]) arms vs vo vh vl va) (hL : L.length ≤ 1000) (he : 0 ≤ t.1.e ∧ t.1.e ≤ 1000) :
    Calls Try.prog 99 #[.pointer (some ⟨b, 0, none⟩)] w fun e w' => e = .returned (.tuple #[]) ∧ (∃ vs' vo' vh' vl', BObj w' b B vp { t.1.D with fuel := D.fuel, pc := t.1.e + 1 } t.1.h L arms vs' vo' vh' vl' va) ∧ Touch w w' [b] := by
  have HI : HidC _ _ _ _ _ := ⟨inner_ok k hL⟩
  obtain ⟨la, lc, e5⟩ := owns_slice k.lf
  have c10 := k.c9.2.1
  rw [e5] at c10
  have hlen : (L ++ [t]).length = L.length + 1 := by simp
  rw [hlen] at c10
  generalize L.length = n at *
  have q0 : ¬ n + 1 = 0 := by omega
  have q1 : ¬ (n : Int) + 1 = 0 := by omega
  clear k e5 hlen
  go_enter Try.func99, Try.ntmps99
  go_wp2_with fail
  refine HI.out.mono ?_
  rintro e w1 ⟨rfl, ⟨vl1, k1, hap⟩, hge, hm, t1⟩
  obtain ⟨s, h2, p, q, vs2, vo2, vh2, e1, e2, hc⟩ := hm
  rw [e2] at hap hge
  have HB : HidC _ _ _ _ _ := ⟨back_any k1 hc hap hge he⟩
  have HT1 : Hid _ := t1
  rw [e1]
  unfold clV
  clear k1 hap hge e1 e2 hc t1 HI c10
  go_wp2_with fail
  refine HB.out.mono ?_
  rintro e w2 ⟨rfl, k2, t2⟩
  have HK2 : Hid _ := k2
  have HT2 : Hid _ := HT1.out.trans t2 (fun x hx => .inl hx)
  clear k2 t2
  go_wp2
  go_end0
  exact ⟨rfl, ⟨_, _, _, _, HK2.out⟩, HT2.out⟩

end Go.Proofs.Ytlndbligbpfdpaa

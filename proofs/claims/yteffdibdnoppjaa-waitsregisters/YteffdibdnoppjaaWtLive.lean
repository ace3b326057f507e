/-
  live, few BY THEIR CONTRACTS.
-/
import Derived.Test.YteffdibdnoppjaaWtMore
namespace Go.Proofs.Yteffdibdnoppjaa
set_option linter.unusedVariables false
set_option linter.unusedSimpArgs false
open Go.RowKit Go.Maps
attribute [local go_sem] Oper.semAt_some

theorem two_new (w : World) (x y : Int) : IRow (w.alloc (.cells #[.int .i64 x, .int .i64 y] 3)) (.slice (some ⟨w.heap.size, 0, none⟩) 2 2) [x, y] := by
  refine ⟨_, 2, rfl, fun _ => ⟨w.heap.size, 0, rfl, by simp, fun k hk j hj => ?_⟩⟩
  have hj0 : j = 0 := by omega
  subst hj0
  have h0 := heap_alloc_new w (.cells #[.int .i64 x, .int .i64 y] 3)
  show (match (w.alloc (.cells #[.int .i64 x, .int .i64 y] 3)).heap[w.heap.size]? with
    | some (Obj.cells c elem frozen) => c[0 + k * 1 + 0]?
    | x => none) = _
  rw [h0]
  match k, hk with
  | 0, _ => rfl
  | 1, _ => rfl

theorem few_any {w : World} {ao : Option Addr} {cap : Nat} {l : List Int} (hr : IRow w (.slice ao l.length cap) l) (hc : l.length ≤ cap) (hl : l.length ≤ maxLen) :
    Calls Try.prog 11 #[.slice ao l.length cap] w fun e w' => ∃ v, e = .returned v ∧ IRow w v (l.take 20) ∧ w = w' := by
  have hl2 : l.length ≤ 9223372036854775807 := by unfold maxLen at hl; omega
  by_cases h : 20 < l.length
  · have h1 : (20 : Int) < l.length := by omega
    obtain ⟨g, off, rfl, hg, hx⟩ := hr.one 0 (by omega)
    clear hx
    have hc2 : (20 : Int) ≤ cap := by omega
    have HR : Hid _ := irow_take hr 20 cap (by omega)
    clear hr
    generalize l.length = N at *
    go_enter Try.func11, Try.ntmps11
    go_wp2
    go_ret
    exact ⟨_, rfl, HR.out, rfl⟩
  · have h1 : ¬ (20 : Int) < l.length := by omega
    have ht : l.take 20 = l := List.take_of_length_le (by omega)
    rw [ht]
    have HR : Hid _ := hr
    clear ht hr
    go_enter Try.func11, Try.ntmps11
    go_wp2
    go_ret
    exact ⟨_, rfl, HR.out, rfl⟩

set_option maxRecDepth 100000 in
set_option maxHeartbeats 2000000 in
theorem live_any (w : World) : Calls Try.prog 9 #[] w fun e w' => e = .returned (.bool true) ∧ Touch w w' [] := by
  have hnew : HidC _ _ _ _ _ := ⟨new_any w⟩
  go_enter Try.func9, Try.ntmps9
  go_wp2_with fail
  refine hnew.out.mono ?_
  rintro e w1 ⟨b, F, rfl, h1, t1, hF⟩
  clear hnew
  have T2 : Touch w1 (w1.alloc (.cells #[.int .i64 3, .int .i64 5] 3)) [] := (Touch.refl w1 []).alloc _
  have hreg : HidC _ _ _ _ _ := ⟨register_any (h1.touch T2 (by simp)) (by omega) 0 (by decide) (two_new w1 3 5) (by simp)⟩
  have er : regE [] 0 [3, 5] = (0, [⟨0, setP [3, 5], false⟩]) := by rfl
  have es : setP [3, 5] = 40 := by rfl
  rw [er, es] at hreg
  have HT2 : Hid _ := t1.trans T2 (by simp)
  have HF : Hid _ := hF
  clear h1 t1 T2 hF er es
  go_wp2_with fail
  refine hreg.out.mono ?_
  rintro e w2 ⟨rfl, F2, h2, t2, hF2⟩
  clear hreg
  have HT3 : Hid (Touch w w2 []) := HT2.out.trans t2 (fun x hx => .inr (HF.out x hx))
  have HF2 : Hid (∀ x ∈ F2, w.heap.size ≤ x) := fun x hx => (hF2 x hx).elim (fun h => HF.out x h) (fun h => Nat.le_trans HT2.out.size h)
  have hsl : HidC _ _ _ _ _ := ⟨sleep_any h2 (by omega) 0 (by decide)⟩
  have er : sleepE [⟨0, 40, false⟩] 0 = (0, [⟨0, 40, true⟩]) := by rfl
  rw [er] at hsl
  clear h2 t2 hF2 er HT2 HF
  go_wp2_with fail
  refine hsl.out.mono ?_
  rintro e w3 ⟨rfl, F3, h3, t3, hF3⟩
  clear hsl
  have HT4 : Hid (Touch w w3 []) := HT3.out.trans t3 (fun x hx => .inr (HF2.out x hx))
  have HF3 : Hid (∀ x ∈ F3, w.heap.size ≤ x) := fun x hx => (hF3 x hx).elim (fun h => HF2.out x h) (fun h => Nat.le_trans HT3.out.size h)
  have has : HidC _ _ _ _ _ := ⟨asleep_any h3 0 (by decide)⟩
  have er : slP [⟨0, 40, true⟩] 0 = true := by rfl
  rw [er] at has
  have T5 : Touch w3 (w3.alloc (.cells #[.int .i64 5] 3)) [] := (Touch.refl w3 []).alloc _
  have hwk : HidC _ _ _ _ _ := ⟨wake_any (h3.touch T5 (by simp)) (one_new w3 5) (by simp)⟩
  have e1 : forP [⟨0, 40, true⟩] (setP [5]) = [0] := by rfl
  have e2 : wakeL [⟨0, 40, true⟩] (setP [5]) = [] := by rfl
  rw [e1, e2] at hwk
  have HT5 : Hid _ := HT4.out.trans T5 (by simp)
  clear h3 t3 hF3 er HT3 HF2 T5 e1 e2
  go_wp2_with fail
  refine has.out.mono ?_
  rintro e w4 ⟨rfl, rfl⟩
  clear has
  go_wp2_with fail
  refine hwk.out.mono ?_
  rintro e w5 ⟨u, rfl, hu, h5, t5⟩
  clear hwk
  have HT6 : Hid (Touch w w5 []) := HT5.out.trans t5 (fun x hx => .inr (HF3.out x hx))
  obtain ⟨au, cu, rfl, hc⟩ := int_form hu
  obtain ⟨g, rfl, hg, d0⟩ := hc 0 (by simp)
  have d0 : w5.cell? ⟨g, 0, none⟩ = some (.int .i64 0) := d0
  have has : HidC _ _ _ _ _ := ⟨asleep_any h5 0 (by decide)⟩
  have er : slP [] 0 = false := by rfl
  rw [er] at has
  have hwt : HidC _ _ _ _ _ := ⟨waiting_any h5⟩
  clear hu hc h5 t5 er
  simp only [List.length_cons, List.length_nil, Nat.zero_add]
  go_wp2_with fail
  refine has.out.mono ?_
  rintro e w6 ⟨rfl, rfl⟩
  clear has
  go_wp2_with fail
  refine hwt.out.mono ?_
  rintro e w7 ⟨u, rfl, hu, t7⟩
  obtain ⟨au, cu, rfl⟩ := owns_slice hu
  have HT7 : Hid _ := HT6.out.trans t7 (by simp)
  clear hwt hu t7
  simp only [List.map_nil, List.length_nil]
  go_wp2
  go_ret
  exact ⟨rfl, HT7.out⟩

end Go.Proofs.Yteffdibdnoppjaa

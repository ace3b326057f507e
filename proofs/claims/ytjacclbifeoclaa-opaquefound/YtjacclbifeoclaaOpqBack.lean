/-
  package opaque: WHAT TAKES A put BACK; Serial; taken BY THEIR CONTRACTS.
-/
import Derived.Test.YtjacclbifeoclaaOpqWalk
namespace Go.Proofs.Ytjacclbifeoclaa
set_option linter.unusedVariables false
set_option linter.unusedSimpArgs false
open Go.RowKit Go.Maps
attribute [local go_sem] Oper.semAt_some

set_option maxRecDepth 100000 in
set_option maxHeartbeats 4000000 in
theorem back_any {w : World} {rb p q r : Nat} {ve vc vl vh : Value} {l : List EvD} {com lf hp : List Int} (h : RowO w rb ve vc vl vh l com lf hp) {a1 a2 : Option Addr} {n1 n2 c1 c2 : Nat} {lf0 hp0 : List Int} (hp1 : One w p (.slice a1 n1 c1) 24) (hq : One w q (.slice a2 n2 c2) 23) (hr : One w r (ptr rb) 56)
    (np : p ≠ rb) (nq : q ≠ rb) (nr : r ≠ rb) (i1 : IRow w (.slice a1 n1 c1) lf0) (i2 : VRow w (.slice a2 n2 c2) hp0) (b1 : lf0 ≠ [] → (Value.slice a1 n1 c1).ownBlock ≠ some rb) (b2 : hp0 ≠ [] → (Value.slice a2 n2 c2).ownBlock ≠ some rb) :
    Calls Try.prog 71 #[ptr p, ptr q, ptr r] w fun e w' => e = .returned (.tuple #[]) ∧ RowO w' rb ve vc (.slice a1 n1 c1) (.slice a2 n2 c2) l com lf0 hp0 ∧ Touch w w' [rb] := by
  have HS : Hid (∀ W, Touch w W [rb] → W.cell? ⟨r, 0, none⟩ = some (ptr rb) ∧ W.cell? ⟨p, 0, none⟩ = some (.slice a1 n1 c1) ∧ W.cell? ⟨q, 0, none⟩ = some (.slice a2 n2 c2)) := fun W t =>
    ⟨(One.touch hr t (by simpa using nr)).cell, (One.touch hp1 t (by simpa using np)).cell, (One.touch hq t (by simpa using nq)).cell⟩
  have hrow := h.row
  have HH : Hid (RowO w rb ve vc vl vh l com lf hp) := h
  have HI : Hid (IRow w (.slice a1 n1 c1) lf0 ∧ VRow w (.slice a2 n2 c2) hp0) := ⟨i1, i2⟩
  have HB : Hid ((lf0 ≠ [] → (Value.slice a1 n1 c1).ownBlock ≠ some rb) ∧ (hp0 ≠ [] → (Value.slice a2 n2 c2).ownBlock ≠ some rb)) := ⟨b1, b2⟩
  obtain ⟨k0, k1, k2, k3⟩ := hrow.cells
  have z2 := hrow.frozen 2
  have z3 := hrow.frozen 3
  obtain ⟨k0', k1', k2', k3'⟩ := (rowAt_set3 hrow (.slice a2 n2 c2)).cells
  have z2' := (rowAt_set3 hrow (.slice a2 n2 c2)).frozen 2
  obtain ⟨k0'', k1'', k2'', k3''⟩ := (rowAt_set2 hrow (.slice a1 n1 c1)).cells
  have z3' := (rowAt_set2 hrow (.slice a1 n1 c1)).frozen 3
  have HR : Hid (RowAt w rb ve vc vl vh) := hrow
  clear h hp1 hq hr i1 i2 b1 b2 hrow k0 k1 k0' k1' k0'' k1'' k3' k2'' np nq nr
  go_enter Try.func71, Try.ntmps71
  go_wp2_with fail
  go_region_held3 (fun W => W.cell? ⟨r, 0, none⟩ = some (ptr rb) ∧ W.cell? ⟨p, 0, none⟩ = some (.slice a1 n1 c1) ∧ W.cell? ⟨q, 0, none⟩ = some (.slice a2 n2 c2)) ((exact HS.out _ (by repeat (first | exact Touch.refl _ _ | apply Touch.drew | (refine Touch.setCell ?_ (.inl (by simp)) _))))) (fail)
  all_goals (
    go_wp2
    go_end0
    refine ⟨rfl, ?_, ?_⟩
    · refine HH.out.set (w' := _) ?_ ?_ HI.out.1 HI.out.2 HB.out.1 HB.out.2
      · repeat (first | exact Touch.refl _ _ | apply Touch.drew | (refine Touch.setCell ?_ (.inl (by simp)) _))
      · first | exact rowAt_set3 (rowAt_set2 HR.out _) _ | exact rowAt_set2 (rowAt_set3 HR.out _) _
    · repeat (first | exact Touch.refl _ _ | apply Touch.drew | (refine Touch.setCell ?_ (.inl (by simp)) _)))

def serialP (l : List EvD) (o : List Int) : List EvD := o.flatMap fun a => cutS a l

set_option maxRecDepth 100000 in
set_option maxHeartbeats 4000000 in
theorem serial_any {w : World} {ve vo : Value} {l : List EvD} {o : List Int} (hr : EvRow w ve l) (hl : l.length ≤ 1000) (ho : IRow w vo o) (hol : o.length ≤ 1000) :
    Calls Try.prog 16 #[ve, vo] w fun e w' => ∃ v, e = .returned v ∧ evOwn w' w.heap.size v (serialP l o) ∧ Touch w w' [] := by
  obtain ⟨aE, cE, rfl⟩ := hr.form
  obtain ⟨aO, cO, rfl⟩ := ho.form
  have HHO : Hid (IRow w (.slice aO o.length cO) o) := ho
  have HCT : Hid (∀ W, Touch w W [] → ∀ a, Calls Try.prog 32 #[.slice aE l.length cE, .int .i64 a] W fun x w' => ∃ v, x = .returned v ∧ evOwn w' W.heap.size v (cutS a l) ∧ Touch W w' []) := fun W t a => cut_any (SRow.keep hr t (by simp)) hl a
  have HCL : Hid (∀ a, (cutS a l).length ≤ 1000) := fun a => Nat.le_trans (cutS_le a l) hl
  have HSL : Hid (∀ k, (serialP l (o.take k)).length ≤ k * 1000) := fun k => by
    show (serialP l (o.take k)).length ≤ _
    unfold serialP
    rw [List.length_flatMap]
    have h1 : ∀ (xs : List Int), (xs.map fun a => (cutS a l).length).sum ≤ xs.length * 1000 := fun xs => by
      induction xs with
      | nil => simp
      | cons x xs ih => simp; have := Nat.le_trans (cutS_le x l) hl; omega
    have := h1 (o.take k)
    have h2 : (o.take k).length ≤ k := by simp; omega
    have h3 : (o.take k).length * 1000 ≤ k * 1000 := Nat.mul_le_mul_right _ h2
    omega
  obtain ⟨i0, hi, hz0, hz1, hz2⟩ := info_partsO Try.info_ev
  obtain ⟨N, hN⟩ : ∃ N, N = o.length := ⟨_, rfl⟩
  have HN : Hid (N = o.length) := hN
  rw [← hN] at hol ⊢
  clear hr ho hN
  generalize l.length = NE at *
  go_enter Try.func16, Try.ntmps16
  go_wp2_with fail
  go_loopw [5, 10] (fun s i wr => ∃ k : Nat, i = .int .i64 k ∧ k ≤ N ∧ evOwn wr w.heap.size s (serialP l (o.take k)) ∧ Touch w wr []) (fun _ i _ => N - (intOf i).toNat)
  case atStart => exact ⟨0, rfl, Nat.zero_le _, World.ownsRow_nil _ _ _ _, Touch.refl _ _⟩
  case round =>
    obtain ⟨k, rfl, hk, hown, t⟩ := hrel
    obtain ⟨aS, cS, hf⟩ := owns_slice hown
    have HT : Hid (Touch w wr []) := t
    by_cases hlt : k < N
    · have h1 : (k : Int) < N := by omega
      have h0 : (0 : Int) ≤ k := by omega
      have hkl : k < o.length := by rw [← HN.out]; exact hlt
      obtain ⟨g, off, rfl, hg, d0⟩ := IRow.one (SRow.keep HHO.out t (by simp)) k hkl
      have hct := HCT.out wr t o[k]
      have hsn : serialP l (o.take (k + 1)) = serialP l (o.take k) ++ cutS o[k] l := by
        unfold serialP
        rw [take_snoc hkl, List.flatMap_append]
        simp
      have hcl := HCL.out o[k]
      have hsl := HSL.out k
      generalize o[k] = a at *
      generalize hS1 : serialP l (o.take (k + 1)) = SP1 at *
      have HS1 : Hid (serialP l (o.take (k + 1)) = SP1) := hS1
      clear hS1
      generalize serialP l (o.take k) = SP at *
      have HSN : Hid (SP1 = SP ++ cutS a l) := hsn
      have HOWN : Hid (evOwn wr w.heap.size u5 SP) := hown
      have HF : Hid _ := hf
      have HCL2 : Hid _ := hcl
      have HSL2 : Hid _ := hsl
      clear t hsn hown hf hcl hsl
      go_wp2_with fail
      refine hct.mono ?_
      rintro e w2 ⟨v2, rfl, hv2, t2⟩
      clear hct
      have o2 := ownsRow_touch HOWN.out t2 (by simp)
      have hsz := HT.out.size
      have hsz2 := t2.size
      obtain ⟨a2, c2, rfl⟩ := owns_slice hv2
      obtain ⟨v', w3, hrun, h2, h3, h4⟩ := run_app (P := Try.prog) (cells := EvD.cells) 22 22 51 i0 _ 4 32 Try.underlying22 hi hz0 hz1 hz2 rfl (by decide) (fun _ => rfl) (by intro x u hu; simp [EvD.cells] at hu; rcases hu with rfl | rfl | rfl | rfl <;> rfl) o2 (srow_of (cells := EvD.cells) (fun _ => rfl) hv2) (by have := HCL2.out; have := HSL2.out; omega) (by decide) (by omega)
      have T3 : Touch w w3 [] := (HT.out.trans t2 (by simp)).grown h3 (fun g hg => .inr (o2.lt g hg).1)
      have HO3 : Hid (evOwn w3 w.heap.size v' SP1) := by
        show World.ownsRow _ _ _ _ _ _ _
        rw [HSN.out]
        simpa using h2
      have HT3 : Hid _ := T3
      rw [HF.out] at hrun ⊢
      obtain ⟨a3, c3, rfl⟩ := owns_slice HO3.out
      clear hv2 t2 o2 h2 h3 h4 T3
      generalize SP1.length = M1 at *
      generalize SP.length = M at *
      generalize (cutS a l).length = M2 at *
      go_wp2_with (at_builtin; refine Lib.wpList_append_run _ rfl _ _ _ _ rfl _ _ rfl rfl _ _ hrun ?_)
      go_roundw
      case rel => exact ⟨k + 1, by go_num, by omega, by rw [HS1.out]; exact HO3.out, HT3.out⟩
      case measure => simp [intOf]; omega
    · obtain rfl : k = N := by omega
      have HO3 : Hid (evOwn wr w.heap.size u5 (serialP l o)) := by
        rw [HN.out, List.take_length] at hown
        exact hown
      rw [HN.out, List.take_length] at hf
      have HF : Hid _ := hf
      clear hown hf t
      subst_vars
      go_wp2
      go_ret
      exact ⟨_, rfl, HO3.out, HT.out⟩

end Go.Proofs.Ytjacclbifeoclaa

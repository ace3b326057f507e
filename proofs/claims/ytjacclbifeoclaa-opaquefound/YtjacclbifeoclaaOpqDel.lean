/-
  slices.IndexFunc, DeleteFunc WITH put's FUNCTION, BY THEIR CONTRACTS.
-/
import Derived.Test.YtjacclbifeoclaaOpqBase
namespace Go.Proofs.Ytjacclbifeoclaa
set_option linter.unusedVariables false
set_option linter.unusedSimpArgs false
open Go.RowKit Go.Maps
attribute [local go_sem] Oper.semAt_some

set_option maxRecDepth 100000 in
set_option maxHeartbeats 2000000 in
theorem oput_index {w : World} {p q : Nat} {v : Value} {xs : List Int} {f : Int → Bool} (hr : IRow w v xs) (hl : xs.length ≤ 100000)
    (hcl : ∀ W, Touch w W [] → ∀ x ∈ xs, Calls Try.prog 69 #[.int .i64 x, ptr p] W fun e w' => e = .returned (.bool (f x)) ∧ Touch W w' []) :
    Calls Try.prog 82 #[v, .func (.func 69) #[] #[ptr p]] w fun e w' => e = .returned (.int .i64 (idxP f xs 0)) ∧ Touch w w' [] := by
  obtain ⟨ao, cap, rfl⟩ := hr.form
  have HC : Hid (∀ k (hk : k < xs.length), ∃ g off, ao = some ⟨g, off, none⟩ ∧ g < w.heap.size ∧ w.cell? ⟨g, off + k, none⟩ = some (.int .i64 xs[k])) := fun k hk => IRow.one hr k hk
  obtain ⟨N, hN⟩ : ∃ N, N = xs.length := ⟨_, rfl⟩
  have HN : Hid _ := hN
  have HCL : Hid (∀ W, Touch w W [] → ∀ x ∈ xs, Calls Try.prog 69 #[.int .i64 x, ptr p] W fun e w' => e = .returned (.bool (f x)) ∧ Touch W w' []) := hcl
  obtain ⟨res, hres⟩ : ∃ r, r = idxP f xs 0 := ⟨_, rfl⟩
  rw [← hres]
  have HRES : Hid _ := hres
  rw [← hN] at hl ⊢
  clear hN hr hcl hres
  go_enter Try.func82, Try.ntmps82
  go_wp2_with fail
  go_loopw [8] (fun i wr => ∃ k : Nat, i = .int .i64 k ∧ k ≤ N ∧ res = idxP f (xs.drop k) k ∧ Touch w wr []) (fun i _ => N - (intOf i).toNat)
  case atStart => exact ⟨0, rfl, Nat.zero_le _, HRES.out, Touch.refl _ _⟩
  case round =>
    obtain ⟨k, rfl, hk, hrs, t⟩ := hrel
    clear HRES
    by_cases hlt : k < N
    · have h1 : (k : Int) < N := by omega
      have h0 : (0 : Int) ≤ k := by omega
      have hkl : k < xs.length := by rw [← HN.out]; exact hlt
      obtain ⟨g, off, rfl, hg, d1⟩ := HC.out k hkl
      have d0 := (t.cell (p := ⟨g, off + k, none⟩) hg (by simp)).trans d1
      rw [idxP_drop hkl] at hrs
      have hcl := HCL.out wr t xs[k] (List.getElem_mem hkl)
      generalize xs[k] = x at *
      have HT : Hid _ := t
      clear d1 t
      cases hz : f x with
      | true =>
        rw [hz] at hcl hrs
        simp only [if_true] at hrs
        have HR : Hid _ := hrs
        clear hz hrs
        go_wp2_with fail
        refine hcl.mono ?_
        rintro e w1 ⟨rfl, t1⟩
        clear hcl
        go_wp2
        go_ret
        exact ⟨by rw [HR.out]; rfl, HT.out.trans t1 (by simp)⟩
      | false =>
        rw [hz] at hcl hrs
        simp only [Bool.false_eq_true, if_false] at hrs
        have HR : Hid _ := hrs
        clear hz hrs
        go_wp2_with fail
        refine hcl.mono ?_
        rintro e w1 ⟨rfl, t1⟩
        clear hcl
        go_wp2
        go_roundw
        case rel => exact ⟨k + 1, by go_num, by omega, HR.out, HT.out.trans t1 (by simp)⟩
        case measure => simp [intOf]; omega
    · obtain rfl : k = N := by omega
      have hall : xs.drop k = [] := by rw [HN.out, List.drop_length]
      rw [hall] at hrs
      have HR : Hid _ := hrs
      have HT : Hid _ := t
      clear hrs hall t
      go_wp2
      go_ret
      exact ⟨by rw [HR.out]; rfl, HT.out⟩

set_option maxRecDepth 100000 in
set_option maxHeartbeats 2000000 in
theorem oput_delete {w : World} {p q B : Nat} {v : Value} {xs : List Int} {f : Int → Bool} (hv : intOwn w B v xs) (hl : xs.length ≤ 100000)
    (hcl : ∀ W, Touch w W v.ownBlock.toList → ∀ x ∈ xs, Calls Try.prog 69 #[.int .i64 x, ptr p] W fun e w' => e = .returned (.bool (f x)) ∧ W = w') :
    Calls Try.prog 62 #[v, .func (.func 69) #[] #[ptr p]] w fun e w' => ∃ v', e = .returned v' ∧ intOwn w' B v' (xs.filter fun x => !f x) ∧ Touch w w' v.ownBlock.toList := by
  have hix := oput_index (p := p) (q := q) (f := f) (irow_of hv) hl (fun W t x hx => (hcl W (t.mono (by simp)) x hx).mono (by rintro e w1 ⟨h, rfl⟩; exact ⟨h, Touch.refl _ _⟩))
  by_cases hno : idxP f xs 0 = -1
  · have hall := (idxP_none xs 0).1 hno
    rw [hno] at hix
    have hfe : (xs.filter fun x => !f x) = xs := List.filter_eq_self.2 (fun x hx => by rw [hall x hx]; rfl)
    rw [hfe]
    obtain ⟨ao, cap, rfl⟩ := owns_slice hv
    have HV : Hid (intOwn w B (.slice ao xs.length cap) xs) := hv
    clear hv hall hfe hno hcl
    generalize hN : xs.length = N at hix HV ⊢
    go_enter Try.func62, Try.ntmps62
    go_wp2_with fail
    refine hix.mono ?_
    rintro e w1 ⟨rfl, t1⟩
    clear hix
    go_wp2
    go_ret
    have h := ownsRow_touch HV.out t1 (by simp)
    rw [hN] at h
    refine ⟨_, rfl, ?_, t1.mono (by simp)⟩
    show World.ownsRow _ _ _ _ _ _ _
    rw [hN]
    exact h
  · obtain ⟨i0, hi0, hix0, hfi, hbef⟩ := idxP_some xs 0 hno
    rw [hix0, Nat.zero_add] at hix
    obtain ⟨g, cap, rfl, hgB, hgl⟩ : ∃ g cap, v = .slice (some ⟨g, 0, none⟩) xs.length cap ∧ B ≤ g ∧ g < w.heap.size := by
      rcases hv.2 with ⟨rfl, h0⟩ | ⟨g, cap, cur, rfl, hB, hg, _⟩
      · omega
      · exact ⟨g, cap, rfl, hB, lt_of_heap hg⟩
    obtain ⟨N, hN⟩ : ∃ N, N = xs.length := ⟨_, rfl⟩
    have HN : Hid _ := hN
    have HV : Hid (w.ownsRow B 3 1 (.slice (some ⟨g, 0, none⟩) N cap) N (xs.map (Value.int .i64))) := by rw [hN]; exact hv
    have HCALL : Hid (∀ W, Touch w W [g] → ∀ x ∈ xs, Calls Try.prog 69 #[.int .i64 x, ptr p] W fun e w' => e = .returned (.bool (f x)) ∧ W = w') := hcl
    have hpre : xs.take i0 = (xs.take (i0 + 1)).filter (fun x => !f x) := by
      rw [filter_keep hi0, if_pos hfi]
      exact (List.filter_eq_self.2 (fun x hx => by rw [hbef x hx]; rfl)).symm
    have HPRE : Hid _ := hpre
    rw [← hN] at hix hl hi0 ⊢
    clear hno hix0 hfi hbef hN hv hpre hcl
    go_enter Try.func62, Try.ntmps62
    go_wp2_with fail
    refine hix.mono ?_
    rintro e w1 ⟨rfl, t1⟩
    have HT1 : Hid _ := t1
    clear hix t1
    have hne : ¬ ((i0 : Int) = -1) := by omega
    go_wp2_with fail
    go_loopw [5, 6] (fun vi vj wr => ∃ (i j : Nat) (ys : List Int), vi = .int .i64 i ∧ vj = .int .i64 j ∧ i < j ∧ j ≤ N ∧ ys.take i = (xs.take j).filter (fun x => !f x) ∧ (∀ k, j ≤ k → ys[k]? = xs[k]?) ∧ wr.ownsRow B 3 1 (.slice (some ⟨g, 0, none⟩) N cap) N (ys.map (Value.int .i64)) ∧ Touch w wr [g]) (fun _ vj _ => N - (intOf vj).toNat)
    case atStart => exact ⟨i0, i0 + 1, xs, rfl, by go_num, by omega, by omega, HPRE.out, fun k _ => rfl, ownsRow_touch HV.out HT1.out (by simp), HT1.out.mono (by simp)⟩
    case round =>
      obtain ⟨i, j, ys, rfl, rfl, hij, hjN, hpre, hrest, hrow, t⟩ := hrel
      clear HPRE HV HT1
      have hyl : ys.length = N := by have := hrow.1; simpa using this
      have hcell : ∀ k (hk : k < ys.length), wr.cell? ⟨g, k, none⟩ = some (.int .i64 ys[k]) := fun k hk => by
        have := hrow.cells (g := g) rfl k (.int .i64 ys[k]) (by simp [hk])
        rw [Addr.add_lit] at this
        simpa using this
      have hfz : ∀ k, wr.frozen? ⟨g, k, none⟩ = false := fun k => by
        rcases hrow.2 with ⟨e, _⟩ | ⟨g', cap', cur, e, hB, hg, _⟩
        · simp at e
        · simp only [Value.slice.injEq, Option.some.injEq, Addr.mk.injEq] at e
          obtain ⟨⟨rfl, _⟩, _, rfl⟩ := e
          simp [World.frozen?, hg]
      have HROW : Hid _ := hrow
      have HT : Hid _ := t
      have HREST : Hid _ := hrest
      have HPRE : Hid _ := hpre
      by_cases hjt : j < N
      · have h1 : (j : Int) < N := by omega
        have h0 : (0 : Int) ≤ j := by omega
        have hjx : j < xs.length := by rw [← HN.out]; exact hjt
        have hyj : ys[j]'(by omega) = xs[j] := by
          have := hrest j (Nat.le_refl _)
          rw [List.getElem?_eq_getElem (by omega), List.getElem?_eq_getElem hjx] at this
          simpa using this
        have d0 := hcell j (by omega)
        rw [hyj] at d0
        have hfk := filter_keep (f := f) hjx
        have hcl := HCALL.out wr t xs[j] (List.getElem_mem hjx)
        obtain ⟨x, hx⟩ : ∃ x, x = xs[j] := ⟨_, rfl⟩
        rw [← hx] at d0 hfk hcl
        have HFK : Hid _ := hfk
        clear hyj hfk hx hrow t hrest hpre
        have di := hcell i (by omega)
        have fi := hfz i
        have hi1 : (i : Int) < N := by omega
        have hi0 : (0 : Int) ≤ i := by omega
        clear hcell hfz
        cases hz : f x with
        | true =>
          rw [hz] at hcl
          have HP2 : Hid (ys.take i = (xs.take (j + 1)).filter (fun x => !f x)) := by show _ = _; rw [HFK.out, if_pos hz]; exact HPRE.out
          clear hz
          go_wp2_with fail
          refine hcl.mono ?_
          rintro e w1 ⟨rfl, rfl⟩
          clear hcl
          go_wp2
          go_roundw
          case rel => (repeat apply Exists.intro); exact ⟨⟨i, j + 1, ys, rfl, by go_num, by omega, by omega, HP2.out, fun k hk => HREST.out k (by omega), HROW.out, HT.out⟩, rfl⟩
          case measure => simp [intOf]; omega
        | false =>
          rw [hz] at hcl
          have HP2 : Hid ((ys.set i x).take (i + 1) = (xs.take (j + 1)).filter (fun x => !f x)) := by
            show _ = _
            rw [HFK.out, if_neg (by rw [hz]; simp), ← HPRE.out, List.take_succ_eq_append_getElem (by simp; omega), List.take_set, List.set_eq_of_length_le (by simp; omega)]
            simp
          have HR2 : Hid _ := int_set HROW.out i x
          have HT2 : Hid (Touch w (wr.setCell ⟨g, i, none⟩ (.int .i64 x)) [g]) := HT.out.setCell (.inl (by simp)) _
          clear hz
          go_wp2_with fail
          refine hcl.mono ?_
          rintro e w1 ⟨rfl, rfl⟩
          clear hcl
          go_wp2
          go_roundw
          case rel => (repeat apply Exists.intro); exact ⟨⟨i + 1, j + 1, ys.set i x, by go_num, by go_num, by omega, by omega, HP2.out, fun k hk => by rw [List.getElem?_set_ne (by omega)]; exact HREST.out k (by omega), HR2.out, HT2.out⟩, rfl⟩
          case measure => simp [intOf]; omega
      · obtain rfl : j = N := by omega
        have hall : xs.take j = xs := by rw [HN.out, List.take_length]
        rw [hall] at hpre
        have hcl := Lib.run_clear_slice (P := Try.prog) wr 24 3 0 (.int .i64 0) Try.underlying24 (Try.zeroValue3) rfl rfl g i (j - i) (cap - i) (by omega) (fun k hk => by rw [hcell (i + k) (by omega)]; rfl) (fun k hk => hfz (i + k))
        have hi1 : (i : Int) ≤ j := by omega
        have hi0 : (0 : Int) ≤ i := by omega
        have hjc : j ≤ cap := by
          rcases hrow.2 with ⟨e, _⟩ | ⟨g', cap', cur, e, hB, hg, h5, _⟩
          · simp at e
          · simp only [Value.slice.injEq, Option.some.injEq, Addr.mk.injEq] at e
            obtain ⟨_, _, rfl⟩ := e
            exact h5
        have hjc' : (j : Int) ≤ cap := by omega
        have HR3 : Hid _ := row_clear (List.replicate (j - i) (.int .i64 0)) i wr (Nat.le_refl _) (row_first hrow i (by omega))
        have HT3 : Hid _ := touch_clear (g := g) (.inl (by simp)) (List.replicate (j - i) (.int .i64 0)) i wr t
        have hlen : i = (xs.filter fun x => !f x).length := by rw [← hpre, List.length_take]; omega
        have HLEN : Hid _ := hlen
        have HP2 : Hid _ := hpre
        clear hcell hfz hrow t hrest hpre hall HCALL hlen
        go_wp2_with fail
        go_ret
        refine ⟨_, rfl, ?_, HT3.out⟩
        have h3 := HR3.out
        rw [← List.map_take, HP2.out] at h3
        show World.ownsRow _ _ _ _ _ _ _
        rw [← HLEN.out]
        exact h3

end Go.Proofs.Ytjacclbifeoclaa

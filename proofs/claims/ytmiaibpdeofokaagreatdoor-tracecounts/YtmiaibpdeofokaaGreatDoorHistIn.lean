/-
  package history: In BY ITS CONTRACT (slices.IndexFunc, slices.DeleteFunc at []int, over its closure).
-/
import Derived.Test.YtmiaibpdeofokaaGreatDoorAllB
import Derived.Lib.SliceRun
namespace Go.Proofs.YtmiaibpdeofokaaGreatDoor
set_option linter.unusedVariables false
set_option linter.unusedSimpArgs false
open Go.RowKit Go.Maps Go.Shelf
attribute [local go_sem] Oper.semAt_some

/-! ### Rows of numbers, written in place -/
theorem int_set {w : World} {B g cap n : Nat} {ys : List Int} (h : w.ownsRow B 3 1 (.slice (some ⟨g, 0, none⟩) n cap) n (ys.map (Value.int .i64))) (i : Nat) (x : Int) :
    (w.setCell ⟨g, i, none⟩ (.int .i64 x)).ownsRow B 3 1 (.slice (some ⟨g, 0, none⟩) n cap) n ((ys.set i x).map (Value.int .i64)) := by
  refine ⟨by have := h.1; simpa using this, .inr ?_⟩
  rcases h.2 with ⟨e, _⟩ | ⟨g', cap', cur, e, hB, hg, h1, h2, h3, h4⟩
  · simp at e
  · simp only [Value.slice.injEq, Option.some.injEq, Addr.mk.injEq] at e
    obtain ⟨⟨rfl, _⟩, _, rfl⟩ := e
    refine ⟨g, cap, _, rfl, hB, heap_setCell_same _ _ _ _ _ _ hg, h1, h2, by simpa using h3, ?_⟩
    rw [List.map_set, ← h4]
    simp only [Array.toList_setIfInBounds, Nat.mul_one]
    rw [List.take_set]
theorem row_far {w : World} {B g cap i : Nat} {xs : List Value} (h : w.ownsRow B 3 1 (.slice (some ⟨g, 0, none⟩) i cap) i xs) (o : Nat) (ho : i ≤ o) (u : Value) : (w.setCell ⟨g, o, none⟩ u).ownsRow B 3 1 (.slice (some ⟨g, 0, none⟩) i cap) i xs := by
  refine ⟨h.1, .inr ?_⟩
  rcases h.2 with ⟨e, _⟩ | ⟨g', cap', cur, e, hB, hg, h1, h2, h3, h4⟩
  · simp at e
  · simp only [Value.slice.injEq, Option.some.injEq, Addr.mk.injEq] at e
    obtain ⟨⟨rfl, _⟩, _, rfl⟩ := e
    refine ⟨g, cap, _, rfl, hB, heap_setCell_same _ _ _ _ _ _ hg, h1, h2, by simpa using h3, ?_⟩
    simp only [Array.toList_setIfInBounds, Nat.mul_one] at h4 ⊢
    rw [List.take_set, List.set_eq_of_length_le (by simp; omega)]
    exact h4
theorem row_clear {B g cap i : Nat} {xs : List Value} : ∀ (vs : List Value) (o : Nat) (w : World), i ≤ o → w.ownsRow B 3 1 (.slice (some ⟨g, 0, none⟩) i cap) i xs → (w.setCells g o vs).ownsRow B 3 1 (.slice (some ⟨g, 0, none⟩) i cap) i xs
  | [], o, w, _, h => h
  | v :: vs, o, w, ho, h => row_clear vs (o + 1) _ (by omega) (row_far h o ho v)
theorem touch_clear {g : Nat} {a : World} {S : List Nat} (hg : g ∈ S ∨ a.heap.size ≤ g) : ∀ (vs : List Value) (o : Nat) (w : World), Touch a w S → Touch a (w.setCells g o vs) S
  | [], o, w, h => h
  | v :: vs, o, w, h => touch_clear hg vs (o + 1) _ (h.setCell hg v)
theorem row_first {w : World} {B g cap n : Nat} {xs : List Value} (h : w.ownsRow B 3 1 (.slice (some ⟨g, 0, none⟩) n cap) n xs) (i : Nat) (hi : i ≤ n) : w.ownsRow B 3 1 (.slice (some ⟨g, 0, none⟩) i cap) i (xs.take i) := by
  have hl := h.1
  refine ⟨by rw [List.length_take]; simp at hl ⊢; omega, .inr ?_⟩
  rcases h.2 with ⟨e, _⟩ | ⟨g', cap', cur, e, hB, hg, h1, h2, h3, h4⟩
  · simp at e
  · simp only [Value.slice.injEq, Option.some.injEq, Addr.mk.injEq] at e
    obtain ⟨⟨rfl, _⟩, _, rfl⟩ := e
    refine ⟨g, cap, cur, rfl, hB, hg, by omega, h2, h3, ?_⟩
    rw [← h4, List.take_take]
    congr 1
    omega

/-- The closure of In. -/
theorem in1_any {w : World} {p q mb n : Nat} {G : Int → Option Value} {l : List EvD} {s : Int} (hp : w.cell? ⟨p, 0, none⟩ = some (.map (some mb))) (hq : w.cell? ⟨q, 0, none⟩ = some (.int .u8 s)) (hG : MapF w mb n G) (hy : ∀ y, (G y).getD (.int .u8 0) = .int .u8 (stateS l y)) (x : Int) (hx : W64 x) :
    Calls Tryz.prog 65 #[.int .i64 x, ptr p, ptr q] w fun e w' => e = .returned (.bool (stateS l x != s)) ∧ w = w' := by
  have hlk := hG.look Tryz.underlying107 (Tryz.zeroValue80 _) hx
  rw [hy x] at hlk
  clear hG hy
  go_enter Tryz.func65, Tryz.ntmps65
  go_wp2
  go_ret
  exact ⟨rfl, rfl⟩

/-- What the closure needs. -/
structure InC (w : World) (p q mb n : Nat) (G : Int → Option Value) (l : List EvD) (s : Int) : Prop where
  p : One w p (.map (some mb)) 107
  q : One w q (.int .u8 s) 80
  map : MapF w mb n G
  y : ∀ y, (G y).getD (.int .u8 0) = .int .u8 (stateS l y)
theorem InC.touch {w w' : World} {p q mb n : Nat} {G : Int → Option Value} {l : List EvD} {s : Int} {S : List Nat} (h : InC w p q mb n G l s) (t : Touch w w' S) (h1 : p ∉ S) (h2 : q ∉ S) (h3 : mb ∉ S) : InC w' p q mb n G l s :=
  ⟨One.touch h.p t h1, One.touch h.q t h2, h.map.touch t h3, h.y⟩
theorem InC.call {w : World} {p q mb n : Nat} {G : Int → Option Value} {l : List EvD} {s : Int} (h : InC w p q mb n G l s) (x : Int) (hx : W64 x) : Calls Tryz.prog 65 #[.int .i64 x, ptr p, ptr q] w fun e w' => e = .returned (.bool (stateS l x != s)) ∧ w = w' := in1_any h.p.cell h.q.cell h.map h.y x hx

/-- The first place that is taken out. -/
def idxP (f : Int → Bool) : List Int → Nat → Int
  | [], _ => -1
  | x :: l, i => if f x then i else idxP f l (i + 1)
theorem idxP_drop {f : Int → Bool} {l : List Int} {k : Nat} (hk : k < l.length) : idxP f (l.drop k) k = if f l[k] then (k : Int) else idxP f (l.drop (k + 1)) (k + 1) := by
  rw [List.drop_eq_getElem_cons hk]; rfl

set_option maxRecDepth 100000 in
set_option maxHeartbeats 2000000 in
theorem index_any {w : World} {p q mb n B : Nat} {G : Int → Option Value} {l : List EvD} {s : Int} {v : Value} {xs : List Int} (h : InC w p q mb n G l s) (hv : intOwn w B v xs) (hl : xs.length ≤ 1000) (hwf : ∀ x ∈ xs, W64 x) :
    Calls Tryz.prog 92 #[v, .func (.func 65) #[] #[ptr p, ptr q]] w fun e w' => e = .returned (.int .i64 (idxP (fun x => stateS l x != s) xs 0)) ∧ w = w' := by
  obtain ⟨ao, cap, rfl, hc⟩ := int_form hv
  obtain ⟨N, hN⟩ : ∃ N, N = xs.length := ⟨_, rfl⟩
  have HN : Hid _ := hN
  have HC : Hid _ := hc
  have HH : Hid _ := h
  have HW : Hid _ := hwf
  obtain ⟨res, hres⟩ : ∃ r, r = idxP (fun x => stateS l x != s) xs 0 := ⟨_, rfl⟩
  rw [← hres]
  have HRES : Hid _ := hres
  rw [← hN] at hl ⊢
  clear hN hc hv h hres hwf
  go_enter Tryz.func92, Tryz.ntmps92
  go_wp2_with fail
  go_loopw [8] (fun i wr => ∃ k : Nat, i = .int .i64 k ∧ k ≤ N ∧ res = idxP (fun x => stateS l x != s) (xs.drop k) k ∧ wr = w) (fun i _ => N - (intOf i).toNat)
  case atStart => exact ⟨0, rfl, Nat.zero_le _, HRES.out, rfl⟩
  case round =>
    obtain ⟨k, rfl, hk, hrs, rfl⟩ := hrel
    clear HRES
    by_cases hlt : k < N
    · have h1 : (k : Int) < N := by omega
      have h0 : (0 : Int) ≤ k := by omega
      have hkl : k < xs.length := by rw [← HN.out]; exact hlt
      obtain ⟨g, rfl, hg, d0⟩ := HC.out k hkl
      rw [idxP_drop hkl] at hrs
      have hcl := HH.out.call xs[k] (HW.out _ (List.getElem_mem hkl))
      generalize xs[k] = x at *
      cases hz : (stateS l x != s) with
      | true =>
        rw [hz] at hcl hrs
        simp only [if_true] at hrs
        have HR : Hid _ := hrs
        clear hz hrs
        go_wp2_with fail
        refine hcl.mono ?_
        rintro e w1 ⟨rfl, rfl⟩
        clear hcl
        go_wp2
        go_ret
        exact ⟨by rw [HR.out]; rfl, rfl⟩
      | false =>
        rw [hz] at hcl hrs
        simp only [Bool.false_eq_true, if_false] at hrs
        have HR : Hid _ := hrs
        clear hz hrs
        go_wp2_with fail
        refine hcl.mono ?_
        rintro e w1 ⟨rfl, rfl⟩
        clear hcl
        go_wp2
        go_roundw
        case rel => exact ⟨k + 1, by go_num, by omega, HR.out, by simp⟩
        case measure => simp [intOf]; omega
    · obtain rfl : k = N := by omega
      have hall : xs.drop k = [] := by rw [HN.out, List.drop_length]
      rw [hall] at hrs
      have HR : Hid _ := hrs
      clear hrs hall
      go_wp2
      go_ret
      exact ⟨by rw [HR.out]; rfl, rfl⟩

theorem idxP_none {f : Int → Bool} : ∀ (l : List Int) (i : Nat), idxP f l i = -1 ↔ ∀ x ∈ l, f x = false
  | [], i => by simp [idxP]
  | x :: l, i => by
    unfold idxP
    by_cases h : f x = true
    · simp [h]
    · rw [if_neg h, idxP_none l (i + 1)]
      simp at h
      simp [h]
theorem idxP_some {f : Int → Bool} : ∀ (l : List Int) (i : Nat), idxP f l i ≠ -1 → ∃ k, ∃ hk : k < l.length, idxP f l i = ((i + k : Nat) : Int) ∧ f l[k] = true ∧ ∀ x ∈ l.take k, f x = false
  | [], i => by simp [idxP]
  | x :: l, i => by
    intro h
    unfold idxP at h ⊢
    by_cases hx : f x = true
    · exact ⟨0, by simp, by simp [hx], by simpa using hx, by simp⟩
    · rw [if_neg hx] at h ⊢
      obtain ⟨k, hk, h1, h2, h3⟩ := idxP_some l (i + 1) h
      refine ⟨k + 1, by simpa using hk, by rw [h1]; congr 1; omega, by simpa using h2, ?_⟩
      intro y hy
      simp only [List.take_succ_cons, List.mem_cons] at hy
      rcases hy with rfl | hy
      · simpa using hx
      · exact h3 y hy

theorem filter_keep {f : Int → Bool} {xs : List Int} {j : Nat} (hj : j < xs.length) : (xs.take (j + 1)).filter (fun x => !f x) = if f xs[j] then (xs.take j).filter (fun x => !f x) else (xs.take j).filter (fun x => !f x) ++ [xs[j]] := by
  rw [List.take_succ_eq_append_getElem hj, List.filter_append]
  by_cases h : f xs[j] = true
  · simp [h]
  · simp at h
    simp [h]

set_option maxRecDepth 100000 in
set_option maxHeartbeats 2000000 in
theorem delete_any {w : World} {p q mb n B : Nat} {G : Int → Option Value} {l : List EvD} {s : Int} {v : Value} {xs : List Int} (h : InC w p q mb n G l s) (hv : intOwn w B v xs) (hl : xs.length ≤ 1000) (hwf : ∀ x ∈ xs, W64 x)
    (hp : ∀ g, v.ownBlock = some g → p ≠ g ∧ q ≠ g ∧ mb ≠ g) :
    Calls Tryz.prog 64 #[v, .func (.func 65) #[] #[ptr p, ptr q]] w fun e w' => ∃ v', e = .returned v' ∧ intOwn w' B v' (xs.filter fun x => !(stateS l x != s)) ∧ Touch w w' v.ownBlock.toList := by
  have hix := index_any h hv hl hwf
  obtain ⟨f, hf⟩ : ∃ f : Int → Bool, f = fun x => stateS l x != s := ⟨_, rfl⟩
  have hfx : ∀ x, f x = (stateS l x != s) := fun x => by rw [hf]
  rw [← hf] at hix
  have hfl : (xs.filter fun x => !(stateS l x != s)) = xs.filter fun x => !f x := by rw [hf]
  rw [hfl]
  have hcall := fun W (hW : InC W p q mb n G l s) x (hx : W64 x) => hW.call x hx
  simp only [← hfx] at hcall
  have HCALL : Hid _ := hcall
  clear hfl hf hfx hcall
  by_cases hno : idxP f xs 0 = -1
  · have hall := (idxP_none xs 0).1 hno
    rw [hno] at hix
    have hfe : (xs.filter fun x => !f x) = xs := List.filter_eq_self.2 (fun x hx => by rw [hall x hx]; rfl)
    rw [hfe]
    obtain ⟨ao, cap, rfl, _⟩ := int_form hv
    have HV : Hid (intOwn w B (.slice ao xs.length cap) xs) := hv
    clear hv hall hfe h hno
    generalize hN : xs.length = N at hix HV ⊢
    go_enter Tryz.func64, Tryz.ntmps64
    go_wp2_with fail
    refine hix.mono ?_
    rintro e w1 ⟨rfl, rfl⟩
    clear hix
    go_wp2
    go_ret
    refine ⟨_, rfl, ?_, Touch.refl _ _⟩
    have := HV.out
    rw [← hN] at this ⊢
    exact this
  · obtain ⟨i0, hi0, hix0, hfi, hbef⟩ := idxP_some xs 0 hno
    rw [hix0, Nat.zero_add] at hix
    obtain ⟨g, cap, rfl, hgB, hgl⟩ : ∃ g cap, v = .slice (some ⟨g, 0, none⟩) xs.length cap ∧ B ≤ g ∧ g < w.heap.size := by
      rcases hv.2 with ⟨rfl, h0⟩ | ⟨g, cap, cur, rfl, hB, hg, _⟩
      · omega
      · exact ⟨g, cap, rfl, hB, lt_of_heap hg⟩
    obtain ⟨hp1, hp2, hp3⟩ := hp g rfl
    obtain ⟨N, hN⟩ : ∃ N, N = xs.length := ⟨_, rfl⟩
    have HN : Hid _ := hN
    have HV : Hid (w.ownsRow B 3 1 (.slice (some ⟨g, 0, none⟩) N cap) N (xs.map (Value.int .i64))) := by rw [hN]; exact hv
    have HIN : Hid _ := h
    have HW : Hid _ := hwf
    have hpre : xs.take i0 = (xs.take (i0 + 1)).filter (fun x => !f x) := by
      rw [filter_keep hi0, if_pos hfi]
      exact (List.filter_eq_self.2 (fun x hx => by rw [hbef x hx]; rfl)).symm
    have HPRE : Hid _ := hpre
    rw [← hN] at hix hl hi0 ⊢
    clear hno hix0 hfi hbef hp hN hv h hwf hpre
    go_enter Tryz.func64, Tryz.ntmps64
    go_wp2_with fail
    refine hix.mono ?_
    rintro e w1 ⟨rfl, rfl⟩
    clear hix
    have hne : ¬ ((i0 : Int) = -1) := by omega
    go_wp2_with fail
    go_loopw [5, 6] (fun vi vj wr => ∃ (i j : Nat) (ys : List Int), vi = .int .i64 i ∧ vj = .int .i64 j ∧ i < j ∧ j ≤ N ∧ ys.take i = (xs.take j).filter (fun x => !f x) ∧ (∀ k, j ≤ k → ys[k]? = xs[k]?) ∧ wr.ownsRow B 3 1 (.slice (some ⟨g, 0, none⟩) N cap) N (ys.map (Value.int .i64)) ∧ Touch w wr [g]) (fun _ vj _ => N - (intOf vj).toNat)
    case atStart => exact ⟨i0, i0 + 1, xs, rfl, by go_num, by omega, by omega, HPRE.out, fun k _ => rfl, HV.out, Touch.refl _ _⟩
    case round =>
      obtain ⟨i, j, ys, rfl, rfl, hij, hjN, hpre, hrest, hrow, t⟩ := hrel
      clear HPRE HV
      have hyl : ys.length = N := by have := hrow.1; simpa using this
      have hcell : ∀ k (hk : k < ys.length), wr.cell? ⟨g, k, none⟩ = some (.int .i64 ys[k]) := fun k hk => by
        have := hrow.cells (g := g) rfl k (.int .i64 ys[k]) (by simp [hk])
        rw [Addr.add_lit] at this
        simpa using this
      have hfz : ∀ k, wr.frozen? ⟨g, k, none⟩ = false := fun k => by
        rcases hrow.2 with ⟨e, _⟩ | ⟨g', cap', cur, e, hB, hg, _⟩
        · simp at e
        · simp only [Value.slice.injEq, Option.some.injEq, Addr.mk.injEq] at e
          obtain ⟨⟨rfl, _⟩, _, rfl⟩ := e
          simp [World.frozen?, hg]
      have HROW : Hid _ := hrow
      have HT : Hid _ := t
      have HREST : Hid _ := hrest
      have HPRE : Hid _ := hpre
      by_cases hjt : j < N
      · have h1 : (j : Int) < N := by omega
        have h0 : (0 : Int) ≤ j := by omega
        have hjx : j < xs.length := by rw [← HN.out]; exact hjt
        have hyj : ys[j]'(by omega) = xs[j] := by
          have := hrest j (Nat.le_refl _)
          rw [List.getElem?_eq_getElem (by omega), List.getElem?_eq_getElem hjx] at this
          simpa using this
        have d0 := hcell j (by omega)
        rw [hyj] at d0
        have hfk := filter_keep (f := f) hjx
        have hcl := HCALL.out wr (HIN.out.touch t (by simpa using hp1) (by simpa using hp2) (by simpa using hp3)) xs[j] (HW.out _ (List.getElem_mem hjx))
        obtain ⟨x, hx⟩ : ∃ x, x = xs[j] := ⟨_, rfl⟩
        rw [← hx] at d0 hfk hcl
        have HFK : Hid _ := hfk
        clear hyj hfk hx hrow t hrest hpre
        have di := hcell i (by omega)
        have fi := hfz i
        have hi1 : (i : Int) < N := by omega
        have hi0 : (0 : Int) ≤ i := by omega
        clear hcell hfz
        cases hz : f x with
        | true =>
          rw [hz] at hcl
          have HP2 : Hid (ys.take i = (xs.take (j + 1)).filter (fun x => !f x)) := by show _ = _; rw [HFK.out, if_pos hz]; exact HPRE.out
          clear hz
          go_wp2_with fail
          refine hcl.mono ?_
          rintro e w1 ⟨rfl, rfl⟩
          clear hcl
          go_wp2
          go_roundw
          case rel => (repeat apply Exists.intro); exact ⟨⟨i, j + 1, ys, rfl, by go_num, by omega, by omega, HP2.out, fun k hk => HREST.out k (by omega), HROW.out, HT.out⟩, rfl⟩
          case measure => simp [intOf]; omega
        | false =>
          rw [hz] at hcl
          have HP2 : Hid ((ys.set i x).take (i + 1) = (xs.take (j + 1)).filter (fun x => !f x)) := by
            show _ = _
            rw [HFK.out, if_neg (by rw [hz]; simp), ← HPRE.out, List.take_succ_eq_append_getElem (by simp; omega), List.take_set, List.set_eq_of_length_le (by simp; omega)]
            simp
          have HR2 : Hid _ := int_set HROW.out i x
          have HT2 : Hid (Touch w (wr.setCell ⟨g, i, none⟩ (.int .i64 x)) [g]) := HT.out.setCell (.inl (by simp)) _
          clear hz
          go_wp2_with fail
          refine hcl.mono ?_
          rintro e w1 ⟨rfl, rfl⟩
          clear hcl
          go_wp2
          go_roundw
          case rel => (repeat apply Exists.intro); exact ⟨⟨i + 1, j + 1, ys.set i x, by go_num, by go_num, by omega, by omega, HP2.out, fun k hk => by rw [List.getElem?_set_ne (by omega)]; exact HREST.out k (by omega), HR2.out, HT2.out⟩, rfl⟩
          case measure => simp [intOf]; omega
      · obtain rfl : j = N := by omega
        have hall : xs.take j = xs := by rw [HN.out, List.take_length]
        rw [hall] at hpre
        have hcl := Lib.run_clear_slice (P := Tryz.prog) wr 76 3 0 (.int .i64 0) Tryz.underlying76 (Tryz.zeroValue3) rfl rfl g i (j - i) (cap - i) (by omega) (fun k hk => by rw [hcell (i + k) (by omega)]; rfl) (fun k hk => hfz (i + k))
        have hi1 : (i : Int) ≤ j := by omega
        have hi0 : (0 : Int) ≤ i := by omega
        have hjc : j ≤ cap := by
          rcases hrow.2 with ⟨e, _⟩ | ⟨g', cap', cur, e, hB, hg, h5, _⟩
          · simp at e
          · simp only [Value.slice.injEq, Option.some.injEq, Addr.mk.injEq] at e
            obtain ⟨_, _, rfl⟩ := e
            exact h5
        have hjc' : (j : Int) ≤ cap := by omega
        have HR3 : Hid _ := row_clear (List.replicate (j - i) (.int .i64 0)) i wr (Nat.le_refl _) (row_first hrow i (by omega))
        have HT3 : Hid _ := touch_clear (g := g) (.inl (by simp)) (List.replicate (j - i) (.int .i64 0)) i wr t
        have hlen : i = (xs.filter fun x => !f x).length := by rw [← hpre, List.length_take]; omega
        have HLEN : Hid _ := hlen
        have HP2 : Hid _ := hpre
        clear hcell hfz hrow t hrest hpre hall HIN HCALL hlen
        go_wp2_with fail
        go_ret
        refine ⟨_, rfl, ?_, HT3.out⟩
        have h3 := HR3.out
        rw [← List.map_take, HP2.out] at h3
        show World.ownsRow _ _ _ _ _ _ _
        rw [← HLEN.out]
        exact h3

set_option maxRecDepth 100000 in
set_option maxHeartbeats 2000000 in
theorem in_any {w : World} {ao : Option Addr} {cap : Nat} {l : List EvD} (hr : EvRow w (.slice ao l.length cap) l) (hl : l.length ≤ 1000) (hwf : ∀ e ∈ l, e.Wf) (s : Int) :
    Calls Tryz.prog 41 #[.slice ao l.length cap, .int .u8 s] w fun x w' => ∃ v, x = .returned v ∧ intOwn w' w.heap.size v ((attS l).filter fun x => !(stateS l x != s)) ∧ Touch w w' [] := by
  have hmf : ∀ (fn : Fn) (first cap : Array Value) (w : World), (Instr.makeFunc fn first cap).run Tryz.prog w = .ok (.func fn first cap) w := fun _ _ _ _ => rfl
  have T0 : Touch w (w.alloc (.cells #[.int .u8 s] 80)) [] := (Touch.refl w []).alloc _
  have Q0 := one_new w (.int .u8 s) 80
  have hs := states_any (SRow.keep hr T0 (by simp)) hl hwf
  have HAT : Hid (∀ W, Touch w W [] → Calls Tryz.prog 40 #[.slice ao l.length cap] W fun x w' => ∃ v, x = .returned v ∧ intOwn w' W.heap.size v (attS l) ∧ Touch W w' []) := fun W t => attempts_any (SRow.keep hr t (by simp)) hl hwf
  have HAW : Hid (∀ a ∈ attS l, W64 a) := attS_wf hwf
  have HAL : Hid ((attS l).length ≤ 1000) := Nat.le_trans (attS_le l) hl
  have HT0 : Hid _ := T0
  have HQ0 : Hid _ := Q0
  clear hr hl hwf T0 Q0
  generalize l.length = N at *
  go_enter Tryz.func41, Tryz.ntmps41
  go_wp2_with fail
  refine hs.mono ?_
  rintro x w1 ⟨mb, n, G, rfl, hmb, hG, hy, t1⟩
  have t01 := HT0.out.trans t1 (by simp)
  have T2 : Touch w1 (w1.alloc (.cells #[.map (some mb)] 107)) [] := (Touch.refl w1 []).alloc _
  have hIC : InC (w1.alloc (.cells #[.map (some mb)] 107)) w1.heap.size w.heap.size mb n G l s := ⟨one_new w1 _ _, (One.touch HQ0.out t1 (by simp)).alloc _, hG.touch T2 (by simp), hy⟩
  have hat := HAT.out _ (t01.trans T2 (by simp))
  have hmlt := hG.lt
  have HIC : Hid _ := hIC
  have HT2 : Hid _ := t01.trans T2 (by simp)
  clear hs HAT hG hy hIC T2
  rw [World.size_alloc] at hmb
  go_wp2_with fail
  refine hat.mono ?_
  rintro x w2 ⟨v2, rfl, hv2, t2⟩
  clear hat
  have hs1 := t01.size
  have hd := delete_any (HIC.out.touch t2 (by simp) (by simp) (by simp)) hv2 HAL.out HAW.out (fun g hg => by
    have := (hv2.lt g hg).1
    rw [World.size_alloc] at this
    exact ⟨by omega, by omega, by omega⟩)
  have hvb : ∀ g, v2.ownBlock = some g → w.heap.size ≤ g := fun g hg => by
    have := (hv2.lt g hg).1
    rw [World.size_alloc] at this
    omega
  have HVB : Hid _ := hvb
  have HSZ : Hid (w.heap.size ≤ (w1.alloc (.cells #[.map (some mb)] 107)).heap.size) := HT2.out.size
  obtain ⟨ao2, cap2, rfl, _⟩ := int_form hv2
  have HT3 : Hid _ := HT2.out.trans t2 (by simp)
  clear hv2 hvb t2
  generalize hM : (attS l).length = M at hd HVB ⊢
  go_wp2_with fail
  refine hd.mono ?_
  rintro x w3 ⟨v3, rfl, hv3, t3⟩
  have hlow : intOwn w3 w.heap.size v3 ((attS l).filter fun x => !(stateS l x != s)) := by
    refine ⟨hv3.1, ?_⟩
    rcases hv3.2 with h | ⟨g, cap, cur, e, hB, r⟩
    · exact .inl h
    · exact .inr ⟨g, cap, cur, e, Nat.le_trans HSZ.out hB, r⟩
  obtain ⟨ao3, cap3, rfl, _⟩ := int_form hlow
  have HLOW : Hid _ := hlow
  have HT4 : Hid (Touch w w3 []) := HT3.out.trans t3 (fun x hx => .inr (HVB.out x (by simpa using hx)))
  clear hd hv3 t3 hlow
  go_wp2
  go_ret
  exact ⟨_, rfl, HLOW.out, HT4.out⟩

end Go.Proofs.YtmiaibpdeofokaaGreatDoor

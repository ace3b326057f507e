/-
  package opaque: isOvertaken BY ITS CONTRACT.
-/
import Derived.Test.YtjacclbifeoclaaOpqBase
namespace Go.Proofs.Ytjacclbifeoclaa
set_option linter.unusedVariables false
set_option linter.unusedSimpArgs false
open Go.RowKit Go.Maps
attribute [local go_sem] Oper.semAt_some

set_option maxRecDepth 100000 in
set_option maxHeartbeats 2000000 in
theorem oover_index {w : World} {p q : Nat} {v : Value} {xs : List Int} {f : Int → Bool} (hr : IRow w v xs) (hl : xs.length ≤ 100000)
    (hcl : ∀ W, Touch w W [] → ∀ x ∈ xs, Calls Try.prog 84 #[.int .i64 x, ptr p, ptr q] W fun e w' => e = .returned (.bool (f x)) ∧ Touch W w' []) :
    Calls Try.prog 82 #[v, .func (.func 84) #[] #[ptr p, ptr q]] w fun e w' => e = .returned (.int .i64 (idxP f xs 0)) ∧ Touch w w' [] := by
  obtain ⟨ao, cap, rfl⟩ := hr.form
  have HC : Hid (∀ k (hk : k < xs.length), ∃ g off, ao = some ⟨g, off, none⟩ ∧ g < w.heap.size ∧ w.cell? ⟨g, off + k, none⟩ = some (.int .i64 xs[k])) := fun k hk => IRow.one hr k hk
  obtain ⟨N, hN⟩ : ∃ N, N = xs.length := ⟨_, rfl⟩
  have HN : Hid _ := hN
  have HCL : Hid (∀ W, Touch w W [] → ∀ x ∈ xs, Calls Try.prog 84 #[.int .i64 x, ptr p, ptr q] W fun e w' => e = .returned (.bool (f x)) ∧ Touch W w' []) := hcl
  obtain ⟨res, hres⟩ : ∃ r, r = idxP f xs 0 := ⟨_, rfl⟩
  rw [← hres]
  have HRES : Hid _ := hres
  rw [← hN] at hl ⊢
  clear hN hr hcl hres
  go_enter Try.func82, Try.ntmps82
  go_wp2_with fail
  go_loopw [8] (fun i wr => ∃ k : Nat, i = .int .i64 k ∧ k ≤ N ∧ res = idxP f (xs.drop k) k ∧ Touch w wr []) (fun i _ => N - (intOf i).toNat)
  case atStart => exact ⟨0, rfl, Nat.zero_le _, HRES.out, Touch.refl _ _⟩
  case round =>
    obtain ⟨k, rfl, hk, hrs, t⟩ := hrel
    clear HRES
    by_cases hlt : k < N
    · have h1 : (k : Int) < N := by omega
      have h0 : (0 : Int) ≤ k := by omega
      have hkl : k < xs.length := by rw [← HN.out]; exact hlt
      obtain ⟨g, off, rfl, hg, d1⟩ := HC.out k hkl
      have d0 := (t.cell (p := ⟨g, off + k, none⟩) hg (by simp)).trans d1
      rw [idxP_drop hkl] at hrs
      have hcl := HCL.out wr t xs[k] (List.getElem_mem hkl)
      generalize xs[k] = x at *
      have HT : Hid _ := t
      clear d1 t
      cases hz : f x with
      | true =>
        rw [hz] at hcl hrs
        simp only [if_true] at hrs
        have HR : Hid _ := hrs
        clear hz hrs
        go_wp2_with fail
        refine hcl.mono ?_
        rintro e w1 ⟨rfl, t1⟩
        clear hcl
        go_wp2
        go_ret
        exact ⟨by rw [HR.out]; rfl, HT.out.trans t1 (by simp)⟩
      | false =>
        rw [hz] at hcl hrs
        simp only [Bool.false_eq_true, if_false] at hrs
        have HR : Hid _ := hrs
        clear hz hrs
        go_wp2_with fail
        refine hcl.mono ?_
        rintro e w1 ⟨rfl, t1⟩
        clear hcl
        go_wp2
        go_roundw
        case rel => exact ⟨k + 1, by go_num, by omega, HR.out, HT.out.trans t1 (by simp)⟩
        case measure => simp [intOf]; omega
    · obtain rfl : k = N := by omega
      have hall : xs.drop k = [] := by rw [HN.out, List.drop_length]
      rw [hall] at hrs
      have HR : Hid _ := hrs
      have HT : Hid _ := t
      clear hrs hall t
      go_wp2
      go_ret
      exact ⟨by rw [HR.out]; rfl, HT.out⟩

theorem idx_any' (f : Int → Bool) (l : List Int) : decide (0 ≤ idxP f l 0) = l.any f := by
  by_cases h : idxP f l 0 = -1
  · have h1 := (idxP_none l 0).1 h
    rw [h]
    symm
    simpa using h1
  · obtain ⟨k, hk, h1, h2, _⟩ := idxP_some l 0 h
    have h3 : l.any f = true := List.any_eq_true.2 ⟨_, List.getElem_mem hk, h2⟩
    rw [h1, h3]
    simp

set_option maxRecDepth 100000 in
theorem oover_contains {w : World} {p q : Nat} {v : Value} {xs : List Int} {f : Int → Bool} (hr : IRow w v xs) (hl : xs.length ≤ 100000)
    (hcl : ∀ W, Touch w W [] → ∀ x ∈ xs, Calls Try.prog 84 #[.int .i64 x, ptr p, ptr q] W fun e w' => e = .returned (.bool (f x)) ∧ Touch W w' []) :
    Calls Try.prog 83 #[v, .func (.func 84) #[] #[ptr p, ptr q]] w fun e w' => e = .returned (.bool (xs.any f)) ∧ Touch w w' [] := by
  have hix := oover_index hr hl hcl
  obtain ⟨ao, cap, rfl⟩ := hr.form
  rw [← idx_any']
  generalize idxP f xs 0 = r at *
  generalize xs.length = N at *
  clear hr hcl hl
  go_enter Try.func83, Try.ntmps83
  go_wp2_with fail
  refine hix.mono ?_
  rintro e w1 ⟨rfl, t⟩
  clear hix
  go_wp2
  go_ret
  exact ⟨rfl, t⟩

/-- A row of attempts: its four cells. -/
abbrev RowAt (w : World) (rb : Nat) (ve vc vl vh : Value) : Prop := w.heap[rb]? = some (.cells #[ve, vc, vl, vh] 60 (0, 0))
theorem RowAt.cells {w : World} {rb : Nat} {ve vc vl vh : Value} (h : RowAt w rb ve vc vl vh) :
    w.cell? ⟨rb, 0, none⟩ = some ve ∧ w.cell? ⟨rb, 1, none⟩ = some vc ∧ w.cell? ⟨rb, 2, none⟩ = some vl ∧ w.cell? ⟨rb, 3, none⟩ = some vh := by
  refine ⟨?_, ?_, ?_, ?_⟩ <;> simp [World.cell?, h]
theorem RowAt.touch {w w' : World} {rb : Nat} {ve vc vl vh : Value} {S : List Nat} (h : RowAt w rb ve vc vl vh) (t : Touch w w' S) (hS : rb ∉ S) : RowAt w' rb ve vc vl vh := (t.block _ (lt_of_heap h) hS).trans h

set_option maxRecDepth 100000 in
theorem over1_any {w : World} {p q rb : Nat} {ao : Option Addr} {cap : Nat} {vc vl vh : Value} {l : List EvD} (hp : w.cell? ⟨p, 0, none⟩ = some (ptr rb)) {a : Int} (hq : w.cell? ⟨q, 0, none⟩ = some (.int .i64 a)) (hR : RowAt w rb (.slice ao l.length cap) vc vl vh) (hr : EvRow w (.slice ao l.length cap) l) (hl : l.length ≤ 1000) (x : Int) :
    Calls Try.prog 84 #[.int .i64 x, ptr p, ptr q] w fun e w' => e = .returned (.bool (befS x a false l)) ∧ Touch w w' [] := by
  obtain ⟨c0, c1, c2, c3⟩ := hR.cells
  have HB : Hid (∀ W, Touch w W [] → Calls Try.prog 85 #[.slice ao l.length cap, .int .i64 x, .int .i64 a] W fun e w' => e = .returned (.bool (befS x a false l)) ∧ Touch W w' []) := fun W t => before_any (SRow.keep hr t (by simp)) hl x a
  have hlp := World.block_lt_of_cell? w _ hp
  have hlq := World.block_lt_of_cell? w _ hq
  have hlr := World.block_lt_of_cell? w _ c0
  have HS : Hid (∀ W, Touch w W [] → W.cell? ⟨p, 0, none⟩ = some (ptr rb) ∧ W.cell? ⟨q, 0, none⟩ = some (.int .i64 a) ∧ W.cell? ⟨rb, 0, none⟩ = some (.slice ao l.length cap)) := fun W t =>
    ⟨(t.cell (p := ⟨p, 0, none⟩) hlp (by simp)).trans hp, (t.cell (p := ⟨q, 0, none⟩) hlq (by simp)).trans hq, (t.cell (p := ⟨rb, 0, none⟩) hlr (by simp)).trans c0⟩
  have hd : Touch w w.drew [] := (Touch.refl _ _).drew
  clear c1 c2 c3 hR hr hl hlp hlq hlr
  generalize befS x a false l = r at *
  generalize l.length = N at *
  go_enter Try.func84, Try.ntmps84
  go_wp2_with fail
  go_region_held3 (fun w' => w'.cell? ⟨p, 0, none⟩ = some (ptr rb) ∧ w'.cell? ⟨q, 0, none⟩ = some (.int .i64 a) ∧ w'.cell? ⟨rb, 0, none⟩ = some (.slice ao N cap)) ((first | exact HS.out _ hd | exact HS.out _ t3)) ((go_at_call 85; refine (HB.out _ hd).mono ?_; rintro e w3 ⟨rfl, t3'⟩; have t3 : Touch w w3 [] := hd.trans t3' (by simp)))
  go_wp2
  go_ret
  exact ⟨rfl, t3⟩

set_option maxRecDepth 100000 in
theorem over_any {w : World} {rb : Nat} {ve vc vl vh : Value} {l : List EvD} {lf : List Int} (hR : RowAt w rb ve vc vl vh) (hr : EvRow w ve l) (hl : l.length ≤ 1000) (hf : IRow w vl lf) (hfl : lf.length ≤ 100000) (a : Int) :
    Calls Try.prog 66 #[ptr rb, .int .i64 a] w fun e w' => e = .returned (.bool (lf.any fun o => befS o a false l)) ∧ Touch w w' [] := by
  obtain ⟨ao, cap, rfl⟩ := hr.form
  have T0 : Touch w ((w.alloc (.cells #[ptr rb] 56)).alloc (.cells #[.int .i64 a] 3)) [] := ((Touch.refl w []).alloc _).alloc _
  have P0 : One ((w.alloc (.cells #[ptr rb] 56)).alloc (.cells #[.int .i64 a] 3)) w.heap.size (ptr rb) 56 := (one_new w _ _).alloc _
  have Q0 : One ((w.alloc (.cells #[ptr rb] 56)).alloc (.cells #[.int .i64 a] 3)) (w.heap.size + 1) (.int .i64 a) 3 := by
    have := one_new (w.alloc (.cells #[ptr rb] 56)) (.int .i64 a) 3
    rw [World.size_alloc] at this
    exact this
  obtain ⟨c0, c1, c2, c3⟩ := (hR.touch T0 (by simp)).cells
  have hcl : ∀ W, Touch ((w.alloc (.cells #[ptr rb] 56)).alloc (.cells #[.int .i64 a] 3)) W [] → ∀ x ∈ lf, Calls Try.prog 84 #[.int .i64 x, ptr w.heap.size, ptr (w.heap.size + 1)] W fun e w' => e = .returned (.bool (befS x a false l)) ∧ Touch W w' [] := fun W t x _ =>
    over1_any (P0.touch t (by simp)).cell (Q0.touch t (by simp)).cell ((hR.touch T0 (by simp)).touch t (by simp)) (SRow.keep (SRow.keep hr T0 (by simp)) t (by simp)) hl x
  have hc := oover_contains (f := fun o => befS o a false l) (SRow.keep hf T0 (by simp)) hfl hcl
  obtain ⟨bo, cap2, rfl⟩ := hf.form
  have HT : Hid _ := T0
  have p0 := P0.cell
  have hmf : ∀ (fn : Fn) (first cap : Array Value) (w : World), (Instr.makeFunc fn first cap).run Try.prog w = .ok (.func fn first cap) w := fun _ _ _ _ => rfl
  clear hR hr hf hcl P0 Q0 T0 c0 c1 c3
  generalize (lf.any fun o => befS o a false l) = r at *
  generalize lf.length = N at *
  generalize l.length = M at *
  go_enter Try.func66, Try.ntmps66
  go_wp2_with fail
  refine hc.mono ?_
  rintro e w1 ⟨rfl, t1⟩
  clear hc
  go_wp2
  go_ret
  exact ⟨rfl, HT.out.trans t1 (by simp)⟩

end Go.Proofs.Ytjacclbifeoclaa

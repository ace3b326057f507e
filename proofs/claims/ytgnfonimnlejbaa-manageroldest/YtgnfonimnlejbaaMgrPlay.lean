/-
  live, do AND play OF THE STATEMENTS OF PACKAGE manager, BY THEIR CONTRACTS.
-/
import Derived.Test.YtgnfonimnlejbaaMgrPlain
import Derived.Test.YtgnfonimnlejbaaRowsOf
namespace Go.Proofs.Ytgnfonimnlejbaa
set_option linter.unusedVariables false
set_option linter.unusedSimpArgs false
open Go.RowKit

def endR (_ : TD) : TD := zeroT

theorem mopened_any (b : Nat) (N : Int) (M : MD) (th : Int) (hM : MWf N M) (w : World) (h : MObj w b M) :
    Calls Try.prog 16 #[.pointer (some ⟨b, 0, none⟩), .int .i64 th] w (MPost b w (onM openT M th)) := by
  unfold onM
  by_cases hth : 0 ≤ th ∧ th < 4
  · rw [if_neg (fun e => e hth)]
    obtain ⟨i, hi, rfl, e⟩ := toNat_of hth
    rw [e]
    by_cases hr : (M.t i).runs = false
    · rw [if_pos hr]
      exact mopened_off b i hi M hr w h
    · rw [if_neg hr]
      exact mopened_ok b i hi M (bool_ne_false hr) (hM.merit i).1 (hM.merit i).2 w h
  · rw [if_pos hth]
    exact mopened_no b M th hth w h

theorem rmopened_any (b : Nat) (N : Int) (M : MD) (th : Int) (hM : MWf N M) (w : World) (h : RMObj w b M) :
    Calls Try.prog 33 #[.pointer (some ⟨b, 0, none⟩), .int .i64 th] w (RMPost b w (onM openT M th)) := by
  unfold onM
  by_cases hth : 0 ≤ th ∧ th < 4
  · rw [if_neg (fun e => e hth)]
    obtain ⟨i, hi, rfl, e⟩ := toNat_of hth
    rw [e]
    by_cases hr : (M.t i).runs = false
    · rw [if_pos hr]
      exact rmopened_off b i hi M hr w h
    · rw [if_neg hr]
      exact rmopened_ok b i hi M (bool_ne_false hr) (hM.merit i).1 (hM.merit i).2 w h
  · rw [if_pos hth]
    exact rmopened_no b M th hth w h

theorem mpassed_any (b : Nat) (N : Int) (M : MD) (th : Int) (hM : MWf N M) (w : World) (h : MObj w b M) :
    Calls Try.prog 17 #[.pointer (some ⟨b, 0, none⟩), .int .i64 th] w (MPost b w (onM stopT M th)) := by
  unfold onM
  by_cases hth : 0 ≤ th ∧ th < 4
  · rw [if_neg (fun e => e hth)]
    obtain ⟨i, hi, rfl, e⟩ := toNat_of hth
    rw [e]
    by_cases hr : (M.t i).runs = false
    · rw [if_pos hr]
      exact mpassed_off b i hi M hr w h
    · rw [if_neg hr]
      exact mpassed_ok b i hi M (bool_ne_false hr)  w h
  · rw [if_pos hth]
    exact mpassed_no b M th hth w h

theorem rmpassed_any (b : Nat) (N : Int) (M : MD) (th : Int) (hM : MWf N M) (w : World) (h : RMObj w b M) :
    Calls Try.prog 35 #[.pointer (some ⟨b, 0, none⟩), .int .i64 th] w (RMPost b w (onM stopT M th)) := by
  unfold onM
  by_cases hth : 0 ≤ th ∧ th < 4
  · rw [if_neg (fun e => e hth)]
    obtain ⟨i, hi, rfl, e⟩ := toNat_of hth
    rw [e]
    by_cases hr : (M.t i).runs = false
    · rw [if_pos hr]
      exact rmpassed_off b i hi M hr w h
    · rw [if_neg hr]
      exact rmpassed_ok b i hi M (bool_ne_false hr)  w h
  · rw [if_pos hth]
    exact rmpassed_no b M th hth w h

theorem mended_any (b : Nat) (N : Int) (M : MD) (th : Int) (hM : MWf N M) (w : World) (h : MObj w b M) :
    Calls Try.prog 21 #[.pointer (some ⟨b, 0, none⟩), .int .i64 th] w (MPost b w (onM endT M th)) := by
  unfold onM
  by_cases hth : 0 ≤ th ∧ th < 4
  · rw [if_neg (fun e => e hth)]
    obtain ⟨i, hi, rfl, e⟩ := toNat_of hth
    rw [e]
    by_cases hr : (M.t i).runs = false
    · rw [if_pos hr]
      exact mended_off b i hi M hr w h
    · rw [if_neg hr]
      exact mended_ok b i hi M (bool_ne_false hr)  w h
  · rw [if_pos hth]
    exact mended_no b M th hth w h

theorem rmended_any (b : Nat) (N : Int) (M : MD) (th : Int) (hM : MWf N M) (w : World) (h : RMObj w b M) :
    Calls Try.prog 36 #[.pointer (some ⟨b, 0, none⟩), .int .i64 th] w (RMPost b w (onM endR M th)) := by
  unfold onM
  by_cases hth : 0 ≤ th ∧ th < 4
  · rw [if_neg (fun e => e hth)]
    obtain ⟨i, hi, rfl, e⟩ := toNat_of hth
    rw [e]
    by_cases hr : (M.t i).runs = false
    · rw [if_pos hr]
      exact rmended_off b i hi M hr w h
    · rw [if_neg hr]
      exact rmended_ok b i hi M (bool_ne_false hr)  w h
  · rw [if_pos hth]
    exact rmended_no b M th hth w h

theorem rmbegan_any (b : Nat) (N : Int) (M : MD) (th : Int) (again : Bool) (hM : MWf N M) (w : World) (h : RMObj w b M) :
    Calls Try.prog 32 #[.pointer (some ⟨b, 0, none⟩), .int .i64 th, .bool again] w (RMPost b w (beganM M th again)) := by
  have b1 := hM.bound
  have b2 := hM.n
  unfold beganM
  by_cases hth : 0 ≤ th ∧ th < 4
  · rw [if_neg (fun e => e hth)]
    obtain ⟨i, hi, rfl, e⟩ := toNat_of hth
    rw [e]
    by_cases hr : (M.t i).runs ≠ again
    · rw [if_pos hr]
      exact rmbegan_off b i hi M again hr w h
    · rw [if_neg hr]
      have hr' : (M.t i).runs = again := Classical.not_not.1 hr
      cases again with
      | true => rw [if_pos rfl]; exact rmbegan_again b i hi M hr' w h
      | false => rw [if_neg (by decide)]; exact rmbegan_new b i hi M hr' (by omega) (by omega) w h
  · rw [if_pos hth]
    exact rmbegan_no b M th again hth w h

theorem rmchoose_any (b : Nat) (N : Int) (M : MD) (th other : Int) (hM : MWf N M) (w : World) (h : RMObj w b M) :
    Calls Try.prog 34 #[.pointer (some ⟨b, 0, none⟩), .int .i64 th, .int .i64 other] w (RCPost b w (chooseM M th other)) := by
  unfold chooseM
  by_cases hth : 0 ≤ th ∧ th < 4
  · rw [if_neg (fun e => e hth)]
    obtain ⟨i, hi, rfl, e⟩ := toNat_of hth
    by_cases hot : 0 ≤ other ∧ other < 4
    · rw [if_neg (fun e => e hot)]
      obtain ⟨j, hj, rfl, e'⟩ := toNat_of hot
      rw [e, e']
      by_cases ho : (M.t i).runs = false ∨ (M.t j).runs = false ∨ (i : Int) = (j : Int)
      · rw [if_pos ho]
        exact rmchoose_off b i j hi hj M ho w h
      · rw [if_neg ho]
        have hr : (M.t i).runs = true := bool_ne_false fun q => ho (.inl q)
        have hs : (M.t j).runs = true := bool_ne_false fun q => ho (.inr (.inl q))
        have hne : i ≠ j := fun hh => ho (.inr (.inr (by rw [hh])))
        have b0 := hM.tries i
        have b1 := hM.merit i
        have bN := hM.bound
        exact rmchoose_on b i j hi hj M M.k rfl hM.kind hr hs hne (by omega) (by omega) (by omega) (by omega) w h
    · rw [if_pos hot]
      exact rmchoose_no2 b i hi M other hot w h
  · rw [if_pos hth]
    exact rmchoose_no b M th other hth w h

/-- Both managers, apart. -/
structure MPair (N : Int) (w : World) (bl br : Nat) (M : MD) : Prop where
  l : MObj w bl M
  r : RMObj w br (nrmM M)
  ne : bl ≠ br
  wf : MWf N M

def DoPost (N : Int) (bl br : Nat) (w : World) (M : MD) (x : Ending) (w' : World) : Prop := x = .returned (.bool true) ∧ MPair N w' bl br M ∧ Touch w w' [bl, br]

/-- A deed, boxed. -/
structure One4 (W : World) (p : Nat) (k o q : Int) (a : Bool) : Prop where
  st : W.heap[p]? = some (.cells #[.int .i64 k, .int .i64 o, .int .i64 q, .bool a] 46 (0, 0))
theorem One4.cells {W : World} {p : Nat} {k o q : Int} {a : Bool} (h : One4 W p k o q a) : W.cell? ⟨p, 0, none⟩ = some (.int .i64 k) ∧ W.cell? ⟨p, 1, none⟩ = some (.int .i64 o) ∧ W.cell? ⟨p, 2, none⟩ = some (.int .i64 q) ∧ W.cell? ⟨p, 3, none⟩ = some (.bool a) := by
  simp [World.cell?, h.st]
theorem One4.touch {W W' : World} {p : Nat} {k o q : Int} {a : Bool} {S : List Nat} (h : One4 W p k o q a) (t : Touch W W' S) (hS : p ∉ S) : One4 W' p k o q a := ⟨(t.block p (lt_of_heap h.st) hS).trans h.st⟩
theorem One4.two {W W' : World} {p : Nat} {k o q : Int} {a : Bool} {S : List Nat} (h : One4 W p k o q a) (t : Touch W W' S) (hS : p ∉ S) : W'.cell? ⟨p, 1, none⟩ = some (.int .i64 o) ∧ W'.cell? ⟨p, 3, none⟩ = some (.bool a) :=
  ⟨(h.touch t hS).cells.2.1, (h.touch t hS).cells.2.2.2⟩

set_option maxRecDepth 100000 in
set_option maxHeartbeats 1600000 in
theorem mdo_any (N : Int) (bl br : Nat) (M : MD) (d : DeedM) (hN : N + 1 < 4611686018427387904) (w : World) (hi : MInv N M) (h : MPair N w bl br M) :
    Calls Try.prog 25 #[.pointer (some ⟨bl, 0, none⟩), .pointer (some ⟨br, 0, none⟩), d.val] w (DoPost (N + 1) bl br w (stepM M d)) := by
  have hwf := (step_inv hi hN d).wf
  obtain ⟨k, o, p, a⟩ := d
  have hlt := lt_of_heap h.l.st
  have hlr := lt_of_heap h.r.st
  have HP : Hid (One4 (w.alloc (.cells #[.int .i64 k, .int .i64 o, .int .i64 p, .bool a] 46)) w.heap.size k o p a) := ⟨heap_alloc_new w _⟩
  have HT0 : Hid _ := (Touch.refl w []).alloc (.cells #[.int .i64 k, .int .i64 o, .int .i64 p, .bool a] 46)
  have HO : Hid _ := h.l.touch HT0.out (by simp)
  have HR : Hid _ := h.r.touch HT0.out (by simp)
  have WM := h.wf
  have b1 := h.wf.bound
  have b2 := h.wf.n
  have hne := h.ne
  have hpf : w.heap.size ∉ [bl, br] := by simp; omega
  have hbf : bl ∉ [br] := by simpa using hne
  have hrb : br ∉ [bl] := by simpa using Ne.symm hne
  clear h hi
  simp only [stepM] at hwf ⊢
  by_cases k0 : k = 0
  · subst k0
    simp only [if_true] at hwf ⊢
    have hs := fun (W : World) (hW : MObj W bl M) => mbegan_any bl M o a (by omega) (by omega) W hW
    have hr := fun (W : World) (hW : RMObj W br (nrmM M)) => rmbegan_any br N (nrmM M) o a (nrm_inv WM) W hW
    rw [began_nrm] at hr
    generalize beganM M o a = R at *
    clear WM b1 b2
    go_enter Try.func25, Try.ntmps25
    go_wp2_with fail
    refine wp_name fun W hW => ?_
    have hp : One4 W w.heap.size 0 o p a := by rw [hW]; exact HP.out
    have hO : MObj W bl M := by rw [hW]; exact HO.out
    have hR : RMObj W br (nrmM M) := by rw [hW]; exact HR.out
    have HT : Hid (Touch w W []) := by rw [hW]; exact HT0.out
    clear hW HP HO HR HT0
    obtain ⟨c0, c1, c2, c3⟩ := hp.cells
    have hO1 : MObj W.drew bl M := hO.touch (Touch.refl _ []).drew (by simp)
    have hpd : w.heap.size ∉ [bl] := by simp; omega
    go_region_held3 (fun w' => w'.cell? ⟨w.heap.size, 1, none⟩ = some (.int .i64 o) ∧ w'.cell? ⟨w.heap.size, 3, none⟩ = some (.bool a)) ((first | exact hp.two (Touch.refl _ []).drew (by simp) | exact hp.two t4 hpf | exact hp.two t3 hpd)) ((first | (go_at_call 15; refine (hs _ hO1).mono ?_; rintro e w3 ⟨rfl, hO3, t2⟩; have t3 : Touch W w3 [bl] := ((Touch.refl _ _).drew).trans t2 (fun x hx => .inl hx); have hR3 : RMObj w3 br (nrmM M) := hR.touch t3 hrb) | (go_at_call 32; refine (hr _ hR3).mono ?_; rintro e w4 ⟨rfl, hR4, t5⟩; have t4 : Touch W w4 [bl, br] := (t3.mono (by simp)).trans t5 (fun x hx => .inl (by simp at hx; simp [hx])); have hO4 := hO3.touch t5 hbf)))
    have HO4 : Hid _ := hO4
    have HR4 : Hid _ := hR4
    have HT4 : Hid (Touch w w4 [bl, br]) := (HT.out.mono (by simp)).trans t4 (fun x hx => .inl hx)
    clear hO4 hR4 t4 t3 hR3 hO3 hO1 hR hO hp HT hs hr
    go_wp2
    go_ret
    exact ⟨by simp, ⟨HO4.out, HR4.out, hne, hwf⟩, HT4.out⟩
  by_cases k1 : k = 1
  · subst k1
    simp only [show ¬ ((1 : Int) = 0) by decide, if_true, if_false] at hwf ⊢
    have hs := fun (W : World) (hW : MObj W bl M) => mopened_any bl N M o WM W hW
    have hr := fun (W : World) (hW : RMObj W br (nrmM M)) => rmopened_any br N (nrmM M) o (nrm_inv WM) W hW
    rw [on_nrm openT openT (fun t ht => nrmT_on ht)] at hr
    generalize onM openT M o = R at *
    clear WM b1 b2
    go_enter Try.func25, Try.ntmps25
    go_wp2_with fail
    refine wp_name fun W hW => ?_
    have hp : One4 W w.heap.size 1 o p a := by rw [hW]; exact HP.out
    have hO : MObj W bl M := by rw [hW]; exact HO.out
    have hR : RMObj W br (nrmM M) := by rw [hW]; exact HR.out
    have HT : Hid (Touch w W []) := by rw [hW]; exact HT0.out
    clear hW HP HO HR HT0
    obtain ⟨c0, c1, c2, c3⟩ := hp.cells
    have hO1 : MObj W.drew bl M := hO.touch (Touch.refl _ []).drew (by simp)
    have hpd : w.heap.size ∉ [bl] := by simp; omega
    go_region_held3 (fun w' => w'.cell? ⟨w.heap.size, 1, none⟩ = some (.int .i64 o) ∧ w'.cell? ⟨w.heap.size, 3, none⟩ = some (.bool a)) ((first | exact hp.two (Touch.refl _ []).drew (by simp) | exact hp.two t4 hpf | exact hp.two t3 hpd)) ((first | (go_at_call 16; refine (hs _ hO1).mono ?_; rintro e w3 ⟨rfl, hO3, t2⟩; have t3 : Touch W w3 [bl] := ((Touch.refl _ _).drew).trans t2 (fun x hx => .inl hx); have hR3 : RMObj w3 br (nrmM M) := hR.touch t3 hrb) | (go_at_call 33; refine (hr _ hR3).mono ?_; rintro e w4 ⟨rfl, hR4, t5⟩; have t4 : Touch W w4 [bl, br] := (t3.mono (by simp)).trans t5 (fun x hx => .inl (by simp at hx; simp [hx])); have hO4 := hO3.touch t5 hbf)))
    have HO4 : Hid _ := hO4
    have HR4 : Hid _ := hR4
    have HT4 : Hid (Touch w w4 [bl, br]) := (HT.out.mono (by simp)).trans t4 (fun x hx => .inl hx)
    clear hO4 hR4 t4 t3 hR3 hO3 hO1 hR hO hp HT hs hr
    go_wp2
    go_ret
    exact ⟨by simp, ⟨HO4.out, HR4.out, hne, hwf⟩, HT4.out⟩
  by_cases k2 : k = 2
  · subst k2
    simp only [show ¬ ((2 : Int) = 0) by decide, show ¬ ((2 : Int) = 1) by decide, if_true, if_false] at hwf ⊢
    have hs := fun (W : World) (hW : MObj W bl M) => mchoose_any bl N M o p WM W hW
    have hr := fun (W : World) (hW : RMObj W br (nrmM M)) => rmchoose_any br N (nrmM M) o p (nrm_inv WM) W hW
    rw [choose_nrm] at hr
    generalize chooseM M o p = R at *
    obtain ⟨⟨r1, r2, r3⟩, M'⟩ := R
    clear WM b1 b2
    have P0 := HP.out.cells
    go_enter Try.func25, Try.ntmps25
    go_wp2_with fail
    refine (hs _ HO.out).mono ?_
    rintro x w1 ⟨rfl, l1, t1⟩
    have r1' := HR.out.touch t1 hrb
    have P1 := (HP.out.touch t1 (by simp; omega)).cells
    have HT1 : Hid _ := (HT0.out.mono (R := [bl, br]) (by simp)).trans t1 (by simp)
    clear hs HP HR HO HT0 t1 P0
    go_wp2_with fail
    refine (hr w1 r1').mono ?_
    rintro x w2 ⟨rfl, r2', t2⟩
    have HQ : Hid (DoPost (N + 1) bl br w M' (.returned (.bool true)) w2) := ⟨rfl, ⟨l1.touch t2 hbf, r2', hne, hwf⟩, HT1.out.trans t2 (by simp)⟩
    clear hr r1' r2' t2 l1 HT1 P1
    go_wp2
    go_ret
    have := HQ.out
    simpa using this
  by_cases k3 : k = 3
  · subst k3
    simp only [show ¬ ((3 : Int) = 0) by decide, show ¬ ((3 : Int) = 1) by decide, show ¬ ((3 : Int) = 2) by decide, if_true, if_false] at hwf ⊢
    have hs := fun (W : World) (hW : MObj W bl M) => mpassed_any bl N M o WM W hW
    have hr := fun (W : World) (hW : RMObj W br (nrmM M)) => rmpassed_any br N (nrmM M) o (nrm_inv WM) W hW
    rw [on_nrm stopT stopT (fun t ht => nrmT_on ht)] at hr
    generalize onM stopT M o = R at *
    clear WM b1 b2
    go_enter Try.func25, Try.ntmps25
    go_wp2_with fail
    refine wp_name fun W hW => ?_
    have hp : One4 W w.heap.size 3 o p a := by rw [hW]; exact HP.out
    have hO : MObj W bl M := by rw [hW]; exact HO.out
    have hR : RMObj W br (nrmM M) := by rw [hW]; exact HR.out
    have HT : Hid (Touch w W []) := by rw [hW]; exact HT0.out
    clear hW HP HO HR HT0
    obtain ⟨c0, c1, c2, c3⟩ := hp.cells
    have hO1 : MObj W.drew bl M := hO.touch (Touch.refl _ []).drew (by simp)
    have hpd : w.heap.size ∉ [bl] := by simp; omega
    go_region_held3 (fun w' => w'.cell? ⟨w.heap.size, 1, none⟩ = some (.int .i64 o) ∧ w'.cell? ⟨w.heap.size, 3, none⟩ = some (.bool a)) ((first | exact hp.two (Touch.refl _ []).drew (by simp) | exact hp.two t4 hpf | exact hp.two t3 hpd)) ((first | (go_at_call 17; refine (hs _ hO1).mono ?_; rintro e w3 ⟨rfl, hO3, t2⟩; have t3 : Touch W w3 [bl] := ((Touch.refl _ _).drew).trans t2 (fun x hx => .inl hx); have hR3 : RMObj w3 br (nrmM M) := hR.touch t3 hrb) | (go_at_call 35; refine (hr _ hR3).mono ?_; rintro e w4 ⟨rfl, hR4, t5⟩; have t4 : Touch W w4 [bl, br] := (t3.mono (by simp)).trans t5 (fun x hx => .inl (by simp at hx; simp [hx])); have hO4 := hO3.touch t5 hbf)))
    have HO4 : Hid _ := hO4
    have HR4 : Hid _ := hR4
    have HT4 : Hid (Touch w w4 [bl, br]) := (HT.out.mono (by simp)).trans t4 (fun x hx => .inl hx)
    clear hO4 hR4 t4 t3 hR3 hO3 hO1 hR hO hp HT hs hr
    go_wp2
    go_ret
    exact ⟨by simp, ⟨HO4.out, HR4.out, hne, hwf⟩, HT4.out⟩
  by_cases k4 : k = 4
  · subst k4
    simp only [show ¬ ((4 : Int) = 0) by decide, show ¬ ((4 : Int) = 1) by decide, show ¬ ((4 : Int) = 2) by decide, show ¬ ((4 : Int) = 3) by decide, if_true, if_false] at hwf ⊢
    have hs := fun (W : World) (hW : MObj W bl M) => mended_any bl N M o WM W hW
    have hr := fun (W : World) (hW : RMObj W br (nrmM M)) => rmended_any br N (nrmM M) o (nrm_inv WM) W hW
    rw [on_nrm endT endR (fun t ht => rfl)] at hr
    generalize onM endT M o = R at *
    clear WM b1 b2
    go_enter Try.func25, Try.ntmps25
    go_wp2_with fail
    refine wp_name fun W hW => ?_
    have hp : One4 W w.heap.size 4 o p a := by rw [hW]; exact HP.out
    have hO : MObj W bl M := by rw [hW]; exact HO.out
    have hR : RMObj W br (nrmM M) := by rw [hW]; exact HR.out
    have HT : Hid (Touch w W []) := by rw [hW]; exact HT0.out
    clear hW HP HO HR HT0
    obtain ⟨c0, c1, c2, c3⟩ := hp.cells
    have hO1 : MObj W.drew bl M := hO.touch (Touch.refl _ []).drew (by simp)
    have hpd : w.heap.size ∉ [bl] := by simp; omega
    go_region_held3 (fun w' => w'.cell? ⟨w.heap.size, 1, none⟩ = some (.int .i64 o) ∧ w'.cell? ⟨w.heap.size, 3, none⟩ = some (.bool a)) ((first | exact hp.two (Touch.refl _ []).drew (by simp) | exact hp.two t4 hpf | exact hp.two t3 hpd)) ((first | (go_at_call 21; refine (hs _ hO1).mono ?_; rintro e w3 ⟨rfl, hO3, t2⟩; have t3 : Touch W w3 [bl] := ((Touch.refl _ _).drew).trans t2 (fun x hx => .inl hx); have hR3 : RMObj w3 br (nrmM M) := hR.touch t3 hrb) | (go_at_call 36; refine (hr _ hR3).mono ?_; rintro e w4 ⟨rfl, hR4, t5⟩; have t4 : Touch W w4 [bl, br] := (t3.mono (by simp)).trans t5 (fun x hx => .inl (by simp at hx; simp [hx])); have hO4 := hO3.touch t5 hbf)))
    have HO4 : Hid _ := hO4
    have HR4 : Hid _ := hR4
    have HT4 : Hid (Touch w w4 [bl, br]) := (HT.out.mono (by simp)).trans t4 (fun x hx => .inl hx)
    clear hO4 hR4 t4 t3 hR3 hO3 hO1 hR hO hp HT hs hr
    go_wp2
    go_ret
    exact ⟨by simp, ⟨HO4.out, HR4.out, hne, hwf⟩, HT4.out⟩
  rw [if_neg k0, if_neg k1, if_neg k2, if_neg k3, if_neg k4] at hwf ⊢
  have HT : Hid _ := HT0.out.mono (R := [bl, br]) (by simp)
  have k0' : (k == 0) = false := by simpa using k0
  have k1' : (k == 1) = false := by simpa using k1
  have k2' : (k == 2) = false := by simpa using k2
  have k3' : (k == 3) = false := by simpa using k3
  have k4' : (k == 4) = false := by simpa using k4
  clear k0 k1 k2 k3 k4
  go_enter Try.func25, Try.ntmps25
  go_wp2
  go_ret
  exact ⟨rfl, ⟨HO.out, HR.out, hne, hwf⟩, HT.out⟩

end Go.Proofs.Ytgnfonimnlejbaa

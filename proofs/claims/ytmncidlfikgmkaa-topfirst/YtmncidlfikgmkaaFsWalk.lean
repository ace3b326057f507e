/-
  TopFirst, WALKED.
-/
import Derived.Test.YtmncidlfikgmkaaFsArm
import Derived.Test.YtmncidlfikgmkaaValueRefs2
import Derived.Test.YtmncidlfikgmkaaCapsOf
import Derived.Deep.QuietTactic
import Derived.BigQuiet
import Derived.Deep.RegionHeld3
namespace Go.Proofs.Ytmncidlfikgmkaa
set_option linter.unusedVariables false
set_option linter.unusedSimpArgs false
open Go.RowKit
attribute [local go_sem] Oper.semAt_some

theorem firstL_wf : ∀ i ∈ firstL, i.Wf := by
  simp only [firstL, armL, List.cons_append, List.nil_append, List.forall_mem_cons]
  refine ⟨?_, ?_, ?_, ?_, ?_, ?_, ?_, ?_, ?_, ?_, ?_, ?_, ?_, ?_, ?_, ?_, ?_, ?_, ?_, ?_, ?_, ?_, fun _ h => (by cases h)⟩ <;> constructor <;> (try unfold Wf64) <;> decide

theorem small_sub : ∀ n, n < 3 → n ≠ 0 → (arithB .sub (ofB (smallV n).toNat) (ofB (4607182418800017408 : Int).toNat) : Int) = smallV (n - 1) := by decide +kernel

theorem fsrow {w : World} {B : Nat} {v : Value} {l : List InsD} (h : finsOwn w B v l) : InsRow w v l := srow_of (cells := InsD.cells) (fun _ => rfl) h
theorem fstep {w0 w : World} {v : Value} {xs : List InsD} (o : finsOwn w w0.heap.size v xs) (t : Touch w0 w []) (hl : xs.length ≤ 1000) {ao : Option Addr} {cap : Nat} {l : List InsD} (hr : InsRow w (.slice ao l.length cap) l) (hn : l.length ≤ 1000) (ty : TypeId) :
    ∃ ao' cap' w', (Builtin.append_ #[22, 22] ty #[v, .slice ao l.length cap]).run Try.prog w = .ok (.slice ao' (xs.length + l.length) cap') w' ∧ finsOwn w' w0.heap.size (.slice ao' (xs.length + l.length) cap') (xs ++ l) ∧ Touch w0 w' [] := by
  obtain ⟨a, c, w', h1, h2, h3⟩ := fins_app o hl t.size hr hn ty
  refine ⟨a, c, w', h1, h2, t.trans h3 (fun k hk => .inr ?_)⟩
  have : v.ownBlock = some k := by
    cases hv : v.ownBlock with
    | none => rw [hv] at hk; cases hk
    | some z => rw [hv] at hk; simp at hk; rw [hk]
  exact (World.ownsRow.lt o k this).1

theorem lt_of_cell {w : World} {p : Addr} {v : Value} (h : w.cell? p = some v) : p.block < w.heap.size := by
  apply Classical.byContradiction
  intro hn
  have : w.heap[p.block]? = none := by simpa using hn
  simp [World.cell?, this] at h
def FsD (w : World) (am : Bool) (u v : Int) (e : Ending) (w' : World) : Prop := ∃ D sa ns sc oa no oc g q hc g2 q2 ac, e = .returned (.agg (outA 1 D (.slice sa ns sc) (.slice oa no oc) (.slice (some ⟨g, q, none⟩) 2 hc) (.slice (some ⟨g2, q2, none⟩) 1 ac) 0)) ∧ w'.cell? ⟨g, q, none⟩ = some (.int .u64 u) ∧ w'.cell? ⟨g, q + 1, none⟩ = some (.int .u64 v) ∧ w'.cell? ⟨g2, q2, none⟩ = some (.bool am) ∧ Touch w w' []
def FsR (w : World) (u v : Int) (e : Ending) (w' : World) : Prop := ∃ D sa ns sc oa no oc g q hc, e = .returned (.agg (outA 2 D (.slice sa ns sc) (.slice oa no oc) (.slice (some ⟨g, q, none⟩) 2 hc) (.slice none 0 0) 0)) ∧ w'.cell? ⟨g, q, none⟩ = some (.int .u64 u) ∧ w'.cell? ⟨g, q + 1, none⟩ = some (.int .u64 v) ∧ Touch w w' []
theorem brow_at {w : World} {a : Option Addr} {c : Nat} {x : Bool} (h : SRow 1 bcell w (.slice a 1 c) [x]) : ∃ g off, a = some ⟨g, off, none⟩ ∧ w.cell? ⟨g, off, none⟩ = some (.bool x) := by
  obtain ⟨g, off, e, _, hc⟩ := SRow.at (l := [x]) h 0 (by simp)
  refine ⟨g, off, e, ?_⟩
  have := hc 0 (by simp)
  simpa using this
theorem fs_done {w w' : World} {a b : Nat} {e : Ending} {r : Int × BX} {D : WD} {h : List Int} {am : Bool} {u v : Int} (k : BlkP w r D h e w') (f1 : r.1 = 0) (f2 : r.2.arms = [am]) (f3 : r.2.h = [u, v]) : FsD w am u v e w' := by
  rcases k with ⟨_, vs, vo, vh, va, rfl, r1, r2, r3, r4, t⟩ | ⟨h0, _⟩
  · rw [f3] at r3
    rw [f2] at r4
    obtain ⟨sa, sc, rfl⟩ := r1.form
    obtain ⟨oa, oc, rfl⟩ := r2.form
    obtain ⟨ha, hc, rfl⟩ := r3.form
    obtain ⟨aa, ac, rfl⟩ := r4.form
    obtain ⟨g, q, rfl, hk⟩ := vrow_at (n := 2) r3 rfl (by decide)
    obtain ⟨g2, q2, rfl, hk2⟩ := brow_at r4
    exact ⟨_, _, _, _, _, _, _, g, q, _, g2, q2, _, rfl, hk 0 (by decide), hk 1 (by decide), hk2, t⟩
  · exact absurd f1 h0
theorem fs_retry {w w' : World} {a b : Nat} {e : Ending} {r : Int × BX} {D : WD} {u v : Int} (k : BlkP w r D [u, v] e w') (f1 : r.1 = -1) : FsR w u v e w' := by
  rcases k with ⟨h0, _⟩ | ⟨h0, vs, vo, vh, rfl, r1, r2, r3, t⟩
  · omega
  · obtain ⟨sa, sc, rfl⟩ := r1.form
    obtain ⟨oa, oc, rfl⟩ := r2.form
    obtain ⟨ha, hc, rfl⟩ := r3.form
    obtain ⟨g, q, rfl, hk⟩ := vrow_at (n := 2) r3 rfl (by decide)
    rw [if_pos f1, if_pos f1]
    exact ⟨_, _, _, _, _, _, _, g, q, _, rfl, hk 0 (by decide), hk 1 (by decide), t⟩
theorem small_ne : ∀ n, n < 3 → n ≠ 0 → (smallV n != 0) = true := by decide +kernel

set_option maxRecDepth 100000 in
set_option maxHeartbeats 8000000 in
theorem first_walk {w : World} (x y : Int) (hx : 0 ≤ x ∧ x ≤ 255) (hy : 0 ≤ y ∧ y ≤ 255) :
    Calls Try.prog 6 #[.int .u8 x, .int .u8 y] w fun e w' => e = .returned (.bool true) ∧ Touch w w' [] := by
  have hwx : IntKind.i64.wrap x = x := by rw [IntKind.wrap_i64]; omega
  have hwy : IntKind.i64.wrap y = y := by rw [IntKind.wrap_i64]; omega
  obtain ⟨a, ha, hxa⟩ : ∃ a : Nat, a < 3 ∧ x.tmod 3 = a := ⟨(x % 3).toNat, by omega, by rw [Int.tmod_eq_emod_of_nonneg (by omega)]; omega⟩
  obtain ⟨b, hb, hyb⟩ : ∃ a : Nat, a < 3 ∧ y.tmod 3 = a := ⟨(y % 3).toNat, by omega, by rw [Int.tmod_eq_emod_of_nonneg (by omega)]; omega⟩
  have hwa : IntKind.i64.wrap (a : Int) = a := by rw [IntKind.wrap_i64]; omega
  have hwb : IntKind.i64.wrap (b : Int) = b := by rw [IntKind.wrap_i64]; omega
  have HI : Hid (∀ (n : Nat) W, n < 3 → HidC Try.prog 18 #[.int .i64 n] W fun e w' => e = .returned (.tuple #[.int .u64 (smallV n), .bool true]) ∧ Touch W w' []) := fun n W h => ⟨by rw [← smallV_eq n h]; exact int_ok n (by omega) (by omega) W⟩
  clear hx hy
  go_enter Try.func6, Try.ntmps6
  go_wp2_with fail
  refine (HI.out a _ ha).out.mono ?_
  rintro e w1 ⟨rfl, t1⟩
  go_wp2_with fail
  refine (HI.out b _ hb).out.mono ?_
  rintro e w2 ⟨rfl, t2⟩
  have HT2 : Hid _ := t1.trans t2 (by simp)
  clear t1 t2 HI
  go_wp2_with fail
  have o0 : finsOwn (w2.alloc (.cells #[.int .u8 21, .int .i64 20, .int .u64 0, .int .u8 23, .int .i64 10, .int .u64 0] 50)) w2.heap.size (.slice (some ⟨w2.heap.size, 0, none⟩) 2 2) [⟨21, 20, 0⟩, ⟨23, 10, 0⟩] := fins_lit w2 [⟨21, 20, 0⟩, ⟨23, 10, 0⟩] (by decide)
  have t0 : Touch w2 (w2.alloc (.cells #[.int .u8 21, .int .i64 20, .int .u64 0, .int .u8 23, .int .i64 10, .int .u64 0] 50)) [] := (Touch.refl w2 []).alloc _
  refine (arm_zero _).mono ?_
  rintro e w3 ⟨a3, rfl, o3, t3⟩
  obtain ⟨a4, c4, w4, h4, o4, t4⟩ := fstep (w0 := w2) (ownsRow_touch o0 t3 (by simp)) (t0.trans t3 (by simp)) (by decide) (l := armL 0 2) (fsrow o3) (by decide) 22
  replace h4 : (Builtin.append_ #[22, 22] 22 #[.slice (some ⟨w2.heap.size, 0, none⟩) 2 2, .slice a3 8 8]).run Try.prog w3 = .ok (.slice a4 10 c4) w4 := h4
  replace o4 : finsOwn w4 w2.heap.size (.slice a4 10 c4) ([⟨21, 20, 0⟩, ⟨23, 10, 0⟩] ++ armL 0 2) := o4
  obtain ⟨a5, c5, w5, h5, o5, t5⟩ := fstep (w0 := w2) (ownsRow_touch o4 ((Touch.refl w4 []).alloc (.cells #[.int .u8 24, .int .i64 19, .int .u64 0] 50)) (by simp)) (t4.alloc _) (by decide) (l := [⟨24, 19, 0⟩]) (fsrow (fins_lit w4 [⟨24, 19, 0⟩] (by decide))) (by decide) 22
  replace h5 : (Builtin.append_ #[22, 22] 22 #[.slice a4 10 c4, .slice (some ⟨w4.heap.size, 0, none⟩) 1 1]).run Try.prog (w4.alloc (.cells #[.int .u8 24, .int .i64 19, .int .u64 0] 50)) = .ok (.slice a5 11 c5) w5 := h5
  replace o5 : finsOwn w5 w2.heap.size (.slice a5 11 c5) (([⟨21, 20, 0⟩, ⟨23, 10, 0⟩] ++ armL 0 2) ++ [⟨24, 19, 0⟩]) := o5
  have HO5 : Hid _ := o5
  have HT5 : Hid _ := t5
  clear o0 t0 o3 t3 o4 t4 o5 t5
  go_wp2_with (at_builtin; first | refine Lib.wpList_append_run _ rfl _ _ _ _ rfl _ _ rfl rfl _ _ h4 ?_ | refine Lib.wpList_append_run _ rfl _ _ _ _ rfl _ _ rfl rfl _ _ h5 ?_)
  refine (arm_one _).mono ?_
  rintro e w6 ⟨a6, rfl, o6, t6⟩
  obtain ⟨a7, c7, w7, h7, o7, t7⟩ := fstep (w0 := w2) (ownsRow_touch HO5.out t6 (by simp)) (HT5.out.trans t6 (by simp)) (by decide) (l := armL 1 11) (fsrow o6) (by decide) 22
  replace h7 : (Builtin.append_ #[22, 22] 22 #[.slice a5 11 c5, .slice a6 8 8]).run Try.prog w6 = .ok (.slice a7 19 c7) w7 := h7
  obtain ⟨a8, c8, w8, h8, o8, t8⟩ := fstep (w0 := w2) (ownsRow_touch o7 ((Touch.refl w7 []).alloc (.cells #[.int .u8 25, .int .i64 0, .int .u64 0, .int .u8 22, .int .i64 0, .int .u64 0, .int .u8 28, .int .i64 0, .int .u64 0] 50)) (by simp)) (t7.alloc _) (by decide) (l := [⟨25, 0, 0⟩, ⟨22, 0, 0⟩, ⟨28, 0, 0⟩]) (fsrow (fins_lit w7 [⟨25, 0, 0⟩, ⟨22, 0, 0⟩, ⟨28, 0, 0⟩] (by decide))) (by decide) 22
  replace h8 : (Builtin.append_ #[22, 22] 22 #[.slice a7 19 c7, .slice (some ⟨w7.heap.size, 0, none⟩) 3 3]).run Try.prog (w7.alloc (.cells #[.int .u8 25, .int .i64 0, .int .u64 0, .int .u8 22, .int .i64 0, .int .u64 0, .int .u8 28, .int .i64 0, .int .u64 0] 50)) = .ok (.slice a8 22 c8) w8 := h8
  have HR : Hid (InsRow w8 (.slice a8 22 c8) firstL) := fsrow o8
  have HT8 : Hid _ := HT2.out.trans t8 (by simp)
  clear o6 t6 o7 t7 o8 t8 HO5 HT5 HT2
  go_wp2_with (at_builtin; first | refine Lib.wpList_append_run _ rfl _ _ _ _ rfl _ _ rfl rfl _ _ h7 ?_ | refine Lib.wpList_append_run _ rfl _ _ _ _ rfl _ _ rfl rfl _ _ h8 ?_)
  have tv : Touch w8 (w8.alloc (.cells #[.int .u64 (smallV a), .int .u64 (smallV b)] 25)) [] := (Touch.refl w8 []).alloc _
  have hv : VRow (w8.alloc (.cells #[.int .u64 (smallV a), .int .u64 (smallV b)] 25)) (.slice (some ⟨w8.heap.size, 0, none⟩) 2 2) [smallV a, smallV b] :=
    srow_of (cells := vcell) (fun _ => rfl) (B := w8.heap.size) (e := 25) ⟨rfl, .inr ⟨w8.heap.size, 2, #[.int .u64 (smallV a), .int .u64 (smallV b)], rfl, Nat.le_refl _, heap_alloc_new w8 _, Nat.le_refl _, by decide, rfl, rfl⟩⟩
  have nil : VRow (w8.alloc (.cells #[.int .u64 (smallV a), .int .u64 (smallV b)] 25)) (.slice none 0 0) ([] : List Int) := ⟨none, 0, rfl, fun h => absurd rfl h⟩
  have HB : Hid (HidC Try.prog 14 #[.slice a8 22 c8, stV zWD (.slice none 0 0) (.slice none 0 0), .slice (some ⟨w8.heap.size, 0, none⟩) 2 2, .int .i64 60] (w8.alloc (.cells #[.int .u64 (smallV a), .int .u64 (smallV b)] 25)) _) := ⟨block_any (D := zWD) (l := firstL) (h := [smallV a, smallV b]) nil nil hv (SRow.keep HR.out tv (by simp)) (by decide) firstL_wf ⟨by simp, by simp, by simp, fun x hx => (by cases hx), fun x hx => (by simp at hx; rcases hx with rfl | rfl; exact smallV_wf a ha; exact smallV_wf b hb), wf_zero, wf_zero, wf_zero, wf_zero⟩ 60 ⟨by decide, by decide⟩⟩
  have HT9 : Hid _ := HT8.out.trans tv (by simp)
  have HR9 : Hid _ := SRow.keep HR.out tv (by simp)
  clear tv hv nil HR HT8
  refine HB.out.out.mono ?_
  rintro e w9 k
  by_cases ha0 : a = 0
  · subst ha0
    by_cases hb0 : b = 0
    · subst hb0
      obtain ⟨D, sa, ns, sc, oa, no, oc, g, q, hc, rfl, k1, k2, t9⟩ := fs_retry (a := 0) (b := 0) k first_retry
      have tA : Touch w9 (w9.alloc (.cells (outA 2 D (.slice sa ns sc) (.slice oa no oc) (.slice (some ⟨g, q, none⟩) 2 hc) (.slice none 0 0) 0) 41)) [] := (Touch.refl w9 []).alloc _
      have HOB : Hid (OutB (w9.alloc (.cells (outA 2 D (.slice sa ns sc) (.slice oa no oc) (.slice (some ⟨g, q, none⟩) 2 hc) (.slice none 0 0) 0) 41)) w9.heap.size (outA 2 D (.slice sa ns sc) (.slice oa no oc) (.slice (some ⟨g, q, none⟩) 2 hc) (.slice none 0 0) 0)) := ⟨heap_alloc_new w9 _⟩
      have HRA : Hid _ := SRow.keep HR9.out (t9.trans tA (by simp)) (by simp)
      have HS : Hid (∀ W, Touch (w9.alloc (.cells (outA 2 D (.slice sa ns sc) (.slice oa no oc) (.slice (some ⟨g, q, none⟩) 2 hc) (.slice none 0 0) 0) 41)) W [] → W.cell? ⟨w9.heap.size, 0, none⟩ = some (.int .u8 2) ∧ W.cell? ⟨w9.heap.size, 8, none⟩ = some (.slice (some ⟨g, q, none⟩) 2 hc) ∧ W.cell? ⟨g, q, none⟩ = some (.int .u64 (smallV 0)) ∧ W.cell? ⟨g, q + 1, none⟩ = some (.int .u64 (smallV 0))) := fun W t => ⟨(HOB.out.touch t (by simp)).cell 0, (HOB.out.touch t (by simp)).cell 8, ((tA.trans t (by simp)).cell (p := ⟨g, q, none⟩) (lt_of_cell k1) (by simp)).trans k1, ((tA.trans t (by simp)).cell (p := ⟨g, q + 1, none⟩) (lt_of_cell k2) (by simp)).trans k2⟩
      have hn0 : (smallV 0 != 0) = false := by decide
      have HT : Hid _ := HT9.out.trans (t9.trans tA (by simp)) (by simp)
      clear ha hb k HB HR9 HT9 t9 tA k1 k2 HOB hxa hyb hwx hwy hwa hwb
      generalize smallV 0 = xa at *
      obtain ⟨a0, rfl⟩ : ∃ a0, a8 = some a0 := by obtain ⟨_, _, e, h⟩ := HRA.out; obtain ⟨g, off, rfl, _⟩ := h (by decide); cases e; exact ⟨_, rfl⟩
      have HN : Hid (HidC _ _ _ _ _) := ⟨tnew_any HRA.out⟩
      obtain ⟨c0, c8', cg, cg1⟩ := HS.out _ (Touch.refl _ _)
      clear HRA HS
      go_wp2_with fail
      refine HN.out.out.mono ?_
      rintro e w10 ⟨⟨b0, rfl⟩, t10⟩
      clear HN
      go_wp2
      go_ret
      exact ⟨by simp, HT.out.trans t10 (by simp)⟩
    · obtain ⟨f1, f2, f3⟩ := first_two b hb hb0
      obtain ⟨D, sa, ns, sc, oa, no, oc, g, q, hc, g2, q2, ac, rfl, k1, k2, k3, t9⟩ := fs_done (a := 0) (b := b) k f1 f2 f3
      have tA : Touch w9 (w9.alloc (.cells (outA 1 D (.slice sa ns sc) (.slice oa no oc) (.slice (some ⟨g, q, none⟩) 2 hc) (.slice (some ⟨g2, q2, none⟩) 1 ac) 0) 41)) [] := (Touch.refl w9 []).alloc _
      have HOB : Hid (OutB (w9.alloc (.cells (outA 1 D (.slice sa ns sc) (.slice oa no oc) (.slice (some ⟨g, q, none⟩) 2 hc) (.slice (some ⟨g2, q2, none⟩) 1 ac) 0) 41)) w9.heap.size (outA 1 D (.slice sa ns sc) (.slice oa no oc) (.slice (some ⟨g, q, none⟩) 2 hc) (.slice (some ⟨g2, q2, none⟩) 1 ac) 0)) := ⟨heap_alloc_new w9 _⟩
      have HS : Hid (∀ W, Touch (w9.alloc (.cells (outA 1 D (.slice sa ns sc) (.slice oa no oc) (.slice (some ⟨g, q, none⟩) 2 hc) (.slice (some ⟨g2, q2, none⟩) 1 ac) 0) 41)) W [] → W.cell? ⟨w9.heap.size, 0, none⟩ = some (.int .u8 1) ∧ W.cell? ⟨w9.heap.size, 8, none⟩ = some (.slice (some ⟨g, q, none⟩) 2 hc) ∧ W.cell? ⟨w9.heap.size, 9, none⟩ = some (.slice (some ⟨g2, q2, none⟩) 1 ac) ∧ W.cell? ⟨g, q, none⟩ = some (.int .u64 (smallV 0)) ∧ W.cell? ⟨g, q + 1, none⟩ = some (.int .u64 (smallV (b - 1))) ∧ W.cell? ⟨g2, q2, none⟩ = some (.bool false)) := fun W t => ⟨(HOB.out.touch t (by simp)).cell 0, (HOB.out.touch t (by simp)).cell 8, (HOB.out.touch t (by simp)).cell 9, ((tA.trans t (by simp)).cell (p := ⟨g, q, none⟩) (lt_of_cell k1) (by simp)).trans k1, ((tA.trans t (by simp)).cell (p := ⟨g, q + 1, none⟩) (lt_of_cell k2) (by simp)).trans k2, ((tA.trans t (by simp)).cell (p := ⟨g2, q2, none⟩) (lt_of_cell k3) (by simp)).trans k3⟩
      have hne := small_ne b hb hb0
      have hn0 : (smallV 0 != 0) = false := by decide
      have HSUB : Hid (∀ W, HidC Try.prog 20 #[.int .u64 (smallV b), .int .u64 4607182418800017408] W fun e w' => e = .returned (.int .u64 (smallV (b - 1))) ∧ Touch W w' []) := fun W => ⟨by rw [← small_sub b hb hb0]; exact sub_any _ _ W⟩
      have HT : Hid _ := HT9.out.trans (t9.trans tA (by simp)) (by simp)
      clear f1 f2 f3 hb0 ha hb k HB HR9 HT9 t9 tA k1 k2 k3 HOB hxa hyb hwx hwy hwa hwb
      generalize smallV (b - 1) = u at *
      generalize smallV 0 = xa at *
      generalize smallV b = xb at *
      go_wp2_with fail
      generalize w9.heap.size = p at *
      generalize hQ : (w9.alloc _) = Q at *
      have hd : Touch Q Q.drew [] := (Touch.refl Q []).drew
      go_region_held3 (fun w' => w'.cell? ⟨p, 0, none⟩ = some (.int .u8 1) ∧ w'.cell? ⟨p, 8, none⟩ = some (.slice (some ⟨g, q, none⟩) 2 hc) ∧ w'.cell? ⟨p, 9, none⟩ = some (.slice (some ⟨g2, q2, none⟩) 1 ac) ∧ w'.cell? ⟨g, q, none⟩ = some (.int .u64 xa) ∧ w'.cell? ⟨g, q + 1, none⟩ = some (.int .u64 u) ∧ w'.cell? ⟨g2, q2, none⟩ = some (.bool false)) ((first | exact HS.out _ hd | exact HS.out _ t3)) ((go_at_call 20; refine (HSUB.out _).out.mono ?_; rintro e w3' ⟨rfl, t3'⟩; have t3 : Touch Q w3' [] := hd.trans t3' (by simp)))
      go_wp2
      go_ret
      exact ⟨by simp, HT.out.trans t3 (by simp)⟩
  · obtain ⟨f1, f2, f3⟩ := first_one a ha b hb ha0
    obtain ⟨D, sa, ns, sc, oa, no, oc, g, q, hc, g2, q2, ac, rfl, k1, k2, k3, t9⟩ := fs_done (a := a) (b := b) k f1 f2 f3
    have tA : Touch w9 (w9.alloc (.cells (outA 1 D (.slice sa ns sc) (.slice oa no oc) (.slice (some ⟨g, q, none⟩) 2 hc) (.slice (some ⟨g2, q2, none⟩) 1 ac) 0) 41)) [] := (Touch.refl w9 []).alloc _
    have HOB : Hid (OutB (w9.alloc (.cells (outA 1 D (.slice sa ns sc) (.slice oa no oc) (.slice (some ⟨g, q, none⟩) 2 hc) (.slice (some ⟨g2, q2, none⟩) 1 ac) 0) 41)) w9.heap.size (outA 1 D (.slice sa ns sc) (.slice oa no oc) (.slice (some ⟨g, q, none⟩) 2 hc) (.slice (some ⟨g2, q2, none⟩) 1 ac) 0)) := ⟨heap_alloc_new w9 _⟩
    have HS : Hid (∀ W, Touch (w9.alloc (.cells (outA 1 D (.slice sa ns sc) (.slice oa no oc) (.slice (some ⟨g, q, none⟩) 2 hc) (.slice (some ⟨g2, q2, none⟩) 1 ac) 0) 41)) W [] → W.cell? ⟨w9.heap.size, 0, none⟩ = some (.int .u8 1) ∧ W.cell? ⟨w9.heap.size, 8, none⟩ = some (.slice (some ⟨g, q, none⟩) 2 hc) ∧ W.cell? ⟨w9.heap.size, 9, none⟩ = some (.slice (some ⟨g2, q2, none⟩) 1 ac) ∧ W.cell? ⟨g, q, none⟩ = some (.int .u64 (smallV (a - 1))) ∧ W.cell? ⟨g, q + 1, none⟩ = some (.int .u64 (smallV b)) ∧ W.cell? ⟨g2, q2, none⟩ = some (.bool true)) := fun W t => ⟨(HOB.out.touch t (by simp)).cell 0, (HOB.out.touch t (by simp)).cell 8, (HOB.out.touch t (by simp)).cell 9, ((tA.trans t (by simp)).cell (p := ⟨g, q, none⟩) (lt_of_cell k1) (by simp)).trans k1, ((tA.trans t (by simp)).cell (p := ⟨g, q + 1, none⟩) (lt_of_cell k2) (by simp)).trans k2, ((tA.trans t (by simp)).cell (p := ⟨g2, q2, none⟩) (lt_of_cell k3) (by simp)).trans k3⟩
    have hne := small_ne a ha ha0
    have HSUB : Hid (∀ W, HidC Try.prog 20 #[.int .u64 (smallV a), .int .u64 4607182418800017408] W fun e w' => e = .returned (.int .u64 (smallV (a - 1))) ∧ Touch W w' []) := fun W => ⟨by rw [← small_sub a ha ha0]; exact sub_any _ _ W⟩
    have HT : Hid _ := HT9.out.trans (t9.trans tA (by simp)) (by simp)
    clear f1 f2 f3 ha0 ha hb k HB HR9 HT9 t9 tA k1 k2 k3 HOB hxa hyb hwx hwy hwa hwb
    generalize smallV (a - 1) = u at *
    generalize smallV a = xa at *
    generalize smallV b = xb at *
    go_wp2_with fail
    generalize w9.heap.size = p at *
    generalize hQ : (w9.alloc _) = Q at *
    have hd : Touch Q Q.drew [] := (Touch.refl Q []).drew
    go_region_held3 (fun w' => w'.cell? ⟨p, 0, none⟩ = some (.int .u8 1) ∧ w'.cell? ⟨p, 8, none⟩ = some (.slice (some ⟨g, q, none⟩) 2 hc) ∧ w'.cell? ⟨p, 9, none⟩ = some (.slice (some ⟨g2, q2, none⟩) 1 ac) ∧ w'.cell? ⟨g, q, none⟩ = some (.int .u64 u) ∧ w'.cell? ⟨g, q + 1, none⟩ = some (.int .u64 xb) ∧ w'.cell? ⟨g2, q2, none⟩ = some (.bool true)) ((first | exact HS.out _ hd | exact HS.out _ t3)) ((go_at_call 20; refine (HSUB.out _).out.mono ?_; rintro e w3' ⟨rfl, t3'⟩; have t3 : Touch Q w3' [] := hd.trans t3' (by simp)))
    go_wp2
    go_ret
    exact ⟨by simp, HT.out.trans t3 (by simp)⟩

end Go.Proofs.Ytmncidlfikgmkaa

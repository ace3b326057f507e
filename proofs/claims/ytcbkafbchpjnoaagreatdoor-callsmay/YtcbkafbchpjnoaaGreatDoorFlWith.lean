/-
  package flows: an operation with what a word stands for.
-/
import Derived.Test.YtcbkafbchpjnoaaGreatDoorFlNum
import Derived.Deep.RegionHeld3
namespace Go.Proofs.YtcbkafbchpjnoaaGreatDoor
set_option linter.unusedVariables false
set_option linter.unusedSimpArgs false
open Go.RowKit
attribute [local go_sem] Oper.semAt_some

def wvalP (N : Nm) (s : List UInt8) : Int := if (s == [118]) = true then N.v else numV (numP N s)
set_option maxRecDepth 100000 in
set_option maxHeartbeats 2000000 in
theorem flval_any (N : Nm) (hN : N.Ok) (s : ByteArray) (hs : s.size ≤ 18) (hok : (s.data.toList == [118] || okW s.data.toList) = true) (w : World) : Calls Tryz.prog 157 #[N.val, .string s] w fun e w' => e = .returned (.int .u64 (wvalP N s.data.toList)) ∧ Touch w w' [] := by
  have et : s.toList = s.data.toList := by simp [ByteArray.toList_eq]
  obtain ⟨x, hx⟩ : ∃ x, x = wvalP N s.data.toList := ⟨_, rfl⟩
  rw [← hx]
  unfold wvalP at hx
  have HT : Hid (∀ o, Touch w (w.alloc o) []) := fun o => (Touch.refl w []).alloc o
  cases h0 : s.toList == [118] with
  | true =>
    have hx2 : x = N.v := by rw [hx, if_pos (by rw [← et]; exact h0)]
    clear hx et hok hs hN
    subst hx2
    go_enter Tryz.func157, Tryz.ntmps157
    go_wp2
    go_ret
    exact ⟨rfl, HT.out _⟩
  | false =>
    rw [et] at h0
    rw [if_neg (by simp [h0])] at hx
    rw [h0, Bool.false_or] at hok
    have hb := numP_bound hN hok
    have HN : Hid (∀ W, HidC _ _ _ _ _) := fun W => ⟨flnum_any N hN s hs hok W⟩
    have HI : Hid (∀ W, HidC Tryz.prog 36 #[.int .i64 (numP N s.data.toList)] W fun e w' => e = .returned (.tuple #[.int .u64 x, .bool true]) ∧ Touch W w' []) := fun W => ⟨by rw [hx]; exact int_ok (numP N s.data.toList) (by omega) (by omega) W⟩
    rw [← et] at h0
    generalize numP N s.data.toList = y at *
    clear hx et hok hs hN hb
    go_enter Tryz.func157, Tryz.ntmps157
    go_wp2_with fail
    refine (HN.out _).out.mono ?_
    rintro e w1 ⟨rfl, t1⟩
    have HT1 : Hid _ := (HT.out _).trans t1 (by simp)
    clear HN t1 HT
    go_wp2_with fail
    refine (HI.out _).out.mono ?_
    rintro e w2 ⟨rfl, t2⟩
    have HT2 : Hid _ := HT1.out.trans t2 (by simp)
    clear HI t2 HT1
    go_wp2
    go_ret
    exact ⟨rfl, HT2.out⟩

def withP (N : Nm) (o : Int) (s : List UInt8) : InsD := if o = 1 then ⟨1, 0, wvalP N s⟩ else if o = 21 ∨ o = 19 ∨ o = 20 then ⟨o, N.a + numP N s, 0⟩ else ⟨o, numP N s, 0⟩
def okA (o : Int) (s : List UInt8) : Bool := if o = 1 then (s == [118] || okW s) else okW s
set_option maxRecDepth 100000 in
set_option maxHeartbeats 4000000 in
theorem flwith_any (N : Nm) (hN : N.Ok) (o : Int) (s : ByteArray) (hs : s.size ≤ 18) (hok : okA o s.data.toList = true) (w : World) : Calls Tryz.prog 153 #[N.val, .int .u8 o, .string s] w fun e w' => e = .returned (withP N o s.data.toList).v ∧ Touch w w' [] := by
  unfold okA at hok
  obtain ⟨X, hX⟩ : ∃ X, X = withP N o s.data.toList := ⟨_, rfl⟩
  rw [← hX]
  unfold withP at hX
  have HB : Hid (BoxI ((w.alloc (.cells #[.int .i64 N.a, .int .i64 N.t, .int .i64 N.s, .int .i64 N.l, .int .u64 N.v] 177)).alloc (.cells #[.int .u8 0, .int .i64 0, .int .u64 0] 78)) (w.heap.size + 1) 0 0 0) := by
    show BoxI _ _ _ _ _
    have := BoxI.new (w.alloc (.cells #[.int .i64 N.a, .int .i64 N.t, .int .i64 N.s, .int .i64 N.l, .int .u64 N.v] 177)) 0 0 0
    rwa [World.size_alloc] at this
  have HT : Hid (Touch w ((w.alloc (.cells #[.int .i64 N.a, .int .i64 N.t, .int .i64 N.s, .int .i64 N.l, .int .u64 N.v] 177)).alloc (.cells #[.int .u8 0, .int .i64 0, .int .u64 0] 78)) []) := ((Touch.refl w []).alloc _).alloc _
  have HS : Hid (∀ W, Touch ((w.alloc (.cells #[.int .i64 N.a, .int .i64 N.t, .int .i64 N.s, .int .i64 N.l, .int .u64 N.v] 177)).alloc (.cells #[.int .u8 0, .int .i64 0, .int .u64 0] 78)) W [w.heap.size + 1] → W.cell? ⟨w.heap.size, 0, none⟩ = some (.int .i64 N.a) ∧ W.cell? ⟨w.heap.size, 1, none⟩ = some (.int .i64 N.t) ∧ W.cell? ⟨w.heap.size, 2, none⟩ = some (.int .i64 N.s) ∧ W.cell? ⟨w.heap.size, 3, none⟩ = some (.int .i64 N.l) ∧ W.cell? ⟨w.heap.size, 4, none⟩ = some (.int .u64 N.v)) := fun W t => by
    have h1 : ((w.alloc (.cells #[.int .i64 N.a, .int .i64 N.t, .int .i64 N.s, .int .i64 N.l, .int .u64 N.v] 177)).alloc (.cells #[.int .u8 0, .int .i64 0, .int .u64 0] 78)).heap[w.heap.size]? = some (.cells #[.int .i64 N.a, .int .i64 N.t, .int .i64 N.s, .int .i64 N.l, .int .u64 N.v] 177 (0, 0)) := (heap_alloc_old _ _ (by simp)).trans (heap_alloc_new w _)
    have h2 : W.heap[w.heap.size]? = _ := (t.block _ (by simp; omega) (by simp)).trans h1
    unfold World.cell?
    rw [h2]
    exact ⟨rfl, rfl, rfl, rfl, rfl⟩
  by_cases h1 : o = 1
  · subst h1
    rw [if_pos rfl] at hX hok
    have HV : Hid (∀ W, HidC _ _ _ _ _) := fun W => ⟨flval_any N hN s hs hok W⟩
    generalize wvalP N s.data.toList = x at *
    subst hX
    clear hN hs hok HS
    go_enter Tryz.func153, Tryz.ntmps153
    go_wp2_with fail
    generalize ((w.alloc (.cells #[.int .i64 N.a, .int .i64 N.t, .int .i64 N.s, .int .i64 N.l, .int .u64 N.v] 177)).alloc (.cells #[.int .u8 0, .int .i64 0, .int .u64 0] 78)) = Q at *
    refine (HV.out _).out.mono ?_
    rintro e w1 ⟨rfl, t1⟩
    have hb1 := HB.out.touch t1 (by simp)
    obtain ⟨z0, z1, z2⟩ := hb1.cells
    have f0 := hb1.fr 0
    have f1 := hb1.fr 1
    have f2 := hb1.fr 2
    have HB1 : Hid _ := hb1
    have HT1 : Hid _ := HT.out.trans t1 (by simp)
    clear t1 hb1
    go_wp2
    have hb2 := ((HB1.out.set0 1).set1 0).set2 x
    obtain ⟨k0, k1, k2⟩ := hb2.cells
    refine bodyPost_ret (v := .agg #[.int .u8 1, .int .i64 0, .int .u64 x]) ?_ rfl ⟨rfl, ?_⟩
    · rw [res_cellC rfl]
      simp [go_sem, k0, k1, k2]
    · exact HT1.out.trans ((((Touch.refl w1 [w.heap.size + 1]).setCell (.inl (by simp)) _).setCell (.inl (by simp)) _).setCell (.inl (by simp)) _) (fun k hk => .inr (by simp at hk; omega))
  · rw [if_neg h1] at hX hok
    have HN : Hid (∀ W, HidC _ _ _ _ _) := fun W => ⟨flnum_any N hN s hs hok W⟩
    have hb := numP_bound hN hok
    have ha := hN.a
    have hwr : IntKind.i64.wrap (N.a + numP N s.data.toList) = N.a + numP N s.data.toList := by rw [IntKind.wrap_i64]; omega
    clear hN hs hok
    generalize numP N s.data.toList = x at *
    by_cases h2 : o = 21 ∨ o = 19 ∨ o = 20
    · rw [if_pos h2] at hX
      subst hX
      have hd : Touch ((w.alloc (.cells #[.int .i64 N.a, .int .i64 N.t, .int .i64 N.s, .int .i64 N.l, .int .u64 N.v] 177)).alloc (.cells #[.int .u8 0, .int .i64 0, .int .u64 0] 78)) ((w.alloc (.cells #[.int .i64 N.a, .int .i64 N.t, .int .i64 N.s, .int .i64 N.l, .int .u64 N.v] 177)).alloc (.cells #[.int .u8 0, .int .i64 0, .int .u64 0] 78)).drew [] := (Touch.refl _ []).drew
      have HW : Hid _ := hwr
      rcases h2 with rfl | rfl | rfl
      · go_enter Tryz.func153, Tryz.ntmps153
        go_wp2_with fail
        generalize ((w.alloc (.cells #[.int .i64 N.a, .int .i64 N.t, .int .i64 N.s, .int .i64 N.l, .int .u64 N.v] 177)).alloc (.cells #[.int .u8 0, .int .i64 0, .int .u64 0] 78)) = Q at *
        go_region_held3 (fun w' => w'.cell? ⟨w.heap.size, 0, none⟩ = some (.int .i64 N.a) ∧ w'.cell? ⟨w.heap.size, 1, none⟩ = some (.int .i64 N.t) ∧ w'.cell? ⟨w.heap.size, 2, none⟩ = some (.int .i64 N.s) ∧ w'.cell? ⟨w.heap.size, 3, none⟩ = some (.int .i64 N.l) ∧ w'.cell? ⟨w.heap.size, 4, none⟩ = some (.int .u64 N.v)) ((first | exact HS.out _ (hd.mono (by simp)) | exact HS.out _ (t1.mono (by simp)) | exact HS.out _ ((((t1.mono (by simp)).setCell (.inl (by simp)) _).setCell (.inl (by simp)) _).setCell (.inl (by simp)) _))) ((go_at_call 158; refine (HN.out _).out.mono ?_; rintro e w1 ⟨rfl, t1'⟩; have t1 : Touch Q w1 [] := hd.trans t1' (by simp); have hb1 := HB.out.touch t1 (by simp); have f0 := hb1.fr 0; have f1 := hb1.fr 1; have f2 := hb1.fr 2; obtain ⟨z0, z1, z2⟩ := hb1.cells))
        rename_i hHeld
        clear hHeld
        have hb2 := ((hb1.set0 21).set1 (N.a + x)).set2 0
        have HB2 : Hid _ := hb2
        have HT2 : Hid (Touch w (((w1.setCell ⟨w.heap.size + 1, 0, none⟩ (.int .u8 21)).setCell ⟨w.heap.size + 1, 1, none⟩ (.int .i64 (N.a + x))).setCell ⟨w.heap.size + 1, 2, none⟩ (.int .u64 0)) []) := (HT.out.trans t1 (by simp)).trans ((((Touch.refl w1 [w.heap.size + 1]).setCell (.inl (by simp)) _).setCell (.inl (by simp)) _).setCell (.inl (by simp)) _) (fun k hk => .inr (by simp at hk; omega))
        clear hb1 hb2 t1 t1' f0 f1 f2 z0 z1 z2
        go_wp2
        obtain ⟨k0, k1, k2⟩ := HB2.out.cells
        refine bodyPost_ret (v := .agg #[.int .u8 21, .int .i64 (N.a + x), .int .u64 0]) ?_ rfl ⟨rfl, ?_⟩
        · rw [res_cellC rfl]
          simp [go_sem, k0, k1, k2]
        · exact HT2.out
      · go_enter Tryz.func153, Tryz.ntmps153
        go_wp2_with fail
        generalize ((w.alloc (.cells #[.int .i64 N.a, .int .i64 N.t, .int .i64 N.s, .int .i64 N.l, .int .u64 N.v] 177)).alloc (.cells #[.int .u8 0, .int .i64 0, .int .u64 0] 78)) = Q at *
        go_region_held3 (fun w' => w'.cell? ⟨w.heap.size, 0, none⟩ = some (.int .i64 N.a) ∧ w'.cell? ⟨w.heap.size, 1, none⟩ = some (.int .i64 N.t) ∧ w'.cell? ⟨w.heap.size, 2, none⟩ = some (.int .i64 N.s) ∧ w'.cell? ⟨w.heap.size, 3, none⟩ = some (.int .i64 N.l) ∧ w'.cell? ⟨w.heap.size, 4, none⟩ = some (.int .u64 N.v)) ((first | exact HS.out _ (hd.mono (by simp)) | exact HS.out _ (t1.mono (by simp)) | exact HS.out _ ((((t1.mono (by simp)).setCell (.inl (by simp)) _).setCell (.inl (by simp)) _).setCell (.inl (by simp)) _))) ((go_at_call 158; refine (HN.out _).out.mono ?_; rintro e w1 ⟨rfl, t1'⟩; have t1 : Touch Q w1 [] := hd.trans t1' (by simp); have hb1 := HB.out.touch t1 (by simp); have f0 := hb1.fr 0; have f1 := hb1.fr 1; have f2 := hb1.fr 2; obtain ⟨z0, z1, z2⟩ := hb1.cells))
        rename_i hHeld
        clear hHeld
        have hb2 := ((hb1.set0 19).set1 (N.a + x)).set2 0
        have HB2 : Hid _ := hb2
        have HT2 : Hid (Touch w (((w1.setCell ⟨w.heap.size + 1, 0, none⟩ (.int .u8 19)).setCell ⟨w.heap.size + 1, 1, none⟩ (.int .i64 (N.a + x))).setCell ⟨w.heap.size + 1, 2, none⟩ (.int .u64 0)) []) := (HT.out.trans t1 (by simp)).trans ((((Touch.refl w1 [w.heap.size + 1]).setCell (.inl (by simp)) _).setCell (.inl (by simp)) _).setCell (.inl (by simp)) _) (fun k hk => .inr (by simp at hk; omega))
        clear hb1 hb2 t1 t1' f0 f1 f2 z0 z1 z2
        go_wp2
        obtain ⟨k0, k1, k2⟩ := HB2.out.cells
        refine bodyPost_ret (v := .agg #[.int .u8 19, .int .i64 (N.a + x), .int .u64 0]) ?_ rfl ⟨rfl, ?_⟩
        · rw [res_cellC rfl]
          simp [go_sem, k0, k1, k2]
        · exact HT2.out
      · go_enter Tryz.func153, Tryz.ntmps153
        go_wp2_with fail
        generalize ((w.alloc (.cells #[.int .i64 N.a, .int .i64 N.t, .int .i64 N.s, .int .i64 N.l, .int .u64 N.v] 177)).alloc (.cells #[.int .u8 0, .int .i64 0, .int .u64 0] 78)) = Q at *
        go_region_held3 (fun w' => w'.cell? ⟨w.heap.size, 0, none⟩ = some (.int .i64 N.a) ∧ w'.cell? ⟨w.heap.size, 1, none⟩ = some (.int .i64 N.t) ∧ w'.cell? ⟨w.heap.size, 2, none⟩ = some (.int .i64 N.s) ∧ w'.cell? ⟨w.heap.size, 3, none⟩ = some (.int .i64 N.l) ∧ w'.cell? ⟨w.heap.size, 4, none⟩ = some (.int .u64 N.v)) ((first | exact HS.out _ (hd.mono (by simp)) | exact HS.out _ (t1.mono (by simp)) | exact HS.out _ ((((t1.mono (by simp)).setCell (.inl (by simp)) _).setCell (.inl (by simp)) _).setCell (.inl (by simp)) _))) ((go_at_call 158; refine (HN.out _).out.mono ?_; rintro e w1 ⟨rfl, t1'⟩; have t1 : Touch Q w1 [] := hd.trans t1' (by simp); have hb1 := HB.out.touch t1 (by simp); have f0 := hb1.fr 0; have f1 := hb1.fr 1; have f2 := hb1.fr 2; obtain ⟨z0, z1, z2⟩ := hb1.cells))
        rename_i hHeld
        clear hHeld
        have hb2 := ((hb1.set0 20).set1 (N.a + x)).set2 0
        have HB2 : Hid _ := hb2
        have HT2 : Hid (Touch w (((w1.setCell ⟨w.heap.size + 1, 0, none⟩ (.int .u8 20)).setCell ⟨w.heap.size + 1, 1, none⟩ (.int .i64 (N.a + x))).setCell ⟨w.heap.size + 1, 2, none⟩ (.int .u64 0)) []) := (HT.out.trans t1 (by simp)).trans ((((Touch.refl w1 [w.heap.size + 1]).setCell (.inl (by simp)) _).setCell (.inl (by simp)) _).setCell (.inl (by simp)) _) (fun k hk => .inr (by simp at hk; omega))
        clear hb1 hb2 t1 t1' f0 f1 f2 z0 z1 z2
        go_wp2
        obtain ⟨k0, k1, k2⟩ := HB2.out.cells
        refine bodyPost_ret (v := .agg #[.int .u8 20, .int .i64 (N.a + x), .int .u64 0]) ?_ rfl ⟨rfl, ?_⟩
        · rw [res_cellC rfl]
          simp [go_sem, k0, k1, k2]
        · exact HT2.out
    · rw [if_neg h2] at hX
      subst hX
      have g1 : o ≠ 21 := by omega
      have g2 : o ≠ 19 := by omega
      have g3 : o ≠ 20 := by omega
      clear hb ha hwr HS h2
      go_enter Tryz.func153, Tryz.ntmps153
      go_wp2_with fail
      generalize ((w.alloc (.cells #[.int .i64 N.a, .int .i64 N.t, .int .i64 N.s, .int .i64 N.l, .int .u64 N.v] 177)).alloc (.cells #[.int .u8 0, .int .i64 0, .int .u64 0] 78)) = Q at *
      refine (HN.out _).out.mono ?_
      rintro e w1 ⟨rfl, t1⟩
      have hb1 := HB.out.touch t1 (by simp)
      obtain ⟨z0, z1, z2⟩ := hb1.cells
      have f0 := hb1.fr 0
      have f1 := hb1.fr 1
      have f2 := hb1.fr 2
      have HB1 : Hid _ := hb1
      have HT1 : Hid _ := HT.out.trans t1 (by simp)
      clear t1 hb1
      go_wp2
      have hb2 := ((HB1.out.set0 o).set1 x).set2 0
      obtain ⟨k0, k1, k2⟩ := hb2.cells
      refine bodyPost_ret (v := .agg #[.int .u8 o, .int .i64 x, .int .u64 0]) ?_ rfl ⟨rfl, ?_⟩
      · rw [res_cellC rfl]
        simp [go_sem, k0, k1, k2]
      · exact HT1.out.trans ((((Touch.refl w1 [w.heap.size + 1]).setCell (.inl (by simp)) _).setCell (.inl (by simp)) _).setCell (.inl (by simp)) _) (fun k hk => .inr (by simp at hk; omega))

end Go.Proofs.YtcbkafbchpjnoaaGreatDoor

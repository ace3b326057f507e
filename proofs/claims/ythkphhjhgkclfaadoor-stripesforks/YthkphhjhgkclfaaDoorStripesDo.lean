/-
  One deed on both tables: they tell the same, and are alike behind it.
-/
import Derived.Test.YthkphhjhgkclfaaDoorStripesDropT
namespace Go.Proofs.YthkphhjhgkclfaaDoor
set_option linter.unusedVariables false
set_option linter.unusedSimpArgs false
open Go.RowKit

/-- A deed, boxed. -/
structure One4 (W : World) (p : Nat) (kd o s v : Int) : Prop where
  st : W.heap[p]? = some (.cells #[.int .i64 kd, .int .i64 o, .int .i64 s, .int .u64 v] 38 (0, 0))
theorem One4.cells {W : World} {p : Nat} {kd o s v : Int} (h : One4 W p kd o s v) : W.cell? ⟨p, 0, none⟩ = some (.int .i64 kd) ∧ W.cell? ⟨p, 1, none⟩ = some (.int .i64 o) ∧ W.cell? ⟨p, 2, none⟩ = some (.int .i64 s) ∧ W.cell? ⟨p, 3, none⟩ = some (.int .u64 v) := by
  simp [World.cell?, h.st]
theorem One4.three {W W' : World} {p : Nat} {kd o s v : Int} {S : List Nat} (h : One4 W p kd o s v) (t : Touch W W' S) (hS : p ∉ S) : W'.cell? ⟨p, 1, none⟩ = some (.int .i64 o) ∧ W'.cell? ⟨p, 2, none⟩ = some (.int .i64 s) ∧ W'.cell? ⟨p, 3, none⟩ = some (.int .u64 v) := by
  obtain ⟨_, a, b, c⟩ := h.cells
  have e (j : Nat) := t.cell (p := ⟨p, j, none⟩) (lt_of_heap h.st) hS
  exact ⟨(e 1).trans a, (e 2).trans b, (e 3).trans c⟩

/-- A deed's numbers. -/
structure DeedD where
  kind : Int
  owner : Int
  stripe : Int
  v : Int
abbrev DeedD.val (d : DeedD) : Value := .agg #[.int .i64 d.kind, .int .i64 d.owner, .int .i64 d.stripe, .int .u64 d.v]

/-- The clock and the words behind a deed. -/
def deedS (now : Int) (ws : List Int) (d : DeedD) : Int × List Int :=
  if d.kind = 0 then (now, (lockS ws d.owner d.stripe).2)
  else if d.kind = 1 then (now, (unlockS now ws d.owner d.stripe d.v).2)
  else if d.kind = 2 then (now, (restoreS ws d.owner d.stripe).2)
  else if d.kind = 3 then (now, (dropS ws d.owner).2)
  else if d.kind = 4 then ((tickS now).2, ws)
  else (now, ws)

/-- What do leaves. -/
def DoPost (B : Nat) (w : World) (b rb : Nat) (vw : Value) (r : Int × List Int) (e : Ending) (w' : World) : Prop :=
  e = .returned (.bool true) ∧ TObj w' b r.1 r.2 ∧ RObj B w' rb vw r.1 r.2 ∧ Touch w w' (b :: rfoot rb vw)

set_option maxRecDepth 100000 in
set_option maxHeartbeats 4000000 in
theorem do_any {B : Nat} {w : World} {b rb : Nat} {vw : Value} {now : Int} {ws : List Int} (h : TObj w b now ws) (r : RObj B w rb vw now ws) (G : Good now ws) (S : Sh w) (hbg : 0 ≠ b) (hrb : rb ∉ [b]) (hrv : ∀ k, vw.ownBlock = some k → k ∉ [b]) (d : DeedD) (hv : 0 ≤ d.v) :
    Calls Tryd.prog 14 #[ptr b, ptr rb, d.val] w (DoPost B w b rb vw (deedS now ws d)) := by
  obtain ⟨kd, o, s, v⟩ := d
  unfold DoPost deedS
  simp only at hv ⊢
  have HP : Hid (One4 (w.alloc (.cells #[.int .i64 kd, .int .i64 o, .int .i64 s, .int .u64 v] 38)) w.heap.size kd o s v) := ⟨heap_alloc_new w _⟩
  have HT0 : Hid _ := (Touch.refl w []).alloc (.cells #[.int .i64 kd, .int .i64 o, .int .i64 s, .int .u64 v] 38)
  have HO : Hid _ := h.touch HT0.out (by simp)
  have HR : Hid _ := r.touch HT0.out (by simp) (by simp)
  have HS : Hid _ := S.touch HT0.out (by simp)
  have hbl : b < w.heap.size := h.lt
  have hpf : w.heap.size ∉ b :: rfoot rb vw := by
    have h1 := lt_of_heap r.st
    have h2 := r.apart G.pos
    simp only [rfoot, List.mem_cons, Option.mem_toList, not_or]
    refine ⟨by omega, by omega, fun hh => ?_⟩
    have := h2 _ hh
    omega
  have hbf : b ∉ rfoot rb vw := by
    simp only [rfoot, List.mem_cons, Option.mem_toList, not_or]
    refine ⟨fun hh => hrb (by simp [hh]), fun hh => hrv b hh (by simp)⟩
  clear h r S
  by_cases k0 : kd = 0
  · subst k0
    simp only [if_true]
    go_enter Tryd.func14, Tryd.ntmps14
    go_wp2_with fail
    refine wp_name fun W hW => ?_
    have hp : One4 W w.heap.size 0 o s v := by rw [hW]; exact HP.out
    have hO : TObj W b now ws := by rw [hW]; exact HO.out
    have hR : RObj B W rb vw now ws := by rw [hW]; exact HR.out
    have hS : Sh W := by rw [hW]; exact HS.out
    have HT : Hid (Touch w W []) := by rw [hW]; exact HT0.out
    clear hW HP HO HR HS HT0
    obtain ⟨c0, c1, c2, c3⟩ := hp.cells
    have hS1 : Sh W.drew := hS.touch (Touch.refl _ []).drew (by simp)
    have hO1 : TObj W.drew b now ws := hO.touch (Touch.refl _ []).drew (by simp)
    have hpd : w.heap.size ∉ [b] := by simp; omega
    go_region_held3 (fun w' => w'.cell? ⟨w.heap.size, 1, none⟩ = some (.int .i64 o) ∧ w'.cell? ⟨w.heap.size, 2, none⟩ = some (.int .i64 s) ∧ w'.cell? ⟨w.heap.size, 3, none⟩ = some (.int .u64 v)) ((first | exact hp.three (Touch.refl _ []).drew (by simp) | exact hp.three t4 hpf | exact hp.three t3 hpd)) ((first | (go_at_call 16; refine (tlock_ext hO1 G hS1 o s).mono ?_; rintro e w3 ⟨rfl, hO3, t2⟩; have t3 : Touch W w3 [b] := ((Touch.refl _ _).drew).trans t2 (fun x hx => .inl hx); have hR3 : RObj B w3 rb vw now ws := hR.touch t3 hrb hrv) | (go_at_call 35; refine (rlock_ext hR3 G o s).mono ?_; rintro e w4 ⟨rfl, hR4, t5⟩; have t4 : Touch W w4 (b :: rfoot rb vw) := (t3.mono (by simp)).trans t5 (fun x hx => .inl (by simp [hx])); have hO4 := hO3.touch t5 hbf)))
    have HO4 : Hid _ := hO4
    have HR4 : Hid _ := hR4
    have HT4 : Hid (Touch w w4 (b :: rfoot rb vw)) := (HT.out.mono (by simp)).trans t4 (fun x hx => .inl hx)
    clear hO4 hR4 t4 t3 hR3 hO3 hO1 hS1 hS hR hO hp HT
    go_wp2
    go_ret
    exact ⟨by simp, HO4.out, HR4.out, HT4.out⟩
  · by_cases k1 : kd = 1
    · subst k1
      simp only [show ¬ ((1 : Int) = 0) by omega, if_true, if_false]
      go_enter Tryd.func14, Tryd.ntmps14
      go_wp2_with fail
      refine wp_name fun W hW => ?_
      have hp : One4 W w.heap.size 1 o s v := by rw [hW]; exact HP.out
      have hO : TObj W b now ws := by rw [hW]; exact HO.out
      have hR : RObj B W rb vw now ws := by rw [hW]; exact HR.out
      have hS : Sh W := by rw [hW]; exact HS.out
      have HT : Hid (Touch w W []) := by rw [hW]; exact HT0.out
      clear hW HP HO HR HS HT0
      obtain ⟨c0, c1, c2, c3⟩ := hp.cells
      have hS1 : Sh W.drew := hS.touch (Touch.refl _ []).drew (by simp)
      have hO1 : TObj W.drew b now ws := hO.touch (Touch.refl _ []).drew (by simp)
      have hpd : w.heap.size ∉ [b] := by simp; omega
      go_region_held3 (fun w' => w'.cell? ⟨w.heap.size, 1, none⟩ = some (.int .i64 o) ∧ w'.cell? ⟨w.heap.size, 2, none⟩ = some (.int .i64 s) ∧ w'.cell? ⟨w.heap.size, 3, none⟩ = some (.int .u64 v)) ((first | exact hp.three (Touch.refl _ []).drew (by simp) | exact hp.three t4 hpf | exact hp.three t3 hpd)) ((first | (go_at_call 17; refine (tunlock_ext hO1 G hS1 o s v hv).mono ?_; rintro e w3 ⟨rfl, hO3, t2⟩; have t3 : Touch W w3 [b] := ((Touch.refl _ _).drew).trans t2 (fun x hx => .inl hx); have hR3 : RObj B w3 rb vw now ws := hR.touch t3 hrb hrv) | (go_at_call 36; refine (runlock_ext hR3 G o s v hv).mono ?_; rintro e w4 ⟨rfl, hR4, t5⟩; have t4 : Touch W w4 (b :: rfoot rb vw) := (t3.mono (by simp)).trans t5 (fun x hx => .inl (by simp [hx])); have hO4 := hO3.touch t5 hbf)))
      have HO4 : Hid _ := hO4
      have HR4 : Hid _ := hR4
      have HT4 : Hid (Touch w w4 (b :: rfoot rb vw)) := (HT.out.mono (by simp)).trans t4 (fun x hx => .inl hx)
      clear hO4 hR4 t4 t3 hR3 hO3 hO1 hS1 hS hR hO hp HT
      go_wp2
      go_ret
      exact ⟨by simp, HO4.out, HR4.out, HT4.out⟩
    · by_cases k2 : kd = 2
      · subst k2
        simp only [show ¬ ((2 : Int) = 0) by omega, show ¬ ((2 : Int) = 1) by omega, if_true, if_false]
        go_enter Tryd.func14, Tryd.ntmps14
        go_wp2_with fail
        refine wp_name fun W hW => ?_
        have hp : One4 W w.heap.size 2 o s v := by rw [hW]; exact HP.out
        have hO : TObj W b now ws := by rw [hW]; exact HO.out
        have hR : RObj B W rb vw now ws := by rw [hW]; exact HR.out
        have hS : Sh W := by rw [hW]; exact HS.out
        have HT : Hid (Touch w W []) := by rw [hW]; exact HT0.out
        clear hW HP HO HR HS HT0
        obtain ⟨c0, c1, c2, c3⟩ := hp.cells
        have hS1 : Sh W.drew := hS.touch (Touch.refl _ []).drew (by simp)
        have hO1 : TObj W.drew b now ws := hO.touch (Touch.refl _ []).drew (by simp)
        have hpd : w.heap.size ∉ [b] := by simp; omega
        go_region_held3 (fun w' => w'.cell? ⟨w.heap.size, 1, none⟩ = some (.int .i64 o) ∧ w'.cell? ⟨w.heap.size, 2, none⟩ = some (.int .i64 s) ∧ w'.cell? ⟨w.heap.size, 3, none⟩ = some (.int .u64 v)) ((first | exact hp.three (Touch.refl _ []).drew (by simp) | exact hp.three t4 hpf | exact hp.three t3 hpd)) ((first | (go_at_call 18; refine (trestore_ext hO1 G hS1 o s).mono ?_; rintro e w3 ⟨rfl, hO3, t2⟩; have t3 : Touch W w3 [b] := ((Touch.refl _ _).drew).trans t2 (fun x hx => .inl hx); have hR3 : RObj B w3 rb vw now ws := hR.touch t3 hrb hrv) | (go_at_call 37; refine (rrestore_ext hR3 G o s).mono ?_; rintro e w4 ⟨rfl, hR4, t5⟩; have t4 : Touch W w4 (b :: rfoot rb vw) := (t3.mono (by simp)).trans t5 (fun x hx => .inl (by simp [hx])); have hO4 := hO3.touch t5 hbf)))
        have HO4 : Hid _ := hO4
        have HR4 : Hid _ := hR4
        have HT4 : Hid (Touch w w4 (b :: rfoot rb vw)) := (HT.out.mono (by simp)).trans t4 (fun x hx => .inl hx)
        clear hO4 hR4 t4 t3 hR3 hO3 hO1 hS1 hS hR hO hp HT
        go_wp2
        go_ret
        exact ⟨by simp, HO4.out, HR4.out, HT4.out⟩
      · by_cases k3 : kd = 3
        · subst k3
          simp only [show ¬ ((3 : Int) = 0) by omega, show ¬ ((3 : Int) = 1) by omega, show ¬ ((3 : Int) = 2) by omega, if_true, if_false]
          go_enter Tryd.func14, Tryd.ntmps14
          go_wp2_with fail
          refine wp_name fun W hW => ?_
          have hp : One4 W w.heap.size 3 o s v := by rw [hW]; exact HP.out
          have hO : TObj W b now ws := by rw [hW]; exact HO.out
          have hR : RObj B W rb vw now ws := by rw [hW]; exact HR.out
          have hS : Sh W := by rw [hW]; exact HS.out
          have HT : Hid (Touch w W []) := by rw [hW]; exact HT0.out
          clear hW HP HO HR HS HT0
          obtain ⟨c0, c1, c2, c3⟩ := hp.cells
          have hS1 : Sh W.drew := hS.touch (Touch.refl _ []).drew (by simp)
          have hO1 : TObj W.drew b now ws := hO.touch (Touch.refl _ []).drew (by simp)
          have hpd : w.heap.size ∉ [b] := by simp; omega
          go_region_held3 (fun w' => w'.cell? ⟨w.heap.size, 1, none⟩ = some (.int .i64 o) ∧ w'.cell? ⟨w.heap.size, 2, none⟩ = some (.int .i64 s) ∧ w'.cell? ⟨w.heap.size, 3, none⟩ = some (.int .u64 v)) ((first | exact hp.three (Touch.refl _ []).drew (by simp) | exact hp.three t4 hpf | exact hp.three t3 hpd)) ((first | (go_at_call 20; refine (tdrop_ext hO1 G hS1 hbg o).mono ?_; rintro e w3 ⟨rfl, hO3, t2⟩; have t3 : Touch W w3 [b] := ((Touch.refl _ _).drew).trans t2 (fun x hx => .inl hx); have hR3 : RObj B w3 rb vw now ws := hR.touch t3 hrb hrv) | (go_at_call 38; refine (rdrop_ext hR3 G o).mono ?_; rintro e w4 ⟨rfl, hR4, t5⟩; have t4 : Touch W w4 (b :: rfoot rb vw) := (t3.mono (by simp)).trans t5 (fun x hx => .inl (by simp [hx])); have hO4 := hO3.touch t5 hbf)))
          have HO4 : Hid _ := hO4
          have HR4 : Hid _ := hR4
          have HT4 : Hid (Touch w w4 (b :: rfoot rb vw)) := (HT.out.mono (by simp)).trans t4 (fun x hx => .inl hx)
          clear hO4 hR4 t4 t3 hR3 hO3 hO1 hS1 hS hR hO hp HT
          go_wp2
          go_ret
          exact ⟨by simp, HO4.out, HR4.out, HT4.out⟩
        · by_cases k4 : kd = 4
          · subst k4
            simp only [show ¬ ((4 : Int) = 0) by omega, show ¬ ((4 : Int) = 1) by omega, show ¬ ((4 : Int) = 2) by omega, show ¬ ((4 : Int) = 3) by omega, if_true, if_false]
            go_enter Tryd.func14, Tryd.ntmps14
            go_wp2_with fail
            refine (ttick_ext HO.out G).mono ?_
            rintro e w3 ⟨rfl, hO3, t3⟩
            have HO3 : Hid _ := hO3
            have HR3 : Hid _ := HR.out.touch t3 hrb hrv
            clear hO3
            go_wp2_with fail
            refine (rtick_ext HR3.out G).mono ?_
            rintro e w4 ⟨rfl, hR4, t4⟩
            have HR4 : Hid _ := hR4
            have HO4 : Hid _ := HO3.out.touch t4 hbf
            clear hR4
            have HT4 : Hid (Touch w w4 (b :: rfoot rb vw)) := ((HT0.out.mono (by simp)).trans t3 (fun x hx => .inl (by simp at hx; simp [hx]))).trans t4 (fun x hx => .inl (by simp [hx]))
            generalize (tickS now).1 = q at *
            go_wp2
            go_ret
            exact ⟨by simp, HO4.out, HR4.out, HT4.out⟩
          · simp only [if_neg k0, if_neg k1, if_neg k2, if_neg k3, if_neg k4]
            have j0 : (kd == 0) = false := by simpa using k0
            have j1 : (kd == 1) = false := by simpa using k1
            have j2 : (kd == 2) = false := by simpa using k2
            have j3 : (kd == 3) = false := by simpa using k3
            have j4 : (kd == 4) = false := by simpa using k4
            go_enter Tryd.func14, Tryd.ntmps14
            go_wp2
            go_ret
            exact ⟨by simp, HO.out, HR.out, HT0.out.mono (by simp)⟩

end Go.Proofs.YthkphhjhgkclfaaDoor

/-
  live, do, same AND play OF THE STATEMENTS OF PACKAGE seqlock, BY THEIR CONTRACTS.
-/
import Derived.Test.YtghommnjnmlmmaaSeqRef
namespace Go.Proofs.Ytghommnjnmlmmaa
set_option linter.unusedVariables false
set_option linter.unusedSimpArgs false
open Go.RowKit

/-- A deed. -/
structure DeedD where
  kind : Int
  owner : Int
  at' : Int

abbrev DeedD.val (d : DeedD) : Value := .agg #[.int .i64 d.kind, .int .i64 d.owner, .int .u64 d.at']

/-- What a lock is behind a deed. -/
def stepS (s : SLk) (d : DeedD) : SLk :=
  if d.kind = 1 then (tryS s d.owner d.at').2 else if d.kind = 2 then (leaveS s d.owner (s.c + 1)).2 else if d.kind = 3 then (leaveS s d.owner (s.c - 1)).2 else s

def runS (s : SLk) (l : List DeedD) : SLk := l.foldl stepS s

/-- A lock that can be. -/
structure SWf (s : SLk) : Prop where
  lo : 0 ≤ s.c
  hi : s.c ≤ 1099511627776
  own : ¬ s.c % 2 = 1 → s.o = 0
  own' : s.c % 2 = 1 → 0 ≤ s.o ∧ s.o < 4

theorem stepS_wf {s : SLk} (h : SWf s) (d : DeedD) : SWf (stepS s d) := by
  obtain ⟨lo, hi, own, own'⟩ := h
  unfold stepS tryS leaveS
  split
  · split
    · exact ⟨lo, hi, own, own'⟩
    · split
      · exact ⟨lo, hi, own, own'⟩
      · split
        · exact ⟨lo, hi, own, own'⟩
        · split
          · exact ⟨lo, hi, own, own'⟩
          · exact ⟨by simp only; omega, by simp only; omega, by simp only; omega, by simp only; omega⟩
  · split
    · split
      · exact ⟨by simp only; omega, by simp only; omega, fun _ => rfl, fun _ => ⟨Int.le_refl _, show (0 : Int) < 4 by decide⟩⟩
      · exact ⟨lo, hi, own, own'⟩
    · split
      · split
        · exact ⟨by simp only; omega, by simp only; omega, fun _ => rfl, fun _ => ⟨Int.le_refl _, show (0 : Int) < 4 by decide⟩⟩
        · exact ⟨lo, hi, own, own'⟩
      · exact ⟨lo, hi, own, own'⟩

theorem runS_wf {s : SLk} (h : SWf s) (l : List DeedD) : SWf (runS s l) := by
  induction l generalizing s with
  | nil => exact h
  | cons d l ih => exact ih (stepS_wf h d)

/-- Both locks, apart. -/
structure SPair (w : World) (bl br : Nat) (s : SLk) : Prop where
  l : LObj w bl s.c s.o
  r : RLk w br s
  ne : bl ≠ br
  wf : SWf s

theorem SPair.touch {w w' : World} {bl br : Nat} {s : SLk} {S : List Nat} (h : SPair w bl br s) (t : Touch w w' S) (h1 : bl ∉ S) (h2 : br ∉ S) : SPair w' bl br s := ⟨h.l.touch t h1, h.r.touch t h2, h.ne, h.wf⟩

def DoPost (bl br : Nat) (w : World) (s : SLk) (x : Ending) (w' : World) : Prop := x = .returned (.bool true) ∧ SPair w' bl br s ∧ Touch w w' [bl, br]

/-- A deed, boxed. -/
structure One3 (W : World) (p : Nat) (k o a : Int) : Prop where
  st : W.heap[p]? = some (.cells #[.int .i64 k, .int .i64 o, .int .u64 a] 46 (0, 0))
theorem One3.cells {W : World} {p : Nat} {k o a : Int} (h : One3 W p k o a) : W.cell? ⟨p, 0, none⟩ = some (.int .i64 k) ∧ W.cell? ⟨p, 1, none⟩ = some (.int .i64 o) ∧ W.cell? ⟨p, 2, none⟩ = some (.int .u64 a) := by
  simp [World.cell?, h.st]
theorem One3.two {W W' : World} {p : Nat} {k o a : Int} {S : List Nat} (h : One3 W p k o a) (t : Touch W W' S) (hS : p ∉ S) : W'.cell? ⟨p, 1, none⟩ = some (.int .i64 o) ∧ W'.cell? ⟨p, 2, none⟩ = some (.int .u64 a) := by
  obtain ⟨_, a, b⟩ := h.cells
  have e (j : Nat) := t.cell (p := ⟨p, j, none⟩) (lt_of_heap h.st) hS
  exact ⟨(e 1).trans a, (e 2).trans b⟩

set_option maxRecDepth 100000 in
set_option maxHeartbeats 1600000 in
theorem sdo_any (bl br : Nat) (s : SLk) (d : DeedD) (w : World) (h : SPair w bl br s) :
    Calls Try.prog 20 #[.pointer (some ⟨bl, 0, none⟩), .pointer (some ⟨br, 0, none⟩), d.val] w (DoPost bl br w (stepS s d)) := by
  have hwf := stepS_wf h.wf d
  obtain ⟨k, o, a⟩ := d
  have lo := h.wf.lo
  have hi := h.wf.hi
  have hlt := lt_of_heap h.l.st
  have hlr := lt_of_heap h.r.st
  have HP : Hid (One3 (w.alloc (.cells #[.int .i64 k, .int .i64 o, .int .u64 a] 46)) w.heap.size k o a) := ⟨heap_alloc_new w _⟩
  have HT0 : Hid _ := (Touch.refl w []).alloc (.cells #[.int .i64 k, .int .i64 o, .int .u64 a] 46)
  have HO : Hid _ := h.l.touch HT0.out (by simp)
  have HR : Hid _ := h.r.touch HT0.out (by simp)
  have HW : Hid _ := h.wf
  have hne := h.ne
  have hpf : w.heap.size ∉ [bl, br] := by simp; omega
  have hbf : bl ∉ [br] := by simpa using hne
  have hrb : br ∉ [bl] := by simpa using Ne.symm hne
  clear h
  simp only [stepS] at hwf ⊢
  by_cases k0 : k = 0
  · subst k0
    simp only [show ¬ ((0 : Int) = 1) by decide, show ¬ ((0 : Int) = 2) by decide, show ¬ ((0 : Int) = 3) by decide, if_false] at hwf ⊢
    have hs := fun (W : World) (hW : LObj W bl s.c s.o) => snap_any bl s lo W hW
    have hr := fun (W : World) (hW : RLk W br s) => rsnap_any br s W hW
    generalize snapS s = R at *
    go_enter Try.func20, Try.ntmps20
    go_wp2_with fail
    refine (hs _ HO.out).mono ?_
    rintro x w1 ⟨rfl, l1, t1⟩
    have r1 := HR.out.touch t1 hrb
    clear hs
    go_wp2_with fail
    refine (hr w1 r1).mono ?_
    rintro x w2 ⟨rfl, rfl⟩
    have HP : Hid _ := (SPair.mk l1 r1 hne HW.out)
    have HT : Hid _ := ((HT0.out.mono (R := [bl]) (by simp)).trans t1 (by simp)).mono (R := [bl, br]) (by simp)
    clear hr l1 r1 t1
    go_wp2
    go_ret
    exact ⟨by simp, HP.out, HT.out⟩
  by_cases k1 : k = 1
  · subst k1
    simp only [if_true] at hwf ⊢
    have hs := fun (W : World) (hW : LObj W bl s.c s.o) => try_any bl s o a lo W hW
    have hr := fun (W : World) (hW : RLk W br s) => rtry_any br s o a lo W hW
    generalize tryS s o a = R at *
    go_enter Try.func20, Try.ntmps20
    go_wp2_with fail
    refine wp_name fun W hW => ?_
    have hp : One3 W w.heap.size 1 o a := by rw [hW]; exact HP.out
    have hO : LObj W bl s.c s.o := by rw [hW]; exact HO.out
    have hR : RLk W br s := by rw [hW]; exact HR.out
    have HT : Hid (Touch w W []) := by rw [hW]; exact HT0.out
    clear hW HP HO HR HT0
    obtain ⟨c0, c1, c2⟩ := hp.cells
    have hO1 : LObj W.drew bl s.c s.o := hO.touch (Touch.refl _ []).drew (by simp)
    have hpd : w.heap.size ∉ [bl] := by simp; omega
    go_region_held3 (fun w' => w'.cell? ⟨w.heap.size, 1, none⟩ = some (.int .i64 o) ∧ w'.cell? ⟨w.heap.size, 2, none⟩ = some (.int .u64 a)) ((first | exact hp.two (Touch.refl _ []).drew (by simp) | exact hp.two t4 hpf | exact hp.two t3 hpd)) ((first | (go_at_call 15; refine (hs _ hO1).mono ?_; rintro e w3 ⟨rfl, hO3, t2⟩; have t3 : Touch W w3 [bl] := ((Touch.refl _ _).drew).trans t2 (fun x hx => .inl hx); have hR3 : RLk w3 br s := hR.touch t3 hrb) | (go_at_call 35; refine (hr _ hR3).mono ?_; rintro e w4 ⟨rfl, hR4, t5⟩; have t4 : Touch W w4 [bl, br] := (t3.mono (by simp)).trans t5 (fun x hx => .inl (by simp at hx; simp [hx])); have hO4 := hO3.touch t5 hbf)))
    have HO4 : Hid _ := hO4
    have HR4 : Hid _ := hR4
    have HT4 : Hid (Touch w w4 [bl, br]) := (HT.out.mono (by simp)).trans t4 (fun x hx => .inl hx)
    clear hO4 hR4 t4 t3 hR3 hO3 hO1 hR hO hp HT hs hr
    go_wp2
    go_ret
    exact ⟨by simp, ⟨HO4.out, HR4.out, hne, hwf⟩, HT4.out⟩
  by_cases k2 : k = 2
  · subst k2
    simp only [show ¬ ((2 : Int) = 1) by decide, if_true, if_false] at hwf ⊢
    have hs := fun (W : World) (hW : LObj W bl s.c s.o) => unlock_any bl s o lo hi W hW
    have hr := fun (W : World) (hW : RLk W br s) => runlock_any br s o lo hi W hW
    generalize leaveS s o (s.c + 1) = R at *
    go_enter Try.func20, Try.ntmps20
    go_wp2_with fail
    refine wp_name fun W hW => ?_
    have hp : One3 W w.heap.size 2 o a := by rw [hW]; exact HP.out
    have hO : LObj W bl s.c s.o := by rw [hW]; exact HO.out
    have hR : RLk W br s := by rw [hW]; exact HR.out
    have HT : Hid (Touch w W []) := by rw [hW]; exact HT0.out
    clear hW HP HO HR HT0
    obtain ⟨c0, c1, c2⟩ := hp.cells
    have hO1 : LObj W.drew bl s.c s.o := hO.touch (Touch.refl _ []).drew (by simp)
    have hpd : w.heap.size ∉ [bl] := by simp; omega
    go_region_held3 (fun w' => w'.cell? ⟨w.heap.size, 1, none⟩ = some (.int .i64 o) ∧ w'.cell? ⟨w.heap.size, 2, none⟩ = some (.int .u64 a)) ((first | exact hp.two (Touch.refl _ []).drew (by simp) | exact hp.two t4 hpf | exact hp.two t3 hpd)) ((first | (go_at_call 17; refine (hs _ hO1).mono ?_; rintro e w3 ⟨rfl, hO3, t2⟩; have t3 : Touch W w3 [bl] := ((Touch.refl _ _).drew).trans t2 (fun x hx => .inl hx); have hR3 : RLk w3 br s := hR.touch t3 hrb) | (go_at_call 36; refine (hr _ hR3).mono ?_; rintro e w4 ⟨rfl, hR4, t5⟩; have t4 : Touch W w4 [bl, br] := (t3.mono (by simp)).trans t5 (fun x hx => .inl (by simp at hx; simp [hx])); have hO4 := hO3.touch t5 hbf)))
    have HO4 : Hid _ := hO4
    have HR4 : Hid _ := hR4
    have HT4 : Hid (Touch w w4 [bl, br]) := (HT.out.mono (by simp)).trans t4 (fun x hx => .inl hx)
    clear hO4 hR4 t4 t3 hR3 hO3 hO1 hR hO hp HT hs hr
    go_wp2
    go_ret
    exact ⟨by simp, ⟨HO4.out, HR4.out, hne, hwf⟩, HT4.out⟩
  by_cases k3 : k = 3
  · subst k3
    simp only [show ¬ ((3 : Int) = 1) by decide, show ¬ ((3 : Int) = 2) by decide, if_true, if_false] at hwf ⊢
    have hs := fun (W : World) (hW : LObj W bl s.c s.o) => break_any bl s o lo hi W hW
    have hr := fun (W : World) (hW : RLk W br s) => rbreak_any br s o lo hi W hW
    generalize leaveS s o (s.c - 1) = R at *
    go_enter Try.func20, Try.ntmps20
    go_wp2_with fail
    refine wp_name fun W hW => ?_
    have hp : One3 W w.heap.size 3 o a := by rw [hW]; exact HP.out
    have hO : LObj W bl s.c s.o := by rw [hW]; exact HO.out
    have hR : RLk W br s := by rw [hW]; exact HR.out
    have HT : Hid (Touch w W []) := by rw [hW]; exact HT0.out
    clear hW HP HO HR HT0
    obtain ⟨c0, c1, c2⟩ := hp.cells
    have hO1 : LObj W.drew bl s.c s.o := hO.touch (Touch.refl _ []).drew (by simp)
    have hpd : w.heap.size ∉ [bl] := by simp; omega
    go_region_held3 (fun w' => w'.cell? ⟨w.heap.size, 1, none⟩ = some (.int .i64 o) ∧ w'.cell? ⟨w.heap.size, 2, none⟩ = some (.int .u64 a)) ((first | exact hp.two (Touch.refl _ []).drew (by simp) | exact hp.two t4 hpf | exact hp.two t3 hpd)) ((first | (go_at_call 16; refine (hs _ hO1).mono ?_; rintro e w3 ⟨rfl, hO3, t2⟩; have t3 : Touch W w3 [bl] := ((Touch.refl _ _).drew).trans t2 (fun x hx => .inl hx); have hR3 : RLk w3 br s := hR.touch t3 hrb) | (go_at_call 37; refine (hr _ hR3).mono ?_; rintro e w4 ⟨rfl, hR4, t5⟩; have t4 : Touch W w4 [bl, br] := (t3.mono (by simp)).trans t5 (fun x hx => .inl (by simp at hx; simp [hx])); have hO4 := hO3.touch t5 hbf)))
    have HO4 : Hid _ := hO4
    have HR4 : Hid _ := hR4
    have HT4 : Hid (Touch w w4 [bl, br]) := (HT.out.mono (by simp)).trans t4 (fun x hx => .inl hx)
    clear hO4 hR4 t4 t3 hR3 hO3 hO1 hR hO hp HT hs hr
    go_wp2
    go_ret
    exact ⟨by simp, ⟨HO4.out, HR4.out, hne, hwf⟩, HT4.out⟩
  rw [if_neg k1, if_neg k2, if_neg k3] at hwf ⊢
  have HT : Hid _ := HT0.out.mono (R := [bl, br]) (by simp)
  have k0' : (k == 0) = false := by simpa using k0
  have k1' : (k == 1) = false := by simpa using k1
  have k2' : (k == 2) = false := by simpa using k2
  have k3' : (k == 3) = false := by simpa using k3
  clear k0 k1 k2 k3
  go_enter Try.func20, Try.ntmps20
  go_wp2
  go_ret
  exact ⟨rfl, ⟨HO.out, HR.out, hne, hwf⟩, HT.out⟩

set_option maxRecDepth 100000 in
theorem ssame_any (bl br : Nat) (s : SLk) (at' : Int) (w : World) (h : SPair w bl br s) :
    Calls Try.prog 10 #[.pointer (some ⟨bl, 0, none⟩), .pointer (some ⟨br, 0, none⟩), .int .u64 at'] w fun x w' => x = .returned (.bool true) ∧ Touch w w' [] := by
  have ho := owner_any bl s h.wf.lo w h.l
  have hr := fun (W : World) (hW : RLk W br s) => rowner_any br s W hW
  generalize ownS s = R at *
  go_enter Try.func10, Try.ntmps10
  go_wp2_with fail
  refine ho.mono ?_
  rintro x w1 ⟨rfl, t1⟩
  have h1 := h.touch t1 (by simp) (by simp)
  clear ho
  go_wp2_with fail
  refine (hr w1 h1.r).mono ?_
  rintro x w2 ⟨rfl, rfl⟩
  clear hr
  go_wp2_with fail
  refine (count_any bl s.c s.o w1 h1.l).mono ?_
  rintro x w2 ⟨rfl, rfl⟩
  go_wp2_with fail
  refine (rcount_any br s w1 h1.r).mono ?_
  rintro x w2 ⟨rfl, rfl⟩
  go_wp2_with fail
  refine (since_any bl s.c s.o at' w1 h1.l).mono ?_
  rintro x w2 ⟨rfl, rfl⟩
  go_wp2_with fail
  refine (rsince_any br s at' w1 h1.r).mono ?_
  rintro x w2 ⟨rfl, rfl⟩
  go_wp2
  go_ret
  exact ⟨by simp, t1⟩

set_option maxRecDepth 100000 in
set_option maxHeartbeats 800000 in
theorem slive_any (w : World) : Calls Try.prog 9 #[] w fun x w' => x = .returned (.bool true) ∧ Touch w w' [] := by
  have ht1 := fun (W : World) (b : Nat) (hW : LObj W b 0 0) => try_any b ⟨0, 0⟩ 1 0 (by decide) W hW
  have hsn := fun (W : World) (b : Nat) (hW : LObj W b 1 1) => snap_any b ⟨1, 1⟩ (by decide) W hW
  have hun := fun (W : World) (b : Nat) (hW : LObj W b 1 1) => unlock_any b ⟨1, 1⟩ 1 (by decide) (by decide) W hW
  have ht2 := fun (W : World) (b : Nat) (hW : LObj W b 2 0) => try_any b ⟨2, 0⟩ 2 0 (by decide) W hW
  rw [show tryS ⟨0, 0⟩ 1 0 = (0, ⟨1, 1⟩) from rfl] at ht1
  rw [show snapS ⟨1, 1⟩ = (0, 7) from rfl] at hsn
  rw [show leaveS ⟨1, 1⟩ 1 ((⟨1, 1⟩ : SLk).c + 1) = (0, ⟨2, 0⟩) from rfl] at hun
  rw [show tryS ⟨2, 0⟩ 2 0 = (8, ⟨2, 0⟩) from rfl] at ht2
  go_enter Try.func9, Try.ntmps9
  go_wp2_with fail
  refine (snew_any w).mono ?_
  rintro x w1 ⟨rfl, l1, rfl⟩
  have hb : w.heap.size ∈ [w.heap.size] := by simp
  have T : Touch w (w.alloc (.cells #[.int .u64 0, .int .i64 0] 50)) [] := (Touch.refl w []).alloc _
  generalize w.alloc (.cells #[.int .u64 0, .int .i64 0] 50) = w1 at *
  generalize hB : w.heap.size = B at *
  go_wp2_with fail
  refine (ht1 w1 B l1).mono ?_
  rintro x w2 ⟨rfl, l2, t2⟩
  go_wp2_with fail
  refine (hsn w2 B l2).mono ?_
  rintro x w3 ⟨rfl, l3, t3⟩
  go_wp2_with fail
  refine (hun w3 B l3).mono ?_
  rintro x w4 ⟨rfl, l4, t4⟩
  go_wp2_with fail
  refine (count_any B 2 0 w4 l4).mono ?_
  rintro x w5 ⟨rfl, rfl⟩
  go_wp2_with fail
  refine (ht2 w4 B l4).mono ?_
  rintro x w5 ⟨rfl, l5, t5⟩
  go_wp2_with fail
  refine (since_any B 2 0 2 w5 l5).mono ?_
  rintro x w6 ⟨rfl, rfl⟩
  go_wp2
  go_ret
  refine ⟨rfl, ?_⟩
  have hS : ∀ y ∈ [B], y ∈ ([] : List Nat) ∨ w.heap.size ≤ y := by intro y hy; simp at hy; omega
  exact (((T.trans t2 hS).trans t3 hS).trans t4 hS).trans t5 hS

end Go.Proofs.Ytghommnjnmlmmaa

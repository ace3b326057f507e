/-
  do AND play OF THE STATEMENTS OF PACKAGE writes BY THEIR CONTRACTS.
-/
import Derived.Test.YtijnepbmkkdpnaaWritesRefM
import Derived.Test.YtijnepbmkkdpnaaWritesOpen
namespace Go.Proofs.Ytijnepbmkkdpnaa
set_option linter.unusedVariables false
set_option linter.unusedSimpArgs false
open Go.RowKit Go.Maps Go.Shelf

/-- What a deed comes to. -/
def stepS (Fs : List Fr) (x : DeedD) : List Fr := if x.kind = 0 then (putS Fs x.tvar x.v).2 else if x.kind = 1 then (pushS Fs).2 else if x.kind = 2 then (dropS Fs).2 else if x.kind = 3 then (mergeS Fs).2 else Fs
def runF (Fs : List Fr) (l : List DeedD) : List Fr := l.foldl stepS Fs
theorem runF_snoc {l : List DeedD} {k : Nat} (hk : k < l.length) (L : List Fr) : runF L (l.take (k + 1)) = stepS (runF L (l.take k)) l[k] := by
  rw [List.take_succ_eq_append_getElem hk, runF, List.foldl_append]; rfl

/-- Both logs, apart. -/
structure WPair (B : Nat) (w : World) (b : Nat) (ch : List (Nat × Nat)) (rb : Nat) (vr : Value) (Fs : List Fr) : Prop where
  p : PLog B w b ch Fs
  r : RLog B w rb vr Fs.reverse
  ne : ∀ k ∈ pfoot b ch, k ∉ rfoot rb vr

theorem WPair.touch {B : Nat} {w w' : World} {b : Nat} {ch : List (Nat × Nat)} {rb : Nat} {vr : Value} {Fs : List Fr} (h : WPair B w b ch rb vr Fs) (t : Touch w w' []) : WPair B w' b ch rb vr Fs := ⟨h.p.touch t, h.r.touch t, h.ne⟩

/-- Both have done a deed. -/
theorem WPair.both {B : Nat} {w w1 w2 : World} {b : Nat} {ch : List (Nat × Nat)} {rb : Nat} {vr : Value} {Fs : List Fr} {res : Int × List Fr} {e1 e2 : Ending} (h : WPair B w b ch rb vr Fs) (h1 : OpPost B w b ch res e1 w1) (h2 : ∀ (hr : RLog B w1 rb vr Fs.reverse), RPost B w1 rb vr res e2 w2) :
    ∃ ch' vr', WPair B w2 b ch' rb vr' res.2 ∧ Touch w w2 (pfoot b ch ++ rfoot rb vr) ∧ e2 = .returned (.int .i64 res.1) ∧ ∀ x ∈ pfoot b ch' ++ rfoot rb vr', x ∈ pfoot b ch ++ rfoot rb vr ∨ w.heap.size ≤ x := by
  obtain ⟨ch', rfl, hl, ht, hx⟩ := h1
  have hr1 := h.r.keep ht (fun x hx hp => h.ne x hp hx)
  obtain ⟨vr', he, hr, ht2, hx2⟩ := h2 hr1
  have hne1 : ∀ x ∈ pfoot b ch', x ∉ rfoot rb vr := fun x hp hr => by
    rcases hx x hp with h3 | h3
    · exact h.ne x h3 hr
    · have := (h.r.foot_lt x hr).2; omega
  refine ⟨ch', vr', ⟨hl.keep ht2 hne1, hr, fun x hp hr' => ?_⟩, (ht.mono (by simp; exact fun x h => .inl h)).trans (ht2.mono (R := pfoot b ch ++ rfoot rb vr) (by simp; exact fun x h => .inr h)) (fun x hx => .inl hx), he, ?_⟩
  · rcases hx2 x hr' with h3 | h3
    · exact hne1 x hp h3
    · have := (hl.foot_lt x hp).2; omega
  · intro x hx'
    rw [List.mem_append] at hx'
    rcases hx' with h3 | h3
    · exact (hx x h3).imp (fun h => List.mem_append_left _ h) id
    · rcases hx2 x h3 with h4 | h4
      · exact .inl (List.mem_append_right _ h4)
      · exact .inr (Nat.le_trans ht.size h4)

/-- What do leaves. -/
def DoPost (B : Nat) (w : World) (b : Nat) (ch : List (Nat × Nat)) (rb : Nat) (vr : Value) (Fs : List Fr) (e : Ending) (w' : World) : Prop :=
  e = .returned (.bool true) ∧ ∃ ch' vr', WPair B w' b ch' rb vr' Fs ∧ Touch w w' (pfoot b ch ++ rfoot rb vr) ∧ ∀ x ∈ pfoot b ch' ++ rfoot rb vr', x ∈ pfoot b ch ++ rfoot rb vr ∨ w.heap.size ≤ x

set_option maxRecDepth 100000 in
set_option maxHeartbeats 1600000 in
theorem do_any {B : Nat} {w : World} {b : Nat} {ch : List (Nat × Nat)} {rb : Nat} {vr : Value} {Fs : List Fr} (h : WPair B w b ch rb vr Fs) (x : DeedD) (hx : x.Wf) :
    Calls Try.prog 22 #[ptr b, ptr rb, .agg #[.int .i64 x.kind, .int .i64 x.tvar, .int .u64 x.v]] w (DoPost B w b ch rb vr (stepS Fs x)) := by
  obtain ⟨k, t, v⟩ := x
  have ht := hx.t
  have hv := hx.v
  simp only at ht hv ⊢
  have T0 : Touch w (w.alloc (.cells #[.int .i64 k, .int .i64 t, .int .u64 v] 52)) [] := (Touch.refl w []).alloc _
  have e0 : (w.alloc (.cells #[.int .i64 k, .int .i64 t, .int .u64 v] 52)).heap[w.heap.size]? = some (.cells #[.int .i64 k, .int .i64 t, .int .u64 v] 52 (0, 0)) := heap_alloc_new w _
  have HS : Hid _ := h
  have HT0 : Hid _ := T0
  have HE0 : Hid _ := e0
  clear h hx T0 e0
  by_cases k0 : k = 0
  · subst k0
    have hst : stepS Fs ⟨0, t, v⟩ = (putS Fs t v).2 := by simp [stepS]
    rw [hst]
    generalize hres : putS Fs t v = res
    clear hst
    go_enter Try.func22, Try.ntmps22
    go_wp2_with fail
    have hP0 := HS.out.touch (HT0.out.drew)
    have hkp : ∀ w' S, Touch (w.alloc (.cells #[.int .i64 0, .int .i64 t, .int .u64 v] 52)) w' S → w.heap.size ∉ S → (w'.cell? ⟨w.heap.size, 1, none⟩ = some (.int .i64 t) ∧ w'.cell? ⟨w.heap.size, 2, none⟩ = some (.int .u64 v)) := fun w' S T hS => by
      have hb := (T.block _ (lt_of_heap HE0.out) hS).trans HE0.out
      simp [World.cell?, hb]
    have hnP : w.heap.size ∉ pfoot b ch := fun hh => by have := (HS.out.p.foot_lt _ hh).2; omega
    have hnR : w.heap.size ∉ rfoot rb vr := fun hh => by have := (HS.out.r.foot_lt _ hh).2; omega
    have ho1 := put_any hP0.p t v ht hv
    have ho2 := fun (W : World) (hr : RLog B W rb vr Fs.reverse) => rput_any hr t v hv
    rw [hres] at ho1
    simp only [hres] at ho2
    refine wp_region_held_drew (S := fun w' => w'.cell? ⟨w.heap.size, 1, none⟩ = some (.int .i64 t) ∧ w'.cell? ⟨w.heap.size, 2, none⟩ = some (.int .u64 v)) (by kernel_rfl) (hkp _ [] (Touch.refl _ _).drew (by simp)) (fun hHeld => ?_)
    refine wpAnyH_take (i := 0) (v := ptr b) rfl (by kernel_rfl) (by kernel_rfl) (by kernel_rfl) (fun _ _ _ h => h) (Or.inl ⟨by rfl, ?_⟩) hHeld ?_
    · intro w' hSw
      try simp only [Act.put, List.getElem_toArray, List.getElem_cons_succ, List.getElem_cons_zero, List.setIfInBounds_toArray, List.set_cons_zero, List.set_cons_succ]
      (obtain ⟨q1, q2⟩ := hSw; go_simp)
    try simp only [Act.put, List.getElem_toArray, List.getElem_cons_succ, List.getElem_cons_zero, List.setIfInBounds_toArray, List.set_cons_zero, List.set_cons_succ]
    refine wpAnyH_take (i := 1) (v := (.pointer (some ⟨w.heap.size, 1, none⟩))) rfl (by kernel_rfl) (by kernel_rfl) (by kernel_rfl) (fun _ _ _ h => h) (Or.inl ⟨by rfl, ?_⟩) hHeld ?_
    · intro w' hSw
      try simp only [Act.put, List.getElem_toArray, List.getElem_cons_succ, List.getElem_cons_zero, List.setIfInBounds_toArray, List.set_cons_zero, List.set_cons_succ]
      (obtain ⟨q1, q2⟩ := hSw; go_simp)
    try simp only [Act.put, List.getElem_toArray, List.getElem_cons_succ, List.getElem_cons_zero, List.setIfInBounds_toArray, List.set_cons_zero, List.set_cons_succ]
    refine wpAnyH_take (i := 2) (v := (.int .i64 t)) rfl (by kernel_rfl) (by kernel_rfl) (by kernel_rfl) (fun _ _ _ h => h) (Or.inl ⟨by rfl, ?_⟩) hHeld ?_
    · intro w' hSw
      try simp only [Act.put, List.getElem_toArray, List.getElem_cons_succ, List.getElem_cons_zero, List.setIfInBounds_toArray, List.set_cons_zero, List.set_cons_succ]
      (obtain ⟨q1, q2⟩ := hSw; go_simp)
    try simp only [Act.put, List.getElem_toArray, List.getElem_cons_succ, List.getElem_cons_zero, List.setIfInBounds_toArray, List.set_cons_zero, List.set_cons_succ]
    refine wpAnyH_take (i := 3) (v := (.pointer (some ⟨w.heap.size, 2, none⟩))) rfl (by kernel_rfl) (by kernel_rfl) (by kernel_rfl) (fun _ _ _ h => h) (Or.inl ⟨by rfl, ?_⟩) hHeld ?_
    · intro w' hSw
      try simp only [Act.put, List.getElem_toArray, List.getElem_cons_succ, List.getElem_cons_zero, List.setIfInBounds_toArray, List.set_cons_zero, List.set_cons_succ]
      (obtain ⟨q1, q2⟩ := hSw; go_simp)
    try simp only [Act.put, List.getElem_toArray, List.getElem_cons_succ, List.getElem_cons_zero, List.setIfInBounds_toArray, List.set_cons_zero, List.set_cons_succ]
    refine wpAnyH_take (i := 4) (v := (.int .u64 v)) rfl (by kernel_rfl) (by kernel_rfl) (by kernel_rfl) (fun _ _ _ h => h) (Or.inl ⟨by rfl, ?_⟩) hHeld ?_
    · intro w' hSw
      try simp only [Act.put, List.getElem_toArray, List.getElem_cons_succ, List.getElem_cons_zero, List.setIfInBounds_toArray, List.set_cons_zero, List.set_cons_succ]
      (obtain ⟨q1, q2⟩ := hSw; go_simp)
    try simp only [Act.put, List.getElem_toArray, List.getElem_cons_succ, List.getElem_cons_zero, List.setIfInBounds_toArray, List.set_cons_zero, List.set_cons_succ]
    refine wpAnyH_take (i := 6) (v := ptr rb) rfl (by kernel_rfl) (by kernel_rfl) (by kernel_rfl) (fun _ _ _ h => h) (Or.inl ⟨by rfl, ?_⟩) hHeld ?_
    · intro w' hSw
      try simp only [Act.put, List.getElem_toArray, List.getElem_cons_succ, List.getElem_cons_zero, List.setIfInBounds_toArray, List.set_cons_zero, List.set_cons_succ]
      (obtain ⟨q1, q2⟩ := hSw; go_simp)
    try simp only [Act.put, List.getElem_toArray, List.getElem_cons_succ, List.getElem_cons_zero, List.setIfInBounds_toArray, List.set_cons_zero, List.set_cons_succ]
    refine wpAnyH_take (i := 7) (v := (.pointer (some ⟨w.heap.size, 1, none⟩))) rfl (by kernel_rfl) (by kernel_rfl) (by kernel_rfl) (fun _ _ _ h => h) (Or.inl ⟨by rfl, ?_⟩) hHeld ?_
    · intro w' hSw
      try simp only [Act.put, List.getElem_toArray, List.getElem_cons_succ, List.getElem_cons_zero, List.setIfInBounds_toArray, List.set_cons_zero, List.set_cons_succ]
      (obtain ⟨q1, q2⟩ := hSw; go_simp)
    try simp only [Act.put, List.getElem_toArray, List.getElem_cons_succ, List.getElem_cons_zero, List.setIfInBounds_toArray, List.set_cons_zero, List.set_cons_succ]
    refine wpAnyH_take (i := 8) (v := (.int .i64 t)) rfl (by kernel_rfl) (by kernel_rfl) (by kernel_rfl) (fun _ _ _ h => h) (Or.inl ⟨by rfl, ?_⟩) hHeld ?_
    · intro w' hSw
      try simp only [Act.put, List.getElem_toArray, List.getElem_cons_succ, List.getElem_cons_zero, List.setIfInBounds_toArray, List.set_cons_zero, List.set_cons_succ]
      (obtain ⟨q1, q2⟩ := hSw; go_simp)
    try simp only [Act.put, List.getElem_toArray, List.getElem_cons_succ, List.getElem_cons_zero, List.setIfInBounds_toArray, List.set_cons_zero, List.set_cons_succ]
    refine wpAnyH_take (i := 9) (v := (.pointer (some ⟨w.heap.size, 2, none⟩))) rfl (by kernel_rfl) (by kernel_rfl) (by kernel_rfl) (fun _ _ _ h => h) (Or.inl ⟨by rfl, ?_⟩) hHeld ?_
    · intro w' hSw
      try simp only [Act.put, List.getElem_toArray, List.getElem_cons_succ, List.getElem_cons_zero, List.setIfInBounds_toArray, List.set_cons_zero, List.set_cons_succ]
      (obtain ⟨q1, q2⟩ := hSw; go_simp)
    try simp only [Act.put, List.getElem_toArray, List.getElem_cons_succ, List.getElem_cons_zero, List.setIfInBounds_toArray, List.set_cons_zero, List.set_cons_succ]
    refine wpAnyH_take (i := 10) (v := (.int .u64 v)) rfl (by kernel_rfl) (by kernel_rfl) (by kernel_rfl) (fun _ _ _ h => h) (Or.inl ⟨by rfl, ?_⟩) hHeld ?_
    · intro w' hSw
      try simp only [Act.put, List.getElem_toArray, List.getElem_cons_succ, List.getElem_cons_zero, List.setIfInBounds_toArray, List.set_cons_zero, List.set_cons_succ]
      (obtain ⟨q1, q2⟩ := hSw; go_simp)
    try simp only [Act.put, List.getElem_toArray, List.getElem_cons_succ, List.getElem_cons_zero, List.setIfInBounds_toArray, List.set_cons_zero, List.set_cons_succ]
    clear hHeld
    refine wpAnyH_ready (rs := [5]) (by kernel_rfl) (by simp) (AllReadyH.cons rfl (fun K hK => ?_) AllReadyH.nil)
    rw [if_pos (by rfl)]
    go_simp
    refine ho1.mono ?_
    intro e w1 hp1
    have he : e = .returned (.int .i64 res.1) := by obtain ⟨_, h, _⟩ := hp1; exact h
    subst he
    have t1 : Touch (w.alloc (.cells #[.int .i64 0, .int .i64 t, .int .u64 v] 52)) w1 (pfoot b ch) := by obtain ⟨_, _, _, h, _⟩ := hp1; exact ((Touch.refl _ (pfoot b ch)).drew).trans h (fun x hx => .inl hx)
    clear ho1
    go_simp
    refine hK.out _ _ (hkp _ _ t1 hnP) (fun hHeld => ?_)
    clear hK
    try simp only [Act.put, List.getElem_toArray, List.getElem_cons_succ, List.getElem_cons_zero, List.setIfInBounds_toArray, List.set_cons_zero, List.set_cons_succ]
    have hr1 : RLog B w1 rb vr Fs.reverse := by obtain ⟨_, _, _, h, _⟩ := hp1; exact hP0.r.keep h (fun x hx hp => HS.out.ne x hp hx)
    have ho3 := ho2 w1 hr1
    clear hHeld
    refine wpAnyH_ready (rs := [11]) (by kernel_rfl) (by simp) (AllReadyH.cons rfl (fun K hK => ?_) AllReadyH.nil)
    rw [if_pos (by rfl)]
    go_simp
    refine ho3.mono ?_
    intro e w2 hp2
    have he : e = .returned (.int .i64 res.1) := by obtain ⟨_, h, _⟩ := hp2; exact h
    subst he
    have t2 : Touch (w.alloc (.cells #[.int .i64 0, .int .i64 t, .int .u64 v] 52)) w2 (pfoot b ch ++ rfoot rb vr) := by obtain ⟨_, _, _, h, _⟩ := hp2; exact (t1.mono (fun x hx => List.mem_append_left _ hx)).trans (h.mono (R := pfoot b ch ++ rfoot rb vr) (fun x hx => List.mem_append_right _ hx)) (fun x hx => .inl hx)
    clear ho3 ho2
    go_simp
    refine hK.out _ _ (hkp _ _ t2 (by rw [List.mem_append]; exact fun h => h.elim hnP hnR)) (fun hHeld => ?_)
    clear hK
    try simp only [Act.put, List.getElem_toArray, List.getElem_cons_succ, List.getElem_cons_zero, List.setIfInBounds_toArray, List.set_cons_zero, List.set_cons_succ]
    refine wpAnyH_take (i := 12) (v := (.bool true)) rfl (by kernel_rfl) (by kernel_rfl) (by kernel_rfl) (fun _ _ _ h => h) (Or.inl ⟨by rfl, ?_⟩) hHeld ?_
    · intro w' hSw
      try simp only [Act.put, List.getElem_toArray, List.getElem_cons_succ, List.getElem_cons_zero, List.setIfInBounds_toArray, List.set_cons_zero, List.set_cons_succ]
      (go_simp)
    try simp only [Act.put, List.getElem_toArray, List.getElem_cons_succ, List.getElem_cons_zero, List.setIfInBounds_toArray, List.set_cons_zero, List.set_cons_succ]
    refine wpAnyH_take (i := 13) (v := (.bool true)) rfl (by kernel_rfl) (by kernel_rfl) (by kernel_rfl) (fun _ _ _ h => h) (Or.inl ⟨by rfl, ?_⟩) hHeld ?_
    · intro w' hSw
      try simp only [Act.put, List.getElem_toArray, List.getElem_cons_succ, List.getElem_cons_zero, List.setIfInBounds_toArray, List.set_cons_zero, List.set_cons_succ]
      (go_simp)
    try simp only [Act.put, List.getElem_toArray, List.getElem_cons_succ, List.getElem_cons_zero, List.setIfInBounds_toArray, List.set_cons_zero, List.set_cons_succ]
    clear hHeld
    refine wpAnyH_done (by kernel_rfl) ?_ _
    obtain ⟨ch', vr', hW, hT, _, hX⟩ := hP0.both hp1 (fun _ => hp2)
    have HW : Hid _ := hW
    have HTT : Hid _ := hT
    have HX : Hid _ := hX
    clear hW hT hX hp1 hp2 hP0 t1 t2 hr1 hkp
    go_wp2
    go_ret
    exact ⟨by simp, ch', vr', HW.out, (HT0.out.drew.mono (by simp)).trans HTT.out (fun x hx => .inl hx), fun x hx => (HX.out x hx).imp id (fun h => Nat.le_trans (HT0.out.drew).size h)⟩
  by_cases k1 : k = 1
  · clear k0
    subst k1
    have hP0 := HS.out.touch HT0.out
    have ho1 := push_any hP0.p
    have ho2 := fun (W : World) (hr : RLog B W rb vr Fs.reverse) => rpush_any hr
    have hst : stepS Fs ⟨1, t, v⟩ = (pushS Fs).2 := by simp [stepS]
    rw [hst]
    generalize pushS Fs = res at *
    clear hst
    go_enter Try.func22, Try.ntmps22
    go_wp2_with fail
    refine ho1.mono ?_
    intro e w1 hp1
    have he : e = .returned (.int .i64 res.1) := by obtain ⟨_, h, _⟩ := hp1; exact h
    subst he
    have hr1 : RLog B w1 rb vr Fs.reverse := by obtain ⟨_, _, _, h, _⟩ := hp1; exact hP0.r.keep h (fun x hx hp => HS.out.ne x hp hx)
    have ho3 := ho2 w1 hr1
    clear ho1 ho2
    go_wp2_with fail
    refine ho3.mono ?_
    intro e w2 hp2
    have he : e = .returned (.int .i64 res.1) := by obtain ⟨_, h, _⟩ := hp2; exact h
    subst he
    clear ho3
    obtain ⟨ch', vr', hW, hT, _, hX⟩ := hP0.both hp1 (fun _ => hp2)
    have HW : Hid _ := hW
    have HTT : Hid _ := hT
    have HX : Hid _ := hX
    clear hW hT hX hp1 hp2 hP0 hr1
    go_wp2
    go_ret
    exact ⟨by simp, ch', vr', HW.out, (HT0.out.mono (by simp)).trans HTT.out (fun x hx => .inl hx), fun x hx => (HX.out x hx).imp id (fun h => Nat.le_trans (HT0.out).size h)⟩
  by_cases k2 : k = 2
  · clear k0 k1
    subst k2
    have hP0 := HS.out.touch HT0.out
    have ho1 := drop_any hP0.p
    have ho2 := fun (W : World) (hr : RLog B W rb vr Fs.reverse) => rdrop_any hr
    have hst : stepS Fs ⟨2, t, v⟩ = (dropS Fs).2 := by simp [stepS]
    rw [hst]
    generalize dropS Fs = res at *
    clear hst
    go_enter Try.func22, Try.ntmps22
    go_wp2_with fail
    refine ho1.mono ?_
    intro e w1 hp1
    have he : e = .returned (.int .i64 res.1) := by obtain ⟨_, h, _⟩ := hp1; exact h
    subst he
    have hr1 : RLog B w1 rb vr Fs.reverse := by obtain ⟨_, _, _, h, _⟩ := hp1; exact hP0.r.keep h (fun x hx hp => HS.out.ne x hp hx)
    have ho3 := ho2 w1 hr1
    clear ho1 ho2
    go_wp2_with fail
    refine ho3.mono ?_
    intro e w2 hp2
    have he : e = .returned (.int .i64 res.1) := by obtain ⟨_, h, _⟩ := hp2; exact h
    subst he
    clear ho3
    obtain ⟨ch', vr', hW, hT, _, hX⟩ := hP0.both hp1 (fun _ => hp2)
    have HW : Hid _ := hW
    have HTT : Hid _ := hT
    have HX : Hid _ := hX
    clear hW hT hX hp1 hp2 hP0 hr1
    go_wp2
    go_ret
    exact ⟨by simp, ch', vr', HW.out, (HT0.out.mono (by simp)).trans HTT.out (fun x hx => .inl hx), fun x hx => (HX.out x hx).imp id (fun h => Nat.le_trans (HT0.out).size h)⟩
  by_cases k3 : k = 3
  · clear k0 k1 k2
    subst k3
    have hP0 := HS.out.touch HT0.out
    have ho1 := merge_any hP0.p
    have ho2 := fun (W : World) (hr : RLog B W rb vr Fs.reverse) => rmerge_any hr
    have hst : stepS Fs ⟨3, t, v⟩ = (mergeS Fs).2 := by simp [stepS]
    rw [hst]
    generalize mergeS Fs = res at *
    clear hst
    go_enter Try.func22, Try.ntmps22
    go_wp2_with fail
    refine ho1.mono ?_
    intro e w1 hp1
    have he : e = .returned (.int .i64 res.1) := by obtain ⟨_, h, _⟩ := hp1; exact h
    subst he
    have hr1 : RLog B w1 rb vr Fs.reverse := by obtain ⟨_, _, _, h, _⟩ := hp1; exact hP0.r.keep h (fun x hx hp => HS.out.ne x hp hx)
    have ho3 := ho2 w1 hr1
    clear ho1 ho2
    go_wp2_with fail
    refine ho3.mono ?_
    intro e w2 hp2
    have he : e = .returned (.int .i64 res.1) := by obtain ⟨_, h, _⟩ := hp2; exact h
    subst he
    clear ho3
    obtain ⟨ch', vr', hW, hT, _, hX⟩ := hP0.both hp1 (fun _ => hp2)
    have HW : Hid _ := hW
    have HTT : Hid _ := hT
    have HX : Hid _ := hX
    clear hW hT hX hp1 hp2 hP0 hr1
    go_wp2
    go_ret
    exact ⟨by simp, ch', vr', HW.out, (HT0.out.mono (by simp)).trans HTT.out (fun x hx => .inl hx), fun x hx => (HX.out x hx).imp id (fun h => Nat.le_trans (HT0.out).size h)⟩
  have hst : stepS Fs ⟨k, t, v⟩ = Fs := by simp [stepS, k0, k1, k2, k3]
  rw [hst]
  have g0 : (k == 0) = false := by simpa using k0
  have g1 : (k == 1) = false := by simpa using k1
  have g2 : (k == 2) = false := by simpa using k2
  have g3 : (k == 3) = false := by simpa using k3
  clear hst k0 k1 k2 k3
  go_enter Try.func22, Try.ntmps22
  go_wp2
  go_ret
  exact ⟨by simp, ch, vr, HS.out.touch HT0.out, HT0.out.mono (by simp), fun x hx => .inl hx⟩

theorem DeedRow.three {w : World} {ao : Option Addr} {cap : Nat} {l : List DeedD} (h : DeedRow w (.slice ao l.length cap) l) (k : Nat) (hk : k < l.length) :
    ∃ g off, ao = some ⟨g, off, none⟩ ∧ g < w.heap.size ∧ w.cell? ⟨g, off + k * 3, none⟩ = some (.int .i64 l[k].kind) ∧ w.cell? ⟨g, off + k * 3 + 1, none⟩ = some (.int .i64 l[k].tvar) ∧ w.cell? ⟨g, off + k * 3 + 2, none⟩ = some (.int .u64 l[k].v) := by
  obtain ⟨g, off, e, hlt, hc⟩ := h.at k hk
  exact ⟨g, off, e, hlt, hc 0 (by omega), hc 1 (by omega), hc 2 (by omega)⟩

/-- What play leaves. -/
def WPlayed (w : World) (l : List DeedD) (e : Ending) (w' : World) : Prop :=
  ∃ b ch rb vr, e = .returned (.tuple #[ptr b, ptr rb, .bool true]) ∧ WPair w.heap.size w' b ch rb vr (runF [f0] (l.take 60)) ∧ Touch w w' []

set_option maxRecDepth 100000 in
set_option maxHeartbeats 1600000 in
theorem play_any (ao : Option Addr) (cap : Nat) (l : List DeedD) (w : World) (hr : DeedRow w (.slice ao l.length cap) l) (hl : l.length ≤ maxLen) (hwf : ∀ e ∈ l, e.Wf) :
    Calls Try.prog 6 #[.slice ao l.length cap] w (WPlayed w l) := by
  unfold maxLen at hl
  obtain ⟨N, hN⟩ : ∃ N, N = l.length := ⟨_, rfl⟩
  rw [← hN] at hl
  have HN : Hid (N = l.length) := hN
  go_enter Try.func6, Try.ntmps6
  rw [← hN]
  clear hN
  go_wp2_with fail
  refine (new_any w).mono ?_
  rintro e w1 ⟨b, ch0, rfl, p1, t1⟩
  go_wp2_with fail
  refine (rnew_any w1).mono ?_
  rintro e w2 ⟨rb, vr0, rfl, r2, t2⟩
  have hb0 : WPair w.heap.size w2 b ch0 rb vr0 [f0] := by
    refine ⟨p1.touch t2, ⟨Nat.le_trans t1.size r2.hb, r2.st, ownsRow_base r2.own t1.size, r2.ok, r2.pos, r2.le⟩, fun k hk hk' => ?_⟩
    have h1 := (p1.foot_lt k hk).2
    have h2 := (r2.foot_lt k hk').1
    omega
  have t02 : Touch w w2 [] := t1.trans t2 (by simp)
  clear p1 r2 t1 t2
  go_wp2_with fail
  go_loopw [7] (fun i wr => ∃ (k : Nat) (ch : List (Nat × Nat)) (vr : Value), i = .int .i64 k ∧ k ≤ N ∧ k ≤ 60 ∧ WPair w.heap.size wr b ch rb vr (runF [f0] (l.take k)) ∧ Touch w wr []) (fun i _ => 60 - (intOf i).toNat)
  case atStart => exact ⟨0, _, _, rfl, Nat.zero_le _, by omega, hb0, t02⟩
  case round =>
    obtain ⟨k, ch, vr, rfl, hk, hk60, hb, t⟩ := hrel
    by_cases hlt : k < N ∧ k < 60
    · obtain ⟨hlt, hlt6⟩ := hlt
      have hlt' : (k : Int) < N := by omega
      have hlt6' : (k : Int) < 60 := by omega
      have hkl : k < l.length := by rw [← HN.out]; exact hlt
      obtain ⟨g, off, rfl, hg, M0, M1, M2⟩ := DeedRow.three hr k hkl
      have m0 := (t.cell (p := ⟨g, off + k * 3, none⟩) hg (by simp)).trans M0
      have m1 := (t.cell (p := ⟨g, off + k * 3 + 1, none⟩) hg (by simp)).trans M1
      have m2 := (t.cell (p := ⟨g, off + k * 3 + 2, none⟩) hg (by simp)).trans M2
      have hn := runF_snoc hkl [f0]
      have hew := hwf l[k] (List.getElem_mem hkl)
      obtain ⟨o, ho⟩ : ∃ o, o = l[k] := ⟨_, rfl⟩
      rw [← ho] at m0 m1 m2 hn hew
      have hdo := do_any hb o hew
      rw [← hn] at hdo
      obtain ⟨a0, a1, a2⟩ := o
      simp only at m0 m1 m2 hdo
      have HT : Hid _ := t
      have HP : Hid _ := hb
      clear ho hn hb t hr M0 M1 M2
      go_wp2_with fail
      refine hdo.mono ?_
      rintro e w3 ⟨rfl, ch', vr', hW, hT, hX⟩
      have hfB : ∀ x ∈ pfoot b ch ++ rfoot rb vr, w.heap.size ≤ x := fun x hx => by
        rw [List.mem_append] at hx
        exact hx.elim (fun h => (HP.out.p.foot_lt x h).1) (fun h => (HP.out.r.foot_lt x h).1)
      have HW : Hid _ := hW
      have HT3 : Hid _ := HT.out.trans hT (fun x hx => .inr (hfB x hx))
      clear hdo hW hT hX m0 m1 m2
      go_wp2
      go_roundw
      case rel => exact ⟨k + 1, ch', vr', by go_num, by omega, by omega, HW.out, HT3.out⟩
      case measure => simp [intOf]; omega
    · have he : l.take k = l.take 60 := by
        have := HN.out
        by_cases h6 : k = 60
        · rw [h6]
        · rw [List.take_of_length_le (by omega), List.take_of_length_le (by omega)]
      have HB : Hid (WPair w.heap.size wr b ch rb vr (runF [f0] (l.take 60))) := by rw [← he]; exact hb
      have HT : Hid _ := t
      clear he hb hr t
      by_cases hlt1 : (k : Int) < N
      · have hlt2 : ¬ (k : Int) < 60 := by omega
        clear hlt
        go_wp2
        go_ret3
        exact ⟨b, ch, rb, vr, rfl, HB.out, HT.out⟩
      · clear hlt
        go_wp2
        go_ret3
        exact ⟨b, ch, rb, vr, rfl, HB.out, HT.out⟩

end Go.Proofs.Ytijnepbmkkdpnaa

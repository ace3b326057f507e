/-
  package norec: Begin BY ITS CONTRACT.
-/
import Derived.Test.YtinhdpiecifmhaaNrAsk
namespace Go.Proofs.Ytinhdpiecifmhaa.Nr
set_option linter.unusedVariables false
set_option linter.unusedSimpArgs false
open Go.RowKit Go.Maps

def newA (k n : Nat) : Att := ⟨0, 0, ⟨0, 0, 0⟩, 0, 0, 0, k, n, [], [f0]⟩

def beginE (E : Eng) (th : Int) : (Int × Int) × Eng :=
  if ¬ (0 ≤ th ∧ th < 4) then ((0, 2), E)
  else match E.th th.toNat with
    | some _ => ((0, 8), E)
    | none => if 64 ≤ E.pg.length then ((0, 4), E) else if ¬ (Sq.snapS E.lk).2 = 0 then ((0, (Sq.snapS E.lk).2), E) else ((E.pg.length, 0), (enterE E (Sq.snapS E.lk).1).put th.toNat (some (newA th.toNat E.pg.length)))

def BPost (w : World) (X : ELoc) (r : (Int × Int) × Eng) (x : Ending) (w' : World) : Prop := ∃ X', x = .returned (.tuple #[.int .i64 r.1.1, .int .i64 r.1.2]) ∧ EObj w' X' r.2 ∧ Next w X w' X'

/-- A new attempt is laid, and a thread has it. -/
theorem EObj.enterTh {w W W3 W4 : World} {X X' : ELoc} {E : Eng} {k : Nat} (hk : k < 4) {rb rm ob : Nat} {ch : List (Nat × Nat)} (n : Nat) (h : EObj W X' E) (nx : Next w X W X') (hr : Rd.RdSet W.heap.size W3 rb rm (.slice none 0 0) []) (t3 : Touch W W3 []) (hp : PLog W3.heap.size W4 ob ch [f0]) (t4 : Touch W3 W4 []) :
    ∀ V, V = W4.alloc (.cells #[.int .u64 0, .int .i64 0, .int .u8 0, .int .i64 0, .int .u64 0, .int .i64 0, .int .i64 0, .int .u64 0, .int .i64 k, .int .i64 n, ptr rb, ptr ob] 74) → ∃ v, V.cell? ⟨X'.e, 4 + k, none⟩ = some v ∧ V.frozen? ⟨X'.e, 4 + k, none⟩ = false ∧
      ∃ X2, EObj (V.setCell ⟨X'.e, 4 + k, none⟩ (ptr W4.heap.size)) X2 (E.put k (some (newA k n))) ∧ Next w X (V.setCell ⟨X'.e, 4 + k, none⟩ (ptr W4.heap.size)) X2 := by
  rintro V rfl
  have tA : Touch W4 (W4.alloc (.cells #[.int .u64 0, .int .i64 0, .int .u8 0, .int .i64 0, .int .u64 0, .int .i64 0, .int .i64 0, .int .u64 0, .int .i64 k, .int .i64 n, ptr rb, ptr ob] 74)) [] := (Touch.refl W4 []).alloc _
  have t : Touch W (W4.alloc (.cells #[.int .u64 0, .int .i64 0, .int .u8 0, .int .i64 0, .int .u64 0, .int .i64 0, .int .i64 0, .int .u64 0, .int .i64 k, .int .i64 n, ptr rb, ptr ob] 74)) [] := (t3.trans t4 (by simp)).trans tA (by simp)
  have hV := h.fresh t
  have hr' : Rd.RdSet 0 (W4.alloc (.cells #[.int .u64 0, .int .i64 0, .int .u8 0, .int .i64 0, .int .u64 0, .int .i64 0, .int .i64 0, .int .u64 0, .int .i64 k, .int .i64 n, ptr rb, ptr ob] 74)) rb rm (.slice none 0 0) [] := by
    have h0 : Rd.RdSet 0 W3 rb rm (.slice none 0 0) [] := ⟨Nat.zero_le _, Nat.zero_le _, hr.st, ⟨hr.own.1, .inl ⟨rfl, rfl⟩⟩, hr.map, hr.sl⟩
    exact h0.keep (t4.trans tA (by simp)) (by simp)
  have hp' : PLog 0 (W4.alloc (.cells #[.int .u64 0, .int .i64 0, .int .u8 0, .int .i64 0, .int .u64 0, .int .i64 0, .int .i64 0, .int .u64 0, .int .i64 k, .int .i64 n, ptr rb, ptr ob] 74)) ob ch [f0] := { hp.touch tA with hb := Nat.zero_le _, hn := fun p hp => ⟨Nat.zero_le _, Nat.zero_le _⟩ }
  have hrl := hr.foot_lt
  have hpl := hp.foot_lt
  have s3 := t3.size
  have s4 := t4.size
  have hA : AObj (W4.alloc (.cells #[.int .u64 0, .int .i64 0, .int .u8 0, .int .i64 0, .int .u64 0, .int .i64 0, .int .i64 0, .int .u64 0, .int .i64 k, .int .i64 n, ptr rb, ptr ob] 74)) ⟨W4.heap.size, rb, rm, .slice none 0 0, ob, ch⟩ (newA k n) :=
    ⟨heap_alloc_new W4 _, hr', hp', fun hx => by have := (hrl _ hx).2; simp only at this; omega, fun hx => by have := (hpl _ hx).2; simp only at this; omega, fun x hx hx' => by have := (hrl _ hx).2; have := (hpl _ hx').1; omega⟩
  have hge : ∀ x ∈ lfoot (some ⟨W4.heap.size, rb, rm, .slice none 0 0, ob, ch⟩), W.heap.size ≤ x := fun x hx => by
    simp only [lfoot, Loc.foot, List.mem_cons, List.mem_append] at hx
    rcases hx with rfl | hx | hx
    · omega
    · exact (hrl x hx).1
    · have := (hpl x hx).1; omega
  obtain ⟨r1, r2⟩ := hV.setTh (w0 := W) hk (o := some ⟨W4.heap.size, rb, rm, .slice none 0 0, ob, ch⟩) (A := some (newA k n)) hA (fun x hx c hc => by have := h.lt c x hc; have := hge x hx; omega) (Next.same t (by simp)) hge
  exact ⟨_, hV.thCell hk, hV.cells.2.2.2.2 _, _, r1, nx.trans r2⟩

theorem begin_no (X : ELoc) (E : Eng) (th : Int) (hth : ¬ (0 ≤ th ∧ th < 4)) (w : World) (h : EObj w X E) :
    Calls Try.prog 8 #[ptr X.e, .int .i64 th] w (BPost w X ((0, 2), E)) := by
  have TH := HidC.mk (thread_no X th hth w)
  have HF : Hid (BPost w X ((0, 2), E) (.returned (.tuple #[.int .i64 0, .int .i64 2])) w) := ⟨X, rfl, h, Next.same (Touch.refl w []) (by simp)⟩
  clear h
  go_enter Try.func8, Try.ntmps8
  go_wp2_with fail
  refine TH.out.mono ?_
  rintro x w3 ⟨rfl, rfl⟩
  clear TH
  go_wp2
  go_ret2
  exact HF.out

theorem begin_some (X : ELoc) (E : Eng) (k : Nat) (hk : k < 4) (l : Loc) (A : Att) (w : World) (h : At w X E k l A) :
    Calls Try.prog 8 #[ptr X.e, .int .i64 k] w (BPost w X ((0, 8), E)) := by
  have TH := HidC.mk (thread_any X E k hk w h.h)
  rw [h.hl] at TH
  simp only [tptr] at TH
  have HF : Hid (BPost w X ((0, 8), E) (.returned (.tuple #[.int .i64 0, .int .i64 8])) w) := ⟨X, rfl, h.h, Next.same (Touch.refl w []) (by simp)⟩
  clear h
  go_enter Try.func8, Try.ntmps8
  go_wp2_with fail
  refine TH.out.mono ?_
  rintro x w3 ⟨rfl, rfl⟩
  clear TH
  go_wp2
  go_ret2
  exact HF.out

theorem begin_full (X : ELoc) (E : Eng) (k : Nat) (hk : k < 4) (hn : E.th k = none) (hp : 64 ≤ E.pg.length) (w : World) (h : EObj w X E) :
    Calls Try.prog 8 #[ptr X.e, .int .i64 k] w (BPost w X ((0, 4), E)) := by
  have TH := HidC.mk (thread_any X E k hk w h)
  rw [h.noatt hn] at TH
  simp only [tptr] at TH
  have BG := HidC.mk (began_any X E w h)
  have HF : Hid (BPost w X ((0, 4), E) (.returned (.tuple #[.int .i64 0, .int .i64 4])) w) := ⟨X, rfl, h, Next.same (Touch.refl w []) (by simp)⟩
  have hp' : (64 : Int) ≤ (E.pg.length : Int) := by omega
  clear h
  go_enter Try.func8, Try.ntmps8
  go_wp2_with fail
  refine TH.out.mono ?_
  rintro x w3 ⟨rfl, rfl⟩
  clear TH
  go_wp2_with fail
  refine BG.out.mono ?_
  rintro x w3 ⟨rfl, rfl⟩
  clear BG
  go_wp2
  go_ret2
  exact HF.out

theorem begin_held (X : ELoc) (E : Eng) (k : Nat) (hk : k < 4) (hn : E.th k = none) (hp : E.pg.length < 64) (hc : 0 ≤ E.lk.c) (hs : ¬ (Sq.snapS E.lk).2 = 0) (w : World) (h : EObj w X E) :
    Calls Try.prog 8 #[ptr X.e, .int .i64 k] w (BPost w X ((0, (Sq.snapS E.lk).2), E)) := by
  have TH := HidC.mk (thread_any X E k hk w h)
  rw [h.noatt hn] at TH
  simp only [tptr] at TH
  have BG := HidC.mk (began_any X E w h)
  have SN := HidC.mk (Sq.snap_any X.lk E.lk hc w h.lk)
  have e3 := h.cells.2.2.2.1
  have HF : Hid (∀ w', Sq.LObj w' X.lk E.lk.c E.lk.o → Touch w w' [X.lk] → BPost w X ((0, (Sq.snapS E.lk).2), E) (.returned (.tuple #[.int .i64 0, .int .i64 (Sq.snapS E.lk).2])) w') := fun w' hl t => ⟨X, rfl, (h.setLk (s := E.lk) hl t).1, (h.setLk (s := E.lk) hl t).2⟩
  have hp' : ¬ (64 : Int) ≤ (E.pg.length : Int) := by omega
  have hs' : ((Sq.snapS E.lk).2 == 0) = false := by simpa using hs
  clear h
  generalize Sq.snapS E.lk = q at *
  go_enter Try.func8, Try.ntmps8
  go_wp2_with fail
  refine TH.out.mono ?_
  rintro x w3 ⟨rfl, rfl⟩
  clear TH
  go_wp2_with fail
  refine BG.out.mono ?_
  rintro x w3 ⟨rfl, rfl⟩
  clear BG
  go_wp2_with fail
  refine SN.out.mono ?_
  rintro x w3 ⟨rfl, l3, t3⟩
  clear SN
  have HB := HF.out w3 l3 t3
  clear HF l3 t3
  go_wp2
  go_ret2
  exact HB

set_option maxRecDepth 100000 in
set_option maxHeartbeats 3200000 in
theorem begin_go (X : ELoc) (E : Eng) (k : Nat) (hk : k < 4) (hn : E.th k = none) (hp : E.pg.length < 64) (hev : E.ev.length < 100000) (hc : 0 ≤ E.lk.c) (hs : (Sq.snapS E.lk).2 = 0) (w : World) (h : EObj w X E) :
    Calls Try.prog 8 #[ptr X.e, .int .i64 k] w (BPost w X ((E.pg.length, 0), (enterE E (Sq.snapS E.lk).1).put k (some (newA k E.pg.length)))) := by
  have TH := HidC.mk (thread_any X E k hk w h)
  rw [h.noatt hn] at TH
  simp only [tptr] at TH
  have BG := HidC.mk (began_any X E w h)
  have SN := HidC.mk (Sq.snap_any X.lk E.lk hc w h.lk)
  rw [hs] at SN
  have e3 := h.cells.2.2.2.1
  have HF : Hid (∀ w', Sq.LObj w' X.lk E.lk.c E.lk.o → Touch w w' [X.lk] → EObj w' X E ∧ Next w X w' X) := fun w' hl t => h.setLk (s := E.lk) hl t
  have hp' : ¬ (64 : Int) ≤ (E.pg.length : Int) := by omega
  have HEN : Hid (∀ W, EObj W X E → HidC Try.prog 21 #[ptr X.e, .int .u64 (Sq.snapS E.lk).1] W (LPost W X (enterE E (Sq.snapS E.lk).1) (.int .i64 E.pg.length))) := fun W hW => HidC.mk (enter_any X E _ (by omega) hev W hW)
  clear h
  generalize Sq.snapS E.lk = q at *
  generalize enterE E q.1 = E1 at *
  go_enter Try.func8, Try.ntmps8
  go_wp2_with fail
  refine TH.out.mono ?_
  rintro x w3 ⟨rfl, rfl⟩
  clear TH
  go_wp2_with fail
  refine BG.out.mono ?_
  rintro x w3 ⟨rfl, rfl⟩
  clear BG
  go_wp2_with fail
  refine SN.out.mono ?_
  rintro x w3 ⟨rfl, l3, t3⟩
  clear SN
  obtain ⟨o3, n3⟩ := HF.out w3 l3 t3
  have EN := HEN.out w3 o3
  clear HF l3 t3 HEN o3 e3
  go_wp2_with fail
  refine EN.out.mono ?_
  rintro x w5 ⟨X', rfl, o5, n5, ea, _, _⟩
  have hX' : X'.e = X.e := n5.e
  have HO : Hid (EObj w5.drew X' E1) := o5.fresh ((Touch.refl w5 []).drew)
  have HN : Hid (Next w X w5.drew X') := (n3.trans n5).then ((Touch.refl w5 []).drew)
  have hk0 : 0 ≤ (k : Int) := by omega
  have hk1 : (k : Int) < 4 := by omega
  clear EN o5 n5 n3 ea hp hev hc hs hp'
  generalize E.pg.length = n at *
  go_wp2_with fail
  refine wp_region_held_drew (S := (fun _ => True)) (by kernel_rfl) trivial (fun hHeld => ?_)
  refine wpAnyH_take (i := 0) (v := (.pointer (some ⟨X.e, 0, none⟩))) rfl (by kernel_rfl) (by kernel_rfl) (by kernel_rfl) (fun _ _ _ h => h) (Or.inl ⟨by rfl, ?_⟩) hHeld ?_
  · intro w' hSw
    try simp only [Act.put, List.getElem_toArray, List.getElem_cons_succ, List.getElem_cons_zero, List.setIfInBounds_toArray, List.set_cons_zero, List.set_cons_succ]
    go_simp
  try simp only [Act.put, List.getElem_toArray, List.getElem_cons_succ, List.getElem_cons_zero, List.setIfInBounds_toArray, List.set_cons_zero, List.set_cons_succ]
  refine wpAnyH_take (i := 1) (v := (.int .i64 k)) rfl (by kernel_rfl) (by kernel_rfl) (by kernel_rfl) (fun _ _ _ h => h) (Or.inl ⟨by rfl, ?_⟩) hHeld ?_
  · intro w' hSw
    try simp only [Act.put, List.getElem_toArray, List.getElem_cons_succ, List.getElem_cons_zero, List.setIfInBounds_toArray, List.set_cons_zero, List.set_cons_succ]
    go_simp
  try simp only [Act.put, List.getElem_toArray, List.getElem_cons_succ, List.getElem_cons_zero, List.setIfInBounds_toArray, List.set_cons_zero, List.set_cons_succ]
  refine wpAnyH_take (i := 2) (v := (.int .i64 k)) rfl (by kernel_rfl) (by kernel_rfl) (by kernel_rfl) (fun _ _ _ h => h) (Or.inl ⟨by rfl, ?_⟩) hHeld ?_
  · intro w' hSw
    try simp only [Act.put, List.getElem_toArray, List.getElem_cons_succ, List.getElem_cons_zero, List.setIfInBounds_toArray, List.set_cons_zero, List.set_cons_succ]
    go_simp
  try simp only [Act.put, List.getElem_toArray, List.getElem_cons_succ, List.getElem_cons_zero, List.setIfInBounds_toArray, List.set_cons_zero, List.set_cons_succ]
  refine wpAnyH_take (i := 3) (v := (.int .i64 n)) rfl (by kernel_rfl) (by kernel_rfl) (by kernel_rfl) (fun _ _ _ h => h) (Or.inl ⟨by rfl, ?_⟩) hHeld ?_
  · intro w' hSw
    try simp only [Act.put, List.getElem_toArray, List.getElem_cons_succ, List.getElem_cons_zero, List.setIfInBounds_toArray, List.set_cons_zero, List.set_cons_succ]
    go_simp
  try simp only [Act.put, List.getElem_toArray, List.getElem_cons_succ, List.getElem_cons_zero, List.setIfInBounds_toArray, List.set_cons_zero, List.set_cons_succ]
  refine wpAnyH_take (i := 8) (v := (.pointer (some ⟨X.e, 0, none⟩))) rfl (by kernel_rfl) (by kernel_rfl) (by kernel_rfl) (fun _ _ _ h => h) (Or.inl ⟨by rfl, ?_⟩) hHeld ?_
  · intro w' hSw
    try simp only [Act.put, List.getElem_toArray, List.getElem_cons_succ, List.getElem_cons_zero, List.setIfInBounds_toArray, List.set_cons_zero, List.set_cons_succ]
    go_simp
  try simp only [Act.put, List.getElem_toArray, List.getElem_cons_succ, List.getElem_cons_zero, List.setIfInBounds_toArray, List.set_cons_zero, List.set_cons_succ]
  refine wpAnyH_take (i := 9) (v := (.pointer (some ⟨X.e, 4, none⟩))) rfl (by kernel_rfl) (by kernel_rfl) (by kernel_rfl) (fun _ _ _ h => h) (Or.inl ⟨by rfl, ?_⟩) hHeld ?_
  · intro w' hSw
    try simp only [Act.put, List.getElem_toArray, List.getElem_cons_succ, List.getElem_cons_zero, List.setIfInBounds_toArray, List.set_cons_zero, List.set_cons_succ]
    go_simp
  try simp only [Act.put, List.getElem_toArray, List.getElem_cons_succ, List.getElem_cons_zero, List.setIfInBounds_toArray, List.set_cons_zero, List.set_cons_succ]
  clear hHeld
  refine wpAnyH_ready (rs := [4]) (by kernel_rfl) (by simp) (AllReadyH.cons rfl (fun K hK => ?_) AllReadyH.nil)
  rw [if_pos (by rfl)]
  go_wp2_with fail
  refine (Rd.rdnew_any _).mono ?_
  rintro e w6 ⟨rb, rm, rfl, r6, t6⟩
  refine hK.out _ _ trivial (fun hHeld => ?_)
  clear hK
  try simp only [Act.put, List.getElem_toArray, List.getElem_cons_succ, List.getElem_cons_zero, List.setIfInBounds_toArray, List.set_cons_zero, List.set_cons_succ]
  clear hHeld
  refine wpAnyH_ready (rs := [5]) (by kernel_rfl) (by simp) (AllReadyH.cons rfl (fun K hK => ?_) AllReadyH.nil)
  rw [if_pos (by rfl)]
  go_wp2_with fail
  refine (new_any _).mono ?_
  rintro e w7 ⟨ob, ch, rfl, r7, t7⟩
  refine hK.out _ _ trivial (fun hHeld => ?_)
  clear hK
  try simp only [Act.put, List.getElem_toArray, List.getElem_cons_succ, List.getElem_cons_zero, List.setIfInBounds_toArray, List.set_cons_zero, List.set_cons_succ]
  refine wpAnyH_take (i := 6) (v := (.agg #[.int .u64 0, .int .i64 0, .int .u8 0, .int .i64 0, .int .u64 0, .int .i64 0, .int .i64 0, .int .u64 0, .int .i64 k, .int .i64 n, .pointer (some ⟨rb, 0, none⟩), .pointer (some ⟨ob, 0, none⟩)])) rfl (by kernel_rfl) (by kernel_rfl) (by kernel_rfl) (fun _ _ _ h => h) (Or.inl ⟨by rfl, ?_⟩) hHeld ?_
  · intro w' hSw
    try simp only [Act.put, List.getElem_toArray, List.getElem_cons_succ, List.getElem_cons_zero, List.setIfInBounds_toArray, List.set_cons_zero, List.set_cons_succ]
    go_simp
  try simp only [Act.put, List.getElem_toArray, List.getElem_cons_succ, List.getElem_cons_zero, List.setIfInBounds_toArray, List.set_cons_zero, List.set_cons_succ]
  have HE : Hid _ := EObj.enterTh hk n HO.out HN.out r6 t6 r7 t7
  clear r6 t6 r7 t7
  clear hHeld
  refine wpAnyH_ready (rs := [7]) (by kernel_rfl) (by simp) (AllReadyH.cons rfl (fun K hK => ?_) AllReadyH.nil)
  rw [if_pos (by rfl)]
  go_simp
  refine hK.out _ _ trivial (fun hHeld => ?_)
  clear hK
  try simp only [Act.put, List.getElem_toArray, List.getElem_cons_succ, List.getElem_cons_zero, List.setIfInBounds_toArray, List.set_cons_zero, List.set_cons_succ]
  refine wpAnyH_take (i := 10) (v := (.pointer (some ⟨X.e, 4 + k, none⟩))) rfl (by kernel_rfl) (by kernel_rfl) (by kernel_rfl) (fun _ _ _ h => h) (Or.inl ⟨by rfl, ?_⟩) hHeld ?_
  · intro w' hSw
    try simp only [Act.put, List.getElem_toArray, List.getElem_cons_succ, List.getElem_cons_zero, List.setIfInBounds_toArray, List.set_cons_zero, List.set_cons_succ]
    go_simp
  try simp only [Act.put, List.getElem_toArray, List.getElem_cons_succ, List.getElem_cons_zero, List.setIfInBounds_toArray, List.set_cons_zero, List.set_cons_succ]
  rw [hX'] at HE
  obtain ⟨cv, hcv, hfv, X2, o8, n8⟩ := HE.out _ rfl
  clear HE
  clear hHeld
  refine wpAnyH_ready (rs := [11]) (by kernel_rfl) (by simp) (AllReadyH.cons rfl (fun K hK => ?_) AllReadyH.nil)
  rw [if_pos (by rfl)]
  go_simp
  refine hK.out _ _ trivial (fun hHeld => ?_)
  clear hK
  try simp only [Act.put, List.getElem_toArray, List.getElem_cons_succ, List.getElem_cons_zero, List.setIfInBounds_toArray, List.set_cons_zero, List.set_cons_succ]
  clear hHeld
  refine wpAnyH_done (by kernel_rfl) ?_ _
  have HZ : Hid _ := And.intro o8 n8
  clear o8 n8 hcv hfv
  go_wp2
  go_ret2
  exact ⟨X2, rfl, HZ.out.1, HZ.out.2⟩

theorem begin_any {N : Nat} (X : ELoc) (E : Eng) (th : Int) (w : World) (h : EObj w X E) (hE : EWf N E) :
    Calls Try.prog 8 #[ptr X.e, .int .i64 th] w (BPost w X (beginE E th)) := by
  unfold beginE
  by_cases hth : 0 ≤ th ∧ th < 4
  · rw [if_neg (fun e => e hth)]
    obtain ⟨k, hk⟩ : ∃ k : Nat, (k : Int) = th := ⟨th.toNat, by omega⟩
    subst hk
    simp only [Int.toNat_natCast]
    have hk4 : k < 4 := by omega
    cases hA : E.th k with
    | some A =>
      obtain ⟨l, hl, hob⟩ := h.att hA
      exact begin_some X E k hk4 l A w ⟨h, hl, hA⟩
    | none =>
      simp only
      by_cases hp : 64 ≤ E.pg.length
      · rw [if_pos hp]; exact begin_full X E k hk4 hA hp w h
      · rw [if_neg hp]
        by_cases hs : (Sq.snapS E.lk).2 = 0
        · rw [if_neg (fun e => e hs)]; exact begin_go X E k hk4 hA (by omega) (by have := hE.ev; have := hE.nb; omega) hE.lk0 hs w h
        · rw [if_pos hs]; exact begin_held X E k hk4 hA (by omega) hE.lk0 hs w h
  · rw [if_pos hth]; exact begin_no X E th hth w h

end Go.Proofs.Ytinhdpiecifmhaa.Nr

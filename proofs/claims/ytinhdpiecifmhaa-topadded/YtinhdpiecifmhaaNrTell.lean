/-
  package norec: done, tell, abort, commit, hasRead BY THEIR CONTRACTS.
-/
import Derived.Test.YtinhdpiecifmhaaNrTask
import Derived.BigRegion
namespace Go.Proofs.Ytinhdpiecifmhaa.Nr
set_option linter.unusedVariables false
set_option linter.unusedSimpArgs false
open Go.RowKit Go.Maps

theorem put_put (E : Eng) (k : Nat) (a b : Option Att) : (E.put k a).put k b = E.put k b := by
  simp only [Eng.put, Eng.mk.injEq, true_and]
  funext j
  simp only [setT]
  split <;> rfl
theorem put_th (E : Eng) (k : Nat) (a : Option Att) : (E.put k a).th k = a := by simp [Eng.put, setT_same]

abbrev zeroTask : List Value := [.int .u64 0, .int .i64 0, .int .u8 0, .int .i64 0, .int .u64 0, .int .i64 0, .int .i64 0, .int .u64 0]
theorem Try.size_task : (Try.prog.info? 70).map (·.size) = some 8 := by kernel_rfl

/-- A task, written. -/
theorem task_set {w : World} {a : Nat} {T : TypeId} {x0 x1 x2 x3 x4 x5 x6 x7 x8 x9 x10 x11 : Value} (h : w.heap[a]? = some (.cells #[x0, x1, x2, x3, x4, x5, x6, x7, x8, x9, x10, x11] T (0, 0))) (y0 y1 y2 y3 y4 y5 y6 y7 : Value) :
    (w.setCells a 0 [y0, y1, y2, y3, y4, y5, y6, y7]).heap[a]? = some (.cells #[y0, y1, y2, y3, y4, y5, y6, y7, x8, x9, x10, x11] T (0, 0)) := by
  simp only [World.setCells, Nat.zero_add, Nat.reduceAdd]
  have h0 : (w.setCell ⟨a, 0, none⟩ y0).heap[a]? = some (.cells #[y0, x1, x2, x3, x4, x5, x6, x7, x8, x9, x10, x11] T (0, 0)) := by rw [set_cell h]; rfl
  have h1 : ((w.setCell ⟨a, 0, none⟩ y0).setCell ⟨a, 1, none⟩ y1).heap[a]? = some (.cells #[y0, y1, x2, x3, x4, x5, x6, x7, x8, x9, x10, x11] T (0, 0)) := by rw [set_cell h0]; rfl
  have h2 : (((w.setCell ⟨a, 0, none⟩ y0).setCell ⟨a, 1, none⟩ y1).setCell ⟨a, 2, none⟩ y2).heap[a]? = some (.cells #[y0, y1, y2, x3, x4, x5, x6, x7, x8, x9, x10, x11] T (0, 0)) := by rw [set_cell h1]; rfl
  have h3 : ((((w.setCell ⟨a, 0, none⟩ y0).setCell ⟨a, 1, none⟩ y1).setCell ⟨a, 2, none⟩ y2).setCell ⟨a, 3, none⟩ y3).heap[a]? = some (.cells #[y0, y1, y2, y3, x4, x5, x6, x7, x8, x9, x10, x11] T (0, 0)) := by rw [set_cell h2]; rfl
  have h4 : (((((w.setCell ⟨a, 0, none⟩ y0).setCell ⟨a, 1, none⟩ y1).setCell ⟨a, 2, none⟩ y2).setCell ⟨a, 3, none⟩ y3).setCell ⟨a, 4, none⟩ y4).heap[a]? = some (.cells #[y0, y1, y2, y3, y4, x5, x6, x7, x8, x9, x10, x11] T (0, 0)) := by rw [set_cell h3]; rfl
  have h5 : ((((((w.setCell ⟨a, 0, none⟩ y0).setCell ⟨a, 1, none⟩ y1).setCell ⟨a, 2, none⟩ y2).setCell ⟨a, 3, none⟩ y3).setCell ⟨a, 4, none⟩ y4).setCell ⟨a, 5, none⟩ y5).heap[a]? = some (.cells #[y0, y1, y2, y3, y4, y5, x6, x7, x8, x9, x10, x11] T (0, 0)) := by rw [set_cell h4]; rfl
  have h6 : (((((((w.setCell ⟨a, 0, none⟩ y0).setCell ⟨a, 1, none⟩ y1).setCell ⟨a, 2, none⟩ y2).setCell ⟨a, 3, none⟩ y3).setCell ⟨a, 4, none⟩ y4).setCell ⟨a, 5, none⟩ y5).setCell ⟨a, 6, none⟩ y6).heap[a]? = some (.cells #[y0, y1, y2, y3, y4, y5, y6, x7, x8, x9, x10, x11] T (0, 0)) := by rw [set_cell h5]; rfl
  have h7 : ((((((((w.setCell ⟨a, 0, none⟩ y0).setCell ⟨a, 1, none⟩ y1).setCell ⟨a, 2, none⟩ y2).setCell ⟨a, 3, none⟩ y3).setCell ⟨a, 4, none⟩ y4).setCell ⟨a, 5, none⟩ y5).setCell ⟨a, 6, none⟩ y6).setCell ⟨a, 7, none⟩ y7).heap[a]? = some (.cells #[y0, y1, y2, y3, y4, y5, y6, y7, x8, x9, x10, x11] T (0, 0)) := by rw [set_cell h6]; rfl
  exact h7

set_option maxRecDepth 100000 in
set_option maxHeartbeats 800000 in
theorem done_any {w : World} {X : ELoc} {E : Eng} {k : Nat} {l : Loc} {A : Att} (h : At w X E k l A) (v : Int) : Calls Try.prog 54 #[ptr l.a, .int .u64 v] w (SPost w X (E.put k (some (doneA A))) { rp0 with done := true, val := v }) := by
  have h' := h.fresh ((Touch.refl w []).alloc (rpC rp0))
  have hst := task_set h'.obj.st (.int .u64 0) (.int .i64 0) (.int .u8 0) (.int .i64 0) (.int .u64 0) (.int .i64 0) (.int .i64 0) (.int .u64 0)
  have t := setCells_touch l.a zeroTask 0 (w.alloc (rpC rp0))
  obtain ⟨r1, r2⟩ := h'.h.setA (A' := doneA A) h.hl h.hA rfl rfl hst t
  have hne : w.heap.size ∉ [l.a] := by have := lt_of_heap h.obj.st; simp; omega
  have sl : Slot ((w.alloc (rpC rp0)).setCells l.a 0 zeroTask) w.heap.size := (Slot.new w).touch t hne
  have hth : (w.alloc (rpC rp0)).there l.a 0 zeroTask.toArray.size := fun j hj => by
    simp only [List.size_toArray, List.length_cons, List.length_nil] at hj
    simp only [World.cell?, World.frozen?, h'.obj.st]
    simp
    omega
  have HTH : Hid (World.there (w.alloc (rpC rp0)) l.a 0 zeroTask.toArray.size) := hth
  have hfn : ∀ c, ∀ x ∈ X.foot c, x ≠ w.heap.size := fun c x hx e => by have := h.h.lt c x hx; omega
  have HE : Hid (∀ W2, W2 = (w.alloc (rpC rp0)).setCells l.a 0 zeroTask.toArray.toList → World.there W2 w.heap.size 0 (rpL { rp0 with done := true, val := v }).toArray.size ∧ ∀ W3, W3 = W2.setCells w.heap.size 0 (rpL { rp0 with done := true, val := v }) → W3.rangeAt w.heap.size 0 (rpL { rp0 with done := true, val := v }) ∧ EObj W3 X (E.put k (some (doneA A))) ∧ Next w X W3 X) := by
    rintro W2 rfl
    exact ⟨sl.there _, slot_end (R := { rp0 with done := true, val := v }) sl r1 (Next.after ((Touch.refl w []).alloc (rpC rp0)) r2) (Nat.le_refl _) hfn⟩
  have HSZ : Hid ((Try.prog.info? 70).map (·.size) = some zeroTask.toArray.size) := Try.size_task
  clear h h' hst t r1 r2 sl hth hfn hne
  go_enter Try.func54, Try.ntmps54
  go_wp2_with (first | (refine wpList_store_mid rfl 70 _ _ rfl l.a 0 zeroTask.toArray rfl rfl HTH.out HSZ.out (by simp [Value.oneCell']) ?_; refine wpList_name fun W2 hW2 => ?_; obtain ⟨b1, b2⟩ := HE.out W2 hW2; have HH : Hid (World.there W2 w.heap.size 0 (rpL { rp0 with done := true, val := v }).toArray.size) := b1; have HB : Hid _ := b2; clear hW2 b1 b2 HE HTH) | (refine wpList_store_mid rfl 38 _ _ rfl w.heap.size 0 (rpL { rp0 with done := true, val := v }).toArray rfl rfl HH.out Try.size_reply (rp_one _) ?_; refine wpList_name fun W3 hW3 => ?_; obtain ⟨g1, g2, g3⟩ := HB.out W3 hW3; clear hW3))
  refine bodyPost_ret (v := RpD.val' { rp0 with done := true, val := v }) (Slot.load g1 _ rfl rfl) rfl ?_
  exact ⟨rfl, g2, g3⟩

/-- What is told of an attempt. -/
def tellE (E : Eng) (A : Att) (kind t v : Int) : Eng := noteE E ⟨kind, A.num, t, v⟩

/-- What a call leaves in which an attempt stays where it is. -/
def TPost (w : World) (X : ELoc) (E : Eng) (v : Value) (x : Ending) (w' : World) : Prop := ∃ X', x = .returned v ∧ EObj w' X' E ∧ Next w X w' X' ∧ X'.at' = X.at' ∧ X'.lk = X.lk

set_option maxRecDepth 100000 in
set_option maxHeartbeats 800000 in
theorem tell_any {w : World} {X : ELoc} {E : Eng} {k : Nat} {l : Loc} {A : Att} (h : At w X E k l A) (kind t v : Int) (hl : E.ev.length < 100000) : Calls Try.prog 53 #[ptr X.e, ptr l.a, .int .u8 kind, .int .i64 t, .int .u64 v] w (LPost w X (tellE E A kind t v) (.tuple #[])) := by
  have c9 := h.obj.cells.c9
  have hlt := lt_of_heap h.obj.st
  have NT := fun (W : World) (hW : EObj W X E) => HidC.mk (note_any X E ⟨kind, A.num, t, v⟩ W hW hl)
  simp only [EvD.val] at NT
  have hD : EObj w.drew X E := h.h.fresh (Touch.refl _ []).drew
  have HL : Hid (X.at' k = some l) := h.hl
  have HA : Hid (E.th k = some A) := h.hA
  generalize hn : (A.num : Int) = n at *
  have HNM : Hid ((A.num : Int) = n) := hn
  have HKEEP : Hid (∀ W X' E', EObj W X' E' → X'.at' = X.at' → E'.th = E.th → W.cell? ⟨l.a, 9, none⟩ = some (.int .i64 n)) := fun W X' E' hW e1 e2 => by
    have := (At.obj (k := k) ⟨hW, by rw [e1]; exact h.hl, by rw [e2]; exact h.hA⟩).cells.c9
    rw [← hn]; exact this
  clear h hn
  go_enter Try.func53, Try.ntmps53
  go_wp2_with fail
  refine wp_name fun W hW => ?_
  have c9' : W.cell? ⟨l.a, 9, none⟩ = some (.int .i64 n) := by rw [hW]; exact c9
  have hD' : EObj W.drew X E := by rw [hW]; exact hD
  have HT : Hid (Touch w W []) := by rw [hW]; exact Touch.refl _ _
  clear hW c9 hD hlt
  go_region_held3 (fun w' => w'.cell? ⟨l.a, 9, none⟩ = some (.int .i64 n)) ((first | exact c9' | exact k9)) ((go_at_call 46; refine (NT _ hD').out.mono ?_; rintro e w3 ⟨X', rfl, h3, n3, q1, q2, q3⟩; have k9 := HKEEP.out w3 X' _ h3 q1 rfl))
  have HF : Hid (LPost w X (noteE E ⟨kind, A.num, t, v⟩) (.tuple #[]) (.returned (.tuple #[])) w3) := by
    have := HNM.out
    rw [← this] at h3
    exact ⟨X', rfl, h3, Next.after (HT.out.trans ((Touch.refl W []).drew) (by simp)) n3, q1, q2, q3⟩
  clear h3 n3 q1 q2 q3 k9 HKEEP HL HA HT NT hD' c9'
  go_wp2
  go_end0
  exact HF.out

end Go.Proofs.Ytinhdpiecifmhaa.Nr

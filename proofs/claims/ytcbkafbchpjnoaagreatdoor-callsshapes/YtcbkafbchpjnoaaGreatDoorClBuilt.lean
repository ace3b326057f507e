/-
  package calls: built BY ITS CONTRACT. Written by mkclb.py.
-/
import Derived.Test.YtcbkafbchpjnoaaGreatDoorClBlk
namespace Go.Proofs.YtcbkafbchpjnoaaGreatDoor
set_option linter.unusedVariables false
set_option linter.unusedSimpArgs false
open Go.RowKit
attribute [local go_sem] Oper.semAt_some

/-- A row of calls that can be read. -/
structure CasIn (w : World) (ao : Option Addr) (m cap : Nat) (l : List CaD) : Prop where
  len : m = l.length
  row : SRow 3 CaD.cells w (.slice ao l.length cap) l
  le : m ≤ cap
  wf : ∀ c ∈ l, c.Wf
theorem CasIn.keep {w w' : World} {ao : Option Addr} {m cap : Nat} {l : List CaD} (h : CasIn w ao m cap l) (t : Touch w w' []) : CasIn w' ao m cap l := ⟨h.len, SRow.keep h.row t (by simp), h.le, h.wf⟩
theorem CasIn.at {w : World} {ao : Option Addr} {m cap : Nat} {l : List CaD} (h : CasIn w ao m cap l) (k : Nat) (hk : k < l.length) :
    ∃ g off, ao = some ⟨g, off, none⟩ ∧ g < w.heap.size ∧ w.cell? ⟨g, off + k * 3, none⟩ = some (.int .u8 l[k].k) ∧ w.cell? ⟨g, off + k * 3 + 1, none⟩ = some (.int .i64 l[k].u) ∧ w.cell? ⟨g, off + k * 3 + 2, none⟩ = some (.int .u64 l[k].v) := by
  obtain ⟨g, off, e, hg, hc⟩ := SRow.at h.row k hk
  have h0 := hc 0 (by omega)
  have h1 := hc 1 (by omega)
  have h2 := hc 2 (by omega)
  exact ⟨g, off, e, hg, by simpa [CaD.cells] using h0, by simpa [CaD.cells] using h1, by simpa [CaD.cells] using h2⟩

theorem jn_go {f : Int → Int × List InsD} {fs : List (Int → Int × List InsD)} {xs : List InsD} (h1 : (f (xs.length : Nat)).1 = 0) (h2 : xs.length + (f (xs.length : Nat)).2.length ≤ 64) : jnP (f :: fs) xs = jnP fs (xs ++ (f (xs.length : Nat)).2) := by
  rw [jnP, if_neg (by omega)]
theorem jn_no {f : Int → Int × List InsD} {fs : List (Int → Int × List InsD)} {xs : List InsD} (h : (f (xs.length : Nat)).1 ≠ 0 ∨ xs.length + (f (xs.length : Nat)).2.length > 64) : jnP (f :: fs) xs = none := by
  rw [jnP, if_pos h]
theorem jn_step (n t : Int) (xs : List InsD) (c : CaD) (hx : xs.length ≤ 64) : jnP [rowF (ahdC c), blkF n t c, rowF (ansC c.k)] xs = if (stepC n t xs c).length > 64 then none else some (stepC n t xs c) := by
  have hl := stepC_len n t xs c
  have hb := blkC_len n t ((xs ++ ahdC c).length : Nat) c
  have hA : (xs ++ ahdC c).length = xs.length + (ahdC c).length := List.length_append
  by_cases h1 : xs.length + (ahdC c).length > 64
  · rw [jn_no (.inr h1), if_pos (by omega)]
  · rw [jn_go (f := rowF (ahdC c)) rfl (by show xs.length + (ahdC c).length ≤ 64; omega)]
    show jnP [blkF n t c, rowF (ansC c.k)] (xs ++ ahdC c) = _
    by_cases h2 : (xs ++ ahdC c).length + lenC c.k > 64
    · rw [jn_no (f := blkF n t c) (.inr (by show _ + (blkC n t ((xs ++ ahdC c).length : Nat) c).length > 64; rw [hb]; exact h2)), if_pos (by omega)]
    · rw [jn_go (f := blkF n t c) (by show blkCE _ _ = 0; unfold blkCE; rw [if_neg (by omega)]) (by show _ + (blkC n t ((xs ++ ahdC c).length : Nat) c).length ≤ 64; rw [hb]; omega)]
      show jnP [rowF (ansC c.k)] (xs ++ ahdC c ++ blkC n t ((xs ++ ahdC c).length : Nat) c) = _
      have hB : (xs ++ ahdC c ++ blkC n t ((xs ++ ahdC c).length : Nat) c).length = (xs ++ ahdC c).length + lenC c.k := by rw [List.length_append, hb]
      by_cases h3 : (stepC n t xs c).length > 64
      · rw [jn_no (f := rowF (ansC c.k)) (.inr (by show _ + (ansC c.k).length > 64; rw [hB]; omega)), if_pos h3]
      · rw [jn_go (f := rowF (ansC c.k)) rfl (by show _ + (ansC c.k).length ≤ 64; rw [hB]; omega), if_neg h3]
        rfl

/-- What built comes to. -/
def BuP (w : World) (r : Option (List InsD)) (e : Ending) (w' : World) : Prop :=
  (r = none ∧ e = .returned (.tuple #[.slice none 0 0, .int .i64 4]) ∧ Touch w w' []) ∨
  (∃ P a c, r = some P ∧ e = .returned (.tuple #[.slice a P.length c, .int .i64 0]) ∧ InsIn w' a P.length c P ∧ Touch w w' [])

set_option maxRecDepth 100000 in
set_option maxHeartbeats 4000000 in
theorem built_any {w : World} (hw : Wds w) (n t : Int) {ao : Option Addr} {mm cap : Nat} {l : List CaD} (hl : CasIn w ao mm cap l) (hm : mm ≤ 100) (hck : ∀ c ∈ l, CkOk n t c) :
    Calls Tryz.prog 30 #[.int .i64 n, .int .i64 t, .slice ao mm cap] w (BuP w (runC n t l [])) := by
  obtain ⟨R, hR⟩ : ∃ r, r = runC n t l [] := ⟨_, rfl⟩
  rw [← hR]
  have HL : Hid _ := hl
  have HW : Hid _ := hw
  have HR : Hid _ := hR
  have HCK : Hid _ := hck
  have HM : Hid _ := hl.len
  clear hl hw hR hck
  go_enter Tryz.func30, Tryz.ntmps30
  go_wp2_with fail
  go_loopw [8, 14] (fun vv i wr => ∃ (k : Nat) (xs : List InsD) (a : Option Addr) (c : Nat), i = .int .i64 k ∧ k ≤ mm ∧ vv = .slice a xs.length c ∧ R = runC n t (l.drop k) xs ∧ insOwn wr w.heap.size (.slice a xs.length c) xs ∧ (∀ i ∈ xs, i.Wf) ∧ xs.length ≤ 64 ∧ Touch w wr []) (fun _ i _ => mm - (intOf i).toNat)
  case atStart => exact ⟨0, [], none, 0, rfl, Nat.zero_le _, rfl, HR.out, World.ownsRow_nil _ _ _ _, fun i hi => by simp at hi, by simp, Touch.refl _ _⟩
  case round =>
    obtain ⟨k, xs, a, c0, rfl, hk, rfl, hR, hown, hwf, hle, hT⟩ := hrel
    by_cases hlt : k < mm
    · have h1 : (k : Int) < mm := by omega
      have h0 : (0 : Int) ≤ k := by omega
      have hkl : k < l.length := by rw [← HM.out]; exact hlt
      have hkc : k < cap := Nat.lt_of_lt_of_le hlt HL.out.le
      obtain ⟨g, off, rfl, hg, x0, x1, x2⟩ := (HL.out.keep hT).at k hkl
      have hdrop : l.drop k = l[k] :: l.drop (k + 1) := List.drop_eq_getElem_cons hkl
      rw [hdrop] at hR
      have hCK := HCK.out l[k] (List.getElem_mem hkl)
      have hCW := HL.out.wf l[k] (List.getElem_mem hkl)
      generalize l[k] = cc at *
      obtain ⟨k', u, v⟩ := cc
      simp only at x0 x1 x2 hR
      obtain ⟨XW, hXW⟩ : ∃ W, W = wr.alloc (.cells #[.int .u8 k', .int .i64 u, .int .u64 v] 52) := ⟨_, rfl⟩
      have hbx : BoxK XW wr.heap.size k' u v := by rw [hXW]; exact BoxK.new wr k' u v
      have hsW : XW.heap.size = wr.heap.size + 1 := by rw [hXW]; simp
      have tW : Touch wr XW [] := by rw [hXW]; exact (Touch.refl _ _).alloc _
      have tD : Touch wr XW.drew [] := tW.drew
      have hsD : XW.drew.heap.size = wr.heap.size + 1 := by rw [← hsW]; rfl
      have hbD : BoxK XW.drew wr.heap.size k' u v := hbx.touch (Touch.refl XW []).drew (by simp)
      have HA : Hid (HidC Tryz.prog 52 #[.agg #[.int .u8 k', .int .i64 u, .int .u64 v]] XW.drew fun e w' => ∃ p, e = .returned p ∧ Touch XW.drew w' [] ∧ PcOk (wr.heap.size + 1) w'.heap.size w' p (rowF (ahdC ⟨k', u, v⟩))) := ⟨ahead_any k' u v hCW.v (by rw [hsD]; omega)⟩
      have HS1 : Hid (∀ w2 p1, Touch XW.drew w2 [] → PcOk (wr.heap.size + 1) w2.heap.size w2 p1 (rowF (ahdC ⟨k', u, v⟩)) → w2.cell? ⟨wr.heap.size, 0, none⟩ = some (.int .u8 k') ∧ w2.cell? ⟨wr.heap.size, 1, none⟩ = some (.int .i64 u) ∧ w2.cell? ⟨wr.heap.size, 2, none⟩ = some (.int .u64 v) ∧ Hid (PcOk (wr.heap.size + 1) w2.heap.size w2 p1 (rowF (ahdC ⟨k', u, v⟩))) ∧ Hid (BoxK w2 wr.heap.size k' u v ∧ Touch wr w2 []) ∧ Hid (HidC Tryz.prog 53 #[.agg #[.int .u8 k', .int .i64 u, .int .u64 v], .int .i64 n, .int .i64 t] w2 fun e w' => ∃ p, e = .returned p ∧ Touch w2 w' [] ∧ PcOk (wr.heap.size + 1) w'.heap.size w' p (blkF n t ⟨k', u, v⟩))) := by
        intro w2 p1 t1 k1
        have hb := hbD.touch t1 (by simp)
        obtain ⟨y0, y1, y2⟩ := hb.cells
        have tt : Touch wr w2 [] := tD.trans t1 (by simp)
        exact ⟨y0, y1, y2, k1, ⟨hb, tt⟩, ⟨block_piece ((HW.out.touch hT (by simp)).touch tt (by simp)) n t ⟨k', u, v⟩ hCK (by have := t1.size; omega)⟩⟩
      have HS2 : Hid (∀ w2 w3 p1 p2, (BoxK w2 wr.heap.size k' u v ∧ Touch wr w2 []) → PcOk (wr.heap.size + 1) w2.heap.size w2 p1 (rowF (ahdC ⟨k', u, v⟩)) → Touch w2 w3 [] → PcOk (wr.heap.size + 1) w3.heap.size w3 p2 (blkF n t ⟨k', u, v⟩) → w3.cell? ⟨wr.heap.size, 0, none⟩ = some (.int .u8 k') ∧ w3.cell? ⟨wr.heap.size, 1, none⟩ = some (.int .i64 u) ∧ w3.cell? ⟨wr.heap.size, 2, none⟩ = some (.int .u64 v) ∧ Hid (PcOk (wr.heap.size + 1) w3.heap.size w3 p1 (rowF (ahdC ⟨k', u, v⟩)) ∧ PcOk (wr.heap.size + 1) w3.heap.size w3 p2 (blkF n t ⟨k', u, v⟩)) ∧ Hid (BoxK w3 wr.heap.size k' u v ∧ Touch wr w3 []) ∧ Hid (HidC Tryz.prog 54 #[.int .u8 k'] w3 fun e w' => ∃ p, e = .returned p ∧ Touch w3 w' [] ∧ PcOk (wr.heap.size + 1) w'.heap.size w' p (rowF (ansC k')))) := by
        intro w2 w3 p1 p2 hq k1 t2 k2
        have hb := hq.1.touch t2 (by simp)
        obtain ⟨y0, y1, y2⟩ := hb.cells
        exact ⟨y0, y1, y2, ⟨k1.later t2 t2.size, k2⟩, ⟨hb, hq.2.trans t2 (by simp)⟩, ⟨answer_any k' hCK.hk (by have := t2.size; have := lt_of_heap hq.1.st; omega)⟩⟩
      have hob : ∀ x, (Value.slice a xs.length c0).ownBlock = some x → w.heap.size ≤ x ∧ x < wr.heap.size := fun x hx => World.ownsRow.lt hown x hx
      have HS3 : Hid (∀ w3 w4 p1 p2 p3, (BoxK w3 wr.heap.size k' u v ∧ Touch wr w3 []) → (PcOk (wr.heap.size + 1) w3.heap.size w3 p1 (rowF (ahdC ⟨k', u, v⟩)) ∧ PcOk (wr.heap.size + 1) w3.heap.size w3 p2 (blkF n t ⟨k', u, v⟩)) → Touch w3 w4 [] → PcOk (wr.heap.size + 1) w4.heap.size w4 p3 (rowF (ansC k')) → w4.cell? ⟨wr.heap.size, 0, none⟩ = some (.int .u8 k') ∧ w4.cell? ⟨wr.heap.size, 1, none⟩ = some (.int .i64 u) ∧ w4.cell? ⟨wr.heap.size, 2, none⟩ = some (.int .u64 v) ∧ Hid ((w4.alloc (.cells #[p1, p2, p3] 105)).cell? ⟨wr.heap.size, 0, none⟩ = some (.int .u8 k') ∧ (w4.alloc (.cells #[p1, p2, p3] 105)).cell? ⟨wr.heap.size, 1, none⟩ = some (.int .i64 u) ∧ (w4.alloc (.cells #[p1, p2, p3] 105)).cell? ⟨wr.heap.size, 2, none⟩ = some (.int .u64 v)) ∧ Hid (∀ w6, Touch (w4.alloc (.cells #[p1, p2, p3] 105)) w6 (Value.slice a xs.length c0).ownBlock.toList → (w6.cell? ⟨wr.heap.size, 0, none⟩ = some (.int .u8 k') ∧ w6.cell? ⟨wr.heap.size, 1, none⟩ = some (.int .i64 u) ∧ w6.cell? ⟨wr.heap.size, 2, none⟩ = some (.int .u64 v)) ∧ Touch w w6 [] ∧ w.heap.size ≤ (w4.alloc (.cells #[p1, p2, p3] 105)).heap.size) ∧ Hid (HidC Tryz.prog 51 #[.slice a xs.length c0, .slice (some ⟨w4.heap.size, 0, none⟩) 3 3] (w4.alloc (.cells #[p1, p2, p3] 105)) (JnP (w4.alloc (.cells #[p1, p2, p3] 105)) w.heap.size (.slice a xs.length c0) (if (stepC n t xs ⟨k', u, v⟩).length > 64 then none else some (stepC n t xs ⟨k', u, v⟩))))) := by
        intro w3 w4 p1 p2 p3 hq hk3 t3 k3
        have hb := hq.1.touch t3 (by simp)
        have t4 : Touch wr w4 [] := hq.2.trans t3 (by simp)
        have tA : Touch w4 (w4.alloc (.cells #[p1, p2, p3] 105)) [] := (Touch.refl _ _).alloc _
        have hb5 := hb.touch tA (by simp)
        obtain ⟨y0, y1, y2⟩ := hb.cells
        obtain ⟨z0, z1, z2⟩ := hb5.cells
        have hwl := lt_of_heap hq.1.st
        have h34 := t3.size
        have hsT := hT.size
        have h5s := tA.size
        refine ⟨y0, y1, y2, ⟨z0, z1, z2⟩, fun w6 t6 => ?_, ⟨?_⟩⟩
        · have hb6 := hb5.touch t6 (fun hx => by have := hob _ (by simpa using hx); omega)
          exact ⟨hb6.cells, (hT.trans (t4.trans tA (by simp)) (by simp)).trans t6 (fun x hx => .inr (hob x (by simpa using hx)).1), by omega⟩
        have hj := joinedC_any (w := w4.alloc (.cells #[p1, p2, p3] 105)) (B := w.heap.size) (lo := wr.heap.size + 1) (g := w4.heap.size) (cap := 3) (c0 := c0) (n0 := xs.length) (N := 3) (a0 := a) (xs0 := xs) (fs := [rowF (ahdC ⟨k', u, v⟩), blkF n t ⟨k', u, v⟩, rowF (ansC k')]) (v0 := .slice a xs.length c0) rfl rfl rfl (ownsRow_touch hown (t4.trans tA (by simp)) (by simp)) hwf hle (by have := hT.size; have := tA.size; omega) (fun x hx => ⟨fun e => by have := hob x hx; have := HW.out.lt; omega, by have := hob x hx; omega⟩) ⟨by omega, by simp, fun j hj => ?_⟩ (by simp)
        · have := jn_step n t xs ⟨k', u, v⟩ hle
          rw [this] at hj
          exact hj
        · have hn := heap_alloc_new w4 (.cells #[p1, p2, p3] 105)
          have h5 : (w4.alloc (.cells #[p1, p2, p3] 105)).heap.size = w4.heap.size + 1 := by simp
          match j, hj with
          | 0, _ => exact ⟨p1, by unfold World.cell?; rw [hn]; rfl, (hk3.1.later t3 t3.size).later tA (by omega)⟩
          | 1, _ => exact ⟨p2, by unfold World.cell?; rw [hn]; rfl, (hk3.2.later t3 t3.size).later tA (by omega)⟩
          | 2, _ => exact ⟨p3, by unfold World.cell?; rw [hn]; rfl, k3.later tA (by omega)⟩
      have HRR : Hid (R = if (stepC n t xs ⟨k', u, v⟩).length > 64 then none else runC n t (l.drop (k + 1)) (stepC n t xs ⟨k', u, v⟩)) := by show _ = _; rw [hR]; rfl
      have HTR : Hid _ := hT
      obtain ⟨b0, b1, b2⟩ := hbx.cells
      clear hR hown hwf hT hdrop hCK hCW tW tD hsD hbD hob hbx
      generalize hxl : xs.length = m at *
      go_wp2_with fail
      simp only [← hXW]
      clear hXW
      generalize wr.heap.size = b at *
      refine wp_region_held_drew (S := (fun w' => w'.cell? ⟨b, 0, none⟩ = some (.int .u8 k') ∧ w'.cell? ⟨b, 1, none⟩ = some (.int .i64 u) ∧ w'.cell? ⟨b, 2, none⟩ = some (.int .u64 v))) (by kernel_rfl) ⟨b0, b1, b2⟩ (fun hHeld => ?_)
      refine wpAnyH_take (i := 0) (v := .slice a m c0) rfl (by kernel_rfl) (by kernel_rfl) (by kernel_rfl) (fun _ _ _ h => h) (Or.inl ⟨by rfl, ?_⟩) hHeld ?_
      · intro w' hSw
        try simp only [Act.put, List.getElem_toArray, List.getElem_cons_succ, List.getElem_cons_zero, List.setIfInBounds_toArray, List.set_cons_zero, List.set_cons_succ]
        go_simp
      try simp only [Act.put, List.getElem_toArray, List.getElem_cons_succ, List.getElem_cons_zero, List.setIfInBounds_toArray, List.set_cons_zero, List.set_cons_succ]
      refine wpAnyH_take (i := 1) (v := .agg #[.int .u8 k', .int .i64 u, .int .u64 v]) rfl (by kernel_rfl) (by kernel_rfl) (by kernel_rfl) (fun _ _ _ h => h) (Or.inl ⟨by rfl, ?_⟩) hHeld ?_
      · intro w' hSw
        try simp only [Act.put, List.getElem_toArray, List.getElem_cons_succ, List.getElem_cons_zero, List.setIfInBounds_toArray, List.set_cons_zero, List.set_cons_succ]
        obtain ⟨s0, s1, s2⟩ := hSw; go_simp
      try simp only [Act.put, List.getElem_toArray, List.getElem_cons_succ, List.getElem_cons_zero, List.setIfInBounds_toArray, List.set_cons_zero, List.set_cons_succ]
      refine wpAnyH_take (i := 3) (v := .agg #[.int .u8 k', .int .i64 u, .int .u64 v]) rfl (by kernel_rfl) (by kernel_rfl) (by kernel_rfl) (fun _ _ _ h => h) (Or.inl ⟨by rfl, ?_⟩) hHeld ?_
      · intro w' hSw
        try simp only [Act.put, List.getElem_toArray, List.getElem_cons_succ, List.getElem_cons_zero, List.setIfInBounds_toArray, List.set_cons_zero, List.set_cons_succ]
        obtain ⟨s0, s1, s2⟩ := hSw; go_simp
      try simp only [Act.put, List.getElem_toArray, List.getElem_cons_succ, List.getElem_cons_zero, List.setIfInBounds_toArray, List.set_cons_zero, List.set_cons_succ]
      refine wpAnyH_take (i := 4) (v := .int .i64 n) rfl (by kernel_rfl) (by kernel_rfl) (by kernel_rfl) (fun _ _ _ h => h) (Or.inl ⟨by rfl, ?_⟩) hHeld ?_
      · intro w' hSw
        try simp only [Act.put, List.getElem_toArray, List.getElem_cons_succ, List.getElem_cons_zero, List.setIfInBounds_toArray, List.set_cons_zero, List.set_cons_succ]
        go_simp
      try simp only [Act.put, List.getElem_toArray, List.getElem_cons_succ, List.getElem_cons_zero, List.setIfInBounds_toArray, List.set_cons_zero, List.set_cons_succ]
      refine wpAnyH_take (i := 5) (v := .int .i64 t) rfl (by kernel_rfl) (by kernel_rfl) (by kernel_rfl) (fun _ _ _ h => h) (Or.inl ⟨by rfl, ?_⟩) hHeld ?_
      · intro w' hSw
        try simp only [Act.put, List.getElem_toArray, List.getElem_cons_succ, List.getElem_cons_zero, List.setIfInBounds_toArray, List.set_cons_zero, List.set_cons_succ]
        go_simp
      try simp only [Act.put, List.getElem_toArray, List.getElem_cons_succ, List.getElem_cons_zero, List.setIfInBounds_toArray, List.set_cons_zero, List.set_cons_succ]
      refine wpAnyH_take (i := 7) (v := .pointer (some ⟨b, 0, none⟩)) rfl (by kernel_rfl) (by kernel_rfl) (by kernel_rfl) (fun _ _ _ h => h) (Or.inl ⟨by rfl, ?_⟩) hHeld ?_
      · intro w' hSw
        try simp only [Act.put, List.getElem_toArray, List.getElem_cons_succ, List.getElem_cons_zero, List.setIfInBounds_toArray, List.set_cons_zero, List.set_cons_succ]
        go_simp
      try simp only [Act.put, List.getElem_toArray, List.getElem_cons_succ, List.getElem_cons_zero, List.setIfInBounds_toArray, List.set_cons_zero, List.set_cons_succ]
      refine wpAnyH_take (i := 8) (v := .int .u8 k') rfl (by kernel_rfl) (by kernel_rfl) (by kernel_rfl) (fun _ _ _ h => h) (Or.inl ⟨by rfl, ?_⟩) hHeld ?_
      · intro w' hSw
        try simp only [Act.put, List.getElem_toArray, List.getElem_cons_succ, List.getElem_cons_zero, List.setIfInBounds_toArray, List.set_cons_zero, List.set_cons_succ]
        obtain ⟨s0, s1, s2⟩ := hSw; go_simp
      try simp only [Act.put, List.getElem_toArray, List.getElem_cons_succ, List.getElem_cons_zero, List.setIfInBounds_toArray, List.set_cons_zero, List.set_cons_succ]
      clear hHeld
      refine wpAnyH_ready (rs := [2]) (by kernel_rfl) (by simp) (AllReadyH.cons rfl (fun K hK => ?_) AllReadyH.nil)
      rw [if_pos (by rfl)]
      go_wp2_with fail
      refine HA.out.out.mono ?_
      rintro e w2 ⟨p1, rfl, t1, k1⟩
      have e1 := k1
      obtain ⟨fn1, cp1, rfl, -⟩ := e1
      obtain ⟨g10, g11, g12, HP1, HT1, HBK⟩ := HS1.out w2 _ t1 k1
      clear t1 k1
      refine hK.out _ _ ⟨g10, g11, g12⟩ (fun hHeld => ?_)
      clear hK
      try simp only [Act.put, List.getElem_toArray, List.getElem_cons_succ, List.getElem_cons_zero, List.setIfInBounds_toArray, List.set_cons_zero, List.set_cons_succ]
      clear hHeld
      refine wpAnyH_ready (rs := [6]) (by kernel_rfl) (by simp) (AllReadyH.cons rfl (fun K hK => ?_) AllReadyH.nil)
      rw [if_pos (by rfl)]
      go_wp2_with fail
      refine HBK.out.out.mono ?_
      rintro e w3 ⟨p2, rfl, t2, k2⟩
      have e2 := k2
      obtain ⟨fn2, cp2, rfl, -⟩ := e2
      obtain ⟨g20, g21, g22, HP2, HT2, HAN⟩ := HS2.out w2 w3 _ _ HT1.out HP1.out t2 k2
      clear t2 k2 HP1 HBK
      refine hK.out _ _ ⟨g20, g21, g22⟩ (fun hHeld => ?_)
      clear hK
      try simp only [Act.put, List.getElem_toArray, List.getElem_cons_succ, List.getElem_cons_zero, List.setIfInBounds_toArray, List.set_cons_zero, List.set_cons_succ]
      clear hHeld
      refine wpAnyH_ready (rs := [9]) (by kernel_rfl) (by simp) (AllReadyH.cons rfl (fun K hK => ?_) AllReadyH.nil)
      rw [if_pos (by rfl)]
      go_wp2_with fail
      refine HAN.out.out.mono ?_
      rintro e w4 ⟨p3, rfl, t3, k3⟩
      have e3 := k3
      obtain ⟨fn3, cp3, rfl, -⟩ := e3
      obtain ⟨g30, g31, g32, HT4, HT5, HJN⟩ := HS3.out w3 w4 _ _ _ HT2.out HP2.out t3 k3
      clear t3 k3 HP2 HAN
      refine hK.out _ _ ⟨g30, g31, g32⟩ (fun hHeld => ?_)
      clear hK
      try simp only [Act.put, List.getElem_toArray, List.getElem_cons_succ, List.getElem_cons_zero, List.setIfInBounds_toArray, List.set_cons_zero, List.set_cons_succ]
      clear hHeld
      refine wpAnyH_ready (rs := [10]) (by kernel_rfl) (by simp) (AllReadyH.cons rfl (fun K hK => ?_) AllReadyH.nil)
      rw [if_pos (by rfl)]
      go_wp2_with fail
      obtain ⟨g40, g41, g42⟩ := HT4.out
      refine hK.out _ _ ⟨g40, g41, g42⟩ (fun hHeld => ?_)
      clear hK
      try simp only [Act.put, List.getElem_toArray, List.getElem_cons_succ, List.getElem_cons_zero, List.setIfInBounds_toArray, List.set_cons_zero, List.set_cons_succ]
      clear hHeld
      refine wpAnyH_ready (rs := [11]) (by kernel_rfl) (by simp) (AllReadyH.cons rfl (fun K hK => ?_) AllReadyH.nil)
      rw [if_pos (by rfl)]
      go_wp2_with fail
      refine HJN.out.out.mono ?_
      clear HJN
      rintro e w6 (⟨hr, rfl, t6⟩ | ⟨P, a6, c6, hr, rfl, o6, wf6, le6, t6, b6⟩)
      · obtain ⟨⟨g50, g51, g52⟩, ht6, hs6⟩ := HT5.out w6 t6
        have HT6 : Hid _ := ht6
        have HRN : Hid (R = none) := by
          show _ = _
          rw [HRR.out]
          split at hr
          · rename_i h; rw [if_pos h]
          · cases hr
        clear hr t6 ht6 hs6 HT5 HT4
        refine hK.out _ _ ⟨g50, g51, g52⟩ (fun hHeld => ?_)
        clear hK
        try simp only [Act.put, List.getElem_toArray, List.getElem_cons_succ, List.getElem_cons_zero, List.setIfInBounds_toArray, List.set_cons_zero, List.set_cons_succ]
        refine wpAnyH_take (i := 12) (v := .tuple #[.slice none 0 0, .int .i64 4]) rfl (by kernel_rfl) (by kernel_rfl) (by kernel_rfl) (fun _ _ _ h => h) (Or.inl ⟨by rfl, ?_⟩) hHeld ?_
        · intro w' hSw
          try simp only [Act.put, List.getElem_toArray, List.getElem_cons_succ, List.getElem_cons_zero, List.setIfInBounds_toArray, List.set_cons_zero, List.set_cons_succ]
          go_simp
        try simp only [Act.put, List.getElem_toArray, List.getElem_cons_succ, List.getElem_cons_zero, List.setIfInBounds_toArray, List.set_cons_zero, List.set_cons_succ]
        refine wpAnyH_take (i := 13) (v := .slice none 0 0) rfl (by kernel_rfl) (by kernel_rfl) (by kernel_rfl) (fun _ _ _ h => h) (Or.inl ⟨by rfl, ?_⟩) hHeld ?_
        · intro w' hSw
          try simp only [Act.put, List.getElem_toArray, List.getElem_cons_succ, List.getElem_cons_zero, List.setIfInBounds_toArray, List.set_cons_zero, List.set_cons_succ]
          go_simp
        try simp only [Act.put, List.getElem_toArray, List.getElem_cons_succ, List.getElem_cons_zero, List.setIfInBounds_toArray, List.set_cons_zero, List.set_cons_succ]
        refine wpAnyH_take (i := 14) (v := .int .i64 4) rfl (by kernel_rfl) (by kernel_rfl) (by kernel_rfl) (fun _ _ _ h => h) (Or.inl ⟨by rfl, ?_⟩) hHeld ?_
        · intro w' hSw
          try simp only [Act.put, List.getElem_toArray, List.getElem_cons_succ, List.getElem_cons_zero, List.setIfInBounds_toArray, List.set_cons_zero, List.set_cons_succ]
          go_simp
        try simp only [Act.put, List.getElem_toArray, List.getElem_cons_succ, List.getElem_cons_zero, List.setIfInBounds_toArray, List.set_cons_zero, List.set_cons_succ]
        refine wpAnyH_take (i := 15) (v := .slice none 0 0) rfl (by kernel_rfl) (by kernel_rfl) (by kernel_rfl) (fun _ _ _ h => h) (Or.inl ⟨by rfl, ?_⟩) hHeld ?_
        · intro w' hSw
          try simp only [Act.put, List.getElem_toArray, List.getElem_cons_succ, List.getElem_cons_zero, List.setIfInBounds_toArray, List.set_cons_zero, List.set_cons_succ]
          go_simp
        try simp only [Act.put, List.getElem_toArray, List.getElem_cons_succ, List.getElem_cons_zero, List.setIfInBounds_toArray, List.set_cons_zero, List.set_cons_succ]
        refine wpAnyH_take (i := 16) (v := .int .i64 4) rfl (by kernel_rfl) (by kernel_rfl) (by kernel_rfl) (fun _ _ _ h => h) (Or.inl ⟨by rfl, ?_⟩) hHeld ?_
        · intro w' hSw
          try simp only [Act.put, List.getElem_toArray, List.getElem_cons_succ, List.getElem_cons_zero, List.setIfInBounds_toArray, List.set_cons_zero, List.set_cons_succ]
          go_simp
        try simp only [Act.put, List.getElem_toArray, List.getElem_cons_succ, List.getElem_cons_zero, List.setIfInBounds_toArray, List.set_cons_zero, List.set_cons_succ]
        clear hHeld
        refine wpAnyH_done (by kernel_rfl) ?_ _
        go_wp2
        refine bodyPost_ret (v := .tuple #[.slice none 0 0, .int .i64 4]) (by simp [results, Tryz.results30, go_sem]) rfl (.inl ⟨HRN.out, rfl, HT6.out⟩)
      · obtain ⟨⟨g50, g51, g52⟩, ht6, hs6⟩ := HT5.out w6 t6
        have HT6 : Hid _ := ht6
        have HRN : Hid (R = runC n t (l.drop (k + 1)) P) := by
          show _ = _
          rw [HRR.out]
          split at hr
          · cases hr
          · rename_i h; cases hr; rw [if_neg h]
        have HO6 : Hid _ := o6
        have HW6 : Hid _ := wf6
        clear hr t6 ht6 hs6 HT5 HT4 o6 wf6 b6
        generalize hpl : P.length = pm at *
        refine hK.out _ _ ⟨g50, g51, g52⟩ (fun hHeld => ?_)
        clear hK
        try simp only [Act.put, List.getElem_toArray, List.getElem_cons_succ, List.getElem_cons_zero, List.setIfInBounds_toArray, List.set_cons_zero, List.set_cons_succ]
        refine wpAnyH_take (i := 12) (v := .tuple #[.slice a6 pm c6, .int .i64 0]) rfl (by kernel_rfl) (by kernel_rfl) (by kernel_rfl) (fun _ _ _ h => h) (Or.inl ⟨by rfl, ?_⟩) hHeld ?_
        · intro w' hSw
          try simp only [Act.put, List.getElem_toArray, List.getElem_cons_succ, List.getElem_cons_zero, List.setIfInBounds_toArray, List.set_cons_zero, List.set_cons_succ]
          go_simp
        try simp only [Act.put, List.getElem_toArray, List.getElem_cons_succ, List.getElem_cons_zero, List.setIfInBounds_toArray, List.set_cons_zero, List.set_cons_succ]
        refine wpAnyH_take (i := 13) (v := .slice a6 pm c6) rfl (by kernel_rfl) (by kernel_rfl) (by kernel_rfl) (fun _ _ _ h => h) (Or.inl ⟨by rfl, ?_⟩) hHeld ?_
        · intro w' hSw
          try simp only [Act.put, List.getElem_toArray, List.getElem_cons_succ, List.getElem_cons_zero, List.setIfInBounds_toArray, List.set_cons_zero, List.set_cons_succ]
          go_simp
        try simp only [Act.put, List.getElem_toArray, List.getElem_cons_succ, List.getElem_cons_zero, List.setIfInBounds_toArray, List.set_cons_zero, List.set_cons_succ]
        refine wpAnyH_take (i := 14) (v := .int .i64 0) rfl (by kernel_rfl) (by kernel_rfl) (by kernel_rfl) (fun _ _ _ h => h) (Or.inl ⟨by rfl, ?_⟩) hHeld ?_
        · intro w' hSw
          try simp only [Act.put, List.getElem_toArray, List.getElem_cons_succ, List.getElem_cons_zero, List.setIfInBounds_toArray, List.set_cons_zero, List.set_cons_succ]
          go_simp
        try simp only [Act.put, List.getElem_toArray, List.getElem_cons_succ, List.getElem_cons_zero, List.setIfInBounds_toArray, List.set_cons_zero, List.set_cons_succ]
        refine wpAnyH_take (i := 15) (v := .slice a6 pm c6) rfl (by kernel_rfl) (by kernel_rfl) (by kernel_rfl) (fun _ _ _ h => h) (Or.inl ⟨by rfl, ?_⟩) hHeld ?_
        · intro w' hSw
          try simp only [Act.put, List.getElem_toArray, List.getElem_cons_succ, List.getElem_cons_zero, List.setIfInBounds_toArray, List.set_cons_zero, List.set_cons_succ]
          go_simp
        try simp only [Act.put, List.getElem_toArray, List.getElem_cons_succ, List.getElem_cons_zero, List.setIfInBounds_toArray, List.set_cons_zero, List.set_cons_succ]
        refine wpAnyH_take (i := 16) (v := .int .i64 0) rfl (by kernel_rfl) (by kernel_rfl) (by kernel_rfl) (fun _ _ _ h => h) (Or.inl ⟨by rfl, ?_⟩) hHeld ?_
        · intro w' hSw
          try simp only [Act.put, List.getElem_toArray, List.getElem_cons_succ, List.getElem_cons_zero, List.setIfInBounds_toArray, List.set_cons_zero, List.set_cons_succ]
          go_simp
        try simp only [Act.put, List.getElem_toArray, List.getElem_cons_succ, List.getElem_cons_zero, List.setIfInBounds_toArray, List.set_cons_zero, List.set_cons_succ]
        clear hHeld
        refine wpAnyH_done (by kernel_rfl) ?_ _
        go_wp2
        go_roundw
        case rel => exact ⟨k + 1, P, a6, c6, by go_num, by omega, by rw [hpl], HRN.out, by show w6.ownsRow _ _ _ _ P.length _; rw [hpl]; exact HO6.out, HW6.out, by omega, HT6.out⟩
        case measure => simp [intOf]; omega
    · have h1 : ¬ (k : Int) < mm := by omega
      have hkN : k = l.length := by rw [← HM.out]; omega
      have hob : ∀ x, (Value.slice a xs.length c0).ownBlock = some x → w.heap.size ≤ x ∧ x < wr.heap.size := fun x hx => World.ownsRow.lt hown x hx
      have HRR : Hid (R = if xs.length + 1 > 64 then none else some (xs ++ [insO 28 0])) := by show _ = _; rw [hR, hkN, List.drop_length]; rfl
      have hI : InsIn (wr.alloc (.cells #[.int .u8 28, .int .i64 0, .int .u64 0] 78)) (some ⟨wr.heap.size, 0, none⟩) 1 1 [insO 28 0] := ins_one_in wr (insO 28 0) (insO_wf (by omega) (by omega) (by omega) (by omega))
      have tI : Touch wr (wr.alloc (.cells #[.int .u8 28, .int .i64 0, .int .u64 0] 78)) [] := (Touch.refl _ _).alloc _
      have sI : (wr.alloc (.cells #[.int .u8 28, .int .i64 0, .int .u64 0] 78)).heap.size = wr.heap.size + 1 := by simp
      have HROW : Hid (HidC Tryz.prog 55 #[.slice (some ⟨wr.heap.size, 0, none⟩) 1 1] (wr.alloc (.cells #[.int .u8 28, .int .i64 0, .int .u64 0] 78)) fun e w' => ∃ v, e = .returned v ∧ Touch (wr.alloc (.cells #[.int .u8 28, .int .i64 0, .int .u64 0] 78)) w' [] ∧ PcOk wr.heap.size w'.heap.size w' v (rowF [insO 28 0])) := ⟨row_any hI (by simp) (fun x hx => by simp [Value.ownBlock] at hx; rw [sI]; omega) (by rw [sI]; omega)⟩
      have HJ : Hid (∀ w2 p, Touch (wr.alloc (.cells #[.int .u8 28, .int .i64 0, .int .u64 0] 78)) w2 [] → PcOk wr.heap.size w2.heap.size w2 p (rowF [insO 28 0]) → HidC Tryz.prog 51 #[.slice a xs.length c0, .slice (some ⟨w2.heap.size, 0, none⟩) 1 1] (w2.alloc (.cells #[p] 105)) fun e w' => BuP w R e w') := by
        intro w2 p t2 k2
        have tA : Touch w2 (w2.alloc (.cells #[p] 105)) [] := (Touch.refl _ _).alloc _
        have h5 : (w2.alloc (.cells #[p] 105)).heap.size = w2.heap.size + 1 := by simp
        have tt : Touch wr (w2.alloc (.cells #[p] 105)) [] := (tI.trans t2 (by simp)).trans tA (by simp)
        have h2s := t2.size
        have hTs := hT.size
        refine ⟨(joinedC_any (w := w2.alloc (.cells #[p] 105)) (B := w.heap.size) (lo := wr.heap.size) (g := w2.heap.size) (cap := 1) (c0 := c0) (n0 := xs.length) (N := 1) (a0 := a) (xs0 := xs) (fs := [rowF [insO 28 0]]) (v0 := .slice a xs.length c0) rfl rfl rfl (ownsRow_touch hown tt (by simp)) hwf hle (by have := tt.size; omega) (fun x hx => ⟨fun e => by have := hob x hx; have := HW.out.lt; omega, (hob x hx).2⟩) ⟨by omega, by omega, fun j hj => ?_⟩ (by simp)).mono ?_⟩
        · have hn := heap_alloc_new w2 (.cells #[p] 105)
          match j, hj with
          | 0, _ => exact ⟨p, by unfold World.cell?; rw [hn]; rfl, k2.later tA (by omega)⟩
        · rintro e w6 (⟨hr, rfl, t6⟩ | ⟨P, a6, c6, hr, rfl, o6, wf6, le6, t6, b6⟩)
          · have hn : R = none := by
              rw [HRR.out]
              by_cases h : xs.length + 1 > 64
              · rw [if_pos h]
              · rw [jn_go (f := rowF [insO 28 0]) rfl (by show xs.length + 1 ≤ 64; omega)] at hr
                cases hr
            exact .inl ⟨hn, rfl, (hT.trans tt (by simp)).trans t6 (fun x hx => .inr (hob x (by simpa using hx)).1)⟩
          · have hn : R = some P := by
              rw [HRR.out]
              by_cases h : xs.length + 1 > 64
              · rw [jn_no (f := rowF [insO 28 0]) (.inr h)] at hr
                cases hr
              · rw [jn_go (f := rowF [insO 28 0]) rfl (by show xs.length + 1 ≤ 64; omega)] at hr
                rw [if_neg h]
                exact hr
            obtain ⟨a7, c7, e7, i7⟩ := insIn_of o6 wf6
            cases e7
            exact .inr ⟨P, a6, c6, hn, rfl, i7, (hT.trans tt (by simp)).trans t6 (fun x hx => .inr (hob x (by simpa using hx)).1)⟩
      clear hR hown hwf hT hob hI tI sI HRR
      generalize hxl : xs.length = m at *
      go_wp2_with fail
      refine HROW.out.out.mono ?_
      rintro e w2 ⟨p, rfl, t2, k2⟩
      have e2 := k2
      obtain ⟨fn, cp, rfl, -⟩ := e2
      have HJ2 := HJ.out _ _ t2 k2
      clear t2 k2 HJ HROW
      go_wp2_with fail
      refine HJ2.out.mono ?_
      clear HJ2
      rintro e w6 hb
      have hb' := hb
      rcases hb' with ⟨_, rfl, _⟩ | ⟨P, a6, c6, _, rfl, _, _⟩
      · have HB : Hid (BuP w R (.returned (.tuple #[.slice none 0 0, .int .i64 4])) w6) := hb
        clear hb
        go_wp2
        exact bodyPost_ret (v := .tuple #[.slice none 0 0, .int .i64 4]) (by simp [results, Tryz.results30, go_sem]) rfl HB.out
      · have HB : Hid (BuP w R (.returned (.tuple #[.slice a6 P.length c6, .int .i64 0])) w6) := hb
        clear hb
        generalize P.length = pm at *
        go_wp2
        exact bodyPost_ret (v := .tuple #[.slice a6 pm c6, .int .i64 0]) (by simp [results, Tryz.results30, go_sem]) rfl HB.out

end Go.Proofs.YtcbkafbchpjnoaaGreatDoor

/-
  THE DOCUMENT's LOG (package rowlockref07): frames, the first one first. What it is; New, Depth, Len, Get BY THEIR CONTRACTS.
-/
import Derived.Test.YtmiaibpdeofokaaDoorWritesAll
namespace Go.Proofs.YtmiaibpdeofokaaDoor
set_option linter.unusedVariables false
set_option linter.unusedSimpArgs false
open Go.RowKit Go.Maps Go.Shelf

/-- A frame's cells. -/
def frC (f : Fr) : List Value := f.map (fun o => Value.bool o.isSome) ++ f.map (fun o => Value.int .u64 (o.getD 0))
theorem frC_len {f : Fr} (h : FrOk f) : (frC f).length = 24 := by simp [frC, h.len]

structure RLog (B : Nat) (w : World) (b : Nat) (vl : Value) (Rs : List Fr) : Prop where
  hb : B ≤ b
  st : w.heap[b]? = some (.cells #[vl] 124 (0, 0))
  own : w.ownsRow B 138 24 vl Rs.length (Rs.flatMap frC)
  ok : ∀ f ∈ Rs, FrOk f
  pos : 0 < Rs.length
  le : Rs.length ≤ 5
def rfoot (b : Nat) (vl : Value) : List Nat := b :: vl.ownBlock.toList

theorem frF_len {Rs : List Fr} (h : ∀ f ∈ Rs, FrOk f) : (Rs.flatMap frC).length = Rs.length * 24 := by
  induction Rs with
  | nil => rfl
  | cons a l ih =>
    rw [List.flatMap_cons, List.length_append, frC_len (h a (by simp)), ih (fun f hf => h f (List.mem_cons_of_mem _ hf))]
    simp; omega

theorem frF_get {Rs : List Fr} (h : ∀ f ∈ Rs, FrOk f) (k : Nat) (hk : k < Rs.length) (j : Nat) (hj : j < 24) : (Rs.flatMap frC)[k * 24 + j]? = (frC Rs[k])[j]? := by
  induction Rs generalizing k with
  | nil => simp at hk
  | cons a l ih =>
    rw [List.flatMap_cons]
    have ha := frC_len (h a (by simp))
    cases k with
    | zero => rw [List.getElem?_append_left (by rw [ha]; omega)]; simp
    | succ k =>
      rw [List.getElem?_append_right (by rw [ha]; omega)]
      simp only [List.length_cons] at hk
      have := ih (fun f hf => h f (List.mem_cons_of_mem _ hf)) k (by omega)
      simp only [List.getElem_cons_succ]
      rw [← this, ha]
      congr 1
      omega

theorem frC_has {f : Fr} (h : FrOk f) (t : Nat) (ht : t < 12) : (frC f)[t]? = some (.bool (fget f t).isSome) := by
  have h12 := h.len
  unfold frC fget
  rw [List.getElem?_append_left (by simp; omega), List.getElem?_map, if_pos (by omega), List.getD_eq_getElem?_getD, Int.toNat_natCast, List.getElem?_eq_getElem (by omega)]
  rfl
theorem frC_val {f : Fr} (h : FrOk f) (t : Nat) (ht : t < 12) : (frC f)[12 + t]? = some (.int .u64 ((fget f t).getD 0)) := by
  have h12 := h.len
  unfold frC fget
  rw [List.getElem?_append_right (by simp; omega), List.getElem?_map, if_pos (by omega), List.getD_eq_getElem?_getD, Int.toNat_natCast]
  simp only [List.length_map, h12]
  rw [show 12 + t - 12 = t by omega, List.getElem?_eq_getElem (by omega)]
  rfl

/-- Where the frames lie. -/
theorem RLog.row {B : Nat} {w : World} {b : Nat} {vl : Value} {Rs : List Fr} (h : RLog B w b vl Rs) : ∃ g cap, vl = .slice (some ⟨g, 0, none⟩) Rs.length cap ∧ g < w.heap.size ∧
    ∀ k (hk : k < Rs.length) t, t < 12 → w.cell? ⟨g, k * 24 + t, none⟩ = some (.bool (fget Rs[k] t).isSome) ∧ w.cell? ⟨g, k * 24 + 12 + t, none⟩ = some (.int .u64 ((fget Rs[k] t).getD 0)) := by
  have hp := h.pos
  rcases h.own.2 with ⟨_, h0⟩ | ⟨g, cap, cur, rfl, hB, hg, rest⟩
  · omega
  · refine ⟨g, cap, rfl, lt_of_heap hg, fun k hk t ht => ⟨?_, ?_⟩⟩
    · have hc := h.own.cells (g := g) rfl (k * 24 + t) _ ((frF_get h.ok k hk t (by omega)).trans (frC_has (h.ok _ (List.getElem_mem hk)) t ht))
      rw [Addr.add_lit] at hc
      simpa using hc
    · have hc := h.own.cells (g := g) rfl (k * 24 + (12 + t)) _ ((frF_get h.ok k hk (12 + t) (by omega)).trans (frC_val (h.ok _ (List.getElem_mem hk)) t ht))
      rw [Addr.add_lit] at hc
      simpa [Nat.add_assoc] using hc

theorem RLog.keep {B : Nat} {w w' : World} {b : Nat} {vl : Value} {Rs : List Fr} {S : List Nat} (h : RLog B w b vl Rs) (t : Touch w w' S) (hS : ∀ x ∈ rfoot b vl, x ∉ S) : RLog B w' b vl Rs :=
  { h with
    st := (t.block _ (lt_of_heap h.st) (hS _ (by simp [rfoot]))).trans h.st
    own := ownsRow_touch h.own t (fun k hk => hS k (by simp [rfoot, hk])) }
theorem RLog.touch {B : Nat} {w w' : World} {b : Nat} {vl : Value} {Rs : List Fr} (h : RLog B w b vl Rs) (t : Touch w w' []) : RLog B w' b vl Rs := h.keep t (by simp)
theorem RLog.cell {B : Nat} {w : World} {b : Nat} {vl : Value} {Rs : List Fr} (h : RLog B w b vl Rs) : w.cell? ⟨b, 0, none⟩ = some vl ∧ w.frozen? ⟨b, 0, none⟩ = false := by simp [World.cell?, World.frozen?, h.st]
theorem RLog.foot_lt {B : Nat} {w : World} {b : Nat} {vl : Value} {Rs : List Fr} (h : RLog B w b vl Rs) : ∀ x ∈ rfoot b vl, B ≤ x ∧ x < w.heap.size := by
  intro x hx
  simp only [rfoot, List.mem_cons, Option.mem_toList] at hx
  rcases hx with rfl | hx
  · exact ⟨h.hb, lt_of_heap h.st⟩
  · rcases h.own.2 with ⟨rfl, _⟩ | ⟨g, cap, cur, rfl, hB, hg, rest⟩
    · simp [Value.ownBlock] at hx
    · obtain rfl : g = x := by simpa [Value.ownBlock] using hx
      exact ⟨hB, lt_of_heap hg⟩

set_option maxRecDepth 100000 in
theorem rnew_any (w : World) : Calls Tryd.prog 62 #[] w fun e w' => ∃ b vl, e = .returned (ptr b) ∧ RLog w.heap.size w' b vl [f0] ∧ Touch w w' [] := by
  go_enter Tryd.func62, Tryd.ntmps62
  go_wp2
  go_ret
  obtain ⟨cs, hcs⟩ : ∃ cs : Array Value, cs = #[.bool false, .bool false, .bool false, .bool false, .bool false, .bool false, .bool false, .bool false, .bool false, .bool false, .bool false, .bool false, .int .u64 0, .int .u64 0, .int .u64 0, .int .u64 0, .int .u64 0, .int .u64 0, .int .u64 0, .int .u64 0, .int .u64 0, .int .u64 0, .int .u64 0, .int .u64 0] := ⟨_, rfl⟩
  rw [← hcs]
  have hl : cs.toList = frC f0 := by rw [hcs]; rfl
  have hz : cs.size = 24 := by rw [hcs]; rfl
  have hg := heap_alloc_new w (.cells cs 138)
  have hb := heap_alloc_new (w.alloc (.cells cs 138)) (.cells #[.slice (some ⟨w.heap.size, 0, none⟩) 1 1] 124)
  rw [World.size_alloc] at hb
  refine ⟨w.heap.size + 1, .slice (some ⟨w.heap.size, 0, none⟩) 1 1, by simp, ⟨by omega, hb, ⟨by rw [frF_len (by simp [FrOk.f0])], .inr ⟨w.heap.size, 1, cs, rfl, Nat.le_refl _, (heap_alloc_old _ _ (lt_of_heap hg)).trans hg, Nat.le_refl _, by unfold maxLen; omega, by rw [hz], ?_⟩⟩, by simp [FrOk.f0], by simp, by simp⟩, ((Touch.refl w []).alloc _).alloc _⟩
  rw [hl]
  rfl

set_option maxRecDepth 100000 in
theorem rdepth_any {B : Nat} {w : World} {b : Nat} {vl : Value} {Rs : List Fr} (h : RLog B w b vl Rs) : Calls Tryd.prog 51 #[ptr b] w fun e w' => e = .returned (.int .i64 ((Rs.length : Int) - 1)) ∧ w = w' := by
  obtain ⟨g, cap, rfl, _, hrow⟩ := h.row
  obtain ⟨c0, _⟩ := h.cell
  have h5 := h.le
  have hp := h.pos
  clear h hrow
  generalize Rs.length = N at *
  go_enter Tryd.func51, Tryd.ntmps51
  go_wp2
  go_ret
  exact ⟨by go_num, rfl⟩

/-- How many of the first t variables a frame has. -/
def cntK (f : Fr) (t : Nat) : Nat := fcnt (f.take t)
theorem cntK_succ {f : Fr} (h : FrOk f) {t : Nat} (ht : t < 12) : cntK f (t + 1) = cntK f t + if (fget f t).isSome then 1 else 0 := by
  have hl : t < f.length := by rw [h.len]; exact ht
  have e : fget f t = f[t] := by
    unfold fget
    rw [if_pos (by omega), List.getD_eq_getElem?_getD, Int.toNat_natCast, List.getElem?_eq_getElem hl]
    rfl
  rw [e]
  unfold cntK fcnt
  rw [List.take_succ_eq_append_getElem hl, List.filter_append, List.length_append]
  cases hq : f[t] <;> simp [List.filter]
theorem cntK_all {f : Fr} (h : FrOk f) : cntK f 12 = fcnt f := by
  unfold cntK
  rw [List.take_of_length_le (by rw [h.len]; exact Nat.le_refl _)]
theorem cntK_le (f : Fr) (t : Nat) : cntK f t ≤ t := by
  unfold cntK fcnt
  exact Nat.le_trans (List.length_filter_le _ _) (by simp; omega)
theorem lenF_le' {Rs : List Fr} (h : ∀ f ∈ Rs, FrOk f) (k : Nat) (hk : k ≤ 5) : lenF (Rs.take k) ≤ 60 := by
  have : ∀ l : List Fr, (∀ f ∈ l, FrOk f) → lenF l ≤ 12 * l.length := by
    intro l
    induction l with
    | nil => intro _; simp [lenF]
    | cons a l ih =>
      intro hh
      have h1 := ih (fun f hf => hh f (List.mem_cons_of_mem _ hf))
      have h2 := fcnt_le (hh a (by simp))
      simp only [lenF, List.map_cons, List.sum_cons, List.length_cons] at h1 ⊢
      omega
  have h2 := this (Rs.take k) (fun f hf => h f (List.mem_of_mem_take hf))
  have h3 : (Rs.take k).length ≤ 5 := by rw [List.length_take]; omega
  omega

set_option maxRecDepth 100000 in
set_option maxHeartbeats 1000000 in
theorem rlen_any {B : Nat} {w : World} {b : Nat} {vl : Value} {Rs : List Fr} (h : RLog B w b vl Rs) : Calls Tryd.prog 77 #[ptr b] w fun e w' => e = .returned (.int .i64 (lenF Rs : Nat)) ∧ Touch w w' [] := by
  obtain ⟨g, cap, rfl, hg, hrow⟩ := h.row
  obtain ⟨c0, _⟩ := h.cell
  have h5 := h.le
  obtain ⟨N, hN⟩ : ∃ N, N = Rs.length := ⟨_, rfl⟩
  have HN : Hid (N = Rs.length) := hN
  have HR : Hid _ := hrow
  have HOK : Hid _ := h.ok
  rw [← hN] at c0 h5
  clear h hrow hN
  go_enter Tryd.func77, Tryd.ntmps77
  go_wp2_with fail
  go_loopw [3, 4] (fun n i wr => ∃ k : Nat, i = .int .i64 k ∧ k ≤ N ∧ n = .int .i64 (lenF (Rs.take k) : Nat) ∧ Touch w wr []) (fun _ i _ => N - (intOf i).toNat)
  case atStart => exact ⟨0, rfl, Nat.zero_le _, rfl, Touch.refl _ _⟩
  case round =>
    obtain ⟨k, rfl, hk, rfl, hT⟩ := hrel
    have HT : Hid _ := hT
    have d0 := (hT.cell (p := ⟨b, 0, none⟩) (World.block_lt_of_cell? w _ c0) (by simp)).trans c0
    clear hT
    by_cases hlt : k < N
    · have hlt' : (k : Int) < N := by omega
      have hkl : k < Rs.length := by rw [← HN.out]; exact hlt
      have hok := HOK.out _ (List.getElem_mem hkl)
      have hsn := lenF_snoc hkl
      have h60 := lenF_le' HOK.out (k + 1) (by omega)
      have hca := cntK_all hok
      obtain ⟨f, hf⟩ : ∃ f, f = Rs[k] := ⟨_, rfl⟩
      have hcell : ∀ t, t < 12 → wr.cell? ⟨g, k * 24 + t, none⟩ = some (.bool (fget f t).isSome) := fun t ht => by
        rw [hf]; exact (HT.out.cell (p := ⟨g, k * 24 + t, none⟩) hg (by simp)).trans (HR.out k hkl t ht).1
      rw [← hf] at hok hsn hca
      have HC : Hid _ := hcell
      have HSN : Hid _ := hsn
      clear hcell hf
      generalize lenF (Rs.take k) = n0 at *
      rw [HSN.out] at h60
      go_wp2_with fail
      go_loopw [3, 5] (fun n t wx => ∃ j : Nat, t = .int .i64 j ∧ j ≤ 12 ∧ n = .int .i64 ((n0 + cntK f j : Nat) : Int) ∧ wx = wr) (fun _ t _ => 12 - (intOf t).toNat)
      case atStart => exact ⟨0, rfl, by omega, by simp [cntK, fcnt], rfl⟩
      case round =>
        obtain ⟨j, rfl, hj, rfl, rfl⟩ := hrel
        by_cases hjt : j < 12
        · have hjt' : (j : Int) < 12 := by omega
          have hcs := cntK_succ hok hjt
          have hcl := cntK_le f j
          have m0 := HC.out j hjt
          cases hq : (fget f j).isSome
          all_goals
            rw [hq] at hcs m0
            simp only [Bool.false_eq_true, if_false, if_true] at hcs
            go_wp2
            go_roundw
            case rel => exact ⟨j + 1, by go_num, by omega, by rw [hcs]; go_num, by first | rfl | trivial⟩
            case measure => simp [intOf]; omega
        · obtain rfl : j = 12 := by omega
          rw [hca]
          go_wp2
          exact ⟨⟨k + 1, by go_num, by omega, by rw [HSN.out], HT.out⟩, by simp [intOf]; omega⟩
    · obtain rfl : k = N := by omega
      have he : Rs.take k = Rs := List.take_of_length_le (by rw [← HN.out]; exact Nat.le_refl _)
      rw [he]
      clear he
      go_wp2
      go_ret
      exact ⟨rfl, HT.out⟩

/-- The last one that has it. -/
theorem getF_rev_hit {Rs : List Fr} {t v : Int} {k : Nat} (hk : k < Rs.length) (hno : ∀ f ∈ Rs.drop (k + 1), fget f t = none) (hv : fget Rs[k] t = some v) : getF Rs.reverse t = some v := by
  unfold getF
  have e : Rs = Rs.take k ++ (Rs[k] :: Rs.drop (k + 1)) := by rw [← List.drop_eq_getElem_cons hk, List.take_append_drop]
  have e2 : Rs.reverse = (Rs.drop (k + 1)).reverse ++ (Rs[k] :: (Rs.take k).reverse) := by
    conv => lhs; rw [e]
    simp
  rw [e2, List.findSome?_append, List.findSome?_eq_none_iff.2 (by intro f hf; exact hno f (by simpa using hf)), List.findSome?_cons, hv]
  rfl
theorem getF_rev_none {Rs : List Fr} {t : Int} (hno : ∀ f ∈ Rs, fget f t = none) : getF Rs.reverse t = none := List.findSome?_eq_none_iff.2 (by intro f hf; exact hno f (by simpa using hf))


end Go.Proofs.YtmiaibpdeofokaaDoor

/-
  Tvars of both sets, BY THEIR CONTRACTS.
-/
import Derived.Test.YtbiinldodhkkbaaReadsLists
import Derived.Maps.RangeWalk
namespace Go.Proofs.Ytbiinldodhkkbaa
set_option linter.unusedVariables false
set_option linter.unusedSimpArgs false
open Go.RowKit Go.Maps

theorem Try.info_int : (Try.prog.info? 3).map (fun i => (i.zero, i.size, i.bytes)) = some (some (.int .i64 0), 1, 8) := by kernel_rfl

/-- The variables, rising. -/
def tvarsP (L : List EntD) (n : Nat) : List Int := ((List.range n).filter fun (t : Nat) => hasT L t).map fun (t : Nat) => (t : Int)

theorem tvarsP_in {L : List EntD} {k : Nat} (h : hasT L k = true) : tvarsP L (k + 1) = tvarsP L k ++ [(k : Int)] := by
  unfold tvarsP
  rw [List.range_succ, List.filter_append, List.map_append]
  simp [List.filter, h]
theorem tvarsP_out {L : List EntD} {k : Nat} (h : hasT L k = false) : tvarsP L (k + 1) = tvarsP L k := by
  unfold tvarsP
  rw [List.range_succ, List.filter_append, List.map_append]
  simp [List.filter, h]
theorem tvarsP_le (L : List EntD) (k : Nat) : (tvarsP L k).length ≤ k := by
  unfold tvarsP
  rw [List.length_map]
  exact Nat.le_trans (List.length_filter_le _ _) (by simp)

set_option maxRecDepth 100000 in
set_option maxHeartbeats 1000000 in
theorem rtvars_any {B : Nat} {w : World} {b : Nat} {vl : Value} {L : List EntD} (h : RfSet B w b vl L) :
    Calls Try.prog 31 #[.pointer (some ⟨b, 0, none⟩)] w fun x w' => ∃ v, x = .returned v ∧ w'.ownsRow w.heap.size 3 1 v (tvarsP L 12).length ((tvarsP L 12).map (Value.int .i64)) ∧ Touch w w' [] := by
  obtain ⟨i0, hi, hz0, hz1, hz2⟩ := info_parts Try.info_int
  have HS : Hid _ := h
  clear h
  go_enter Try.func31, Try.ntmps31
  go_wp2_with fail
  go_loopw [3, 4] (fun v i wr => ∃ k : Nat, i = .int .i64 k ∧ k ≤ 12 ∧ wr.ownsRow w.heap.size 3 1 v (tvarsP L k).length ((tvarsP L k).map (Value.int .i64)) ∧ Touch w wr []) (fun _ i _ => 12 - (intOf i).toNat)
  case atStart => exact ⟨0, rfl, by omega, World.ownsRow_nil _ _ _ _, Touch.refl _ _⟩
  case round =>
    obtain ⟨k, rfl, hk, hrow, hT⟩ := hrel
    by_cases hlt : k < 12
    · have hlt' : (k : Int) < 12 := by omega
      have hgt := rget_any (HS.out.keep hT (by simp)) k
      obtain ⟨z, hz⟩ : ∃ z, z = (getT L k).getD ⟨0, 0, 0⟩ := ⟨_, rfl⟩
      rw [show entO (getT L k) = .agg #[.int .i64 z.tvar, .int .u64 z.val, .int .u64 z.ver] by rw [hz]; rfl] at hgt
      have hle := tvarsP_le L k
      have HT : Hid _ := hT
      clear hz hT
      cases hh : hasT L k
      · rw [hh] at hgt
        have HSN : Hid _ := tvarsP_out hh
        clear hh
        go_wp2_with fail
        refine hgt.mono ?_
        rintro e w3 ⟨rfl, t3⟩
        clear hgt
        have HR : Hid (w3.ownsRow w.heap.size 3 1 _ _ _) := ownsRow_touch hrow t3 (by simp)
        have T3 := HT.out.trans t3 (by simp)
        clear hrow t3
        go_wp2
        go_roundw
        case rel => exact ⟨k + 1, by go_num, by omega, by rw [HSN.out]; exact HR.out.alloc _, T3.alloc _⟩
        case measure => simp [intOf]; omega
      · rw [hh] at hgt
        have HSN : Hid _ := tvarsP_in hh
        clear hh
        go_wp2_with fail
        refine hgt.mono ?_
        rintro e w3 ⟨rfl, t3⟩
        clear hgt
        have hrow3 : (w3.alloc (.cells #[.int .i64 z.tvar, .int .u64 z.val, .int .u64 z.ver] 41)).ownsRow w.heap.size 3 1 _ _ _ := (ownsRow_touch hrow t3 (by simp)).alloc _
        have T3 := HT.out.trans t3 (by simp)
        have hs3 := T3.size
        clear hrow t3
        go_wp2_with (at_builtin; refine wpList_append_own_at _ rfl _ _ 49 rfl w.heap.size 3 i0 (.int .i64 0) 1 8 Try.underlying49 hi hz0 hz1 hz2 rfl (by decide) _ _ _ rfl (hrow3.alloc _) ⟨w3.heap.size + 1, 0, none⟩ 1 1 [.int .i64 (k : Int)] rfl rfl (by have := cell_one_new (w3.alloc (.cells #[.int .i64 z.tvar, .int .u64 z.val, .int .u64 z.ver] 41)) (.int .i64 (k : Int)) 3; simpa using this) (by simp [Value.oneCell']) (by unfold maxLen; omega) (by omega) (by simp; omega) ?_)
        intro v' w4 hown' hgrow _ _
        have t4 : Touch w w4 [] := ((T3.alloc _).alloc _).grown hgrow (fun q hq => .inr (hrow3.lt q hq).1)
        have HR : Hid (w4.ownsRow w.heap.size 3 1 _ _ _) := hown'
        clear hown' hgrow hrow3
        go_wp2
        go_roundw
        case rel => exact ⟨k + 1, by go_num, by omega, by rw [HSN.out, List.length_append, List.map_append]; exact HR.out, t4⟩
        case measure => simp [intOf]; omega
    · obtain rfl : k = 12 := by omega
      have HR : Hid (wr.ownsRow w.heap.size 3 1 _ _ _) := hrow
      clear hrow
      go_wp2
      go_ret
      exact ⟨_, rfl, HR.out, hT⟩

theorem ownsRow_lower {w : World} {B B' : Nat} {e : TypeId} {size : Nat} {v : Value} {n : Nat} {xs : List Value} (h : w.ownsRow B e size v n xs) (hB : B' ≤ B) : w.ownsRow B' e size v n xs := by
  refine ⟨h.1, ?_⟩
  rcases h.2 with hn | ⟨g, cap, cur, rfl, hb, rest⟩
  · exact .inl hn
  · exact .inr ⟨g, cap, cur, rfl, Nat.le_trans hB hb, rest⟩
theorem ownsRow_grown {w w' : World} {B : Nat} {e : TypeId} {size : Nat} {v : Value} {n : Nat} {xs : List Value} {row : Option Nat} (h : w.ownsRow B e size v n xs) (hg : w.grownBy w' row) (hne : ∀ q, v.ownBlock = some q → some q ≠ row) : w'.ownsRow B e size v n xs := by
  refine ⟨h.1, ?_⟩
  rcases h.2 with hn | ⟨g, cap, cur, rfl, hb, hgg, rest⟩
  · exact .inl hn
  · exact .inr ⟨g, cap, cur, rfl, hb, (hg.block g (lt_of_heap hgg) (hne g rfl)).trans hgg, rest⟩

/-- The keys that came so far. -/
structure Came (L : List EntD) (left : Lit → Bool) (ks : List Int) : Prop where
  nodup : ks.Nodup
  mem : ∀ t, t ∈ ks ↔ hasT L t = true ∧ left (.int .i64 t) = false

theorem Came.step {L : List EntD} {left : Lit → Bool} {ks : List Int} (h : Came L left ks) {x : Int} (hx : hasT L x = true) (hl : left (.int .i64 x) = true) : Came L (fun z => left z && !z.sameKey (.int .i64 x)) (ks ++ [x]) := by
  have hn : x ∉ ks := fun hm => by rw [h.mem] at hm; rw [hl] at hm; simp at hm
  refine ⟨?_, fun t => ?_⟩
  · rw [List.nodup_append]
    refine ⟨h.nodup, by simp, ?_⟩
    intro a ha b hb
    simp only [List.mem_cons, List.not_mem_nil, or_false] at hb
    subst hb
    rintro rfl
    exact hn ha
  · simp only [List.mem_append, List.mem_cons, List.not_mem_nil, or_false]
    by_cases ht : t = x
    · subst ht
      have hs : (Lit.int .i64 t).sameKey (.int .i64 t) = true := by simp [Lit.sameKey]
      simp [hs, hx]
    · have hs : (Lit.int .i64 t).sameKey (.int .i64 x) = false := sameKey_ne (fun e => ht (by injection e))
      rw [h.mem, hs]
      simp [ht]

theorem mem_tvarsP {L : List EntD} {t : Int} : t ∈ tvarsP L 12 ↔ 0 ≤ t ∧ t < 12 ∧ hasT L t = true := by
  unfold tvarsP
  simp only [List.mem_map, List.mem_filter, List.mem_range]
  constructor
  · rintro ⟨a, ⟨h1, h2⟩, rfl⟩
    exact ⟨by omega, by omega, h2⟩
  · rintro ⟨h0, h1, h2⟩
    exact ⟨t.toNat, ⟨by omega, by rw [Int.toNat_of_nonneg h0]; exact h2⟩, by omega⟩

theorem tvarsP_rising (L : List EntD) (k : Nat) : (tvarsP L k).Pairwise (· < ·) := by
  unfold tvarsP
  rw [List.pairwise_map]
  exact (List.pairwise_lt_range.filter _).imp (by intro a b h; exact_mod_cast h)

theorem eq_of_rising : ∀ (a b : List Int), a.Pairwise (· < ·) → b.Pairwise (· < ·) → (∀ x, x ∈ a ↔ x ∈ b) → a = b := by
  intro a
  induction a with
  | nil =>
    intro b _ _ h
    cases b with
    | nil => rfl
    | cons y b => exact absurd ((h y).2 (by simp)) (by simp)
  | cons x a ih =>
    intro b ha hb h
    cases b with
    | nil => exact absurd ((h x).1 (by simp)) (by simp)
    | cons y b =>
      rw [List.pairwise_cons] at ha hb
      have hx := (h x).1 (by simp)
      have hy := (h y).2 (by simp)
      rw [List.mem_cons] at hx hy
      obtain rfl : x = y := by
        rcases hx with e | e
        · exact e
        · rcases hy with e2 | e2
          · exact e2.symm
          · have := hb.1 x e
            have := ha.1 y e2
            omega
      congr 1
      refine ih b ha.2 hb.2 fun z => ⟨fun hz => ?_, fun hz => ?_⟩
      · have h1 := (h z).1 (by simp [hz])
        rw [List.mem_cons] at h1
        rcases h1 with e | e
        · have := ha.1 z hz
          omega
        · exact e
      · have h1 := (h z).2 (by simp [hz])
        rw [List.mem_cons] at h1
        rcases h1 with e | e
        · have := hb.1 z hz
          omega
        · exact e

theorem sort_came {L : List EntD} (hL : SetL L) {left : Lit → Bool} {ks : List Int} (h : Came L left ks) (hl : ∀ k, left k = false) : (ks.mergeSort fun x y => decide (x ≤ y)) = tvarsP L 12 := by
  have hp := List.mergeSort_perm ks (fun x y => decide (x ≤ y))
  have hs := List.pairwise_mergeSort (le := fun (x y : Int) => decide (x ≤ y)) (by intro a b c h1 h2; simp at *; omega) (by intro a b; simp; omega) ks
  have hnd : (ks.mergeSort fun x y => decide (x ≤ y)).Nodup := hp.nodup_iff.2 h.nodup
  refine eq_of_rising _ _ ?_ (tvarsP_rising L 12) fun x => ?_
  · refine (hs.and hnd).imp ?_
    rintro a b ⟨h1, h2⟩
    have h1' : a ≤ b := by simpa using h1
    omega
  · rw [hp.mem_iff, h.mem, mem_tvarsP, hl]
    constructor
    · rintro ⟨hh, _⟩
      have hh' := hh
      unfold hasT at hh'
      rw [List.any_eq_true] at hh'
      obtain ⟨e, he, het⟩ := hh'
      have hr := (hL.ok e he).range
      have : e.tvar = x := by simpa using het
      exact ⟨by omega, by omega, hh⟩
    · rintro ⟨_, _, hh⟩
      exact ⟨hh, rfl⟩

/-- slices.Sort, by its contract. -/
structure SortOk : Prop where
  none : ∀ w : World, Calls Try.prog 39 #[.slice none 0 0] w fun e w' => e = .returned (.tuple #[]) ∧ w = w'
  own : ∀ {w : World} {base g cap : Nat} {zs : List Int}, w.ownsRow base 3 1 (.slice (some ⟨g, 0, .none⟩) zs.length cap) zs.length (zs.map (Value.int .i64)) → zs.length ≤ 1000 →
    Calls Try.prog 39 #[.slice (some ⟨g, 0, .none⟩) zs.length cap] w fun e w' => e = .returned (.tuple #[]) ∧ w'.ownsRow base 3 1 (.slice (some ⟨g, 0, .none⟩) zs.length cap) zs.length ((zs.mergeSort fun x y => decide (x ≤ y)).map (Value.int .i64)) ∧ w.grownBy w' (some g)

/-- .. of whatever the call has made. -/
theorem SortOk.any (S : SortOk) {w : World} {base : Nat} {v : Value} {zs : List Int} (h : w.ownsRow base 3 1 v zs.length (zs.map (Value.int .i64))) (hz : zs.length ≤ 1000) :
    Calls Try.prog 39 #[v] w fun e w' => e = .returned (.tuple #[]) ∧ w'.ownsRow base 3 1 v zs.length ((zs.mergeSort fun x y => decide (x ≤ y)).map (Value.int .i64)) ∧ w.grownBy w' v.ownBlock := by
  rcases h.2 with ⟨rfl, h0⟩ | ⟨g, cap, cur, rfl, _⟩
  · have hzs : zs = [] := List.eq_nil_of_length_eq_zero h0
    subst hzs
    refine (S.none w).mono ?_
    rintro e w' ⟨rfl, rfl⟩
    exact ⟨rfl, by simpa using h, ⟨rfl, rfl, rfl, Nat.le_refl _, fun _ _ _ => rfl⟩⟩
  · exact S.own h hz

set_option maxRecDepth 100000 in
set_option maxHeartbeats 1000000 in
theorem tvars_any (S : SortOk) {B : Nat} {w : World} {b m : Nat} {vl : Value} {L : List EntD} (h : RdSet B w b m vl L) :
    Calls Try.prog 24 #[.pointer (some ⟨b, 0, none⟩)] w fun x w' => ∃ v, x = .returned v ∧ w'.ownsRow w.heap.size 3 1 v (tvarsP L 12).length ((tvarsP L 12).map (Value.int .i64)) ∧ Touch w w' [] := by
  obtain ⟨i0, hi, hz0, hz1, hz2⟩ := info_parts Try.info_int
  obtain ⟨c0, c1, f0, f1⟩ := h.cells
  obtain ⟨D, hD, hI⟩ := h.map
  have HS : Hid _ := h
  have h8 := h.sl.len
  clear h
  go_enter Try.func24, Try.ntmps24
  go_wp2_with (first
    | (at_range; refine wpList_range_own _ rfl _ 54 rfl 3 3 law_int Try.underlying54 _ m L.length _ rfl hD ?_; intro w0 hrg0 hg0 hs0)
    | go_in)
  go_frame
  have T0 : Touch w w0 [] := (Touch.refl w []).grown hg0 (by simp)
  have hsz0 := hrg0.owns.size_le
  go_loopw [3] (fun v wr => ∃ (left : Lit → Bool) (cnt : Nat) (ks : List Int), wr.ranges Try.prog 3 (plainElem (H := Unit) Try.prog 3) m w.heap.size L.length D left cnt ∧ wr.ownsRow (w.heap.size + 1) 3 1 v ks.length (ks.map (Value.int .i64)) ∧ Came L left ks ∧ ks.length + cnt ≤ L.length ∧ Touch w wr [])
    (fun _ wr => wr.rangeLeft m w.heap.size)
  case atStart => exact ⟨_, _, [], hrg0, World.ownsRow_nil _ _ _ _, ⟨by simp, fun t => by simp [hI.has]⟩, by simpa using hsz0, T0⟩
  case round =>
    obtain ⟨left, cnt, ks, hrg, hrow, hC, hle, hT⟩ := hrel
    go_wp2_with (first
      | (at_next; refine wpList_next_ranges_ii _ rfl _ rfl 3 3 .i64 .i64 law_int Try.underlying3 Try.underlying3 m w.heap.size L.length _ _ _ rfl hrg ?_ ?_)
      | go_in)
    · intro hc0 hl0
      have hsrt := S.any hrow (by omega)
      have hse := sort_came HS.out.sl hC hl0
      have hlt : (tvarsP L 12).length = ks.length := by rw [← hse]; exact List.length_mergeSort ks
      have hfoot : ∀ q, u3.ownBlock = some q → w.heap.size ≤ q := fun q hq => by have := (hrow.lt q hq).1; omega
      have HF : Hid _ := hfoot
      have HL : Hid _ := And.intro hse hlt
      obtain ⟨a3, c3, rfl⟩ := RdSet.owns_form hrow
      clear hrg hrow hC hle hl0 hse hlt hfoot
      go_wp2_with fail
      refine hsrt.mono ?_
      rintro e w1 ⟨rfl, ho, hg⟩
      clear hsrt
      go_wp2
      go_ret
      refine ⟨_, rfl, ?_, hT.grown hg (fun q hq => .inr (HF.out q hq))⟩
      rw [← HL.out.1, List.length_mergeSort]
      exact ownsRow_lower ho (Nat.le_succ _)
    · intro x c w1 cnt1 hwx hwc hlx hat hrg1 hlt hg1 hs1 hen
      have hhx : hasT L x = true := by rw [← hI.has]; exact has_true_of_atKey hat
      have hC1 := hC.step hhx hlx
      have HM : Hid _ := hrg.left_eq
      have hrow1 : w1.ownsRow (w.heap.size + 1) 3 1 u3 ks.length (ks.map (Value.int .i64)) := ownsRow_grown hrow hg1 (fun q hq => by have := (hrow.lt q hq).1; simp; omega)
      have T1 : Touch w w1 [] := hT.grown hg1 (fun q hq => .inr (by simp at hq; omega))
      have hs1' := T1.size
      have hws : w.heap.size + 1 ≤ w1.heap.size := by rw [hs1]; have := hrg.lt; omega
      clear hC hrow hrg hs1 hs0
      have HRG : Hid (w1.ranges Try.prog 3 (plainElem (H := Unit) Try.prog 3) m w.heap.size L.length D (fun z => left z && !z.sameKey (.int .i64 x)) cnt1) := hrg1
      clear hrg1
      go_wp2_with (at_builtin; refine wpList_append_own_at _ rfl _ _ 49 rfl (w.heap.size + 1) 3 i0 (.int .i64 0) 1 8 Try.underlying49 hi hz0 hz1 hz2 rfl (by decide) _ _ _ rfl (hrow1.alloc _) ⟨w1.heap.size, 0, none⟩ 1 1 [.int .i64 x] rfl rfl (cell_one_new _ _ _) (by simp [Value.oneCell']) (by unfold maxLen; omega) (by omega) (by simp; omega) ?_)
      intro v' w4 hown' hgrow _ _
      have hml : m < w.heap.size := hD.lt
      have hnv : ∀ q, u3.ownBlock = some q → q ≠ m ∧ q ≠ w.heap.size := fun q hq => by have := (hrow1.lt q hq).1; omega
      have hrg4 := (World.ranges.alloc HRG.out (.cells #[.int .i64 x] 3)).kept hgrow (fun hh => (hnv m hh.symm).1 rfl) (fun hh => (hnv w.heap.size hh.symm).2 rfl)
      have t4 : Touch w w4 [] := (T1.alloc _).grown hgrow (fun q hq => .inr (by have := (hrow1.lt q hq).1; omega))
      have HR : Hid (w4.ownsRow (w.heap.size + 1) 3 1 _ _ _) := hown'
      have HG4 : Hid (w4.ranges Try.prog 3 (plainElem (H := Unit) Try.prog 3) m w.heap.size L.length D (fun z => left z && !z.sameKey (.int .i64 x)) cnt1) := hrg4
      clear hown' hgrow hrow1 hrg4 HRG
      go_wp2
      go_roundw
      case rel => exact ⟨_, cnt1, ks ++ [x], HG4.out, by rw [List.length_append, List.map_append]; exact HR.out, hC1, by simp; omega, t4⟩
      case measure => rw [World.ranges.left_eq HG4.out, HM.out]; exact hlt

end Go.Proofs.Ytbiinldodhkkbaa

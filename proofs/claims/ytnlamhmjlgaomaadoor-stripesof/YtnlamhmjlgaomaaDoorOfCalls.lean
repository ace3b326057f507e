/-
  Of and Stripes of both tables BY THEIR CONTRACTS.
-/
import Derived.Test.YtnlamhmjlgaomaaDoorOfPlain
import Derived.Test.YtnlamhmjlgaomaaDoorSortLays
import Derived.Test.YtnlamhmjlgaomaaDoorStripesPlay
import Derived.Test.YtnlamhmjlgaomaaDoorStripesHeld
import Derived.Sort.OwnSortedInts
import Derived.Lib.OwnBridge
import Derived.Maps.AppendAt
namespace Go.Proofs.YtnlamhmjlgaomaaDoor
set_option linter.unusedVariables false
set_option linter.unusedSimpArgs false
open Go.RowKit Go.Sort

theorem of_any {w : World} {b : Nat} {now : Int} {ws : List Int} (h : TObj w b now ws) (hp : 0 < ws.length) (v : Int) : Calls Tryd.prog 7 #[ptr b, .int .i64 v] w fun e w' => e = .returned (.int .i64 (ofP ws.length v)) ∧ w = w' := by
  have c1 := h.cSize
  have h8 : ws.length ≠ 0 := by omega
  unfold ofP
  generalize ws.length = n at *
  clear h
  by_cases h0 : 0 ≤ v
  · by_cases h1 : v < 12
    · rw [if_pos ⟨h0, h1⟩]
      have hz : ¬ (n : Int) = 0 := by omega
      go_enter Tryd.func7, Tryd.ntmps7
      go_wp2
      go_ret
      exact ⟨by go_num, rfl⟩
    · rw [if_neg (by omega)]
      have h0' : decide (v < 0) = false := decide_eq_false (by omega)
      have h1' : 12 ≤ v := by omega
      go_enter Tryd.func7, Tryd.ntmps7
      go_wp2
      go_ret
      exact ⟨by simp, rfl⟩
  · rw [if_neg (by omega)]
    have h0' : v < 0 := by omega
    go_enter Tryd.func7, Tryd.ntmps7
    go_wp2
    go_ret
    exact ⟨by simp, rfl⟩

theorem rof_any {B : Nat} {w : World} {b : Nat} {vw : Value} {now : Int} {ws : List Int} (h : RObj B w b vw now ws) (hp : 0 < ws.length) (v : Int) : Calls Tryd.prog 8 #[ptr b, .int .i64 v] w fun e w' => e = .returned (.int .i64 (ofP ws.length v)) ∧ w = w' := by
  obtain ⟨c0, _, _⟩ := h.cNow
  obtain ⟨g, cap, rfl, _⟩ := h.words hp
  unfold ofP
  generalize ws.length = n at *
  clear h
  by_cases h0 : 0 ≤ v
  · by_cases h1 : v < 12
    · rw [if_pos ⟨h0, h1⟩]
      have hz : ¬ (n : Int) = 0 := by omega
      go_enter Tryd.func8, Tryd.ntmps8
      go_wp2
      go_ret
      exact ⟨by go_num, rfl⟩
    · rw [if_neg (by omega)]
      have h0' : decide (v < 0) = false := decide_eq_false (by omega)
      have h1' : 12 ≤ v := by omega
      go_enter Tryd.func8, Tryd.ntmps8
      go_wp2
      go_ret
      exact ⟨by simp, rfl⟩
  · rw [if_neg (by omega)]
    have h0' : v < 0 := by omega
    go_enter Tryd.func8, Tryd.ntmps8
    go_wp2
    go_ret
    exact ⟨by simp, rfl⟩

/-- A slice of ints, that can be read. -/
def IntRow (w : World) (v : Value) (l : List Int) : Prop :=
  ∃ ao cap, v = .slice ao l.length cap ∧ (l ≠ [] → ∃ g off, ao = some ⟨g, off, none⟩ ∧ g < w.heap.size ∧ ∀ k (hk : k < l.length), w.cell? ⟨g, off + k, none⟩ = some (.int .i64 l[k]))

theorem IntRow.at {w : World} {ao : Option Addr} {cap : Nat} {l : List Int} (h : IntRow w (.slice ao l.length cap) l) (k : Nat) (hk : k < l.length) : ∃ g off, ao = some ⟨g, off, none⟩ ∧ g < w.heap.size ∧ w.cell? ⟨g, off + k, none⟩ = some (.int .i64 l[k]) := by
  obtain ⟨ao', cap', e, h1⟩ := h
  simp only [Value.slice.injEq, true_and] at e
  obtain ⟨rfl, rfl⟩ := e
  obtain ⟨g, off, rfl, hlt, hc⟩ := h1 (by intro e; rw [e] at hk; simp at hk)
  exact ⟨g, off, rfl, hlt, hc k hk⟩
theorem IntRow.touch {w w' : World} {v : Value} {l : List Int} (h : IntRow w v l) (t : Touch w w' []) : IntRow w' v l := by
  obtain ⟨ao, cap, e, h1⟩ := h
  refine ⟨ao, cap, e, fun hn => ?_⟩
  obtain ⟨g, off, rfl, hlt, hc⟩ := h1 hn
  exact ⟨g, off, rfl, Nat.lt_of_lt_of_le hlt t.size, fun k hk => (t.cell (p := ⟨g, _, none⟩) hlt (by simp)).trans (hc k hk)⟩

theorem sort_none (w : World) : Calls Tryd.prog 25 #[.slice none 0 0] w fun e w' => e = .returned (.tuple #[]) ∧ w = w' :=
  Calls.mono (Any.slices_Sort_int_none Tryd.Lays_n189 none 0 w) fun e w' h => ⟨h.1, h.2.symm⟩
theorem compact_none (w : World) : Calls Tryd.prog 26 #[.slice none 0 0] w fun e w' => e = .returned (.slice none 0 0) ∧ w = w' :=
  Calls.mono (Any.slices_Compact_int_empty Tryd.Lays2_n20 none 0 w) fun e w' h => ⟨h.1, h.2.symm⟩

theorem sort_own {w : World} {base g cap : Nat} {zs : List Int} (h : w.ownsRow base 3 1 (.slice (some ⟨g, 0, none⟩) zs.length cap) zs.length (zs.map (Value.int .i64))) (hz : zs.length ≤ 1000) :
    Calls Tryd.prog 25 #[.slice (some ⟨g, 0, none⟩) zs.length cap] w fun e w' => e = .returned (.tuple #[]) ∧ w'.ownsRow base 3 1 (.slice (some ⟨g, 0, none⟩) zs.length cap) zs.length ((zs.mergeSort fun x y => decide (x ≤ y)).map (Value.int .i64)) ∧ w.grownBy w' (some g) := by
  rcases h.2 with ⟨e0, _⟩ | ⟨g', cap', cur, e0, hbase, hb, h1, h2, h3, h4⟩
  · cases e0
  · injection e0 with e1 _ e3
    injection e1 with e1
    injection e1 with e1
    subst e1; subst e3
    refine Calls.mono (Any.slices_Sort_int Tryd.Lays_n189 g 0 cap zs w (holds_of_blockI hb (by simpa using h4)) (lt_of_heap hb) (by omega)) ?_
    rintro e w' ⟨rfl, n, os, rfl⟩
    exact ⟨rfl, ownsRow_sortedI (by simp) hbase hb h1 h2 h3, grownBy_sortedI _⟩

theorem compact_own {w : World} {base g cap : Nat} {zs : List Int} (h : w.ownsRow base 3 1 (.slice (some ⟨g, 0, none⟩) zs.length cap) zs.length (zs.map (Value.int .i64))) (hz : zs.length ≤ 1000) :
    Calls Tryd.prog 26 #[.slice (some ⟨g, 0, none⟩) zs.length cap] w fun e w' => e = .returned (.slice (some ⟨g, 0, none⟩) (Lib.compact zs).length cap) ∧ w'.ownsRow base 3 1 (.slice (some ⟨g, 0, none⟩) (Lib.compact zs).length cap) (Lib.compact zs).length ((Lib.compact zs).map (Value.int .i64)) ∧ Touch w w' [g] := by
  have hle := Lib.compact_length_le zs
  rcases h.2 with ⟨e0, _⟩ | ⟨g', cap', cur, e0, hbase, hb, h1, h2, h3, h4⟩
  · cases e0
  · injection e0 with e1 _ e3
    injection e1 with e1
    injection e1 with e1
    subst e1; subst e3
    refine Calls.mono (Any.slices_Compact_int Tryd.Lays2_n20 g 0 cap zs w (holds_of_blockI hb (by simpa using h4)) (by omega) (by omega)) ?_
    rintro e w' ⟨rfl, q, rfl⟩
    have ho := Lib.ownsRow_putRow (q := q) (k := (Lib.compact zs).length) (ys := Lib.compact zs ++ List.replicate (zs.length - (Lib.compact zs).length) 0) h (by simp; omega) hle
    rw [List.take_left] at ho
    refine ⟨rfl, ho, ⟨rfl, rfl, rfl, by simp [putRow, mapBlock, Sort.ahead], fun k _ hk => ?_⟩⟩
    have : g ≠ k := fun e => hk (by simp [e])
    simp [putRow, mapBlock, Sort.ahead, Array.getElem?_modify, this]

set_option maxRecDepth 100000 in
set_option maxHeartbeats 1000000 in
theorem tstripes_any {w : World} {b : Nat} {now : Int} {ws : List Int} (h : TObj w b now ws) (G : Good now ws) (ao : Option Addr) (cap : Nat) (l : List Int) (hl : l.length ≤ 1000) (hr : IntRow w (.slice ao l.length cap) l) :
    Calls Tryd.prog 10 #[ptr b, .slice ao l.length cap] w (HeldE w (stripesP ws.length l ws.length)) := by
  have HO : Hid _ := h
  have HR : Hid (IntRow w (.slice ao l.length cap) l) := hr
  obtain ⟨i0, hi, hz0, hz1, hz2⟩ := info_parts Tryd.info_int
  obtain ⟨N, hN⟩ : ∃ N, N = l.length := ⟨_, rfl⟩
  have HN : Hid (N = l.length) := hN
  rw [← hN] at hl ⊢
  clear h hr hN
  go_enter Tryd.func10, Tryd.ntmps10
  go_wp2_with fail
  go_loopw [5, 13] (fun v i wr => ∃ k : Nat, i = .int .i64 k ∧ k ≤ N ∧ wr.ownsRow w.heap.size 3 1 v (rawP ws.length (l.take k)).length ((rawP ws.length (l.take k)).map (Value.int .i64)) ∧ Touch w wr []) (fun _ i _ => N - (intOf i).toNat)
  case atStart => exact ⟨0, rfl, by omega, World.ownsRow_nil _ _ _ _, Touch.refl _ _⟩
  case round =>
    obtain ⟨k, rfl, hk, hrow, hT⟩ := hrel
    have HT : Hid _ := hT
    have hts := hT.size
    have hle : (rawP ws.length (l.take k)).length ≤ 1000 := Nat.le_trans (rawP_le _ _) (by have := HN.out; simp; omega)
    by_cases hlt : k < N
    · have hlt' : (k : Int) < N := by omega
      have hkl : k < l.length := by rw [← HN.out]; exact hlt
      obtain ⟨g, off, hao, hg, m0⟩ := (IntRow.touch HR.out hT).at k hkl
      have ho := of_any (HO.out.touch hT (by simp)) G.pos l[k]
      subst hao
      clear hT
      by_cases hin : 0 ≤ ofP ws.length l[k]
      · have HK : Hid _ := rawP_in hkl hin
        generalize l[k] = x at *
        generalize ofP ws.length x = y at *
        go_wp2_with fail
        refine ho.mono ?_
        rintro e w1 ⟨rfl, rfl⟩
        clear ho m0
        go_wp2_with (at_builtin; refine wpList_append_own_at _ rfl _ _ 22 rfl w.heap.size 3 i0 (.int .i64 0) 1 8 Tryd.underlying22 hi hz0 hz1 hz2 rfl (by decide) _ _ _ rfl (hrow.alloc _) ⟨wr.heap.size, 0, none⟩ 1 1 [.int .i64 y] rfl rfl (cell_one_new _ _ _) (by simp [Value.oneCell']) (by unfold maxLen; omega) (by omega) (by simp; omega) ?_)
        intro v' w2 hown' hgrow _ _
        have t2 : Touch w w2 [] := (HT.out.alloc _).grown hgrow (fun q hq => .inr (by
          rcases hrow.2 with ⟨rfl, _⟩ | ⟨g, cap, cur, rfl, hbg, _⟩
          · simp [Value.ownBlock] at hq
          · simp [Value.ownBlock] at hq; omega))
        have HR2 : Hid (w2.ownsRow w.heap.size 3 1 _ _ _) := hown'
        clear hown' hgrow hrow
        go_wp2
        go_roundw
        case rel => exact ⟨k + 1, by go_num, by omega, by rw [HK.out, List.length_append, List.map_append]; exact HR2.out, t2⟩
        case measure => simp [intOf]; omega
      · have HK : Hid _ := rawP_out hkl hin
        have HR2 : Hid (wr.ownsRow w.heap.size 3 1 _ _ _) := hrow
        generalize l[k] = x at *
        generalize ofP ws.length x = y at *
        clear hrow
        go_wp2_with fail
        refine ho.mono ?_
        rintro e w1 ⟨rfl, rfl⟩
        clear ho m0
        go_wp2
        go_roundw
        case rel => exact ⟨k + 1, by go_num, by omega, by rw [HK.out]; exact HR2.out, HT.out⟩
        case measure => simp [intOf]; omega
    · obtain rfl : k = N := by omega
      have htk : l.take k = l := List.take_of_length_le (by have := HN.out; omega)
      rw [htk] at hrow hle
      have hse := stripes_eq G.pos l
      generalize rawP ws.length l = zs at *
      have HF : Hid (∀ v B w', w'.ownsRow B 3 1 v (Lib.compact (zs.mergeSort fun x y => decide (x ≤ y))).length ((Lib.compact (zs.mergeSort fun x y => decide (x ≤ y))).map (Value.int .i64)) → w.heap.size ≤ B → Touch w w' [] → HeldE w (stripesP ws.length l ws.length) (.returned v) w') := by
        rw [hse]
        intro v B w' h1 h2 h3
        exact ⟨v, B, rfl, h1, h2, h3⟩
      clear hse htk hT
      rcases hrow.2 with ⟨rfl, h0⟩ | ⟨g, cp, cur, rfl, hbase, hb, h1, h2, h3, h4⟩
      · have hz : zs = [] := List.eq_nil_of_length_eq_zero h0
        subst hz
        clear hrow
        go_wp2_with fail
        refine (sort_none wr).mono ?_
        rintro e w1 ⟨rfl, rfl⟩
        go_wp2_with fail
        refine (compact_none wr).mono ?_
        rintro e w1 ⟨rfl, rfl⟩
        go_wp2
        go_ret
        exact HF.out _ w.heap.size wr (by simp [Lib.compact, Lib.compactUpTo]; exact World.ownsRow_nil _ _ _ _) (Nat.le_refl _) HT.out
      · have hS := sort_own hrow hle
        clear hb h1 h2 h3 h4 hrow
        go_wp2_with fail
        refine hS.mono ?_
        rintro e w1 ⟨rfl, ho1, hg1⟩
        have t1 : Touch w w1 [] := HT.out.grown hg1 (fun q hq => .inr (by simp at hq; omega))
        have hlm : (zs.mergeSort fun x y => decide (x ≤ y)).length = zs.length := List.length_mergeSort ..
        have hC := compact_own (zs := zs.mergeSort fun x y => decide (x ≤ y)) (by rw [hlm]; exact ho1) (by omega)
        rw [hlm] at hC
        generalize zs.length = m at *
        clear hS ho1 hg1 hlm
        go_wp2_with fail
        refine hC.mono ?_
        rintro e w2 ⟨rfl, ho2, t2⟩
        have HO2 : Hid (w2.ownsRow w.heap.size 3 1 _ _ _) := ho2
        have HT2 : Hid (Touch w w2 []) := t1.trans t2 (by intro x hx; simp at hx; exact .inr (by omega))
        clear hC ho2 t1 t2
        go_wp2
        go_ret
        exact HF.out _ w.heap.size w2 HO2.out (Nat.le_refl _) HT2.out

end Go.Proofs.YtnlamhmjlgaomaaDoor

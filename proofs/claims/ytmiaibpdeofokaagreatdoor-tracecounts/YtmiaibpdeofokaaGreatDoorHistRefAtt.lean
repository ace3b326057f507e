/-
  THE DOCUMENT's package rowlockref08: Attempts, In BY THEIR CONTRACTS.
-/
import Derived.Test.YtmiaibpdeofokaaGreatDoorAllB
namespace Go.Proofs.YtmiaibpdeofokaaGreatDoor
set_option linter.unusedVariables false
set_option linter.unusedSimpArgs false
open Go.RowKit Go.Maps Go.Shelf
attribute [local go_sem] Oper.semAt_some

set_option maxRecDepth 100000 in
set_option maxHeartbeats 2000000 in
theorem rattempts_any {w : World} {ao : Option Addr} {cap : Nat} {l : List EvD} (hr : EvRow w (.slice ao l.length cap) l) (hl : l.length ≤ 1000) :
    Calls Tryz.prog 37 #[.slice ao l.length cap] w fun x w' => ∃ v, x = .returned v ∧ intOwn w' w.heap.size v (attS l) ∧ Touch w w' [] := by
  obtain ⟨N, hN⟩ : ∃ N, N = l.length := ⟨_, rfl⟩
  have HN : Hid (N = l.length) := hN
  have HR : Hid (EvRow w (.slice ao l.length cap) l) := hr
  have HSE : Hid (∀ W, Touch w W [] → ∀ n, n ≤ N → ∀ a, Calls Tryz.prog 62 #[.slice ao N cap, .int .i64 n, .int .i64 a, .int .u8 1] W fun x w' => x = .returned (.bool (seenS l n a 1)) ∧ W = w') := by
    intro W t n hn a
    rw [hN] at hn ⊢
    exact seen_any (SRow.keep hr t (by simp)) hl n hn a 1
  obtain ⟨i0, hi, hz0, hz1, hz2⟩ := info_parts Tryz.info_int
  rw [← hN] at hl ⊢
  clear hN hr
  go_enter Tryz.func37, Tryz.ntmps37
  go_wp2_with fail
  go_loopw [3, 4] (fun v i wr => ∃ k : Nat, i = .int .i64 k ∧ k ≤ N ∧ intOwn wr w.heap.size v (attS (l.take k)) ∧ Touch w wr []) (fun _ i _ => N - (intOf i).toNat)
  case atStart => exact ⟨0, rfl, Nat.zero_le _, World.ownsRow_nil _ _ _ _, Touch.refl _ _⟩
  case round =>
    obtain ⟨k, rfl, hk, hrow, hT⟩ := hrel
    have HT : Hid _ := hT
    have hts := hT.size
    by_cases hlt : k < N
    ·
      have h1 : (k : Int) < N := by omega
      have h0 : (0 : Int) ≤ k := by omega
      have hkl : k < l.length := by rw [← HN.out]; exact hlt
      obtain ⟨g, off, rfl, hg, m0, m1, m2, m3⟩ := HR.out.one k hkl
      have d0 := (hT.cell (p := ⟨g, off + k * 4, none⟩) hg (by simp)).trans m0
      have d1 := (hT.cell (p := ⟨g, off + k * 4 + 1, none⟩) hg (by simp)).trans m1
      have d2 := (hT.cell (p := ⟨g, off + k * 4 + 2, none⟩) hg (by simp)).trans m2
      have d3 := (hT.cell (p := ⟨g, off + k * 4 + 3, none⟩) hg (by simp)).trans m3
      have hsn := attS_snoc hkl
      have hsa := seen_att l k
      have hle := Nat.le_trans (attS_le (l.take k)) (take_le' l k)
      have hse := HSE.out wr hT k hk l[k].a
      obtain ⟨e, he⟩ : ∃ e, e = l[k] := ⟨_, rfl⟩
      rw [← he] at d0 d1 d2 d3 hsn hse
      have hsa := hsa e.a
      have HSN : Hid _ := hsn
      have HSA : Hid _ := hsa
      clear m0 m1 m2 m3 he hT hsn hsa
      generalize hacc : attS (l.take k) = acc at *
      clear hacc
      by_cases hk1 : e.k = 1
      · have p1 : (e.k == 1) = true := by simpa using hk1
        cases hq : seenS l k e.a 1 with
        | true =>
          rw [hq] at hse
          have HR2 : Hid (intOwn wr w.heap.size u3 (attS (l.take (k + 1)))) := by
            rw [HSN.out, attStep, if_neg (fun h => h.2 (HSA.out.1 hq))]; exact hrow
          clear hrow hq hk1
          go_wp2_with fail
          refine hse.mono ?_
          rintro x w1 ⟨rfl, rfl⟩
          clear hse
          go_wp2
          go_roundw
          case rel => exact ⟨k + 1, by go_num, by omega, HR2.out, HT.out⟩
          case measure => simp [intOf]; omega
        | false =>
          rw [hq] at hse
          have HA : Hid (attS (l.take (k + 1)) = acc ++ [e.a]) := by
            show _ = _
            rw [HSN.out, attStep, if_pos ⟨hk1, fun h => by rw [HSA.out.2 h] at hq; cases hq⟩]
          have hnew : ∀ j u, [Value.int .i64 e.a][j]? = some u → (wr.alloc (.cells #[.int .i64 e.a] 3)).cell? (Addr.add ⟨wr.heap.size, 0, none⟩ j) = some u := World.news_of_block (cs := #[.int .i64 e.a]) (t := 3) (fr := (0, 0)) (heap_alloc_new wr _)
          clear hq hk1 HSA
          unfold intOwn at hrow
          go_wp2_with fail
          refine hse.mono ?_
          rintro x w1 ⟨rfl, rfl⟩
          clear hse
          go_wp2_with (at_builtin; refine wpList_append_own _ rfl _ _ 76 rfl w.heap.size 3 i0 _ 1 8 Tryz.underlying76 hi hz0 hz1 hz2 rfl (by decide) _ _ _ rfl (hrow.alloc _) ⟨wr.heap.size, 0, none⟩ 1 1 [.int .i64 e.a] rfl rfl hnew (by simp [Value.oneCell']) (by unfold maxLen; omega) (by omega) (by simp; omega) ?_)
          intro v' w3 hown' hgrow _
          have t3 : Hid (Touch w w3 []) := (HT.out.alloc _).grown hgrow (fun q hq => .inr (by
            rcases hrow.2 with ⟨e, _⟩ | ⟨g, cap, cur, e, hbg, _⟩
            · rw [e] at hq; simp [Value.ownBlock] at hq
            · rw [e] at hq; simp [Value.ownBlock] at hq; omega))
          have HR3 : Hid (intOwn w3 w.heap.size v' (attS (l.take (k + 1)))) := by
            show w3.ownsRow _ _ _ _ _ _
            rw [HA.out, List.length_append, List.map_append]
            simpa using hown'
          clear hown' hgrow hrow hnew d0 d1 d2 d3
          go_wp2
          go_roundw
          case rel => exact ⟨k + 1, by go_num, by omega, HR3.out, t3.out⟩
          case measure => simp [intOf]; omega
      · have p1 : (e.k == 1) = false := by simpa using hk1
        have HR2 : Hid (intOwn wr w.heap.size u3 (attS (l.take (k + 1)))) := by
          rw [HSN.out, attStep, if_neg (fun h => hk1 h.1)]; exact hrow
        clear hrow hk1 hse
        go_wp2
        go_roundw
        case rel => exact ⟨k + 1, by go_num, by omega, HR2.out, HT.out⟩
        case measure => simp [intOf]; omega
    · obtain rfl : k = N := by omega
      have hall : l.take k = l := by rw [HN.out, List.take_length]
      rw [hall] at hrow
      have HR2 : Hid (intOwn wr w.heap.size u3 (attS l)) := hrow
      clear hrow hT hall
      go_wp2
      go_ret
      exact ⟨_, rfl, HR2.out, HT.out⟩

theorem ownsRow_low {w : World} {B B' : Nat} {e : TypeId} {size : Nat} {v : Value} {n : Nat} {xs : List Value} (h : w.ownsRow B e size v n xs) (hB : B' ≤ B) : w.ownsRow B' e size v n xs := by
  refine ⟨h.1, ?_⟩
  rcases h.2 with h0 | ⟨g, cap, cur, e, hg, rest⟩
  · exact .inl h0
  · exact .inr ⟨g, cap, cur, e, Nat.le_trans hB hg, rest⟩

theorem filter_snoc {f : Int → Bool} {xs : List Int} {j : Nat} (hj : j < xs.length) : (xs.take (j + 1)).filter f = if f xs[j] then (xs.take j).filter f ++ [xs[j]] else (xs.take j).filter f := by
  rw [List.take_succ_eq_append_getElem hj, List.filter_append]
  by_cases h : f xs[j] = true
  · simp [h]
  · simp [h]
theorem filter_le' (f : Int → Bool) (xs : List Int) : (xs.filter f).length ≤ xs.length := List.length_filter_le _ _

set_option maxRecDepth 100000 in
set_option maxHeartbeats 2000000 in
theorem rin_any {w : World} {ao : Option Addr} {cap : Nat} {l : List EvD} (hr : EvRow w (.slice ao l.length cap) l) (hl : l.length ≤ 1000) (s : Int) :
    Calls Tryz.prog 42 #[.slice ao l.length cap, .int .u8 s] w fun x w' => ∃ v, x = .returned v ∧ intOwn w' w.heap.size v ((attS l).filter fun x => !(stateS l x != s)) ∧ Touch w w' [] := by
  have hat := rattempts_any hr hl
  have hal := attS_le l
  obtain ⟨i0, hi, hz0, hz1, hz2⟩ := info_parts Tryz.info_int
  have HST : Hid (∀ W, Touch w W [] → ∀ a, Calls Tryz.prog 66 #[.slice ao l.length cap, .int .i64 a] W fun x w' => x = .returned (.int .u8 (stateS l a)) ∧ W = w') := fun W t a => rstateOf_any (SRow.keep hr t (by simp)) hl a
  clear hr
  generalize attS l = xs at *
  generalize l.length = N at *
  generalize stateS l = g at *
  go_enter Tryz.func42, Tryz.ntmps42
  go_wp2_with fail
  refine hat.mono ?_
  rintro x w1 ⟨v, rfl, hown, t1⟩
  clear hat
  obtain ⟨aa, ca, rfl, hce⟩ := int_form hown
  have HCE : Hid _ := hce
  have HT1 : Hid _ := t1
  obtain ⟨C, hC⟩ : ∃ C, C = xs.length := ⟨_, rfl⟩
  have HC : Hid (C = xs.length) := hC
  rw [← hC] at hal
  rw [← hC]
  have hts1 := t1.size
  clear hown hce t1 hC
  go_wp2_with fail
  go_loopw [5, 7] (fun v i wr => ∃ k : Nat, i = .int .i64 k ∧ k ≤ C ∧ intOwn wr w1.heap.size v ((xs.take k).filter fun x => !(g x != s)) ∧ Touch w1 wr []) (fun _ i _ => C - (intOf i).toNat)
  case atStart => exact ⟨0, rfl, Nat.zero_le _, World.ownsRow_nil _ _ _ _, Touch.refl _ _⟩
  case round =>
    obtain ⟨k, rfl, hk, hrow, hT⟩ := hrel
    have HT : Hid _ := hT
    have hts := hT.size
    by_cases hlt : k < C
    · have h1 : (k : Int) < C := by omega
      have h0 : (0 : Int) ≤ k := by omega
      have hkl : k < xs.length := by rw [← HC.out]; exact hlt
      obtain ⟨gb, rfl, hgb, m0⟩ := HCE.out k hkl
      have d0 := (hT.cell (p := ⟨gb, k, none⟩) hgb (by simp)).trans m0
      have hsn := filter_snoc (f := fun x => !(g x != s)) hkl
      have hle := Nat.le_trans (filter_le' (fun x => !(g x != s)) (xs.take k)) (by rw [List.length_take]; exact Nat.min_le_left _ _ : (xs.take k).length ≤ k)
      have hst := HST.out wr (HT1.out.trans hT (by simp)) xs[k]
      generalize xs[k] = y at *
      have HSN : Hid _ := hsn
      clear hT hsn m0
      generalize (xs.take k).filter (fun x => !(g x != s)) = ys at *
      unfold intOwn at hrow
      cases hq : (g y == s) with
      | true =>
        have HA : Hid ((xs.take (k + 1)).filter (fun x => !(g x != s)) = ys ++ [y]) := by
          show _ = _
          rw [HSN.out, if_pos (by simp only [bne, hq]; rfl)]
        have hnew : ∀ j u, [Value.int .i64 y][j]? = some u → (wr.alloc (.cells #[.int .i64 y] 3)).cell? (Addr.add ⟨wr.heap.size, 0, none⟩ j) = some u := World.news_of_block (cs := #[.int .i64 y]) (t := 3) (fr := (0, 0)) (heap_alloc_new wr _)
        go_wp2_with fail
        refine hst.mono ?_
        rintro x w2 ⟨rfl, rfl⟩
        clear hst
        go_wp2_with (at_builtin; refine wpList_append_own _ rfl _ _ 76 rfl w1.heap.size 3 i0 _ 1 8 Tryz.underlying76 hi hz0 hz1 hz2 rfl (by decide) _ _ _ rfl (hrow.alloc _) ⟨wr.heap.size, 0, none⟩ 1 1 [.int .i64 y] rfl rfl hnew (by simp [Value.oneCell']) (by unfold maxLen; omega) (by omega) (by simp; omega) ?_)
        intro v' w3 hown' hgrow _
        have t3 : Hid (Touch w1 w3 []) := (HT.out.alloc _).grown hgrow (fun q hq => .inr (by
          rcases hrow.2 with ⟨e, _⟩ | ⟨g, cap, cur, e, hbg, _⟩
          · rw [e] at hq; simp [Value.ownBlock] at hq
          · rw [e] at hq; simp [Value.ownBlock] at hq; omega))
        have HR3 : Hid (intOwn w3 w1.heap.size v' ((xs.take (k + 1)).filter (fun x => !(g x != s)))) := by
          show w3.ownsRow _ _ _ _ _ _
          rw [HA.out, List.length_append, List.map_append]
          simpa using hown'
        clear hown' hgrow hrow hnew d0
        go_wp2
        go_roundw
        case rel => exact ⟨k + 1, by go_num, by omega, HR3.out, t3.out⟩
        case measure => simp [intOf]; omega
      | false =>
        have HR3 : Hid (intOwn wr w1.heap.size u5 ((xs.take (k + 1)).filter (fun x => !(g x != s)))) := by
          show wr.ownsRow _ _ _ _ _ _
          rw [HSN.out, if_neg (by simp only [bne, hq]; decide)]
          exact hrow
        clear hrow
        go_wp2_with fail
        refine hst.mono ?_
        rintro x w2 ⟨rfl, rfl⟩
        clear hst
        go_wp2
        go_roundw
        case rel => exact ⟨k + 1, by go_num, by omega, HR3.out, HT.out⟩
        case measure => simp [intOf]; omega
    · obtain rfl : k = C := by omega
      have hall : xs.take k = xs := by rw [HC.out, List.take_length]
      rw [hall] at hrow
      have HR2 : Hid (intOwn wr w.heap.size u5 (xs.filter fun x => !(g x != s))) := ownsRow_low hrow hts1
      clear hrow hT hall
      go_wp2
      go_ret
      exact ⟨_, rfl, HR2.out, HT1.out.trans HT.out (by simp)⟩
end Go.Proofs.YtmiaibpdeofokaaGreatDoor

/-
  THE DOCUMENT's package rowlockref08: Attempts, In BY THEIR CONTRACTS.
-/
import Derived.Test.YtjacclbifeoclaaHistRef
namespace Go.Proofs.Ytjacclbifeoclaa
set_option linter.unusedVariables false
set_option linter.unusedSimpArgs false
open Go.RowKit Go.Maps Go.Shelf
attribute [local go_sem] Oper.semAt_some

set_option maxRecDepth 100000 in
set_option maxHeartbeats 2000000 in
theorem rattempts_any {w : World} {ao : Option Addr} {cap : Nat} {l : List EvD} (hr : EvRow w (.slice ao l.length cap) l) (hl : l.length ≤ 1000) :
    Calls Try.prog 28 #[.slice ao l.length cap] w fun x w' => ∃ v, x = .returned v ∧ intOwn w' w.heap.size v (attS l) ∧ Touch w w' [] := by
  obtain ⟨N, hN⟩ : ∃ N, N = l.length := ⟨_, rfl⟩
  have HN : Hid (N = l.length) := hN
  have HR : Hid (EvRow w (.slice ao l.length cap) l) := hr
  have HSE : Hid (∀ W, Touch w W [] → ∀ n, n ≤ N → ∀ a, Calls Try.prog 51 #[.slice ao N cap, .int .i64 n, .int .i64 a, .int .u8 1] W fun x w' => x = .returned (.bool (seenS l n a 1)) ∧ W = w') := by
    intro W t n hn a
    rw [hN] at hn ⊢
    exact seen_any (SRow.keep hr t (by simp)) hl n hn a 1
  obtain ⟨i0, hi, hz0, hz1, hz2⟩ := info_parts Try.info_int
  rw [← hN] at hl ⊢
  clear hN hr
  go_enter Try.func28, Try.ntmps28
  go_wp2_with fail
  go_loopw [3, 4] (fun v i wr => ∃ k : Nat, i = .int .i64 k ∧ k ≤ N ∧ intOwn wr w.heap.size v (attS (l.take k)) ∧ Touch w wr []) (fun _ i _ => N - (intOf i).toNat)
  case atStart => exact ⟨0, rfl, Nat.zero_le _, World.ownsRow_nil _ _ _ _, Touch.refl _ _⟩
  case round =>
    obtain ⟨k, rfl, hk, hrow, hT⟩ := hrel
    have HT : Hid _ := hT
    have hts := hT.size
    by_cases hlt : k < N
    ·
      have h1 : (k : Int) < N := by omega
      have h0 : (0 : Int) ≤ k := by omega
      have hkl : k < l.length := by rw [← HN.out]; exact hlt
      obtain ⟨g, off, rfl, hg, m0, m1, m2, m3⟩ := HR.out.one k hkl
      have d0 := (hT.cell (p := ⟨g, off + k * 4, none⟩) hg (by simp)).trans m0
      have d1 := (hT.cell (p := ⟨g, off + k * 4 + 1, none⟩) hg (by simp)).trans m1
      have d2 := (hT.cell (p := ⟨g, off + k * 4 + 2, none⟩) hg (by simp)).trans m2
      have d3 := (hT.cell (p := ⟨g, off + k * 4 + 3, none⟩) hg (by simp)).trans m3
      have hsn := attS_snoc hkl
      have hsa := seen_att l k
      have hle := Nat.le_trans (attS_le (l.take k)) (take_le' l k)
      have hse := HSE.out wr hT k hk l[k].a
      obtain ⟨e, he⟩ : ∃ e, e = l[k] := ⟨_, rfl⟩
      rw [← he] at d0 d1 d2 d3 hsn hse
      have hsa := hsa e.a
      have HSN : Hid _ := hsn
      have HSA : Hid _ := hsa
      clear m0 m1 m2 m3 he hT hsn hsa
      generalize hacc : attS (l.take k) = acc at *
      clear hacc
      by_cases hk1 : e.k = 1
      · have p1 : (e.k == 1) = true := by simpa using hk1
        cases hq : seenS l k e.a 1 with
        | true =>
          rw [hq] at hse
          have HR2 : Hid (intOwn wr w.heap.size u3 (attS (l.take (k + 1)))) := by
            rw [HSN.out, attStep, if_neg (fun h => h.2 (HSA.out.1 hq))]; exact hrow
          clear hrow hq hk1
          go_wp2_with fail
          refine hse.mono ?_
          rintro x w1 ⟨rfl, rfl⟩
          clear hse
          go_wp2
          go_roundw
          case rel => exact ⟨k + 1, by go_num, by omega, HR2.out, HT.out⟩
          case measure => simp [intOf]; omega
        | false =>
          rw [hq] at hse
          have HA : Hid (attS (l.take (k + 1)) = acc ++ [e.a]) := by
            show _ = _
            rw [HSN.out, attStep, if_pos ⟨hk1, fun h => by rw [HSA.out.2 h] at hq; cases hq⟩]
          have hnew : ∀ j u, [Value.int .i64 e.a][j]? = some u → (wr.alloc (.cells #[.int .i64 e.a] 3)).cell? (Addr.add ⟨wr.heap.size, 0, none⟩ j) = some u := World.news_of_block (cs := #[.int .i64 e.a]) (t := 3) (fr := (0, 0)) (heap_alloc_new wr _)
          clear hq hk1 HSA
          unfold intOwn at hrow
          go_wp2_with fail
          refine hse.mono ?_
          rintro x w1 ⟨rfl, rfl⟩
          clear hse
          go_wp2_with (at_builtin; refine wpList_append_own _ rfl _ _ 24 rfl w.heap.size 3 i0 _ 1 8 Try.underlying24 hi hz0 hz1 hz2 rfl (by decide) _ _ _ rfl (hrow.alloc _) ⟨wr.heap.size, 0, none⟩ 1 1 [.int .i64 e.a] rfl rfl hnew (by simp [Value.oneCell']) (by unfold maxLen; omega) (by omega) (by simp; omega) ?_)
          intro v' w3 hown' hgrow _
          have t3 : Hid (Touch w w3 []) := (HT.out.alloc _).grown hgrow (fun q hq => .inr (by
            rcases hrow.2 with ⟨e, _⟩ | ⟨g, cap, cur, e, hbg, _⟩
            · rw [e] at hq; simp [Value.ownBlock] at hq
            · rw [e] at hq; simp [Value.ownBlock] at hq; omega))
          have HR3 : Hid (intOwn w3 w.heap.size v' (attS (l.take (k + 1)))) := by
            show w3.ownsRow _ _ _ _ _ _
            rw [HA.out, List.length_append, List.map_append]
            simpa using hown'
          clear hown' hgrow hrow hnew d0 d1 d2 d3
          go_wp2
          go_roundw
          case rel => exact ⟨k + 1, by go_num, by omega, HR3.out, t3.out⟩
          case measure => simp [intOf]; omega
      · have p1 : (e.k == 1) = false := by simpa using hk1
        have HR2 : Hid (intOwn wr w.heap.size u3 (attS (l.take (k + 1)))) := by
          rw [HSN.out, attStep, if_neg (fun h => hk1 h.1)]; exact hrow
        clear hrow hk1 hse
        go_wp2
        go_roundw
        case rel => exact ⟨k + 1, by go_num, by omega, HR2.out, HT.out⟩
        case measure => simp [intOf]; omega
    · obtain rfl : k = N := by omega
      have hall : l.take k = l := by rw [HN.out, List.take_length]
      rw [hall] at hrow
      have HR2 : Hid (intOwn wr w.heap.size u3 (attS l)) := hrow
      clear hrow hT hall
      go_wp2
      go_ret
      exact ⟨_, rfl, HR2.out, HT.out⟩

theorem ownsRow_low {w : World} {B B' : Nat} {e : TypeId} {size : Nat} {v : Value} {n : Nat} {xs : List Value} (h : w.ownsRow B e size v n xs) (hB : B' ≤ B) : w.ownsRow B' e size v n xs := by
  refine ⟨h.1, ?_⟩
  rcases h.2 with h0 | ⟨g, cap, cur, e, hg, rest⟩
  · exact .inl h0
  · exact .inr ⟨g, cap, cur, e, Nat.le_trans hB hg, rest⟩

theorem filter_snoc {f : Int → Bool} {xs : List Int} {j : Nat} (hj : j < xs.length) : (xs.take (j + 1)).filter f = if f xs[j] then (xs.take j).filter f ++ [xs[j]] else (xs.take j).filter f := by
  rw [List.take_succ_eq_append_getElem hj, List.filter_append]
  by_cases h : f xs[j] = true
  · simp [h]
  · simp [h]
theorem filter_le' (f : Int → Bool) (xs : List Int) : (xs.filter f).length ≤ xs.length := List.length_filter_le _ _

end Go.Proofs.Ytjacclbifeoclaa

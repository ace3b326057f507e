/-
  package locks: joined BY ITS CONTRACT: rows of instructions, one behind the other.
-/
import Derived.Test.YtcbkafbchpjnoaaGreatDoorLkBase
namespace Go.Proofs.YtcbkafbchpjnoaaGreatDoor
set_option linter.unusedVariables false
set_option linter.unusedSimpArgs false
open Go.RowKit
attribute [local go_sem] Oper.semAt_some

/-- append to a row whose room is cut to its length: a new row. -/
theorem ins_join {w : World} {B g c0 : Nat} {xs : List InsD} (h : insOwn w B (.slice (some ⟨g, 0, none⟩) xs.length c0) xs) (hl : xs.length ≤ 1000) {ao : Option Addr} {cap : Nat} {l : List InsD} (hr : InsIn w ao l.length cap l) (hn : l.length ≤ 1000) (hne : l ≠ []) (ty : TypeId) :
    ∃ cap' w', (Builtin.append_ #[25, 25] ty #[.slice (some ⟨g, 0, none⟩) xs.length xs.length, .slice ao l.length cap]).run Tryz.prog w = .ok (.slice (some ⟨w.heap.size, 0, none⟩) (xs.length + l.length) cap') w' ∧ insOwn w' w.heap.size (.slice (some ⟨w.heap.size, 0, none⟩) (xs.length + l.length) cap') (xs ++ l) ∧ Touch w w' [] := by
  obtain ⟨i0, hi, hz0, hz1, hz2⟩ := info_parts' Tryz.info_ins
  have hpos : 0 < l.length := List.length_pos_iff.2 hne
  have hsr := hr.row
  obtain ⟨g1, off, rfl, _, _⟩ := hsr.at 0 hpos
  have hnews : ∀ j u, (l.flatMap InsD.cells)[j]? = some u → w.cell? ((⟨g1, off, none⟩ : Addr).add j) = some u := by
    intro j u hu
    have hj : j < l.length * 3 := by
      have := (List.getElem?_eq_some_iff.1 hu).1
      rwa [flat_len (cells := InsD.cells) (n := 3) (fun _ => rfl)] at this
    have hk : j / 3 < l.length := Nat.div_lt_of_lt_mul (by omega)
    have hj2 : j % 3 < 3 := Nat.mod_lt _ (by decide)
    obtain ⟨g', off', e, _, hcc⟩ := hsr.at (j / 3) hk
    cases e
    have hjj : j = j / 3 * 3 + j % 3 := by omega
    have h2 := flat_at (cells := InsD.cells) (n := 3) (fun _ => rfl) l (j / 3) hk (j % 3) hj2
    rw [← hjj, hu] at h2
    have h3 := hcc (j % 3) hj2
    rw [Nat.add_assoc, ← hjj, ← h2] at h3
    rw [Addr.add_lit]
    exact h3
  have hlx : (xs.flatMap InsD.cells).length = xs.length * i0.size := by rw [hz1, flat_len (n := 3) (fun _ => rfl)]
  have hll : (l.flatMap InsD.cells).length = l.length * i0.size := by rw [hz1, flat_len (n := 3) (fun _ => rfl)]
  have hr2 := run_append_grow (P := Tryz.prog) w 25 ty 78 i0 _ Tryz.underlying25 hi hz0 ⟨g, 0, none⟩ xs.length xs.length (xs.flatMap InsD.cells) hlx (h.cells (g := g) rfl)
    ⟨g1, off, none⟩ l.length cap (l.flatMap InsD.cells) hll hnews (by omega) (by omega) (growslice_fits (by omega) (by rw [hz2]; omega))
  refine ⟨_, _, hr2, ⟨?_, .inr ⟨w.heap.size, _, _, by rw [List.length_append], Nat.le_refl _, heap_alloc_new w.drew _, ?_, ?_, ?_, ?_⟩⟩, (Touch.refl w []).drew.alloc _⟩
  · rw [flat_len (n := 3) (fun _ => rfl)]
  · rw [List.length_append]; exact grownCap_ge w _ _ _
  · exact grownCap_le_maxLen w _ _ _ (by unfold maxLen; omega)
  · have hge := grownCap_ge w (xs.length + l.length) xs.length 78
    generalize grownCap w (xs.length + l.length) xs.length 78 = gc at *
    rw [Array.size_append, Array.size_append, List.size_toArray, List.size_toArray, size_zeroCells, hlx, hll, hz1]
    have e3 : (Value.agg #[.int .u8 0, .int .i64 0, .int .u64 0]).cells.size = 3 := by rfl
    rw [e3]
    omega
  · simp only [Array.toList_append, List.append_assoc]
    rw [← List.append_assoc, ← List.flatMap_append]
    have : (xs ++ l).length * 3 = ((xs ++ l).flatMap InsD.cells).length := by rw [flat_len (n := 3) (fun _ => rfl)]
    rw [this]
    exact List.take_left

/-- Rows of instructions that can be read. -/
structure RowsAt (w : World) (g : Nat) (L : List (List InsD)) : Prop where
  row : ∀ k (hk : k < L.length), ∃ ao cap, w.cell? ⟨g, k, none⟩ = some (.slice ao L[k].length cap) ∧ InsIn w ao L[k].length cap L[k]
  ne : ∀ l ∈ L, l ≠ []
theorem RowsAt.lt {w : World} {g : Nat} {L : List (List InsD)} (h : RowsAt w g L) (k : Nat) (hk : k < L.length) : g < w.heap.size := by
  obtain ⟨_, _, hc, _⟩ := h.row k hk
  exact World.block_lt_of_cell? _ _ hc
theorem RowsAt.keep {w w' : World} {g : Nat} {L : List (List InsD)} (h : RowsAt w g L) (t : Touch w w' []) : RowsAt w' g L := by
  refine ⟨fun k hk => ?_, h.ne⟩
  obtain ⟨ao, cap, hc, hi⟩ := h.row k hk
  exact ⟨ao, cap, (t.cell (p := ⟨g, k, none⟩) (h.lt k hk) (by simp)).trans hc, hi.keep t⟩

theorem flat_take {L : List (List InsD)} (k : Nat) (hk : k < L.length) : (L.take (k + 1)).flatten = (L.take k).flatten ++ L[k] := by
  rw [List.take_succ_eq_append_getElem hk, List.flatten_append]
  simp
theorem flat_le {L : List (List InsD)} (k : Nat) : (L.take k).flatten.length ≤ L.flatten.length := by
  have : L.flatten = (L.take k).flatten ++ (L.drop k).flatten := by rw [← List.flatten_append, List.take_append_drop]
  rw [this, List.length_append]
  omega
theorem row_le {L : List (List InsD)} (k : Nat) (hk : k < L.length) : L[k].length ≤ L.flatten.length := by
  have h1 := flat_take k hk
  have h2 := flat_le (L := L) (k + 1)
  rw [h1, List.length_append] at h2
  omega

set_option maxRecDepth 100000 in
theorem joined_any {w : World} {g cap : Nat} {L : List (List InsD)} (h : RowsAt w g L) (hf : L.flatten.length ≤ 1000) (hL : L.length ≤ 1000) :
    Calls Tryz.prog 144 #[.slice (some ⟨g, 0, none⟩) L.length cap] w fun e w' => ∃ v, e = .returned v ∧ insOwn w' w.heap.size v L.flatten ∧ Touch w w' [] := by
  have HR : Hid _ := h
  have HF : Hid _ := hf
  obtain ⟨N, hN⟩ : ∃ N, N = L.length := ⟨_, rfl⟩
  have HN : Hid _ := hN
  rw [← hN] at hL ⊢
  clear h hf hN
  go_enter Tryz.func144, Tryz.ntmps144
  go_wp2_with fail
  go_loopw [3, 8] (fun v i wr => ∃ k : Nat, i = .int .i64 k ∧ k ≤ N ∧ insOwn wr w.heap.size v (L.take k).flatten ∧ Touch w wr []) (fun _ i _ => N - (intOf i).toNat)
  case atStart => exact ⟨0, rfl, Nat.zero_le _, World.ownsRow_nil _ _ _ _, Touch.refl _ _⟩
  case round =>
    obtain ⟨k, rfl, hk, hrow, hT⟩ := hrel
    have HT : Hid _ := hT
    have hsz := hT.size
    by_cases hlt : k < N
    · have h1 : (k : Int) < N := by omega
      have h0 : (0 : Int) ≤ k := by omega
      have hkl : k < L.length := by rw [← HN.out]; exact hlt
      obtain ⟨ao, c1, hc, hi⟩ := (HR.out.keep hT).row k hkl
      have hne : L[k] ≠ [] := HR.out.ne _ (List.getElem_mem hkl)
      have HK : Hid _ := flat_take k hkl
      have hle1 : (L.take k).flatten.length ≤ 1000 := Nat.le_trans (flat_le k) HF.out
      have hle2 : L[k].length ≤ 1000 := Nat.le_trans (row_le k hkl) HF.out
      have HROW : Hid _ := hrow
      rcases hrow.2 with ⟨rfl, hz⟩ | ⟨g2, c2, cur, rfl, hb, hcur, hnc, hmx, _, _⟩
      · have hx : (L.take k).flatten = [] := List.eq_nil_of_length_eq_zero hz
        obtain ⟨a3, c3, w3, r3, o3, t3⟩ := ins_app hrow hle1 hsz hi hle2 25
        have HO : Hid (insOwn w3 w.heap.size (.slice a3 L[k].length c3) (L.take (k + 1)).flatten) := by
          show insOwn _ _ _ _
          rw [HK.out]
          simpa [hx] using o3
        simp only [hx, List.length_nil, Nat.zero_add] at r3
        have HT3 : Hid (Touch w w3 []) := hT.trans t3 (by simp [Value.ownBlock])
        generalize L[k].length = n1 at *
        clear hrow o3 t3 hT hi hsz hz hx hle1 hle2 hne
        go_wp2_with (at_builtin; refine Lib.wpList_append_run _ rfl (.tmp 17) (.tmp 18) _ _ rfl _ _ rfl rfl _ _ r3 ?_)
        go_roundw
        case rel => exact ⟨k + 1, by go_num, by omega, HO.out, HT3.out⟩
        case measure => simp [intOf]; omega
      · obtain ⟨c3, w3, r3, o3, t3⟩ := ins_join hrow hle1 hi hle2 hne 25
        have HO : Hid (insOwn w3 w.heap.size (.slice (some ⟨wr.heap.size, 0, none⟩) ((L.take k).flatten.length + L[k].length) c3) (L.take (k + 1)).flatten) := by
          show insOwn _ _ _ _
          rw [HK.out]
          refine ⟨o3.1, ?_⟩
          rcases o3.2 with ⟨e, _⟩ | ⟨g', cap', cur', e, hb', r⟩
          · cases e
          · refine .inr ⟨g', cap', cur', ?_, by omega, r⟩
            rw [← e]
        have HT3 : Hid (Touch w w3 []) := hT.trans t3 (by simp)
        generalize L[k].length = n1 at *
        generalize (L.take k).flatten.length = n2 at *
        have q1 : (n2 : Int) ≤ c2 := by omega
        have q0 : (0 : Int) ≤ n2 := by omega
        clear hrow o3 t3 hT hi hsz hle1 hle2 hne hcur hmx hb
        go_wp2_with (at_builtin; refine Lib.wpList_append_run _ rfl (.tmp 17) (.tmp 18) _ _ rfl _ _ rfl rfl _ _ r3 ?_)
        go_roundw
        case rel => exact ⟨k + 1, by go_num, by omega, HO.out, HT3.out⟩
        case measure => simp [intOf]; omega
    · have h1 : ¬ (k : Int) < N := by omega
      have hkN : k = L.length := by rw [← HN.out]; omega
      rw [hkN, List.take_length] at hrow
      have HO : Hid _ := hrow
      clear hrow hT
      go_wp2
      go_ret
      exact ⟨_, rfl, HO.out, HT.out⟩

end Go.Proofs.YtcbkafbchpjnoaaGreatDoor

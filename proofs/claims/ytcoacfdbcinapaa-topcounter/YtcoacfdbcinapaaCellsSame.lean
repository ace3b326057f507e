/-
  SameWords, SameLog BY THEIR CONTRACTS, of lists that are the same; the ref's Words and Log; same.
-/
import Derived.Test.YtcoacfdbcinapaaCellsPlay
import Derived.Test.YtcoacfdbcinapaaCellsReplay
namespace Go.Proofs.Ytcoacfdbcinapaa
set_option linter.unusedVariables false
set_option linter.unusedSimpArgs false
open Go.RowKit

theorem owns_form {w : World} {B : Nat} {e : TypeId} {size : Nat} {v : Value} {n : Nat} {xs : List Value} (h : w.ownsRow B e size v n xs) :
    ∃ ao cap, v = .slice ao n cap ∧ (0 < n → ∃ g, ao = some ⟨g, 0, none⟩ ∧ g < w.heap.size ∧ ∀ j u, xs[j]? = some u → w.cell? ⟨g, j, none⟩ = some u) := by
  rcases h.2 with ⟨rfl, h0⟩ | ⟨g, cap, cur, rfl, hb, hg, _⟩
  · exact ⟨none, 0, by rw [h0], fun hn => by omega⟩
  · refine ⟨_, cap, rfl, fun _ => ⟨g, rfl, lt_of_heap hg, fun j u hu => ?_⟩⟩
    have := h.cells (g := g) rfl j u hu
    rw [Addr.add_lit] at this
    simpa using this

set_option maxRecDepth 100000 in
set_option maxHeartbeats 1600000 in
theorem sameWords_eq (B1 B2 n : Nat) (va vb : Value) (xs : List Int) (w : World) (hn : n ≤ 1000) (ha : w.ownsRow B1 43 1 va n (xs.map (Value.int .u64))) (hb : w.ownsRow B2 43 1 vb n (xs.map (Value.int .u64))) :
    Calls Try.prog 16 #[va, vb] w fun e w' => e = .returned (.bool true) ∧ Touch w w' [] := by
  have hlen : xs.length = n := by have := ha.1; simpa using this
  obtain ⟨ao, ca, rfl, hac⟩ := owns_form ha
  obtain ⟨bo, cb, rfl, hbc⟩ := owns_form hb
  clear ha hb
  go_enter Try.func16, Try.ntmps16
  go_wp2_with fail
  go_loopw [5] (fun i wr => ∃ k : Nat, i = .int .i64 k ∧ k ≤ n ∧ Touch w wr []) (fun i _ => n - (intOf i).toNat)
  case atStart => exact ⟨0, rfl, Nat.zero_le _, Touch.refl _ _⟩
  case round =>
    obtain ⟨k, rfl, hk, t⟩ := hrel
    by_cases hlt : k < n
    · have h1 : (k : Int) < n := by omega
      have h0 : (0 : Int) ≤ k := by omega
      obtain ⟨ga, rfl, hga, hca⟩ := hac (by omega)
      obtain ⟨gb, rfl, hgb, hcb⟩ := hbc (by omega)
      have hx : (xs.map (Value.int .u64))[k]? = some (.int .u64 (xs.getD k 0)) := by
        rw [List.getElem?_map, List.getD_eq_getElem?_getD, List.getElem?_eq_getElem (by omega)]; rfl
      have c1 := (t.cell (p := ⟨ga, k, none⟩) hga (by simp)).trans (hca k _ hx)
      have c2 := (t.cell (p := ⟨gb, k, none⟩) hgb (by simp)).trans (hcb k _ hx)
      generalize xs.getD k 0 = x at *
      clear hx hca hcb hac hbc
      go_wp2_with fail
      go_quiet (fail)
      go_wp2
      go_roundw
      case rel => exact ⟨k + 1, by go_num, by omega, t.drewN _⟩
      case measure => simp [intOf]; omega
    · go_wp2
      go_ret
      exact ⟨rfl, t⟩

set_option maxRecDepth 100000 in
set_option maxHeartbeats 1600000 in
theorem sameLog_eq (B1 B2 : Nat) (va vb : Value) (l : List DoneD) (w : World) (hn : l.length ≤ 1000) (ha : w.ownsRow B1 51 6 va l.length (l.flatMap DoneD.cells)) (hb : w.ownsRow B2 51 6 vb l.length (l.flatMap DoneD.cells)) :
    Calls Try.prog 30 #[va, vb] w fun e w' => e = .returned (.bool true) ∧ Touch w w' [] := by
  obtain ⟨n, hlen⟩ : ∃ n, n = l.length := ⟨_, rfl⟩
  rw [← hlen] at ha hb hn
  obtain ⟨ao, ca, rfl, hac⟩ := owns_form ha
  obtain ⟨bo, cb, rfl, hbc⟩ := owns_form hb
  have HL : Hid _ := hlen
  clear ha hb hlen
  go_enter Try.func30, Try.ntmps30
  go_wp2_with fail
  go_loopw [5] (fun i wr => ∃ k : Nat, i = .int .i64 k ∧ k ≤ n ∧ Touch w wr []) (fun i _ => n - (intOf i).toNat)
  case atStart => exact ⟨0, rfl, Nat.zero_le _, Touch.refl _ _⟩
  case round =>
    obtain ⟨k, rfl, hk, t⟩ := hrel
    by_cases hlt : k < n
    · have h1 : (k : Int) < n := by omega
      have h0 : (0 : Int) ≤ k := by omega
      obtain ⟨ga, rfl, hga, hca⟩ := hac (by omega)
      obtain ⟨gb, rfl, hgb, hcb⟩ := hbc (by omega)
      have hkl : k < l.length := by rw [← HL.out]; exact hlt
      have hg := fun j hj => flatMap_get l k hkl j hj
      obtain ⟨d, hd⟩ : ∃ d, d = l[k] := ⟨_, rfl⟩
      rw [← hd] at hg
      have g0 := hg 0 (by omega)
      have g1 := hg 1 (by omega)
      have g2 := hg 2 (by omega)
      have g3 := hg 3 (by omega)
      have g4 := hg 4 (by omega)
      have g5 := hg 5 (by omega)
      obtain ⟨⟨a0, a1, a2, a3⟩, a4, a5⟩ := d
      simp only [DoneD.cells, Nat.add_zero, List.getElem?_cons_zero, List.getElem?_cons_succ] at g0 g1 g2 g3 g4 g5
      have x0 := (t.cell (p := ⟨ga, k * 6, none⟩) hga (by simp)).trans (hca _ _ g0)
      have x1 := (t.cell (p := ⟨ga, k * 6 + 1, none⟩) hga (by simp)).trans (hca _ _ g1)
      have x2 := (t.cell (p := ⟨ga, k * 6 + 2, none⟩) hga (by simp)).trans (hca _ _ g2)
      have x3 := (t.cell (p := ⟨ga, k * 6 + 3, none⟩) hga (by simp)).trans (hca _ _ g3)
      have x4 := (t.cell (p := ⟨ga, k * 6 + 4, none⟩) hga (by simp)).trans (hca _ _ g4)
      have x5 := (t.cell (p := ⟨ga, k * 6 + 5, none⟩) hga (by simp)).trans (hca _ _ g5)
      have z0 := (t.cell (p := ⟨gb, k * 6, none⟩) hgb (by simp)).trans (hcb _ _ g0)
      have z1 := (t.cell (p := ⟨gb, k * 6 + 1, none⟩) hgb (by simp)).trans (hcb _ _ g1)
      have z2 := (t.cell (p := ⟨gb, k * 6 + 2, none⟩) hgb (by simp)).trans (hcb _ _ g2)
      have z3 := (t.cell (p := ⟨gb, k * 6 + 3, none⟩) hgb (by simp)).trans (hcb _ _ g3)
      have z4 := (t.cell (p := ⟨gb, k * 6 + 4, none⟩) hgb (by simp)).trans (hcb _ _ g4)
      have z5 := (t.cell (p := ⟨gb, k * 6 + 5, none⟩) hgb (by simp)).trans (hcb _ _ g5)
      clear hd hg g0 g1 g2 g3 g4 g5 hca hcb hac hbc
      go_wp2_with fail
      go_quiet (fail)
      go_wp2
      go_roundw
      case rel => exact ⟨k + 1, by go_num, by omega, t.drewN _⟩
      case measure => simp [intOf]; omega
    · go_wp2
      go_ret
      exact ⟨rfl, t⟩

end Go.Proofs.Ytcoacfdbcinapaa

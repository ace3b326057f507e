/-
  Two lists that are the same: SameInts BY ITS CONTRACT.
-/
import Derived.Test.YtnlamhmjlgaomaaDoorTouchBase
namespace Go.Proofs.YtnlamhmjlgaomaaDoor
set_option linter.unusedVariables false
set_option linter.unusedSimpArgs false
open Go.RowKit

theorem owns_form {w : World} {B : Nat} {e : TypeId} {size : Nat} {v : Value} {n : Nat} {xs : List Value} (h : w.ownsRow B e size v n xs) :
    ∃ ao cap, v = .slice ao n cap ∧ (0 < n → ∃ g, ao = some ⟨g, 0, none⟩ ∧ g < w.heap.size ∧ ∀ j u, xs[j]? = some u → w.cell? ⟨g, j, none⟩ = some u) := by
  rcases h.2 with ⟨rfl, h0⟩ | ⟨g, cap, cur, rfl, hb, hg, _⟩
  · exact ⟨none, 0, by rw [h0], fun hn => by omega⟩
  · refine ⟨_, cap, rfl, fun _ => ⟨g, rfl, lt_of_heap hg, fun j u hu => ?_⟩⟩
    have := h.cells (g := g) rfl j u hu
    rw [Addr.add_lit] at this
    simpa using this

set_option maxRecDepth 100000 in
set_option maxHeartbeats 1600000 in
theorem sameInts_eq (B1 B2 n : Nat) (va vb : Value) (xs : List Int) (w : World) (hn : n ≤ 1000) (ha : w.ownsRow B1 3 1 va n (xs.map (Value.int .i64))) (hb : w.ownsRow B2 3 1 vb n (xs.map (Value.int .i64))) :
    Calls Tryd.prog 9 #[va, vb] w fun e w' => e = .returned (.bool true) ∧ Touch w w' [] := by
  have hlen : xs.length = n := by have := ha.1; simpa using this
  obtain ⟨ao, ca, rfl, hac⟩ := owns_form ha
  obtain ⟨bo, cb, rfl, hbc⟩ := owns_form hb
  clear ha hb
  go_enter Tryd.func9, Tryd.ntmps9
  go_wp2_with fail
  go_loopw [5] (fun i wr => ∃ k : Nat, i = .int .i64 k ∧ k ≤ n ∧ Touch w wr []) (fun i _ => n - (intOf i).toNat)
  case atStart => exact ⟨0, rfl, Nat.zero_le _, Touch.refl _ _⟩
  case round =>
    obtain ⟨k, rfl, hk, t⟩ := hrel
    by_cases hlt : k < n
    · have h1 : (k : Int) < n := by omega
      have h0 : (0 : Int) ≤ k := by omega
      obtain ⟨ga, rfl, hga, hca⟩ := hac (by omega)
      obtain ⟨gb, rfl, hgb, hcb⟩ := hbc (by omega)
      have hx : (xs.map (Value.int .i64))[k]? = some (.int .i64 (xs.getD k 0)) := by
        rw [List.getElem?_map, List.getD_eq_getElem?_getD, List.getElem?_eq_getElem (by omega)]; rfl
      have c1 := (t.cell (p := ⟨ga, k, none⟩) hga (by simp)).trans (hca k _ hx)
      have c2 := (t.cell (p := ⟨gb, k, none⟩) hgb (by simp)).trans (hcb k _ hx)
      generalize xs.getD k 0 = x at *
      clear hx hca hcb hac hbc
      go_wp2_with fail
      go_quiet (fail)
      go_wp2
      go_roundw
      case rel => exact ⟨k + 1, by go_num, by omega, t.drewN _⟩
      case measure => simp [intOf]; omega
    · go_wp2
      go_ret
      exact ⟨rfl, t⟩

end Go.Proofs.YtnlamhmjlgaomaaDoor

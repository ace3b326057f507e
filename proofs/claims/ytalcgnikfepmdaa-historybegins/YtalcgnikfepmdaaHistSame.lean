/-
  Rows of one's own, read; two lists of pairs that are the same BY THEIR CONTRACT.
-/
import Derived.Test.YtalcgnikfepmdaaHistWrites
namespace Go.Proofs.Ytalcgnikfepmdaa
set_option linter.unusedVariables false
set_option linter.unusedSimpArgs false
open Go.RowKit Go.Maps Go.Shelf

theorem flat_getN {α : Type} {cells : α → List Value} {n : Nat} (hc : ∀ x, (cells x).length = n) (l : List α) (k : Nat) (hk : k < l.length) (j : Nat) (hj : j < n) : (l.flatMap cells)[k * n + j]? = (cells l[k])[j]? := by
  induction l generalizing k with
  | nil => simp at hk
  | cons a l ih =>
    rw [List.flatMap_cons]
    cases k with
    | zero => rw [List.getElem?_append_left (by rw [hc]; omega)]; simp
    | succ k =>
      rw [List.getElem?_append_right (by rw [hc, Nat.succ_mul]; omega)]
      simp only [List.length_cons] at hk
      have := ih k (by omega)
      simp only [List.getElem_cons_succ]
      rw [← this, hc]
      congr 1
      rw [Nat.succ_mul]
      omega

/-- What a row of one's own holds can be read. -/
theorem srow_of_owns {α : Type} {cells : α → List Value} {n : Nat} (hc : ∀ x, (cells x).length = n) {w : World} {B : Nat} {e : TypeId} {v : Value} {l : List α} (h : w.ownsRow B e n v l.length (l.flatMap cells)) : SRow n cells w v l := by
  rcases h.2 with ⟨rfl, h0⟩ | ⟨g, cap, cur, rfl, hB, hg, rest⟩
  · exact ⟨none, 0, by rw [h0], fun hn => absurd (List.eq_nil_of_length_eq_zero h0) hn⟩
  · refine ⟨some ⟨g, 0, none⟩, cap, rfl, fun _ => ⟨g, 0, rfl, lt_of_heap hg, fun k hk j hj => ?_⟩⟩
    have hl : j < (cells l[k]).length := by rw [hc]; exact hj
    have hu : (cells l[k])[j]? = some ((cells l[k])[j]) := List.getElem?_eq_getElem hl
    have hx := h.cells (g := g) rfl (k * n + j) _ ((flat_getN hc l k hk j hj).trans hu)
    rw [Addr.add_lit] at hx
    rw [hu]
    simpa using hx

theorem owns_form {w : World} {B : Nat} {e : TypeId} {size : Nat} {v : Value} {n : Nat} {xs : List Value} (h : w.ownsRow B e size v n xs) : ∃ ao cap, v = .slice ao n cap := by
  rcases h.2 with ⟨rfl, h0⟩ | ⟨g, cap, cur, rfl, _⟩
  · exact ⟨none, 0, by rw [h0]⟩
  · exact ⟨_, _, rfl⟩

abbrev PairRow := SRow 2 pairC
theorem PairRow.two {w : World} {ao : Option Addr} {cap : Nat} {l : List (Int × Int)} (h : PairRow w (.slice ao l.length cap) l) (k : Nat) (hk : k < l.length) :
    ∃ g off, ao = some ⟨g, off, none⟩ ∧ g < w.heap.size ∧ w.cell? ⟨g, off + k * 2, none⟩ = some (.int .i64 l[k].1) ∧ w.cell? ⟨g, off + k * 2 + 1, none⟩ = some (.int .u64 l[k].2) := by
  obtain ⟨g, off, e, hlt, hc⟩ := h.at k hk
  exact ⟨g, off, e, hlt, hc 0 (by omega), hc 1 (by omega)⟩

set_option maxRecDepth 100000 in
set_option maxHeartbeats 1000000 in
theorem samePairs (va vb : Value) (L : List (Int × Int)) (w : World) (hn : L.length ≤ 1000) (ha : PairRow w va L) (hb : PairRow w vb L) :
    Calls Try.prog 10 #[va, vb] w fun e w' => e = .returned (.bool true) ∧ Touch w w' [] := by
  have ra := ha
  have rb := hb
  obtain ⟨ao, ca, rfl, _⟩ := ha
  obtain ⟨bo, cb, rfl, _⟩ := hb
  obtain ⟨n, hlen⟩ : ∃ n, n = L.length := ⟨_, rfl⟩
  have HL : Hid (n = L.length) := hlen
  rw [← hlen] at hn ⊢
  clear hlen
  go_enter Try.func10, Try.ntmps10
  go_wp2_with fail
  go_loopw [5] (fun i wr => ∃ k : Nat, i = .int .i64 k ∧ k ≤ n ∧ Touch w wr []) (fun i _ => n - (intOf i).toNat)
  case atStart => exact ⟨0, rfl, Nat.zero_le _, Touch.refl _ _⟩
  case round =>
    obtain ⟨k, rfl, hk, t⟩ := hrel
    by_cases hlt : k < n
    · have h1 : (k : Int) < n := by omega
      have hkl : k < L.length := by rw [← HL.out]; exact hlt
      obtain ⟨ga, oa, rfl, hga, a0, a1⟩ := PairRow.two ra k hkl
      obtain ⟨gb, ob, rfl, hgb, b0, b1⟩ := PairRow.two rb k hkl
      obtain ⟨e, he⟩ : ∃ e, e = L[k] := ⟨_, rfl⟩
      rw [← he] at a0 a1 b0 b1
      obtain ⟨z0, z1⟩ := e
      simp only at a0 a1 b0 b1
      have x0 := (t.cell (p := ⟨ga, oa + k * 2, none⟩) hga (by simp)).trans a0
      have x1 := (t.cell (p := ⟨ga, oa + k * 2 + 1, none⟩) hga (by simp)).trans a1
      have y0 := (t.cell (p := ⟨gb, ob + k * 2, none⟩) hgb (by simp)).trans b0
      have y1 := (t.cell (p := ⟨gb, ob + k * 2 + 1, none⟩) hgb (by simp)).trans b1
      clear he ra rb a0 a1 b0 b1
      go_wp2_with fail
      go_quiet (fail)
      go_wp2
      go_roundw
      case rel => exact ⟨k + 1, by go_num, by omega, t.drewN _⟩
      case measure => simp [intOf]; omega
    · clear ra rb
      go_wp2
      go_ret
      exact ⟨rfl, t⟩

end Go.Proofs.Ytalcgnikfepmdaa

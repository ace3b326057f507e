/-
  append OF A SLICE THAT CAN BE READ TO A ROW OF ONE's OWN. No walk.
-/
import Derived.Test.YtlndbligbpfdpaaRowsOf
import Derived.Test.YtlndbligbpfdpaaAppendSrc
import Derived.Lib.AppendZeros
namespace Go.Proofs.Ytlndbligbpfdpaa
set_option linter.unusedVariables false
set_option linter.unusedSimpArgs false
open Go.RowKit

theorem flat_len {α : Type} {cells : α → List Value} {n : Nat} (hc : ∀ x, (cells x).length = n) (l : List α) : (l.flatMap cells).length = l.length * n := by
  induction l with
  | nil => simp
  | cons x l ih => simp [List.flatMap_cons, hc, ih, Nat.add_mul]; omega
theorem flat_at {α : Type} {cells : α → List Value} {n : Nat} (hc : ∀ x, (cells x).length = n) (l : List α) : ∀ (k : Nat) (hk : k < l.length) (j : Nat), j < n → (l.flatMap cells)[k * n + j]? = (cells l[k])[j]? := by
  induction l with
  | nil => intro k hk; simp at hk
  | cons x l ih =>
    intro k hk j hj
    cases k with
    | zero => simp [List.flatMap_cons, List.getElem?_append_left, hc, hj]
    | succ k =>
      rw [List.flatMap_cons, List.getElem?_append_right (by rw [hc]; have : n ≤ (k + 1) * n := Nat.le_mul_of_pos_left n (by omega); omega), hc]
      have : (k + 1) * n + j - n = k * n + j := by rw [Nat.add_mul]; omega
      rw [this]
      simpa using ih k (by simpa using hk) j hj

/-- append of a slice that can be read to a row of one's own. -/
theorem run_app {P : Program} {α : Type} {cells : α → List Value} {w : World} (t ty e : TypeId) (i : TypeInfo) (z : Value) (size bytes : Nat) (ht : P.underlying t = some (.slice e)) (hi : P.info? e = some i) (hz : i.zero = some z)
    (hsize : i.size = size) (hby : i.bytes = bytes) (hzs : z.cells.size = size) (hsz : 0 < size) (hc : ∀ x, (cells x).length = size) (h1 : ∀ x, ∀ u ∈ cells x, u.oneCell' = true)
    {B n : Nat} {v : Value} {xs : List Value} (hown : w.ownsRow B e size v n xs) {ao : Option Addr} {cap : Nat} {l : List α} (hr : SRow size cells w (.slice ao l.length cap) l)
    (hb : (n + l.length) * bytes ≤ 140737488355328) (hbp : 0 < bytes) (hB : B ≤ w.heap.size) :
    ∃ v' w', (Builtin.append_ #[t, t] ty #[v, .slice ao l.length cap]).run P w = .ok v' w' ∧ w'.ownsRow B e size v' (n + l.length) (xs ++ l.flatMap cells) ∧ w.grownBy w' v.ownBlock ∧ (v'.ownBlock = v.ownBlock ∨ v'.ownBlock = some w.heap.size) := by
  have h63 : n + l.length ≤ maxLen := by
    unfold maxLen
    have : (n + l.length) * 1 ≤ (n + l.length) * bytes := Nat.mul_le_mul_left _ hbp
    omega
  cases ao with
  | none =>
    have hl0 : l = [] := by
      rcases l with _ | ⟨x, l⟩
      · rfl
      · obtain ⟨g, off, e, _⟩ := hr.at 0 (by simp); cases e
    subst hl0
    refine ⟨v, w, ?_, by simpa using hown, ⟨rfl, rfl, rfl, Nat.le_refl _, fun _ _ _ => rfl⟩, .inl rfl⟩
    rcases hown.2 with ⟨rfl, rfl⟩ | ⟨g, cap, cur, rfl, _, _, hnc, _⟩
    · simp [Builtin.append_, run_underlying ht, sizeOf, typeInfo, hi, Builtin.lenOf, Builtin.firstCells]
    · simp [Builtin.append_, run_underlying ht, sizeOf, typeInfo, hi, Builtin.lenOf, Builtin.firstCells, hnc, storeCells]
  | some a =>
    have hn : ∀ j u, (l.flatMap cells)[j]? = some u → w.cell? (a.add j) = some u := by
      intro j u hu
      have hj : j < l.length * size := by
        have := (List.getElem?_eq_some_iff.1 hu).1
        rwa [flat_len hc] at this
      have hk : j / size < l.length := Nat.div_lt_of_lt_mul (by rw [Nat.mul_comm]; exact hj)
      have hj2 : j % size < size := Nat.mod_lt _ hsz
      obtain ⟨g, off, e, _, hcc⟩ := hr.at (j / size) hk
      cases e
      have hjj : j = j / size * size + j % size := by rw [Nat.mul_comm]; exact (Nat.div_add_mod j size).symm
      have h2 := flat_at hc l (j / size) hk (j % size) hj2
      rw [← hjj, hu] at h2
      have h3 := hcc (j % size) hj2
      rw [Nat.add_assoc, ← hjj, ← h2] at h3
      rw [Addr.add_lit]
      exact h3
    obtain ⟨v', w', h1', h2, h3, h4, h5⟩ := run_append_own_at (P := P) w B t ty e i z size bytes ht hi hz hsize hby hzs hsz v n xs hown a l.length cap (l.flatMap cells) (flat_len hc l) hn
      (fun u hu => by obtain ⟨x, _, hx⟩ := List.mem_flatMap.1 hu; exact h1 x u hx) h63 hb hB
    exact ⟨v', w', h1', h2, h3, h5⟩

theorem flat_one {k : IntKind} (l : List Int) : l.flatMap (fun x : Int => [Value.int k x]) = l.map (Value.int k) := by
  induction l with
  | nil => rfl
  | cons x l ih => simp [List.flatMap_cons, ih]
theorem owns_slice {w : World} {B : Nat} {e : TypeId} {size : Nat} {v : Value} {n : Nat} {xs : List Value} (h : w.ownsRow B e size v n xs) : ∃ ao cap, v = .slice ao n cap := by
  rcases h.2 with ⟨rfl, rfl⟩ | ⟨g, cap, cur, rfl, _⟩
  · exact ⟨none, 0, rfl⟩
  · exact ⟨_, cap, rfl⟩
/-- A row of one's own can be read. -/
theorem srow_of {α : Type} {cells : α → List Value} {n : Nat} (hc : ∀ x, (cells x).length = n) {w : World} {B : Nat} {e : TypeId} {v : Value} {l : List α} (h : w.ownsRow B e n v l.length (l.flatMap cells)) : SRow n cells w v l := by
  rcases h.2 with ⟨rfl, h0⟩ | ⟨g, cap, cur, rfl, hb, hg, _⟩
  · have : l = [] := List.eq_nil_of_length_eq_zero h0
    subst this
    exact ⟨none, 0, rfl, fun h => absurd rfl h⟩
  · refine ⟨_, cap, rfl, fun _ => ⟨g, 0, rfl, lt_of_heap hg, fun k hk j hj => ?_⟩⟩
    have hkn : k * n + j < l.length * n := by
      have : (k + 1) * n ≤ l.length * n := Nat.mul_le_mul_right _ hk
      rw [Nat.add_mul] at this
      omega
    have h2 := flat_at hc l k hk j hj
    have hlt : k * n + j < (l.flatMap cells).length := by rw [flat_len hc]; exact hkn
    rw [← h2, List.getElem?_eq_getElem hlt]
    have := h.cells (g := g) rfl (k * n + j) _ (List.getElem?_eq_getElem hlt)
    rw [Addr.add_lit] at this
    rw [Nat.zero_add]
    simpa using this
theorem SRow.form {α : Type} {n : Nat} {cells : α → List Value} {w : World} {v : Value} {l : List α} (h : SRow n cells w v l) : ∃ ao cap, v = .slice ao l.length cap := by
  obtain ⟨ao, cap, e, _⟩ := h
  exact ⟨ao, cap, e⟩
/-- The block in which a row lies. -/
theorem SRow.keepB {α : Type} {n : Nat} {cells : α → List Value} {w w' : World} {v : Value} {l : List α} {S : List Nat} (h : SRow n cells w v l) (t : Touch w w' S) (hS : l ≠ [] → ∀ g, v.ownBlock = some g → g ∉ S) : SRow n cells w' v l := by
  obtain ⟨ao, cap, rfl, h1⟩ := h
  refine ⟨ao, cap, rfl, fun hn => ?_⟩
  obtain ⟨g, off, rfl, hlt, hc⟩ := h1 hn
  exact ⟨g, off, rfl, Nat.lt_of_lt_of_le hlt t.size, fun k hk j hj => (t.cell (p := ⟨g, _, none⟩) hlt (hS hn g rfl)).trans (hc k hk j hj)⟩
theorem SRow.block {α : Type} {n : Nat} {cells : α → List Value} {w : World} {v : Value} {l : List α} (h : SRow n cells w v l) (hl : l ≠ []) (g : Nat) (hg : v.ownBlock = some g) : g < w.heap.size := by
  obtain ⟨ao, cap, rfl, h1⟩ := h
  obtain ⟨g', off, rfl, hlt, _⟩ := h1 hl
  simp [Value.ownBlock] at hg
  omega

end Go.Proofs.Ytlndbligbpfdpaa

/-
  package locks: block BY ITS CONTRACT.
-/
import Derived.Test.YtaebcigfinjeiaaDoorLkJoin
namespace Go.Proofs.YtaebcigfinjeiaaDoor
set_option linter.unusedVariables false
set_option linter.unusedSimpArgs false
open Go.RowKit
attribute [local go_sem] Oper.semAt_some

/-- An instruction from a place on. -/
def shI (a : Int) (i : InsD) : InsD := if goesP i.op then ⟨i.op, i.arg + a, i.val⟩ else i
def mixL (a : Int) (M : List InsD) (k : Nat) : List InsD := (M.take k).map (shI a) ++ M.drop k
theorem mix_len (a : Int) (M : List InsD) (k : Nat) (hk : k ≤ M.length) : (mixL a M k).length = M.length := by
  unfold mixL; rw [List.length_append, List.length_map, List.length_take, List.length_drop]; omega
theorem mix_zero (a : Int) (M : List InsD) : mixL a M 0 = M := by unfold mixL; simp
theorem mix_all (a : Int) (M : List InsD) : mixL a M M.length = M.map (shI a) := by unfold mixL; simp
theorem mix_get (a : Int) (M : List InsD) (k : Nat) (hk : k < M.length) : (mixL a M k)[k]'(by rw [mix_len a M k (by omega)]; exact hk) = M[k] := by
  unfold mixL
  rw [List.getElem_append_right (by rw [List.length_map, List.length_take]; omega)]
  simp [List.length_take, Nat.min_eq_left (Nat.le_of_lt hk)]
theorem mix_succ (a : Int) (M : List InsD) (k : Nat) (hk : k < M.length) : mixL a M (k + 1) = (mixL a M k).set k (shI a M[k]) := by
  unfold mixL
  rw [List.take_succ_eq_append_getElem hk, List.map_append, List.append_assoc]
  have hl : ((M.take k).map (shI a)).length = k := by rw [List.length_map, List.length_take]; omega
  rw [List.set_append_right _ _ (by omega), hl, Nat.sub_self]
  congr 1
  rw [List.drop_eq_getElem_cons hk, List.set_cons_zero]
  rfl
theorem mix_same (a : Int) (M : List InsD) (k : Nat) (hk : k < M.length) (hg : goesP M[k].op = false) : mixL a M (k + 1) = mixL a M k := by
  rw [mix_succ a M k hk]
  have hs : shI a M[k] = M[k] := by unfold shI; rw [hg]; simp
  rw [hs]
  have := mix_get a M k hk
  conv => lhs; rw [← this]
  exact List.set_getElem_self _

theorem lk_set {w : World} {B g cap n m : Nat} {e : TypeId} {xs : List Value} (h : w.ownsRow B e m (.slice (some ⟨g, 0, none⟩) n cap) n xs) (i : Nat) (u : Value) :
    (w.setCell ⟨g, i, none⟩ u).ownsRow B e m (.slice (some ⟨g, 0, none⟩) n cap) n (xs.set i u) := by
  refine ⟨by have := h.1; simpa using this, .inr ?_⟩
  rcases h.2 with ⟨e, _⟩ | ⟨g', cap', cur, e, hB, hg, h1, h2, h3, h4⟩
  · simp at e
  · simp only [Value.slice.injEq, Option.some.injEq, Addr.mk.injEq] at e
    obtain ⟨⟨rfl, _⟩, _, rfl⟩ := e
    refine ⟨g, cap, _, rfl, hB, heap_setCell_same _ _ _ _ _ _ hg, h1, h2, by simpa using h3, ?_⟩
    rw [← h4]
    simp only [Array.toList_setIfInBounds]
    rw [List.take_set]
theorem flat_set (L : List InsD) : ∀ (k : Nat) (hk : k < L.length) (x : Int), (L.flatMap InsD.cells).set (k * 3 + 1) (.int .i64 x) = (L.set k ⟨L[k].op, x, L[k].val⟩).flatMap InsD.cells := by
  induction L with
  | nil => intro k hk; simp at hk
  | cons i L ih =>
    intro k hk x
    cases k with
    | zero => simp [InsD.cells]
    | succ k =>
      have h3 : (k + 1) * 3 + 1 = (k * 3 + 1) + 1 + 1 + 1 := by omega
      have := ih k (by simpa using hk) x
      rw [h3]
      simp [InsD.cells] at this ⊢
      exact this

/-- What the blocks come to: the error, or the instructions. -/
def LkP (w : World) (er : Int) (L : List InsD) (e : Ending) (w' : World) : Prop :=
  (er = 0 ∧ ∃ ao cap, e = .returned (.tuple #[.slice ao L.length cap, .int .i64 0]) ∧ InsIn w' ao L.length cap L ∧ Touch w w' []) ∨ (er ≠ 0 ∧ e = .returned (.tuple #[.slice none 0 0, .int .i64 er]) ∧ Touch w w' [])

/-- A block around a body. -/
def bodyL (b : List InsD) : List InsD := insO 21 (1 + b.length) :: (b ++ [insO 22 0])
def blkL (a : Int) (b : List InsD) : List InsD := (bodyL b).map (shI a)
def blkE (a : Int) (b : List InsD) : Int := if a + ((bodyL b).length : Nat) > 64 then 4 else 0

theorem ins_one_in (w : World) (x : InsD) (hx : x.Wf) : InsIn (w.alloc (.cells #[.int .u8 x.op, .int .i64 x.arg, .int .u64 x.val] 44)) (some ⟨w.heap.size, 0, none⟩) 1 1 [x] :=
  ⟨rfl, ins_new w x, Nat.le_refl _, by omega, fun i hi => by rw [List.mem_singleton.1 hi]; exact hx⟩
theorem three_rows {w1 W2 W3 : World} {a1 : Option Addr} {c1 : Nat} {b : List InsD} (hI : InsIn w1 a1 b.length c1 b) (hne : b ≠ []) (x y : InsD) (hx : x.Wf) (hy : y.Wf) (t2 : Touch w1 W2 []) (t3 : Touch (W2.alloc (.cells #[.int .u8 x.op, .int .i64 x.arg, .int .u64 x.val] 44)) W3 []) (ty : TypeId) :
    RowsAt ((W3.alloc (.cells #[.int .u8 y.op, .int .i64 y.arg, .int .u64 y.val] 44)).alloc (.cells #[.slice (some ⟨W2.heap.size, 0, none⟩) 1 1, .slice a1 b.length c1, .slice (some ⟨W3.heap.size, 0, none⟩) 1 1] ty)) (W3.heap.size + 1) [[x], b, [y]] := by
  have tA : Touch W2 (W2.alloc (.cells #[.int .u8 x.op, .int .i64 x.arg, .int .u64 x.val] 44)) [] := (Touch.refl _ _).alloc _
  have tB : Touch W3 (W3.alloc (.cells #[.int .u8 y.op, .int .i64 y.arg, .int .u64 y.val] 44)) [] := (Touch.refl _ _).alloc _
  have tC : ∀ o, Touch (W3.alloc (.cells #[.int .u8 y.op, .int .i64 y.arg, .int .u64 y.val] 44)) ((W3.alloc (.cells #[.int .u8 y.op, .int .i64 y.arg, .int .u64 y.val] 44)).alloc o) [] := fun o => (Touch.refl _ _).alloc _
  have hh : (W3.alloc (.cells #[.int .u8 y.op, .int .i64 y.arg, .int .u64 y.val] 44)).heap.size = W3.heap.size + 1 := by simp
  have hn := heap_alloc_new (W3.alloc (.cells #[.int .u8 y.op, .int .i64 y.arg, .int .u64 y.val] 44)) (.cells #[.slice (some ⟨W2.heap.size, 0, none⟩) 1 1, .slice a1 b.length c1, .slice (some ⟨W3.heap.size, 0, none⟩) 1 1] ty)
  rw [hh] at hn
  refine ⟨fun k hk => ?_, ?_⟩
  · match k, hk with
    | 0, _ => exact ⟨_, 1, by unfold World.cell?; rw [hn]; rfl, ((ins_one_in W2 x hx).keep (t3.trans tB (by simp))).keep (tC _)⟩
    | 1, _ => exact ⟨a1, c1, by unfold World.cell?; rw [hn]; rfl, (hI.keep ((t2.trans tA (by simp)).trans (t3.trans tB (by simp)) (by simp))).keep (tC _)⟩
    | 2, _ => exact ⟨_, 1, by unfold World.cell?; rw [hn]; rfl, (ins_one_in W3 y hy).keep (tC _)⟩
  · intro l hl
    simp only [List.mem_cons, List.not_mem_nil, or_false] at hl
    rcases hl with rfl | rfl | rfl
    · simp
    · exact hne
    · simp

theorem shI_wf {a : Int} (ha0 : 0 ≤ a) (ha1 : a ≤ 64) {i : InsD} (hi : i.Wf) (hb : 0 ≤ i.arg ∧ i.arg ≤ 1000) : (shI a i).Wf := by
  unfold shI
  split
  · exact ⟨hi.op, ⟨by show -9223372036854775808 ≤ i.arg + a; omega, by show i.arg + a ≤ 9223372036854775807; omega⟩, hi.val⟩
  · exact hi
theorem insO_wf {o a : Int} (h0 : 0 ≤ o) (h1 : o ≤ 255) (h2 : 0 ≤ a) (h3 : a ≤ 1000) : (insO o a).Wf := ⟨⟨h0, h1⟩, ⟨by show -9223372036854775808 ≤ a; omega, by show a ≤ 9223372036854775807; omega⟩, by unfold Wf64 insO; simp⟩

end Go.Proofs.YtaebcigfinjeiaaDoor

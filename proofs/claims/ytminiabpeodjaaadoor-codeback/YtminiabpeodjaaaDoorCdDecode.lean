/-
  package code: Decode, OF THE BYTES OF RIGHT INSTRUCTIONS, BY ITS CONTRACT.
-/
import Derived.Test.YtminiabpeodjaaaDoorAllA
namespace Go.Proofs.YtminiabpeodjaaaDoor
set_option linter.unusedVariables false
set_option linter.unusedSimpArgs false
open Go.RowKit
attribute [local go_sem] Oper.semAt_some

theorem encI_width (i : InsD) : (encI i).length = widthP i.op := by
  unfold encI widthP
  rw [List.length_cons, List.length_append]
  have h1 : (if argP i.op then [i.arg % 256] else ([] : List Int)).length = if argP i.op then 1 else 0 := by split <;> simp
  have h2 : (if valP i.op then valB i.val.toNat 8 else ([] : List Int)).length = if valP i.op then 8 else 0 := by split <;> simp [valB_len]
  omega
theorem brow_take {w : World} {ao : Option Addr} {cap : Nat} {a b : List Int} (h : BRow w (.slice ao (a ++ b).length cap) (a ++ b)) (c : Nat) : BRow w (.slice ao a.length c) a := by
  refine ⟨ao, c, rfl, fun hne => ?_⟩
  have hpos : 0 < a.length := List.length_pos_iff.2 hne
  obtain ⟨g, off, e, hg, _⟩ := h.one 0 (by simp; omega)
  refine ⟨g, off, e, hg, fun k hk j hj => ?_⟩
  obtain ⟨g', off', e', _, hc⟩ := h.one k (by simp; omega)
  rw [e] at e'
  simp only [Option.some.injEq, Addr.mk.injEq] at e'
  obtain ⟨rfl, rfl, _⟩ := e'
  obtain rfl : j = 0 := by omega
  rw [List.getElem_append_left hk] at hc
  simpa using hc
theorem brow_drop {w : World} {g off cap : Nat} {a b : List Int} (h : BRow w (.slice (some ⟨g, off, none⟩) (a ++ b).length cap) (a ++ b)) (c : Nat) (p : Nat) (hp : b ≠ [] → p = off + a.length) : BRow w (.slice (some ⟨g, p, none⟩) b.length c) b := by
  refine ⟨_, c, rfl, fun hne => ?_⟩
  have hpos : 0 < b.length := List.length_pos_iff.2 hne
  obtain ⟨g0, off0, e0, hg, _⟩ := h.one 0 (by simp; omega)
  simp only [Option.some.injEq, Addr.mk.injEq] at e0
  obtain ⟨rfl, rfl, _⟩ := e0
  refine ⟨g, p, rfl, hg, fun k hk j hj => ?_⟩
  obtain ⟨g', off', e', _, hc⟩ := h.one (a.length + k) (by simp; omega)
  simp only [Option.some.injEq, Addr.mk.injEq] at e'
  obtain ⟨rfl, rfl, _⟩ := e'
  obtain rfl : j = 0 := by omega
  rw [List.getElem_append_right (by omega)] at hc
  have hpe := hp hne
  have e1 : off + (a.length + k) = p + k * 1 + 0 := by omega
  rw [e1] at hc
  simpa using hc

abbrev insOwn (w : World) (B : Nat) (v : Value) (l : List InsD) : Prop := w.ownsRow B 26 3 v l.length (l.flatMap InsD.cells)
theorem Tryd.info_ins : (Tryd.prog.info? 26).map (fun i => (i.zero, i.size, i.bytes)) = some (some (.agg #[.int .u8 0, .int .i64 0, .int .u64 0]), 3, 24) := by kernel_rfl
theorem ins_one (x : InsD) : ∀ u ∈ x.cells, u.oneCell' = true := by
  intro u hu
  simp only [InsD.cells, List.mem_cons, List.not_mem_nil, or_false] at hu
  rcases hu with rfl | rfl | rfl <;> rfl
theorem ins_new (w : World) (x : InsD) : InsRow (w.alloc (.cells #[.int .u8 x.op, .int .i64 x.arg, .int .u64 x.val] 26)) (.slice (some ⟨w.heap.size, 0, none⟩) 1 1) [x] := by
  refine ⟨_, 1, rfl, fun _ => ⟨w.heap.size, 0, rfl, by simp, fun k hk j hj => ?_⟩⟩
  have hk0 : k = 0 := by simpa using hk
  subst hk0
  have h0 := heap_alloc_new w (.cells #[.int .u8 x.op, .int .i64 x.arg, .int .u64 x.val] 26)
  unfold World.cell?
  simp only [h0]
  match j, hj with
  | 0, _ => rfl
  | 1, _ => rfl
  | 2, _ => rfl
/-- One instruction more. -/
theorem ins_push {w : World} {B : Nat} {v : Value} {xs : List InsD} (h : insOwn w B v xs) (hl : xs.length ≤ 1000) (hB : B ≤ w.heap.size) (x : InsD) (ty : TypeId) :
    ∃ ao' cap' w', (Builtin.append_ #[38, 38] ty #[v, .slice (some ⟨w.heap.size, 0, none⟩) 1 1]).run Tryd.prog (w.alloc (.cells #[.int .u8 x.op, .int .i64 x.arg, .int .u64 x.val] 26)) = .ok (.slice ao' (xs.length + 1) cap') w' ∧ insOwn w' B (.slice ao' (xs.length + 1) cap') (xs ++ [x]) ∧ Touch w w' v.ownBlock.toList := by
  obtain ⟨i0, hi, hz0, hz1, hz2⟩ := info_parts' Tryd.info_ins
  have T1 : Touch w (w.alloc (.cells #[.int .u8 x.op, .int .i64 x.arg, .int .u64 x.val] 26)) [] := (Touch.refl w []).alloc _
  obtain ⟨v', w', h1, h2, h3, h4⟩ := run_app (P := Tryd.prog) (cells := InsD.cells) 38 ty 26 i0 _ 3 24 Tryd.underlying38 hi hz0 hz1 hz2 rfl (by decide) (fun _ => rfl) ins_one (ownsRow_touch h T1 (by simp)) (l := [x]) (ins_new w x) (by simp only [List.length_cons, List.length_nil]; omega) (by decide) (by simp; omega)
  have h2' : insOwn w' B v' (xs ++ [x]) := by
    show w'.ownsRow _ _ _ _ _ _
    rw [List.length_append, List.flatMap_append]
    exact h2
  obtain ⟨ao', cap', rfl⟩ := owns_slice h2
  exact ⟨ao', cap', w', h1, h2', (T1.mono (by simp)).grown h3 (fun k hk => .inl (by simp [hk]))⟩

end Go.Proofs.YtminiabpeodjaaaDoor

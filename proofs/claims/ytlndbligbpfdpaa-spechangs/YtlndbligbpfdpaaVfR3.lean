/-
  THREE ROWS OF NUMBERS, EACH IN A BLOCK OF ITS OWN. No walk.
-/
import Derived.Test.YtlndbligbpfdpaaVfRef
namespace Go.Proofs.Ytlndbligbpfdpaa
set_option linter.unusedVariables false
set_option linter.unusedSimpArgs false
open Go.RowKit

structure R3 (B : Nat) (w : World) (vi ve vo : Value) (xi xe xo : List Int) : Prop where
  i : intOwnV w B vi xi
  e : intOwnV w B ve xe
  o : intOwnV w B vo xo
  ie : ∀ g, vi.ownBlock = some g → ve.ownBlock ≠ some g
  io : ∀ g, vi.ownBlock = some g → vo.ownBlock ≠ some g
  eo : ∀ g, ve.ownBlock = some g → vo.ownBlock ≠ some g
theorem own_ltV {w : World} {B : Nat} {v : Value} {xs : List Int} (h : intOwnV w B v xs) : ∀ g, v.ownBlock = some g → B ≤ g ∧ g < w.heap.size := fun g hg => World.ownsRow.lt h g hg
theorem int_pushW {w : World} {B : Nat} {v : Value} {xs : List Int} (h : intOwnV w B v xs) (hl : xs.length ≤ 1000) (hB : B ≤ w.heap.size) (x : Int) (ty : TypeId) :
    ∃ ao' cap' w', (Builtin.append_ #[54, 54] ty #[v, .slice (some ⟨w.heap.size, 0, none⟩) 1 1]).run Try.prog (w.alloc (.cells #[.int .i64 x] 3)) = .ok (.slice ao' (xs.length + 1) cap') w' ∧ intOwnV w' B (.slice ao' (xs.length + 1) cap') (xs ++ [x]) ∧ Touch w w' v.ownBlock.toList ∧ (∀ g, (Value.slice ao' (xs.length + 1) cap').ownBlock = some g → v.ownBlock = some g ∨ w.heap.size ≤ g) := by
  obtain ⟨i0, hi, hz0, hz1, hz2⟩ := info_partsV Try.info_intV
  obtain ⟨v', w', h1, h2, h3, h4, h5⟩ := run_append_own_at (P := Try.prog) (w.alloc (.cells #[.int .i64 x] 3)) B 54 ty 3 i0 _ 1 8 Try.underlying54 hi hz0 hz1 hz2 rfl (by decide) v xs.length _ (h.alloc _) ⟨w.heap.size, 0, none⟩ 1 1 [.int .i64 x] rfl (World.news_of_block (cs := #[.int .i64 x]) (t := 3) (fr := (0, 0)) (heap_alloc_new w _)) (by simp [Value.oneCell']) (by unfold maxLen; omega) (by omega) (by simp; omega)
  have h2' : intOwnV w' B v' (xs ++ [x]) := by
    show w'.ownsRow _ _ _ _ _ _
    rw [List.length_append, List.map_append]
    exact h2
  obtain ⟨ao', cap', rfl⟩ := owns_slice h2
  refine ⟨ao', cap', w', h1, h2', ((Touch.refl w _).alloc _).grown h3 (fun k hk => .inl (by simp [hk])), fun g hg => ?_⟩
  rcases h5 with q | q
  · left; rw [← q]; exact hg
  · right; rw [q] at hg; simp at hg; omega
theorem touch_up {W0 w w' : World} {S : List Nat} (a : Touch W0 w []) (t : Touch w w' S) (h : ∀ x ∈ S, W0.heap.size ≤ x) : Touch W0 w' [] := a.trans t (fun x hx => .inr (h x hx))
theorem R3.pushI {W0 w : World} {vi ve vo : Value} {xi xe xo : List Int} (h : R3 W0.heap.size w vi ve vo xi xe xo) (t0 : Touch W0 w []) (hl : xi.length ≤ 1000) (x : Int) (ty : TypeId) :
    ∃ ao' cap' w', (Builtin.append_ #[54, 54] ty #[vi, .slice (some ⟨w.heap.size, 0, none⟩) 1 1]).run Try.prog (w.alloc (.cells #[.int .i64 x] 3)) = .ok (.slice ao' (xi.length + 1) cap') w' ∧ R3 W0.heap.size w' (.slice ao' (xi.length + 1) cap') ve vo (xi ++ [x]) xe xo ∧ Touch W0 w' [] ∧ Touch w w' vi.ownBlock.toList := by
  obtain ⟨ao', cap', w', h1, h2, h3, h4⟩ := int_pushW h.i hl t0.size x ty
  refine ⟨ao', cap', w', h1, ⟨h2, ownsRow_touch h.e h3 (fun g hg hs => h.ie g (by simpa using hs) hg), ownsRow_touch h.o h3 (fun g hg hs => h.io g (by simpa using hs) hg), fun g hg he => ?_, fun g hg he => ?_, h.eo⟩, touch_up t0 h3 (fun x hx => (own_ltV h.i x (by simpa using hx)).1), h3⟩
  · rcases h4 g hg with q | q
    · exact h.ie g q he
    · have := (own_ltV h.e g he).2; omega
  · rcases h4 g hg with q | q
    · exact h.io g q he
    · have := (own_ltV h.o g he).2; omega
theorem R3.pushE {W0 w : World} {vi ve vo : Value} {xi xe xo : List Int} (h : R3 W0.heap.size w vi ve vo xi xe xo) (t0 : Touch W0 w []) (hl : xe.length ≤ 1000) (x : Int) (ty : TypeId) :
    ∃ ao' cap' w', (Builtin.append_ #[54, 54] ty #[ve, .slice (some ⟨w.heap.size, 0, none⟩) 1 1]).run Try.prog (w.alloc (.cells #[.int .i64 x] 3)) = .ok (.slice ao' (xe.length + 1) cap') w' ∧ R3 W0.heap.size w' vi (.slice ao' (xe.length + 1) cap') vo xi (xe ++ [x]) xo ∧ Touch W0 w' [] ∧ Touch w w' ve.ownBlock.toList := by
  obtain ⟨ao', cap', w', h1, h2, h3, h4⟩ := int_pushW h.e hl t0.size x ty
  refine ⟨ao', cap', w', h1, ⟨ownsRow_touch h.i h3 (fun g hg hs => h.ie g hg (by simpa using hs)), h2, ownsRow_touch h.o h3 (fun g hg hs => h.eo g (by simpa using hs) hg), fun g hg he => ?_, h.io, fun g hg he => ?_⟩, touch_up t0 h3 (fun x hx => (own_ltV h.e x (by simpa using hx)).1), h3⟩
  · rcases h4 g he with q | q
    · exact h.ie g hg q
    · have := (own_ltV h.i g hg).2; omega
  · rcases h4 g hg with q | q
    · exact h.eo g q he
    · have := (own_ltV h.o g he).2; omega
/-- end[t] is written. -/
theorem R3.setE {W0 w : World} {vi vo : Value} {ge ce n : Nat} {xi xe xo : List Int} (h : R3 W0.heap.size w vi (.slice (some ⟨ge, 0, none⟩) n ce) vo xi xe xo) (hn : xe.length = n) (t0 : Touch W0 w []) (t : Nat) (x : Int) :
    R3 W0.heap.size (w.setCell ⟨ge, t, none⟩ (.int .i64 x)) vi (.slice (some ⟨ge, 0, none⟩) n ce) vo xi (xe.set t x) xo ∧ Touch W0 (w.setCell ⟨ge, t, none⟩ (.int .i64 x)) [] := by
  have tt : Touch w (w.setCell ⟨ge, t, none⟩ (.int .i64 x)) [ge] := (Touch.refl w [ge]).setCell (.inl (by simp)) _
  refine ⟨⟨ownsRow_touch h.i tt (fun g hg hs => by simp at hs; subst hs; exact h.ie _ hg rfl), ?_, ownsRow_touch h.o tt (fun g hg hs => by simp at hs; subst hs; exact h.eo _ rfl hg), h.ie, h.io, h.eo⟩, touch_up t0 tt (fun y hy => by simp at hy; subst hy; exact (own_ltV h.e _ rfl).1)⟩
  have := h.e
  unfold intOwnV at this ⊢
  rw [hn] at this
  rw [List.length_set, hn]
  exact int_setV this t x
theorem srow_int {w : World} {B : Nat} {v : Value} {xs : List Int} (h : intOwnV w B v xs) : SRow 1 (fun x : Int => [Value.int .i64 x]) w v xs := by
  have : w.ownsRow B 3 1 v xs.length (xs.flatMap fun x : Int => [Value.int .i64 x]) := by rw [flat_one]; exact h
  exact srow_of (cells := fun x : Int => [Value.int .i64 x]) (n := 1) (fun _ => rfl) this
/-- append to a new empty list. -/
theorem clone_own {w : World} {B : Nat} {ao : Option Addr} {cp : Nat} {ys : List Int} (hr : SRow 1 (fun x : Int => [Value.int .i64 x]) w (.slice ao ys.length cp) ys) (hl : ys.length ≤ 1000) (hB : B ≤ w.heap.size) (ty : TypeId) :
    ∃ ao' cap' w', (Builtin.append_ #[54, 54] ty #[.slice (some ⟨w.heap.size, 0, none⟩) 0 0, .slice ao ys.length cp]).run Try.prog (w.alloc (.cells #[] 3)) = .ok (.slice ao' ys.length cap') w' ∧ intOwnV w' B (.slice ao' ys.length cap') ys ∧ Touch w w' [] ∧ (∀ g, (Value.slice ao' ys.length cap').ownBlock = some g → w.heap.size ≤ g) := by
  obtain ⟨i0, hi, hz0, hz1, hz2⟩ := info_partsV Try.info_intV
  have t1 : Touch w (w.alloc (.cells #[] 3)) [] := (Touch.refl w []).alloc _
  have he : (w.alloc (.cells #[] 3)).ownsRow B 3 1 (.slice (some ⟨w.heap.size, 0, none⟩) 0 0) 0 [] := World.ownsRow_made w #[] 0 hB (by decide) (by simp)
  obtain ⟨v', w', h1, h2, h3, h4⟩ := run_app (P := Try.prog) (cells := fun x : Int => [Value.int .i64 x]) 54 ty 3 i0 _ 1 8 Try.underlying54 hi hz0 hz1 hz2 rfl (by decide) (fun _ => rfl) (by simp [Value.oneCell']) he (SRow.keep hr t1 (by simp)) (by omega) (by decide) (by simp; omega)
  rw [List.nil_append, flat_one, Nat.zero_add] at h2
  obtain ⟨ao', cap', rfl⟩ := owns_slice h2
  refine ⟨ao', cap', w', h1, h2, t1.grown h3 (fun k hk => .inr (by simp [Value.ownBlock] at hk; omega)), fun g hg => ?_⟩
  rcases h4 with q | q
  · rw [q] at hg; simp [Value.ownBlock] at hg; omega
  · rw [q] at hg; simp at hg; omega
/-- A new list of what is open. -/
theorem R3.newO {W0 w w' : World} {vi ve vo v' : Value} {xi xe xo ys : List Int} (h : R3 W0.heap.size w vi ve vo xi xe xo) (t0 : Touch W0 w []) (t : Touch w w' []) (hv : intOwnV w' W0.heap.size v' ys) (hf : ∀ g, v'.ownBlock = some g → w.heap.size ≤ g) : R3 W0.heap.size w' vi ve v' xi xe ys ∧ Touch W0 w' [] :=
  ⟨⟨ownsRow_touch h.i t (by simp), ownsRow_touch h.e t (by simp), hv, h.ie, fun g hg he => by have := (own_ltV h.i g hg).2; have := hf g he; omega, fun g hg he => by have := (own_ltV h.e g hg).2; have := hf g he; omega⟩, t0.trans t (by simp)⟩

end Go.Proofs.Ytlndbligbpfdpaa

/-
  package verify: Blocks BY ITS CONTRACT; few, live OF THE LAWS.
-/
import Derived.Test.YtlndbligbpfdpaaAllC
import Derived.Test.YtlndbligbpfdpaaAllB
namespace Go.Proofs.Ytlndbligbpfdpaa
set_option linter.unusedVariables false
set_option linter.unusedSimpArgs false
open Go.RowKit
attribute [local go_sem] Oper.semAt_some

/-- One number more. -/
theorem int_pushV {w : World} {B : Nat} {v : Value} {xs : List Int} (h : intOwnV w B v xs) (hl : xs.length ≤ 1000) (hB : B ≤ w.heap.size) (x : Int) (ty : TypeId) :
    ∃ ao' cap' w', (Builtin.append_ #[54, 54] ty #[v, .slice (some ⟨w.heap.size, 0, none⟩) 1 1]).run Try.prog (w.alloc (.cells #[.int .i64 x] 3)) = .ok (.slice ao' (xs.length + 1) cap') w' ∧ intOwnV w' B (.slice ao' (xs.length + 1) cap') (xs ++ [x]) ∧ Touch w w' v.ownBlock.toList := by
  obtain ⟨i0, hi, hz0, hz1, hz2⟩ := info_partsV Try.info_intV
  obtain ⟨v', w', h1, h2, h3, h4, h5⟩ := run_append_own_at (P := Try.prog) (w.alloc (.cells #[.int .i64 x] 3)) B 54 ty 3 i0 _ 1 8 Try.underlying54 hi hz0 hz1 hz2 rfl (by decide) v xs.length _ (h.alloc _) ⟨w.heap.size, 0, none⟩ 1 1 [.int .i64 x] rfl (World.news_of_block (cs := #[.int .i64 x]) (t := 3) (fr := (0, 0)) (heap_alloc_new w _)) (by simp [Value.oneCell']) (by unfold maxLen; omega) (by omega) (by simp; omega)
  have h2' : intOwnV w' B v' (xs ++ [x]) := by
    show w'.ownsRow _ _ _ _ _ _
    rw [List.length_append, List.map_append]
    exact h2
  obtain ⟨ao', cap', rfl⟩ := owns_slice h2
  exact ⟨ao', cap', w', h1, h2', ((Touch.refl w _).alloc _).grown h3 (fun k hk => .inl (by simp [hk]))⟩

def blkV (l : List InsD) (k : Nat) : List Int := ((List.range k).filter fun j => decide (opAt l j = 21)).map Int.ofNat
theorem blk_succ (l : List InsD) (k : Nat) : blkV l (k + 1) = if opAt l k = 21 then blkV l k ++ [(k : Int)] else blkV l k := by
  unfold blkV
  rw [List.range_succ, List.filter_append, List.map_append]
  by_cases h : opAt l k = 21 <;> simp [h]
theorem blk_len (l : List InsD) (k : Nat) : (blkV l k).length ≤ k := by
  unfold blkV
  rw [List.length_map]
  exact Nat.le_trans (List.length_filter_le _ _) (by simp)

/-- The first ones of instructions that can be read. -/
theorem insv_take {w : World} {ao : Option Addr} {cap : Nat} {l : List InsD} (h : InsV w (.slice ao l.length cap) l) (n c : Nat) (hn : n ≤ l.length) : InsV w (.slice ao n c) (l.take n) := by
  refine ⟨ao, c, by rw [List.length_take, Nat.min_eq_left hn], fun hne => ?_⟩
  have hpos : 0 < n := by
    rcases Nat.eq_zero_or_pos n with h0 | h0
    · subst h0; simp at hne
    · exact h0
  obtain ⟨g, off, e, hg, _⟩ := SRow.at h 0 (by omega)
  refine ⟨g, off, e, hg, fun k hk j hj => ?_⟩
  rw [List.length_take] at hk
  obtain ⟨g', off', e', _, hc⟩ := SRow.at h k (by omega)
  rw [e] at e'
  simp only [Option.some.injEq, Addr.mk.injEq] at e'
  obtain ⟨rfl, rfl, _⟩ := e'
  rw [hc j hj, List.getElem_take]

end Go.Proofs.Ytlndbligbpfdpaa
/-
  THE DOCUMENT'S closes, opens, arms BY THEIR CONTRACTS; THREE ROWS OF NUMBERS.
-/
namespace Go.Proofs.Ytlndbligbpfdpaa
set_option linter.unusedVariables false
set_option linter.unusedSimpArgs false
open Go.RowKit
attribute [local go_sem] Oper.semAt_some

def rclV (o : Int) : Int := if o = 22 then 21 else if o = 24 then 23 else if o = 25 then 24 else 0
set_option maxRecDepth 100000 in
theorem rcloses_any (o : Int) (w : World) : Calls Try.prog 80 #[.int .u8 o] w fun e w' => e = .returned (.int .u8 (rclV o)) ∧ w = w' := by
  rcases (show o = 22 ∨ o = 24 ∨ o = 25 ∨ (o ≠ 22 ∧ o ≠ 24 ∧ o ≠ 25) by omega) with rfl | rfl | rfl | ⟨h1, h2, h3⟩
  all_goals try (
    go_enter Try.func80, Try.ntmps80
    go_wp2
    go_ret
    exact ⟨rfl, rfl⟩)
  have e : rclV o = 0 := by simp [rclV, *]
  have b1 : (o == 22) = false := by simpa using h1
  have b2 : (o == 24) = false := by simpa using h2
  have b3 : (o == 25) = false := by simpa using h3
  rw [e]
  go_enter Try.func80, Try.ntmps80
  go_wp2
  go_ret
  exact ⟨rfl, rfl⟩
set_option maxRecDepth 100000 in
theorem ropens_any (o : Int) (w : World) : Calls Try.prog 81 #[.int .u8 o] w fun e w' => e = .returned (.bool (opensV o)) ∧ w = w' := by
  have e : opensV o = (o == 21 || o == 23 || o == 24) := by unfold opensV; rw [Bool.eq_iff_iff]; simp; omega
  rw [e]
  rcases (show o = 21 ∨ o = 23 ∨ o = 24 ∨ (o ≠ 21 ∧ o ≠ 23 ∧ o ≠ 24) by omega) with rfl | rfl | rfl | ⟨h1, h2, h3⟩
  all_goals try (
    go_enter Try.func81, Try.ntmps81
    go_wp2
    go_ret
    exact ⟨rfl, rfl⟩)
  all_goals (
    go_enter Try.func81, Try.ntmps81
    go_wp2
    go_ret
    exact ⟨by simp [*], rfl⟩)

/-- Open places as they lie in the document's list. -/
def opRow (op : List Nat) : List Int := op.reverse.map Int.ofNat
theorem opRow_len (op : List Nat) : (opRow op).length = op.length := by simp [opRow]
theorem opRow_cons (t : Nat) (r : List Nat) : opRow (t :: r) = opRow r ++ [(t : Int)] := by simp [opRow]
theorem opRow_at {op : List Nat} {j : Nat} (h : j < op.length) : ∃ t, t ∈ op ∧ (opRow op)[j]? = some (t : Int) ∧ op.reverse[j]? = some t := by
  have hj : j < op.reverse.length := by simpa using h
  exact ⟨op.reverse[j], by simp, by unfold opRow; rw [List.getElem?_map, List.getElem?_eq_getElem hj]; rfl, List.getElem?_eq_getElem hj⟩
def armsK (l : List InsD) (op : List Nat) (k : Nat) : Nat := ((op.reverse.take k).filter fun t => decide (opAt l t ≠ 21)).length
theorem armsK_all (l : List InsD) (op : List Nat) : armsK l op op.length = armsV l op := by
  unfold armsK armsV
  rw [List.take_of_length_le (by simp), List.filter_reverse, List.length_reverse]
theorem armsK_succ (l : List InsD) {op : List Nat} {k t : Nat} (h : op.reverse[k]? = some t) : armsK l op (k + 1) = armsK l op k + (if opAt l t ≠ 21 then 1 else 0) := by
  unfold armsK
  obtain ⟨hk, e⟩ := List.getElem?_eq_some_iff.1 h
  rw [List.take_succ_eq_append_getElem hk, e, List.filter_append, List.length_append]
  by_cases hq : opAt l t = 21 <;> simp [hq]
theorem armsK_le (l : List InsD) (op : List Nat) (k : Nat) : armsK l op k ≤ k := by
  unfold armsK
  exact Nat.le_trans (List.length_filter_le _ _) (by rw [List.length_take]; omega)

set_option maxRecDepth 100000 in
set_option maxHeartbeats 1000000 in
theorem arms_any {w : World} {ao : Option Addr} {N cap B : Nat} {l : List InsD} {ap : Option Addr} {cp M : Nat} {op : List Nat} (hN : N = l.length) (hn : N ≤ 900) (hr : InsV w (.slice ao N cap) l) (ho : intOwnV w B (.slice ap M cp) (opRow op)) (hM : M = op.length) (hop : ∀ t ∈ op, t < N) (hl : op.length ≤ 1000) :
    Calls Try.prog 79 #[.slice ao N cap, .slice ap M cp] w fun e w' => e = .returned (.int .i64 (armsV l op)) ∧ w = w' := by
  have HR : Hid _ := hr
  have HO : Hid _ := ho
  have HN : Hid _ := hN
  have HM : Hid _ := hM
  have HOP : Hid _ := hop
  have hm : M ≤ 1000 := by omega
  clear hr ho hN hM hop hl
  go_enter Try.func79, Try.ntmps79
  go_wp2_with fail
  go_loopw [5, 6] (fun v i wr => ∃ k : Nat, i = .int .i64 k ∧ k ≤ M ∧ v = .int .i64 (armsK l op k) ∧ wr = w) (fun _ i _ => M - (intOf i).toNat)
  case atStart => exact ⟨0, rfl, Nat.zero_le _, rfl, rfl⟩
  case round =>
    obtain ⟨k, rfl, hk, rfl, rfl⟩ := hrel
    have hle := armsK_le l op k
    by_cases hlt : k < M
    · obtain ⟨t, ht, e1, e2⟩ := opRow_at (op := op) (j := k) (by rw [← HM.out]; exact hlt)
      have htN := HOP.out t ht
      have hr0 := HR.out
      rw [HN.out] at hr0
      obtain ⟨g, off, rfl, hg, c0, c1, c2⟩ := insv_at hr0 t (by rw [← HN.out]; exact htN)
      have hlo : (opRow op).length = M := by rw [opRow_len, HM.out]
      obtain ⟨gp, cp', hap⟩ := Go.Joins.ownsRow_form HO.out (by rw [hlo]; omega)
      rw [hlo] at hap
      simp only [Value.slice.injEq, true_and] at hap
      obtain ⟨rfl, rfl⟩ := hap
      have hO2 : intOwnV wr B (.slice (some ⟨gp, 0, none⟩) M cp) (opRow op) := HO.out
      unfold intOwnV at hO2
      rw [hlo] at hO2
      have d0 := hO2.cellAt k (by omega)
      rw [List.getElem?_map, e1] at d0
      simp only [Option.map_some] at d0
      have HS := armsK_succ l e2
      have HSH : Hid _ := HS
      generalize opAt l t = o at *
      have hkM : (k : Int) < M := by omega
      have hk0 : (0 : Int) ≤ k := by omega
      have hkw : IntKind.i64.wrap ((k : Int) + 1) = (k : Int) + 1 := by rw [IntKind.wrap_i64]; omega
      have htN' : (t : Int) < N := by omega
      have ht0 : (0 : Int) ≤ t := by omega
      generalize armsK l op k = q at *
      have hqw : IntKind.i64.wrap ((q : Int) + 1) = (q : Int) + 1 := by rw [IntKind.wrap_i64]; omega
      clear hr0 hO2 hlo c1 c2 HS e1 e2 ht
      by_cases ho : o = 21
      · have HQ : Hid (armsK l op (k + 1) = q) := by show _ = _; rw [HSH.out]; simp [ho]
        subst ho
        clear HSH
        go_wp2
        go_roundw
        case rel => exact ⟨k + 1, rfl, by omega, by rw [HQ.out], by first | rfl | trivial⟩
        case measure => simp [intOf]; omega
      · have HQ : Hid (armsK l op (k + 1) = q + 1) := by show _ = _; rw [HSH.out]; simp [ho]
        have ho' : (o == 21) = false := by simpa using ho
        clear HSH
        go_wp2
        go_roundw
        case rel => exact ⟨k + 1, rfl, by omega, by rw [HQ.out]; rfl, by first | rfl | trivial⟩
        case measure => simp [intOf]; omega
    · obtain rfl : k = M := by omega
      go_wp2
      go_ret
      refine ⟨?_, rfl⟩
      rw [← armsK_all, ← HM.out]; rfl

end Go.Proofs.Ytlndbligbpfdpaa
/-
  THREE ROWS OF NUMBERS, EACH IN A BLOCK OF ITS OWN. No walk.
-/
namespace Go.Proofs.Ytlndbligbpfdpaa
set_option linter.unusedVariables false
set_option linter.unusedSimpArgs false
open Go.RowKit

structure R3 (B : Nat) (w : World) (vi ve vo : Value) (xi xe xo : List Int) : Prop where
  i : intOwnV w B vi xi
  e : intOwnV w B ve xe
  o : intOwnV w B vo xo
  ie : ∀ g, vi.ownBlock = some g → ve.ownBlock ≠ some g
  io : ∀ g, vi.ownBlock = some g → vo.ownBlock ≠ some g
  eo : ∀ g, ve.ownBlock = some g → vo.ownBlock ≠ some g
theorem own_ltV {w : World} {B : Nat} {v : Value} {xs : List Int} (h : intOwnV w B v xs) : ∀ g, v.ownBlock = some g → B ≤ g ∧ g < w.heap.size := fun g hg => World.ownsRow.lt h g hg
theorem int_pushW {w : World} {B : Nat} {v : Value} {xs : List Int} (h : intOwnV w B v xs) (hl : xs.length ≤ 1000) (hB : B ≤ w.heap.size) (x : Int) (ty : TypeId) :
    ∃ ao' cap' w', (Builtin.append_ #[54, 54] ty #[v, .slice (some ⟨w.heap.size, 0, none⟩) 1 1]).run Try.prog (w.alloc (.cells #[.int .i64 x] 3)) = .ok (.slice ao' (xs.length + 1) cap') w' ∧ intOwnV w' B (.slice ao' (xs.length + 1) cap') (xs ++ [x]) ∧ Touch w w' v.ownBlock.toList ∧ (∀ g, (Value.slice ao' (xs.length + 1) cap').ownBlock = some g → v.ownBlock = some g ∨ w.heap.size ≤ g) := by
  obtain ⟨i0, hi, hz0, hz1, hz2⟩ := info_partsV Try.info_intV
  obtain ⟨v', w', h1, h2, h3, h4, h5⟩ := run_append_own_at (P := Try.prog) (w.alloc (.cells #[.int .i64 x] 3)) B 54 ty 3 i0 _ 1 8 Try.underlying54 hi hz0 hz1 hz2 rfl (by decide) v xs.length _ (h.alloc _) ⟨w.heap.size, 0, none⟩ 1 1 [.int .i64 x] rfl (World.news_of_block (cs := #[.int .i64 x]) (t := 3) (fr := (0, 0)) (heap_alloc_new w _)) (by simp [Value.oneCell']) (by unfold maxLen; omega) (by omega) (by simp; omega)
  have h2' : intOwnV w' B v' (xs ++ [x]) := by
    show w'.ownsRow _ _ _ _ _ _
    rw [List.length_append, List.map_append]
    exact h2
  obtain ⟨ao', cap', rfl⟩ := owns_slice h2
  refine ⟨ao', cap', w', h1, h2', ((Touch.refl w _).alloc _).grown h3 (fun k hk => .inl (by simp [hk])), fun g hg => ?_⟩
  rcases h5 with q | q
  · left; rw [← q]; exact hg
  · right; rw [q] at hg; simp at hg; omega
theorem touch_up {W0 w w' : World} {S : List Nat} (a : Touch W0 w []) (t : Touch w w' S) (h : ∀ x ∈ S, W0.heap.size ≤ x) : Touch W0 w' [] := a.trans t (fun x hx => .inr (h x hx))
theorem R3.pushI {W0 w : World} {vi ve vo : Value} {xi xe xo : List Int} (h : R3 W0.heap.size w vi ve vo xi xe xo) (t0 : Touch W0 w []) (hl : xi.length ≤ 1000) (x : Int) (ty : TypeId) :
    ∃ ao' cap' w', (Builtin.append_ #[54, 54] ty #[vi, .slice (some ⟨w.heap.size, 0, none⟩) 1 1]).run Try.prog (w.alloc (.cells #[.int .i64 x] 3)) = .ok (.slice ao' (xi.length + 1) cap') w' ∧ R3 W0.heap.size w' (.slice ao' (xi.length + 1) cap') ve vo (xi ++ [x]) xe xo ∧ Touch W0 w' [] ∧ Touch w w' vi.ownBlock.toList := by
  obtain ⟨ao', cap', w', h1, h2, h3, h4⟩ := int_pushW h.i hl t0.size x ty
  refine ⟨ao', cap', w', h1, ⟨h2, ownsRow_touch h.e h3 (fun g hg hs => h.ie g (by simpa using hs) hg), ownsRow_touch h.o h3 (fun g hg hs => h.io g (by simpa using hs) hg), fun g hg he => ?_, fun g hg he => ?_, h.eo⟩, touch_up t0 h3 (fun x hx => (own_ltV h.i x (by simpa using hx)).1), h3⟩
  · rcases h4 g hg with q | q
    · exact h.ie g q he
    · have := (own_ltV h.e g he).2; omega
  · rcases h4 g hg with q | q
    · exact h.io g q he
    · have := (own_ltV h.o g he).2; omega
theorem R3.pushE {W0 w : World} {vi ve vo : Value} {xi xe xo : List Int} (h : R3 W0.heap.size w vi ve vo xi xe xo) (t0 : Touch W0 w []) (hl : xe.length ≤ 1000) (x : Int) (ty : TypeId) :
    ∃ ao' cap' w', (Builtin.append_ #[54, 54] ty #[ve, .slice (some ⟨w.heap.size, 0, none⟩) 1 1]).run Try.prog (w.alloc (.cells #[.int .i64 x] 3)) = .ok (.slice ao' (xe.length + 1) cap') w' ∧ R3 W0.heap.size w' vi (.slice ao' (xe.length + 1) cap') vo xi (xe ++ [x]) xo ∧ Touch W0 w' [] ∧ Touch w w' ve.ownBlock.toList := by
  obtain ⟨ao', cap', w', h1, h2, h3, h4⟩ := int_pushW h.e hl t0.size x ty
  refine ⟨ao', cap', w', h1, ⟨ownsRow_touch h.i h3 (fun g hg hs => h.ie g hg (by simpa using hs)), h2, ownsRow_touch h.o h3 (fun g hg hs => h.eo g (by simpa using hs) hg), fun g hg he => ?_, h.io, fun g hg he => ?_⟩, touch_up t0 h3 (fun x hx => (own_ltV h.e x (by simpa using hx)).1), h3⟩
  · rcases h4 g he with q | q
    · exact h.ie g hg q
    · have := (own_ltV h.i g hg).2; omega
  · rcases h4 g hg with q | q
    · exact h.eo g q he
    · have := (own_ltV h.o g he).2; omega
/-- end[t] is written. -/
theorem R3.setE {W0 w : World} {vi vo : Value} {ge ce n : Nat} {xi xe xo : List Int} (h : R3 W0.heap.size w vi (.slice (some ⟨ge, 0, none⟩) n ce) vo xi xe xo) (hn : xe.length = n) (t0 : Touch W0 w []) (t : Nat) (x : Int) :
    R3 W0.heap.size (w.setCell ⟨ge, t, none⟩ (.int .i64 x)) vi (.slice (some ⟨ge, 0, none⟩) n ce) vo xi (xe.set t x) xo ∧ Touch W0 (w.setCell ⟨ge, t, none⟩ (.int .i64 x)) [] := by
  have tt : Touch w (w.setCell ⟨ge, t, none⟩ (.int .i64 x)) [ge] := (Touch.refl w [ge]).setCell (.inl (by simp)) _
  refine ⟨⟨ownsRow_touch h.i tt (fun g hg hs => by simp at hs; subst hs; exact h.ie _ hg rfl), ?_, ownsRow_touch h.o tt (fun g hg hs => by simp at hs; subst hs; exact h.eo _ rfl hg), h.ie, h.io, h.eo⟩, touch_up t0 tt (fun y hy => by simp at hy; subst hy; exact (own_ltV h.e _ rfl).1)⟩
  have := h.e
  unfold intOwnV at this ⊢
  rw [hn] at this
  rw [List.length_set, hn]
  exact int_setV this t x
theorem srow_int {w : World} {B : Nat} {v : Value} {xs : List Int} (h : intOwnV w B v xs) : SRow 1 (fun x : Int => [Value.int .i64 x]) w v xs := by
  have : w.ownsRow B 3 1 v xs.length (xs.flatMap fun x : Int => [Value.int .i64 x]) := by rw [flat_one]; exact h
  exact srow_of (cells := fun x : Int => [Value.int .i64 x]) (n := 1) (fun _ => rfl) this
/-- append to a new empty list. -/
theorem clone_own {w : World} {B : Nat} {ao : Option Addr} {cp : Nat} {ys : List Int} (hr : SRow 1 (fun x : Int => [Value.int .i64 x]) w (.slice ao ys.length cp) ys) (hl : ys.length ≤ 1000) (hB : B ≤ w.heap.size) (ty : TypeId) :
    ∃ ao' cap' w', (Builtin.append_ #[54, 54] ty #[.slice (some ⟨w.heap.size, 0, none⟩) 0 0, .slice ao ys.length cp]).run Try.prog (w.alloc (.cells #[] 3)) = .ok (.slice ao' ys.length cap') w' ∧ intOwnV w' B (.slice ao' ys.length cap') ys ∧ Touch w w' [] ∧ (∀ g, (Value.slice ao' ys.length cap').ownBlock = some g → w.heap.size ≤ g) := by
  obtain ⟨i0, hi, hz0, hz1, hz2⟩ := info_partsV Try.info_intV
  have t1 : Touch w (w.alloc (.cells #[] 3)) [] := (Touch.refl w []).alloc _
  have he : (w.alloc (.cells #[] 3)).ownsRow B 3 1 (.slice (some ⟨w.heap.size, 0, none⟩) 0 0) 0 [] := World.ownsRow_made w #[] 0 hB (by decide) (by simp)
  obtain ⟨v', w', h1, h2, h3, h4⟩ := run_app (P := Try.prog) (cells := fun x : Int => [Value.int .i64 x]) 54 ty 3 i0 _ 1 8 Try.underlying54 hi hz0 hz1 hz2 rfl (by decide) (fun _ => rfl) (by simp [Value.oneCell']) he (SRow.keep hr t1 (by simp)) (by omega) (by decide) (by simp; omega)
  rw [List.nil_append, flat_one, Nat.zero_add] at h2
  obtain ⟨ao', cap', rfl⟩ := owns_slice h2
  refine ⟨ao', cap', w', h1, h2, t1.grown h3 (fun k hk => .inr (by simp [Value.ownBlock] at hk; omega)), fun g hg => ?_⟩
  rcases h4 with q | q
  · rw [q] at hg; simp [Value.ownBlock] at hg; omega
  · rw [q] at hg; simp at hg; omega
/-- A new list of what is open. -/
theorem R3.newO {W0 w w' : World} {vi ve vo v' : Value} {xi xe xo ys : List Int} (h : R3 W0.heap.size w vi ve vo xi xe xo) (t0 : Touch W0 w []) (t : Touch w w' []) (hv : intOwnV w' W0.heap.size v' ys) (hf : ∀ g, v'.ownBlock = some g → w.heap.size ≤ g) : R3 W0.heap.size w' vi ve v' xi xe ys ∧ Touch W0 w' [] :=
  ⟨⟨ownsRow_touch h.i t (by simp), ownsRow_touch h.e t (by simp), hv, h.ie, fun g hg he => by have := (own_ltV h.i g hg).2; have := hf g he; omega, fun g hg he => by have := (own_ltV h.e g hg).2; have := hf g he; omega⟩, t0.trans t (by simp)⟩

end Go.Proofs.Ytlndbligbpfdpaa
/-
  package verify: Inside BY ITS CONTRACT; rows of Booleans.
-/
namespace Go.Proofs.Ytlndbligbpfdpaa
set_option linter.unusedVariables false
set_option linter.unusedSimpArgs false
open Go.RowKit
attribute [local go_sem] Oper.semAt_some

abbrev boolOwnV (w : World) (B : Nat) (v : Value) (xs : List Bool) : Prop := w.ownsRow B 4 1 v xs.length (xs.map Value.bool)
theorem Try.info_boolV : (Try.prog.info? 4).map (fun i => (i.zero, i.size, i.bytes)) = some (some (.bool false), 1, 1) := by kernel_rfl
theorem made_boolV (n : Nat) : madeCells (Value.cells (.bool false)) (n * 1) = Array.replicate n (.bool false) := by
  apply Array.ext
  · simp [size_madeCells]
  · intro i h1 h2
    simp [madeCells, Value.cells, Nat.mod_one]
theorem make_boolV (n : Nat) (hn : n ≤ 1000) (w : World) : (Instr.makeSlice 39 (.int .i64 n) (.int .i64 n)).run Try.prog w = .ok (.slice (some ⟨w.heap.size, 0, none⟩) n n) (w.alloc (.cells (Array.replicate n (.bool false)) 4)) := by
  obtain ⟨i, hi, hz, hs, hb⟩ := info_partsV Try.info_boolV
  have e := run_make (P := Try.prog) w 39 4 i (.bool false) Try.underlying39 hi hz .i64 .i64 n n (by omega) (by omega) (by rw [hb]; omega) (by omega)
  rw [e, hs, Int.toNat_natCast, made_boolV]
theorem bool_pushW {w : World} {B : Nat} {v : Value} {xs : List Bool} (h : boolOwnV w B v xs) (hl : xs.length ≤ 1000) (hB : B ≤ w.heap.size) (x : Bool) (ty : TypeId) :
    ∃ ao' cap' w', (Builtin.append_ #[39, 39] ty #[v, .slice (some ⟨w.heap.size, 0, none⟩) 1 1]).run Try.prog (w.alloc (.cells #[.bool x] 4)) = .ok (.slice ao' (xs.length + 1) cap') w' ∧ boolOwnV w' B (.slice ao' (xs.length + 1) cap') (xs ++ [x]) ∧ Touch w w' v.ownBlock.toList := by
  obtain ⟨i0, hi, hz0, hz1, hz2⟩ := info_partsV Try.info_boolV
  obtain ⟨v', w', h1, h2, h3, h4, h5⟩ := run_append_own_at (P := Try.prog) (w.alloc (.cells #[.bool x] 4)) B 39 ty 4 i0 _ 1 1 Try.underlying39 hi hz0 hz1 hz2 rfl (by decide) v xs.length _ (h.alloc _) ⟨w.heap.size, 0, none⟩ 1 1 [.bool x] rfl (World.news_of_block (cs := #[.bool x]) (t := 4) (fr := (0, 0)) (heap_alloc_new w _)) (by simp [Value.oneCell']) (by unfold maxLen; omega) (by omega) (by simp; omega)
  have h2' : boolOwnV w' B v' (xs ++ [x]) := by
    show w'.ownsRow _ _ _ _ _ _
    rw [List.length_append, List.map_append]
    exact h2
  obtain ⟨ao', cap', rfl⟩ := owns_slice h2
  exact ⟨ao', cap', w', h1, h2', ((Touch.refl w _).alloc _).grown h3 (fun k hk => .inl (by simp [hk]))⟩

/-- Of each whether it stands in a bracket. -/
def insB (l : List InsD) (k : Nat) : List Bool := (insV l k).map fun x => x != -1
theorem insB_len (l : List InsD) (k : Nat) : (insB l k).length = k := by simp [insB, insV_len]
def insA (l : List InsD) : List Bool := match regV l with | some _ => [] | none => insB l l.length
/-- A block of Booleans. -/
structure VBAt (w : World) (g N : Nat) (D : List Bool) : Prop where
  row : w.heap[g]? = some (.cells (D.map Value.bool).toArray 4 (0, 0))
  len : D.length = N
theorem VBAt.at {w : World} {g N : Nat} {D : List Bool} (h : VBAt w g N D) (k : Nat) (hk : k < N) : ∃ y, w.cell? ⟨g, k, none⟩ = some (.bool y) := by
  have hk' : k < D.length := by rw [h.len]; exact hk
  refine ⟨D[k], ?_⟩
  unfold World.cell?
  rw [h.row]
  simp [hk']
theorem VBAt.put {w : World} {g N : Nat} {D : List Bool} (h : VBAt w g N D) (k : Nat) (x : Bool) : VBAt (w.setCell ⟨g, k, none⟩ (.bool x)) g N (D.set k x) :=
  ⟨by rw [heap_setCell_same _ _ _ _ _ _ h.row, List.map_set]; simp, by simpa using h.len⟩
def inZB (l : List InsD) (N k : Nat) : List Bool := (insB l N).take k ++ List.replicate (N - k) false
theorem inZB_set {l : List InsD} {N k : Nat} (h : k < N) (x : Bool) (hx : (insB l N)[k]? = some x) : (inZB l N k).set k x = inZB l N (k + 1) := by
  have hl : ((insB l N).take k).length = k := by rw [List.length_take, insB_len]; omega
  obtain ⟨hk, e⟩ := List.getElem?_eq_some_iff.1 hx
  unfold inZB
  rw [List.set_append_right _ _ (by omega), hl, Nat.sub_self, show N - k = (N - (k + 1)) + 1 by omega, List.replicate_succ, List.set_cons_zero, List.take_succ_eq_append_getElem hk, e, List.append_assoc]
  rfl

end Go.Proofs.Ytlndbligbpfdpaa
/-
  THE DOCUMENT'S next, spread BY THEIR CONTRACTS.
-/
namespace Go.Proofs.Ytlndbligbpfdpaa
set_option linter.unusedVariables false
set_option linter.unusedSimpArgs false
open Go.RowKit
attribute [local go_sem] Oper.semAt_some

theorem lit_own2 (W w : World) (t : Touch W w []) (xs : List Int) (hx : xs.length ≤ 1000) : intOwnV (w.alloc (.cells (xs.map (Value.int .i64)).toArray 3)) W.heap.size (.slice (some ⟨w.heap.size, 0, none⟩) xs.length xs.length) xs := Go.Joins.ownsRow_le (lit_own w xs hx) t.size

set_option maxRecDepth 100000 in
set_option maxHeartbeats 1000000 in
theorem rnext_any {w : World} {N cap : Nat} {ao : Option Addr} {l : List InsD} (hN : N = l.length) (hn : N ≤ 900) (hr : InsV w (.slice ao N cap) l) (k : Nat) (hk : k < N)
    (ha : opAt l k = 23 ∨ opAt l k = 24 → -1000 ≤ argAt l k ∧ argAt l k ≤ 1000) :
    Calls Try.prog 64 #[.slice ao N cap, .int .i64 k] w fun e w' => ∃ ao' c', e = .returned (.slice ao' (nextV l k).length c') ∧ intOwnV w' w.heap.size (.slice ao' (nextV l k).length c') (nextV l k) ∧ Touch w w' [] := by
  have hr0 := hr
  rw [hN] at hr0
  have hkl : k < l.length := by omega
  obtain ⟨g, off, rfl, hg, c0, c1, c2⟩ := insv_at hr0 k hkl
  have hkN : (k : Int) < N := by omega
  have hk0 : (0 : Int) ≤ k := by omega
  have hkw : IntKind.i64.wrap ((k : Int) + 1) = (k : Int) + 1 := by rw [IntKind.wrap_i64]; omega
  unfold nextV
  generalize hvl : l[k].val = vl at *
  generalize opAt l k = o at *
  generalize argAt l k = a at *
  have haw : o = 23 ∨ o = 24 → IntKind.i64.wrap (a + 1) = a + 1 := fun q => by have := ha q; rw [IntKind.wrap_i64]; omega
  have tB : Touch w (w.alloc (.cells #[.int .u8 o, .int .i64 a, .int .u64 vl] 48)) [] := (Touch.refl w []).alloc _
  have eB : (w.alloc (.cells #[.int .u8 o, .int .i64 a, .int .u64 vl] 48)).heap[w.heap.size]? = some (.cells #[.int .u8 o, .int .i64 a, .int .u64 vl] 48 (0, 0)) := heap_alloc_new w _
  have q0 : (w.alloc (.cells #[.int .u8 o, .int .i64 a, .int .u64 vl] 48)).cell? ⟨w.heap.size, 0, none⟩ = some (.int .u8 o) := by unfold World.cell?; rw [eB]; rfl
  have q1 : (w.alloc (.cells #[.int .u8 o, .int .i64 a, .int .u64 vl] 48)).cell? ⟨w.heap.size, 1, none⟩ = some (.int .i64 a) := by unfold World.cell?; rw [eB]; rfl
  have HL : Hid (∀ xs : List Int, xs.length ≤ 1000 → intOwnV ((w.alloc (.cells #[.int .u8 o, .int .i64 a, .int .u64 vl] 48)).alloc (.cells (xs.map (Value.int .i64)).toArray 3)) w.heap.size (.slice (some ⟨w.heap.size + 1, 0, none⟩) xs.length xs.length) xs) := fun xs hx => by
    have q := lit_own2 w _ tB xs hx
    simpa using q
  have HT : Hid _ := tB
  clear hr hr0 hN ha eB hvl tB
  rcases (show o = 19 ∨ o = 20 ∨ o = 23 ∨ o = 24 ∨ o = 26 ∨ o = 28 ∨ (o ≠ 19 ∧ o ≠ 20 ∧ o ≠ 23 ∧ o ≠ 24 ∧ o ≠ 26 ∧ o ≠ 28) by omega) with rfl | rfl | rfl | rfl | rfl | rfl | ⟨h1, h2, h3, h4, h5, h6⟩
  · clear haw
    go_enter Try.func64, Try.ntmps64
    go_wp2
    go_ret
    exact ⟨_, _, rfl, HL.out [a] (by simp), HT.out.alloc _⟩
  · clear haw
    go_enter Try.func64, Try.ntmps64
    go_wp2
    go_ret
    exact ⟨_, _, rfl, HL.out [(k : Int) + 1, a] (by simp), HT.out.alloc _⟩
  · have haw2 := haw (.inl rfl)
    clear haw
    go_enter Try.func64, Try.ntmps64
    go_wp2
    go_ret
    exact ⟨_, _, rfl, HL.out [(k : Int) + 1, a + 1] (by simp), HT.out.alloc _⟩
  · have haw2 := haw (.inr rfl)
    clear haw
    go_enter Try.func64, Try.ntmps64
    go_wp2
    go_ret
    exact ⟨_, _, rfl, HL.out [a + 1] (by simp), HT.out.alloc _⟩
  · clear haw
    go_enter Try.func64, Try.ntmps64
    go_wp2
    go_ret
    exact ⟨none, 0, rfl, World.ownsRow_nil _ _ _ _, HT.out⟩
  · clear haw
    go_enter Try.func64, Try.ntmps64
    go_wp2
    go_ret
    exact ⟨none, 0, rfl, World.ownsRow_nil _ _ _ _, HT.out⟩
  · clear haw
    have e : (if o = 19 then [a] else if o = 20 then [(k : Int) + 1, a] else if o = 23 then [(k : Int) + 1, a + 1] else if o = 24 then [a + 1] else if o = 26 ∨ o = 28 then [] else [(k : Int) + 1]) = [(k : Int) + 1] := by simp [*]
    rw [e]
    have b1 : (o == 19) = false := by simpa using h1
    have b2 : (o == 20) = false := by simpa using h2
    have b3 : (o == 23) = false := by simpa using h3
    have b4 : (o == 24) = false := by simpa using h4
    have b5 : (o == 26) = false := by simpa using h5
    have b6 : (o == 28) = false := by simpa using h6
    clear e
    go_enter Try.func64, Try.ntmps64
    go_wp2
    go_ret
    exact ⟨_, _, rfl, HL.out [(k : Int) + 1] (by simp), HT.out.alloc _⟩

/-- The document's numbers as they lie. -/
structure DAt (w : World) (B gd N cd : Nat) (D : List Int) : Prop where
  row : w.ownsRow B 3 1 (.slice (some ⟨gd, 0, none⟩) N cd) N (D.map (Value.int .i64))
  len : D.length = N
theorem DAt.at {w : World} {B gd N cd : Nat} {D : List Int} (h : DAt w B gd N cd D) (k : Nat) (hk : k < N) : w.cell? ⟨gd, k, none⟩ = some (.int .i64 (dAt D k)) := by
  have hk' : k < D.length := by rw [h.len]; exact hk
  rw [h.row.cellAt k (by omega), List.getElem?_map, List.getElem?_eq_getElem hk']
  simp [dAt, hk']
theorem DAt.lt {w : World} {B gd N cd : Nat} {D : List Int} (h : DAt w B gd N cd D) : B ≤ gd ∧ gd < w.heap.size := World.ownsRow.lt h.row gd rfl
theorem DAt.keep {w w' : World} {B gd N cd : Nat} {D : List Int} {S : List Nat} (h : DAt w B gd N cd D) (t : Touch w w' S) (hS : gd ∉ S) : DAt w' B gd N cd D :=
  ⟨ownsRow_touch h.row t (fun g hg hs => by simp [Value.ownBlock] at hg; subst hg; exact hS hs), h.len⟩
theorem DAt.put {w : World} {B gd N cd : Nat} {D : List Int} (h : DAt w B gd N cd D) (k : Nat) (x : Int) : DAt (w.setCell ⟨gd, k, none⟩ (.int .i64 x)) B gd N cd (D.set k x) :=
  ⟨int_setV h.row k x, by simpa using h.len⟩
/-- What spread leaves. -/
def SprPost (w : World) (B gd N cd : Nat) (r : Int × List Int × Int) (e : Ending) (w' : World) : Prop :=
  e = .returned (.int .i64 r.1) ∧ (r.1 = 0 → DAt w' B gd N cd r.2.1) ∧ Touch w w' [gd]

set_option maxRecDepth 100000 in
set_option maxHeartbeats 2000000 in
theorem rspread_any {w : World} {B gd N cap cd : Nat} {ao : Option Addr} {D : List Int} {l : List InsD} (h : DAt w B gd N cd D) (hN : N = l.length) (hn : N ≤ 900) (hr : InsV w (.slice ao N cap) l) (k : Nat) (hk : k < N)
    (hng : ∀ g off, ao = some ⟨g, off, none⟩ → g ≠ gd)
    (ha : opAt l k = 23 ∨ opAt l k = 24 → -1000 ≤ argAt l k ∧ argAt l k ≤ 1000) (hd : ∀ j, -1 ≤ dAt D j ∧ dAt D j ≤ 12) :
    Calls Try.prog 37 #[.slice ao N cap, .slice (some ⟨gd, 0, none⟩) N cd, .int .i64 k] w (SprPost w B gd N cd (sprV l D k)) := by
  have hr0 := hr
  rw [hN] at hr0
  obtain ⟨g, off, rfl, hg, c0, c1, c2⟩ := insv_at hr0 k (by omega)
  have dk := h.at k hk
  have hkN : (k : Int) < N := by omega
  have hk0 : (0 : Int) ≤ k := by omega
  have hpo := pop_le (opAt l k)
  have hpu := push_le (opAt l k)
  have heff : HidC _ _ _ _ _ := ⟨reff_any (opAt l k) w⟩
  have hnx : HidC _ _ _ _ _ := ⟨rnext_any hN hn hr k hk ha⟩
  have HW : Hid _ := h
  have HN : Hid _ := hN
  have HD : Hid (∀ j, -1 ≤ dAt D j) := fun j => (hd j).1
  have hdk := hd k
  unfold sprV
  rw [← hN]
  unfold behV
  clear h hr hr0 c1 c2 ha hd
  generalize opAt l k = o at *
  generalize hdk' : dAt D k = d at *
  generalize hpv : popV o = p at *
  generalize hqv : pushV o = q at *
  have w1 : IntKind.i64.wrap (d - p) = d - p := by rw [IntKind.wrap_i64]; omega
  have w2 : IntKind.i64.wrap (d - p + q) = d - p + q := by rw [IntKind.wrap_i64]; omega
  clear hN hpv hqv hdk'
  by_cases h1 : d < p
  · rw [if_pos (.inl h1)]
    go_enter Try.func37, Try.ntmps37
    go_wp2_with fail
    refine heff.out.mono ?_
    rintro e w3 ⟨rfl, rfl⟩
    clear heff hnx
    go_wp2
    go_ret
    exact ⟨rfl, by simp, Touch.refl _ _⟩
  · by_cases h2 : 12 < d - p + q
    · rw [if_pos (.inr h2)]
      go_enter Try.func37, Try.ntmps37
      go_wp2_with fail
      refine heff.out.mono ?_
      rintro e w3 ⟨rfl, rfl⟩
      clear heff hnx
      go_wp2
      go_ret
      exact ⟨rfl, by simp, Touch.refl _ _⟩
    · rw [if_neg (fun q => q.elim h1 h2)]
      obtain ⟨beh, hbeh⟩ : ∃ beh, beh = d - p + q := ⟨_, rfl⟩
      have w3 : IntKind.i64.wrap (d - p + q) = beh := by rw [hbeh]; exact w2
      have hb0 : 0 ≤ beh := by omega
      rw [← hbeh] at h2 ⊢
      clear w2 hbeh
      generalize hns : nextV l k = ns at *
      have hnl : ns.length ≤ 2 := by
        rw [← hns]; unfold nextV
        repeat (first | (split; simp) | simp)
      clear hns
      obtain ⟨M, hM⟩ : ∃ M, M = ns.length := ⟨_, rfl⟩
      have HM : Hid _ := hM
      rw [← hM] at hnl hnx
      clear hM
      go_enter Try.func37, Try.ntmps37
      go_wp2_with fail
      refine heff.out.mono ?_
      rintro e w3 ⟨rfl, rfl⟩
      clear heff
      go_wp2_with fail
      refine hnx.out.mono ?_
      rintro e w4 ⟨ao', c', rfl, hrow, t4⟩
      have HROW : Hid (intOwnV w4 w.heap.size (.slice ao' M c') ns) := hrow
      have HT4 : Hid _ := t4
      clear hnx hrow t4 dk c0
      go_wp2_with fail
      go_loopw [11] (fun i wr => ∃ (j : Nat) (Dj : List Int) (mj : Int), i = .int .i64 j ∧ j ≤ M ∧ (ns.take j).foldl (sprS N beh) (0, D, (N : Int)) = (0, Dj, mj) ∧ DAt wr B gd N cd Dj ∧ Touch w4 wr [gd] ∧ (∀ x, -1 ≤ dAt Dj x)) (fun i _ => M - (intOf i).toNat)
      case atStart => exact ⟨0, D, N, rfl, Nat.zero_le _, rfl, HW.out.keep HT4.out (by simp), Touch.refl _ _, HD.out⟩
      case round =>
        obtain ⟨j, Dj, mj, rfl, hj, hfo, hWj, hTj, hDj⟩ := hrel
        by_cases hlt : j < M
        · have hjl : j < ns.length := by rw [← HM.out]; exact hlt
          obtain ⟨gn, cn, hao⟩ := Go.Joins.ownsRow_form HROW.out (by rw [← HM.out]; omega)
          rw [← HM.out] at hao
          simp only [Value.slice.injEq] at hao
          obtain ⟨rfl, _, rfl⟩ := hao
          have hrow : w4.ownsRow w.heap.size 3 1 (.slice (some ⟨gn, 0, none⟩) M c') M (ns.map (Value.int .i64)) := by
            have := HROW.out; unfold intOwnV at this; rw [← HM.out] at this; exact this
          have cn := hrow.cellAt j (by omega)
          have hgn := hrow.lt gn rfl
          have hgdw : gd < w.heap.size := HW.out.lt.2
          rw [List.getElem?_map, List.getElem?_eq_getElem hjl] at cn
          have hts : ns.take (j + 1) = ns.take j ++ [ns[j]] := List.take_succ_eq_append_getElem hjl
          have HAll : Hid (ns.foldl (sprS N beh) (0, D, (N : Int)) = (ns.drop (j + 1)).foldl (sprS N beh) ((ns.take (j + 1)).foldl (sprS N beh) (0, D, (N : Int)))) := by
            show _ = _
            rw [← List.foldl_append, List.take_append_drop]
          have HFo : Hid ((ns.take (j + 1)).foldl (sprS N beh) (0, D, (N : Int)) = sprS N beh (0, Dj, mj) ns[j]) := by
            show _ = _
            rw [hts, List.foldl_append, hfo]; rfl
          clear hts
          generalize hn' : ns[j] = n at *
          have cn' : wr.cell? ⟨gn, j, none⟩ = some (.int .i64 n) := (hTj.cell (p := ⟨gn, j, none⟩) hgn.2 (by simp; omega)).trans (by simpa using cn)
          have hjM : (j : Int) < M := by omega
          have hj0 : (0 : Int) ≤ j := by omega
          have hjw : IntKind.i64.wrap ((j : Int) + 1) = (j : Int) + 1 := by rw [IntKind.wrap_i64]; omega
          have HWJ : Hid _ := hWj
          have HTJ : Hid _ := hTj
          have HDJ : Hid _ := hDj
          clear hrow cn hn' hfo
          by_cases hpn : 0 ≤ n ∧ n < N
          · obtain ⟨x, hx⟩ : ∃ x : Nat, n = x := ⟨n.toNat, by omega⟩
            have hxN : (x : Int) < N := by omega
            have hx0 : (0 : Int) ≤ x := by omega
            have hx1 : ¬ ((x : Int) < 0) := by omega
            have hx2 : ¬ ((N : Int) ≤ x) := by omega
            have dx := hWj.at x (by omega)
            have fx := hWj.row.frozenAt x
            have hnf : ¬ (n < 0 ∨ (N : Int) ≤ n) := by omega
            have htn : n.toNat = x := by omega
            by_cases hu : dAt Dj x = -1
            · have hs := sprS_new (beh := beh) (m := mj) hnf (by rw [htn]; exact hu)
              rw [htn] at hs
              have HS : Hid _ := hs
              have hxl : x < Dj.length := by rw [HWJ.out.len]; omega
              subst hx
              rw [hu] at dx
              clear hs hWj hTj hnf hpn htn hu hDj
              go_wp2
              go_roundw
              case rel =>
                refine ⟨j + 1, Dj.set x beh, min mj x, rfl, by omega, by rw [HFo.out, HS.out], HWJ.out.put x beh, HTJ.out.setCell (.inl (by simp)) _, fun y => ?_⟩
                rw [dAt_set hxl]
                split
                · omega
                · exact HDJ.out y
              case measure => simp [intOf]; omega
            · have hup : ¬ (dAt Dj x < 0) := by have := hDj x; omega
              by_cases hq : dAt Dj x = beh
              · have HS : Hid _ := sprS_ok (beh := beh) (m := mj) hnf (by rw [htn]; exact hu) (by rw [htn]; exact hq)
                subst hx
                rw [hq] at dx hup
                clear hWj hTj hnf hpn htn hu hq hDj
                go_wp2
                go_roundw
                case rel => exact ⟨j + 1, Dj, mj, rfl, by omega, by rw [HFo.out, HS.out], HWJ.out, HTJ.out, HDJ.out⟩
                case measure => simp [intOf]; omega
              · have HS : Hid _ := sprS_bad (beh := beh) (m := mj) hnf (by rw [htn]; exact hu) (by rw [htn]; exact hq)
                subst hx
                have hb2 : (dAt Dj x == beh) = false := by simpa using hq
                have hb3 : (dAt Dj x != beh) = true := by simp [hq]
                generalize dAt Dj x = y at *
                clear hWj hTj hnf hpn htn hu hq hDj
                go_wp2
                go_ret
                rw [HAll.out, HFo.out, HS.out, spr_err (by simp)]
                exact ⟨rfl, by simp, (HT4.out.mono (by simp)).trans HTJ.out (by simp)⟩
          · have HS : Hid _ := sprS_far (N := N) (beh := beh) (D := Dj) (m := mj) (n := n) (by omega)
            by_cases hn0 : n < 0
            · clear hWj hTj hpn hDj
              go_wp2
              go_ret
              rw [HAll.out, HFo.out, HS.out, spr_err (by simp)]
              exact ⟨rfl, by simp, (HT4.out.mono (by simp)).trans HTJ.out (by simp)⟩
            · have hnN : (N : Int) ≤ n := by omega
              clear hWj hTj hpn hDj
              go_wp2
              go_ret
              rw [HAll.out, HFo.out, HS.out, spr_err (by simp)]
              exact ⟨rfl, by simp, (HT4.out.mono (by simp)).trans HTJ.out (by simp)⟩
        · obtain rfl : j = M := by omega
          have e : ns.take j = ns := List.take_of_length_le (by rw [← HM.out]; exact Nat.le_refl _)
          rw [e] at hfo
          have HWJ : Hid _ := hWj
          have HTJ : Hid _ := hTj
          clear hWj hTj e hDj
          go_wp2
          go_ret
          rw [hfo]
          exact ⟨rfl, fun _ => HWJ.out, (HT4.out.mono (by simp)).trans HTJ.out (by simp)⟩

end Go.Proofs.Ytlndbligbpfdpaa

/-
  package norec: store BY ITS CONTRACT.
-/
import Derived.Test.YtinhdpiecifmhaaNrRead
import Derived.Test.YtinhdpiecifmhaaRowApp
namespace Go.Proofs.Ytinhdpiecifmhaa.Nr
set_option linter.unusedVariables false
set_option linter.unusedSimpArgs false
open Go.RowKit Go.Maps

def goneB (A : Att) (g : Int) : Att := { A with gone := g }
def heapE (E : Eng) (i : Nat) (v : Int) : Eng := { E with hp := E.hp.set i v }
/-- What an attempt has written, rising. -/
abbrev allA (A : Att) : List (Int × Int) := allK (getF A.Fs) 12
def storeE (E : Eng) (k : Nat) (A : Att) : Eng :=
  let p := (allA A).getD A.gone.toNat (0, 0)
  let E1 := heapE E p.1.toNat p.2
  if A.gone + 1 = (allA A).length then E1.put k (some (movedA A 6)) else E1.put k (some (goneB A (A.gone + 1)))

theorem pair_len (p : Int × Int) : (pairC p).length = 2 := rfl

theorem EObj.setHeap {w : World} {X : ELoc} {E : Eng} (h : EObj w X E) {g cap : Nat} (hv : X.vh = .slice (some ⟨g, 0, none⟩) E.hp.length cap) (i : Nat) (hi : i < E.hp.length) (u : Int) :
    EObj (w.setCell ⟨g, i, none⟩ (.int .u64 u)) X (heapE E i u) ∧ Next w X (w.setCell ⟨g, i, none⟩ (.int .u64 u)) X := by
  have hg : g ∈ X.vh.ownBlock.toList := by rw [hv]; simp [Value.ownBlock]
  have hge : X.e ≠ g := fun e => h.ap 0 3 (by decide) X.e (by simp [ELoc.foot]) (by rw [e]; exact hg)
  have t : Touch w (w.setCell ⟨g, i, none⟩ (.int .u64 u)) (X.e :: X.vh.ownBlock.toList) := (Touch.refl w _).setCell (.inl (by simp only [List.mem_cons]; exact .inr hg)) _
  have hrow := h.hp
  rw [hv] at hrow
  have hr2 := row_cellset hrow i (by simpa using hi) (.int .u64 u)
  have hst : (w.setCell ⟨g, i, none⟩ (.int .u64 u)).heap[X.e]? = some (.cells (ecells { X with vh := X.vh }) 63 (0, 0)) :=
    (Below.heap_setCell _ _ _ _ (by simpa using hge)).trans h.st
  have e1 : (E.hp.map (Value.int .u64)).set i (.int .u64 u) = (E.hp.set i u).map (Value.int .u64) := by rw [List.map_set]
  rw [e1] at hr2
  exact h.setHp (v := X.vh) t hst (by rw [hv]; simpa [hpRow] using hr2) (.inl rfl)

set_option maxRecDepth 100000 in
set_option maxHeartbeats 3200000 in
theorem store_any {w : World} {X : ELoc} {E : Eng} {k : Nat} {l : Loc} {A : Att} (h : At w X E k l A) (hg : 0 ≤ A.gone ∧ A.gone < (allA A).length) (hL : ∀ p ∈ allA A, 0 ≤ p.1 ∧ p.1 < E.hp.length) (hn : E.hp.length ≤ 12) :
    Calls Try.prog 59 #[ptr X.e, ptr l.a] w (RPost w X (storeE E k A) rp0) := by
  have h1 := h.fresh ((Touch.refl w []).alloc (rpC rp0))
  have M : Hid (Mid w X (w.alloc (rpC rp0)) X) := Mid.start h.h
  have AL : HidC Try.prog 79 #[ptr l.ob] (w.alloc (rpC rp0)) (AllE (w.alloc (rpC rp0)) (allA A)) := HidC.mk (all_any h1.obj.lg)
  have hLn : (allA A).length ≤ 12 := allK_le _ 12
  have c11 := h.obj.cells.c11
  have hla := lt_of_heap h.obj.st
  obtain ⟨g, hgg⟩ : ∃ g : Nat, (g : Int) = A.gone := ⟨A.gone.toNat, by omega⟩
  have hgt : A.gone.toNat = g := by omega
  have hlt : g < (allA A).length := by omega
  obtain ⟨⟨pt, pv⟩, hp⟩ : ∃ p, p = (allA A)[g] := ⟨_, rfl⟩
  obtain ⟨hr0, hr1⟩ := hL (allA A)[g] (List.getElem_mem hlt)
  rw [← hp] at hr0 hr1
  obtain ⟨i, hi⟩ : ∃ i : Nat, (i : Int) = pt := ⟨pt.toNat, by simp only at hr0; omega⟩
  subst hi
  have hil : i < E.hp.length := by simp only at hr1; omega
  have hs : storeE E k A = if (g : Int) + 1 = (allA A).length then (heapE E i pv).put k (some (movedA A 6)) else (heapE E i pv).put k (some (goneB A ((g : Int) + 1))) := by
    unfold storeE
    simp only [hgt, List.getD_eq_getElem?_getD, List.getElem?_eq_getElem hlt, Option.getD_some, ← hp, ← hgg, Int.toNat_natCast]
  have H3 : Hid _ := hs
  generalize storeE E k A = RR at *
  have HGG : Hid ((g : Int) = A.gone) := hgg
  clear h hs hgg hgt hL hg
  generalize hPL : allA A = PL at *
  clear hPL
  go_enter Try.func59, Try.ntmps59
  go_wp2_with fail
  refine AL.out.mono ?_
  rintro e w3 ⟨v, B, rfl, hrow, hB, t3⟩
  have a3 := h1.fresh t3
  have M3 : Hid (Mid w X w3 X) := M.out.fresh t3
  obtain ⟨gb, cap, rfl⟩ := row_some hrow (by omega)
  have c6 := a3.obj.cells.c6
  rw [← HGG.out] at c6
  clear AL h1 M c11 hla
  have key : ∀ j, j < 2 → w3.cell? ⟨gb, g * 2 + j, none⟩ = (pairC PL[g])[j]? := fun j hj => by
    have hl : g * 2 + j < (PL.flatMap pairC).length := by rw [flat_len pair_len]; omega
    rw [(row_at hrow _ hl).1, ← List.getElem?_eq_getElem hl]
    exact flat_at pair_len PL g hlt j hj
  rw [← hp] at key
  have m0 : w3.cell? ⟨gb, g * 2, none⟩ = some (.int .i64 i) := by simpa [pairC] using key 0 (by decide)
  have m1 : w3.cell? ⟨gb, g * 2 + 1, none⟩ = some (.int .u64 pv) := by simpa [pairC] using key 1 (by decide)
  have hg0 : 0 ≤ (g : Int) := by omega
  have hg1 : (g : Int) < (PL.length : Int) := by omega
  have hgbl : gb < w3.heap.size := World.block_lt_of_cell? w3 _ m0
  have ta : Touch w3 (w3.alloc (.cells #[.int .i64 i, .int .u64 pv] 148)) [] := (Touch.refl w3 []).alloc _
  have M4 : Hid (Mid w X (w3.alloc (.cells #[.int .i64 i, .int .u64 pv] 148)) X) := M3.out.fresh ta
  have HEB : Hid ((w3.alloc (.cells #[.int .i64 i, .int .u64 pv] 148)).heap[w3.heap.size]? = some (.cells #[.int .i64 i, .int .u64 pv] 148 (0, 0))) := heap_alloc_new w3 _
  have HA4 : Hid (At (w3.alloc (.cells #[.int .i64 i, .int .u64 pv] 148)) X E k l A) := a3.fresh ta
  clear key hrow a3 M3 ta hr0 hr1 t3 hB hp
  go_wp2_with fail
  refine wp_name fun W hW => ?_
  rw [← hW] at M4 HEB HA4
  clear hW
  have b0 : W.cell? ⟨w3.heap.size, 0, none⟩ = some (.int .i64 i) := by simp [World.cell?, HEB.out]
  have b1 : W.cell? ⟨w3.heap.size, 1, none⟩ = some (.int .u64 pv) := by simp [World.cell?, HEB.out]
  obtain ⟨_, _, e2, _, _⟩ := HA4.out.h.cells
  obtain ⟨hb, hcap, hv, hcell, hfz⟩ := HA4.out.h.hpAt i hil
  obtain ⟨r1, r2⟩ := HA4.out.h.setHeap hv i hil pv
  have td : Touch (W.setCell ⟨hb, i, none⟩ (.int .u64 pv)) (W.setCell ⟨hb, i, none⟩ (.int .u64 pv)).drew [] := (Touch.refl _ []).drew
  have M5 : Hid (Mid w X (W.setCell ⟨hb, i, none⟩ (.int .u64 pv)).drew X) := (M4.out.next r2).fresh td
  have a5 : At (W.setCell ⟨hb, i, none⟩ (.int .u64 pv)).drew X (heapE E i pv) k l A := ⟨r1.fresh td, HA4.out.hl, HA4.out.hA⟩
  have HA5 : Hid (At (W.setCell ⟨hb, i, none⟩ (.int .u64 pv)).drew X (heapE E i pv) k l A) := a5
  rw [hv] at e2
  have hi0 : 0 ≤ (i : Int) := by omega
  have hi1 : (i : Int) < (E.hp.length : Int) := by omega
  clear hv HEB m0 m1 c6 r1 r2 td a5 M4 HA4
  generalize w3.heap.size = q at *
  go_region
  clear e2 b0 b1 hcell hfz
  generalize (W.setCell ⟨hb, i, none⟩ (.int .u64 pv)).drew = V at *
  have a5 := HA5.out
  have c6 := a5.obj.cells.c6
  have f6 := a5.obj.cells.f 6
  rw [← HGG.out] at c6
  have hst := set_cell a5.obj.st 6 (.int .i64 ((g : Int) + 1))
  have t : Touch V (V.setCell ⟨l.a, 6, none⟩ (.int .i64 ((g : Int) + 1))) [l.a] := (Touch.refl _ _).setCell (.inl (by simp)) _
  obtain ⟨r1, r2⟩ := a5.h.setA (A' := goneB A ((g : Int) + 1)) a5.hl a5.hA rfl rfl hst t
  have M6 : Hid (Mid w X (V.setCell ⟨l.a, 6, none⟩ (.int .i64 ((g : Int) + 1))) X) := M5.out.next r2
  by_cases hge : (g : Int) + 1 = PL.length
  · have e := H3.out
    rw [if_pos hge] at e
    have MV := HidC.mk (moveTo_any (k := k) (l := l) (A := goneB A ((g : Int) + 1)) ⟨r1, a5.hl, put_th _ _ _⟩ 6)
    rw [put_put] at MV
    have e6 : movedA (goneB A ((g : Int) + 1)) 6 = movedA A 6 := rfl
    rw [e6] at MV
    have HE : Hid (RR = (heapE E i pv).put k (some (movedA A 6))) := e
    have hgi : (((g : Int) + 1) == (PL.length : Int)) = true := by simp [hge]
    have hgi2 : decide ((g : Int) + 1 = (PL.length : Int)) = true := decide_eq_true hge
    clear H3 e hst t r1 r2 a5 HA5 M5 e6
    rw [hge] at MV M6
    go_wp2_with fail
    refine MV.out.mono ?_
    rintro x w5 ⟨rfl, h5, n5⟩
    have M : Hid (Mid w X w5 X) := M6.out.next n5
    have HO : Hid _ := h5
    clear MV h5 n5 M6 c6 f6
    have HEND : Hid _ := M.out.end HO.out (rp0)
    clear M HO
    go_wp2_with (refine wpList_store_mid rfl 38 _ _ rfl w.heap.size 0 (rpL (rp0)).toArray rfl rfl HEND.out.1 Try.size_reply (rp_one _) ?_; refine wpList_name fun W3 hW3 => ?_; obtain ⟨g1, g2, g3⟩ := HEND.out.2 W3 hW3; clear hW3)
    refine bodyPost_ret (v := RpD.val' (rp0)) (Slot.load g1 _ rfl rfl) rfl ?_
    exact ⟨_, rfl, by rw [HE.out]; exact g2, g3⟩
  · have e := H3.out
    rw [if_neg hge] at e
    have HE : Hid (RR = (heapE E i pv).put k (some (goneB A ((g : Int) + 1)))) := e
    have hgi : (((g : Int) + 1) == (PL.length : Int)) = false := by simpa using hge
    have HO : Hid _ := r1
    clear H3 e hst t r1 r2 a5 HA5 M5
    have M := M6
    clear M6
    have HEND : Hid _ := M.out.end HO.out (rp0)
    clear M HO
    go_wp2_with (refine wpList_store_mid rfl 38 _ _ rfl w.heap.size 0 (rpL (rp0)).toArray rfl rfl HEND.out.1 Try.size_reply (rp_one _) ?_; refine wpList_name fun W3 hW3 => ?_; obtain ⟨g1, g2, g3⟩ := HEND.out.2 W3 hW3; clear hW3)
    refine bodyPost_ret (v := RpD.val' (rp0)) (Slot.load g1 _ rfl rfl) rfl ?_
    exact ⟨_, rfl, by rw [HE.out]; exact g2, g3⟩

end Go.Proofs.Ytinhdpiecifmhaa.Nr

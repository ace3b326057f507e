/-
  package norec: compare BY ITS CONTRACT.
-/
import Derived.Test.YtinhdpiecifmhaaNrRead
import Derived.Test.YtinhdpiecifmhaaRdLists
import Derived.Test.YtinhdpiecifmhaaRowApp
namespace Go.Proofs.Ytinhdpiecifmhaa.Nr
set_option linter.unusedVariables false
set_option linter.unusedSimpArgs false
open Go.RowKit Go.Maps

def goneA (A : Att) (g : Int) : Att := { A with gone := g }
def compareE (E : Eng) (k : Nat) (A : Att) : RpD × Eng :=
  if A.gone = A.L.length then (rp0, E.put k (some (movedA A 9)))
  else
    let r := A.L.getD A.gone.toNat ⟨0, 0, 0⟩
    if Rd.sameV (E.hp.getD r.tvar.toNat 0) r.val = false then ({ rp0 with done := true, ended := true, why := 1 }, abortE E k A 1)
    else (rp0, E.put k (some (goneA A (A.gone + 1))))

theorem ent_len (e : Rd.EntD) : (Rd.EntD.cells e).length = 3 := rfl

set_option maxRecDepth 100000 in
set_option maxHeartbeats 3200000 in
theorem compare_any {w : World} {X : ELoc} {E : Eng} {k : Nat} {l : Loc} {A : Att} (h : At w X E k l A) (hk : k < 4) (hthr : A.thr = k) (hnum : A.num < E.pg.length) (hpg : E.pg.length ≤ 64) (hev : E.ev.length < 100000)
    (hg : 0 ≤ A.gone ∧ A.gone ≤ A.L.length) (hL : ∀ e ∈ A.L, 0 ≤ e.tvar ∧ e.tvar < E.hp.length) (hn : E.hp.length ≤ 12) :
    Calls Try.prog 62 #[ptr X.e, ptr l.a] w (RPost w X (compareE E k A).2 (compareE E k A).1) := by
  have h1 := h.fresh ((Touch.refl w []).alloc (rpC rp0))
  have M : Hid (Mid w X (w.alloc (rpC rp0)) X) := Mid.start h.h
  have LS := HidC.mk (Rd.list_any h1.obj.rd)
  have c10 := h.obj.cells.c10
  have hla := lt_of_heap h.obj.st
  have hLn : A.L.length ≤ 8 := h.obj.rd.sl.len
  obtain ⟨g, hgg⟩ : ∃ g : Nat, (g : Int) = A.gone := ⟨A.gone.toNat, by omega⟩
  have hgl : g ≤ A.L.length := by omega
  have h3 : g = A.L.length → compareE E k A = (rp0, E.put k (some (movedA A 9))) := fun e => if_pos (by omega)
  have hgt : A.gone.toNat = g := by omega
  have h4 : ∀ (hlt : g < A.L.length), Rd.sameV (E.hp.getD A.L[g].tvar.toNat 0) A.L[g].val = false → compareE E k A = ({ rp0 with done := true, ended := true, why := 1 }, abortE E k A 1) := fun hlt e => by
    unfold compareE
    rw [if_neg (by omega), hgt]
    simp only [List.getD_eq_getElem?_getD, List.getElem?_eq_getElem hlt, Option.getD_some] at e ⊢
    rw [if_pos e]
  have h5 : ∀ (hlt : g < A.L.length), ¬ Rd.sameV (E.hp.getD A.L[g].tvar.toNat 0) A.L[g].val = false → compareE E k A = (rp0, E.put k (some (goneA A (A.gone + 1)))) := fun hlt e => by
    unfold compareE
    rw [if_neg (by omega), hgt]
    simp only [List.getD_eq_getElem?_getD, List.getElem?_eq_getElem hlt, Option.getD_some] at e ⊢
    rw [if_neg e]
  have H3 : Hid _ := h3
  have H4 : Hid (∀ (hlt : g < A.L.length), Rd.sameV (E.hp.getD A.L[g].tvar.toNat 0) A.L[g].val = false → compareE E k A = ({ rp0 with done := true, ended := true, why := 1 }, abortE E k A 1)) := h4
  have H5 : Hid (∀ (hlt : g < A.L.length), ¬ Rd.sameV (E.hp.getD A.L[g].tvar.toNat 0) A.L[g].val = false → compareE E k A = (rp0, E.put k (some (goneA A (A.gone + 1))))) := h5
  have HGG : Hid ((g : Int) = A.gone) := hgg
  have HLL : Hid (∀ e ∈ A.L, 0 ≤ e.tvar ∧ e.tvar < E.hp.length) := hL
  generalize compareE E k A = RR at *
  clear h h3 h4 h5 hgg hgt hg hL
  go_enter Try.func62, Try.ntmps62
  go_wp2_with fail
  refine LS.out.mono ?_
  rintro e w3 ⟨v, rfl, hrow, t3⟩
  have a3 := h1.fresh t3
  have M3 : Hid (Mid w X w3 X) := M.out.fresh t3
  obtain ⟨ao, cap, rfl⟩ := own_slice hrow
  have c6 := a3.obj.cells.c6
  rw [← HGG.out] at c6
  have f6 := a3.obj.cells.f 6
  clear LS h1 M t3 c10 hla
  by_cases hge : g = A.L.length
  · have e := H3.out hge
    subst e
    have MV := HidC.mk (moveTo_any a3 9)
    clear H3 H4 H5 a3 hrow
    have hgi : ((g : Int) == (A.L.length : Int)) = true := by simp [hge]
    have HGE : Hid (g = A.L.length) := hge
    clear hge
    go_wp2_with fail
    refine MV.out.mono ?_
    rintro x w5 ⟨rfl, h5, n5⟩
    have M : Hid (Mid w X w5 X) := M3.out.next n5
    have HO : Hid _ := h5
    clear MV h5 n5 M3 c6 f6
    have HEND : Hid _ := M.out.end HO.out (rp0)
    clear M HO
    go_wp2_with (refine wpList_store_mid rfl 38 _ _ rfl w.heap.size 0 (rpL (rp0)).toArray rfl rfl HEND.out.1 Try.size_reply (rp_one _) ?_; refine wpList_name fun W3 hW3 => ?_; obtain ⟨g1, g2, g3⟩ := HEND.out.2 W3 hW3; clear hW3)
    refine bodyPost_ret (v := RpD.val' (rp0)) (Slot.load g1 _ rfl rfl) rfl ?_
    exact ⟨_, rfl, g2, g3⟩
  · have hlt : g < A.L.length := by omega
    obtain ⟨gb, cap', hv⟩ := row_some hrow (by omega)
    simp only [Value.slice.injEq, true_and] at hv
    obtain ⟨rfl, rfl⟩ := hv
    have key : ∀ j, j < 3 → w3.cell? ⟨gb, g * 3 + j, none⟩ = (Rd.EntD.cells A.L[g])[j]? := fun j hj => by
      have hl : g * 3 + j < (A.L.flatMap Rd.EntD.cells).length := by rw [flat_len ent_len]; omega
      rw [(row_at hrow _ hl).1, ← List.getElem?_eq_getElem hl]
      exact flat_at ent_len A.L g hlt j hj
    have m0 : w3.cell? ⟨gb, g * 3, none⟩ = some (.int .i64 A.L[g].tvar) := by simpa [Rd.EntD.cells] using key 0 (by decide)
    have m1 : w3.cell? ⟨gb, g * 3 + 1, none⟩ = some (.int .u64 A.L[g].val) := by simpa [Rd.EntD.cells] using key 1 (by decide)
    have m2 : w3.cell? ⟨gb, g * 3 + 2, none⟩ = some (.int .u64 A.L[g].ver) := by simpa [Rd.EntD.cells] using key 2 (by decide)
    obtain ⟨hr0, hr1⟩ := HLL.out A.L[g] (List.getElem_mem hlt)
    have H4' : Hid _ := H4.out hlt
    have H5' : Hid _ := H5.out hlt
    generalize A.L[g] = en at *
    obtain ⟨et, ev, er⟩ := en
    simp only at m0 m1 m2 hr0 hr1 H4' H5'
    obtain ⟨i, hi⟩ : ∃ i : Nat, (i : Int) = et := ⟨et.toNat, by omega⟩
    have hil : i < E.hp.length := by omega
    have hgd : E.hp.getD et.toNat 0 = E.hp[i] := by
      have : et.toNat = i := by omega
      rw [this]; simp [List.getD_eq_getElem?_getD, List.getElem?_eq_getElem hil]
    rw [hgd] at H4' H5'
    subst hi
    have hg0 : 0 ≤ (g : Int) := by omega
    have hg1 : (g : Int) < (A.L.length : Int) := by omega
    have hgi : ((g : Int) == (A.L.length : Int)) = false := by simp; omega
    have hgbl : gb < w3.heap.size := World.block_lt_of_cell? w3 _ m0
    have ta : Touch w3 (w3.alloc (.cells #[.int .i64 i, .int .u64 ev, .int .u64 er] 142)) [] := (Touch.refl w3 []).alloc _
    have a4 := a3.fresh ta
    have M4 : Hid (Mid w X (w3.alloc (.cells #[.int .i64 i, .int .u64 ev, .int .u64 er] 142)) X) := M3.out.fresh ta
    have eb : (w3.alloc (.cells #[.int .i64 i, .int .u64 ev, .int .u64 er] 142)).heap[w3.heap.size]? = some (.cells #[.int .i64 i, .int .u64 ev, .int .u64 er] 142 (0, 0)) := heap_alloc_new w3 _
    have HEB : Hid ((w3.alloc (.cells #[.int .i64 i, .int .u64 ev, .int .u64 er] 142)).heap[w3.heap.size]? = some (.cells #[.int .i64 i, .int .u64 ev, .int .u64 er] 142 (0, 0))) := eb
    have HA4 : Hid (At (w3.alloc (.cells #[.int .i64 i, .int .u64 ev, .int .u64 er] 142)) X E k l A) := a4
    clear key hrow H3 H4 H5 HLL a3 M3 ta a4 eb hge hgl hgd f6 hr0 hr1
    go_wp2_with fail
    refine wp_name fun W hW => ?_
    rw [← hW] at M4 HEB HA4
    clear hW
    have b0 : W.cell? ⟨w3.heap.size, 0, none⟩ = some (.int .i64 i) := by simp [World.cell?, HEB.out]
    have b1 : W.cell? ⟨w3.heap.size, 1, none⟩ = some (.int .u64 ev) := by simp [World.cell?, HEB.out]
    obtain ⟨_, _, e2, _, _⟩ := HA4.out.h.cells
    obtain ⟨hb, hcap, hv, hcell, _⟩ := HA4.out.h.hpAt i hil
    rw [hv] at e2
    have hi0 : 0 ≤ (i : Int) := by omega
    have hi1 : (i : Int) < (E.hp.length : Int) := by omega
    have SM := fun V => HidC.mk (same_any E.hp[i] ev V)
    obtain ⟨hx, hhx⟩ : ∃ x, x = E.hp[i] := ⟨_, rfl⟩
    rw [← hhx] at hcell SM H4' H5'
    unfold Rd.sameV at H4' H5'
    clear hv hhx HEB m0 m1 m2 c6
    generalize w3.heap.size = q at *
    generalize (((ofB hx.toNat : Nat) : Int) == (ofB ev.toNat : Nat)) = sb at *
    go_region_held3 (fun w' => w'.cell? ⟨X.e, 2, none⟩ = some (.slice (some ⟨hb, 0, none⟩) E.hp.length hcap) ∧ w'.cell? ⟨q, 0, none⟩ = some (.int .i64 i) ∧ w'.cell? ⟨q, 1, none⟩ = some (.int .u64 ev) ∧ w'.cell? ⟨hb, i, none⟩ = some (.int .u64 hx)) ((exact ⟨e2, b0, b1, hcell⟩)) ((go_at_call 83; refine (SM _).out.mono ?_; rintro e w4 ⟨rfl, rfl⟩))
    rename_i hHeld
    have M5 : Hid (Mid w X W.drew X) := M4.out.fresh ((Touch.refl W []).drew)
    have a5 := HA4.out.fresh ((Touch.refl W []).drew)
    clear hHeld SM M4 HA4 e2 b0 b1 hcell
    cases sb with
    | false =>
      have e := H4'.out rfl
      subst e
      have AB := HidC.mk (abort_any a5 hk hthr hnum hpg hev 1)
      clear H4' H5' a5
      go_wp2_with fail
      refine AB.out.mono ?_
      rintro x w5 ⟨X5, rfl, h5, n5⟩
      have M : Hid (Mid w X w5 X5) := M5.out.next n5
      have HO : Hid _ := h5
      clear AB h5 n5 M5
      have HEND : Hid _ := M.out.end HO.out ({ rp0 with done := true, ended := true, why := 1 })
      clear M HO
      go_wp2_with (refine wpList_store_mid rfl 38 _ _ rfl w.heap.size 0 (rpL ({ rp0 with done := true, ended := true, why := 1 })).toArray rfl rfl HEND.out.1 Try.size_reply (rp_one _) ?_; refine wpList_name fun W3 hW3 => ?_; obtain ⟨g1, g2, g3⟩ := HEND.out.2 W3 hW3; clear hW3)
      refine bodyPost_ret (v := RpD.val' ({ rp0 with done := true, ended := true, why := 1 })) (Slot.load g1 _ rfl rfl) rfl ?_
      exact ⟨_, rfl, g2, g3⟩
    | true =>
      have e := H5'.out (by decide)
      subst e
      generalize W.drew = V at *
      have c6 := a5.obj.cells.c6
      have f6 := a5.obj.cells.f 6
      have hst := set_cell a5.obj.st 6 (.int .i64 ((g : Int) + 1))
      have t : Touch V (V.setCell ⟨l.a, 6, none⟩ (.int .i64 ((g : Int) + 1))) [l.a] := (Touch.refl _ _).setCell (.inl (by simp)) _
      rw [← HGG.out] at c6
      have hgA : goneA A (A.gone + 1) = goneA A ((g : Int) + 1) := by rw [HGG.out]
      have HGA : Hid (goneA A (A.gone + 1) = goneA A ((g : Int) + 1)) := hgA
      obtain ⟨r1, r2⟩ := a5.h.setA (A' := goneA A ((g : Int) + 1)) a5.hl a5.hA rfl rfl hst t
      have M : Hid (Mid w X (V.setCell ⟨l.a, 6, none⟩ (.int .i64 ((g : Int) + 1))) X) := M5.out.next r2
      have HO : Hid _ := r1
      clear H4' H5' a5 hst t hgA r1 r2 M5
      have HEND : Hid _ := M.out.end HO.out (rp0)
      clear M HO
      go_wp2_with (refine wpList_store_mid rfl 38 _ _ rfl w.heap.size 0 (rpL (rp0)).toArray rfl rfl HEND.out.1 Try.size_reply (rp_one _) ?_; refine wpList_name fun W3 hW3 => ?_; obtain ⟨g1, g2, g3⟩ := HEND.out.2 W3 hW3; clear hW3)
      refine bodyPost_ret (v := RpD.val' (rp0)) (Slot.load g1 _ rfl rfl) rfl ?_
      exact ⟨_, rfl, by rw [HGA.out]; exact g2, g3⟩

end Go.Proofs.Ytinhdpiecifmhaa.Nr

/-
  package spec: innermost AND retry BY THEIR CONTRACTS.
-/
import Derived.Test.YtlndbligbpfdpaaSpBack
namespace Go.Proofs.Ytlndbligbpfdpaa
set_option linter.unusedVariables false
set_option linter.unusedSimpArgs false
open Go.RowKit
attribute [local go_sem] Oper.semAt_some

theorem row_take {w : World} {e : TypeId} {g n cap : Nat} {xs : List Value} (h : w.ownsRow 0 e 1 (.slice (some ⟨g, 0, none⟩) n cap) n xs) (q : Nat) (hq : q ≤ n) : w.ownsRow 0 e 1 (.slice (some ⟨g, 0, none⟩) q cap) q (xs.take q) := by
  have hl := h.1
  refine ⟨by rw [List.length_take]; omega, .inr ?_⟩
  rcases h.2 with ⟨e5, _⟩ | ⟨g5, cap5, cur5, e5, hb5, h6, hn5, hm5, hc5, ht5⟩
  · cases e5
  · simp only [Value.slice.injEq, Option.some.injEq, Addr.mk.injEq] at e5
    obtain ⟨⟨rfl, _⟩, _, rfl⟩ := e5
    refine ⟨g, cap, cur5, rfl, hb5, h6, by omega, hm5, hc5, ?_⟩
    rw [← ht5, List.take_take]
    congr 1
    omega

theorem inner_obj {w : World} {b : Nat} {B : Gd} {vp : Value} {D : WD} {h : List Int} {L : List MkT} {t : MkT} {arms : List Bool} {vs vo vh va : Value} {g lc : Nat} (k : BObj w b B vp D h (L ++ [t]) arms vs vo vh (.slice (some ⟨g, 0, none⟩) (L.length + 1) lc) va) :
    BObj (w.setCell ⟨b, 10, none⟩ (.slice (some ⟨g, 0, none⟩) L.length lc)) b B vp D h L arms vs vo vh (.slice (some ⟨g, 0, none⟩) L.length lc) va ∧ (∀ x ∈ t.2.2, ∀ i, x ∉ comp b vs vo vh (.slice (some ⟨g, 0, none⟩) L.length lc) va (ftL L) i) ∧ (∀ x ∈ t.2.2, B.ok x) ∧ MkAt (w.setCell ⟨b, 10, none⟩ (.slice (some ⟨g, 0, none⟩) L.length lc)) b B t.1 t.2.1 t.2.2 := by
  have tt : Touch w (w.setCell ⟨b, 10, none⟩ (.slice (some ⟨g, 0, none⟩) L.length lc)) [b] := (Touch.refl w [b]).setCell (.inl (by simp)) _
  have hft : ftL (L ++ [t]) = ftL L ++ t.2.2 := by unfold ftL; rw [List.flatMap_append]; simp
  have hsub : ∀ i, ∀ x ∈ comp b vs vo vh (.slice (some ⟨g, 0, none⟩) L.length lc) va (ftL L) i, x ∈ comp b vs vo vh (.slice (some ⟨g, 0, none⟩) (L.length + 1) lc) va (ftL (L ++ [t])) i := by
    intro i x hx
    match i, hx with
    | 0, hx => exact hx
    | 1, hx => exact hx
    | 2, hx => exact hx
    | 3, hx => exact hx
    | 4, hx => exact hx
    | 5, hx => exact hx
    | 6, hx => show x ∈ ftL (L ++ [t]); rw [hft]; exact List.mem_append.2 (.inl hx)
    | n + 7, hx => simp [comp] at hx
  have hS : ∀ i, i ≠ 0 → ∀ x ∈ comp b vs vo vh (.slice (some ⟨g, 0, none⟩) (L.length + 1) lc) va (ftL (L ++ [t])) i, x ∉ [b] := fun i hi x hx hm => k.ap i 0 hi x hx (by simpa [comp] using hm)
  have hs := tt.size
  have hmt : ∀ x ∈ t.2.2, x ∈ comp b vs vo vh (.slice (some ⟨g, 0, none⟩) (L.length + 1) lc) va (ftL (L ++ [t])) 6 := fun x hx => by show x ∈ ftL (L ++ [t]); rw [hft]; exact List.mem_append.2 (.inr hx)
  have hmn := k.mn
  rw [List.pairwise_append] at hmn
  refine ⟨⟨k.o.set10 _, ownsRow_touch k.s tt (fun g hg => hS 1 (by decide) g (mem_ob.2 hg)), ownsRow_touch k.u tt (fun g hg => hS 2 (by decide) g (mem_ob.2 hg)), ownsRow_touch k.hp tt (fun g hg => hS 3 (by decide) g (mem_ob.2 hg)), ?_, ownsRow_touch k.ar tt (fun g hg => hS 5 (by decide) g (mem_ob.2 hg)), fun u hu => (k.mks u (List.mem_append.2 (.inl hu))).touch tt (fun x hx => hS 6 (by decide) x (hsub 6 x (by simp only [comp, ftL]; exact List.mem_flatMap.2 ⟨u, hu, hx⟩))), hmn.1, fun i j hij x hx hx' => k.ap i j hij x (hsub i x hx) (hsub j x hx'), fun i x hx => by have := k.lt i x (hsub i x hx); omega, fun i x hx => k.ge i x (hsub i x hx), Nat.le_trans k.hB hs⟩, ?_, fun x hx => k.ge 6 x (hmt x hx), ?_⟩
  · have h1 := k.lf
    rw [List.length_append] at h1
    have h2 := row_take h1 L.length (by simp)
    rw [List.map_append, List.take_left' (by simp)] at h2
    exact ownsRow_touch h2 tt (fun g hg => hS 4 (by decide) g (mem_ob.2 hg))
  · intro x hx i hx'
    by_cases hi : i = 6
    · subst hi
      have hx2 : x ∈ ftL L := hx'
      unfold ftL at hx2
      obtain ⟨u, hu, hxu⟩ := List.mem_flatMap.1 hx2
      exact hmn.2.2 u hu t (by simp) x hxu hx
    · exact k.ap 6 i (fun e => hi e.symm) x (hmt x hx) (hsub i x hx')
  · exact (k.mks t (by simp)).touch tt (fun x hx => hS 6 (by decide) x (hmt x hx))

set_option maxRecDepth 100000 in
set_option maxHeartbeats 2000000 in
theorem inner_ok {w : World} {b : Nat} {B : Gd} {vp : Value} {D : WD} {h : List Int} {L : List MkT} {t : MkT} {arms : List Bool} {vs vo vh vl va : Value} (k : BObj w b B vp D h (L ++ [t]) arms vs vo vh vl va) (hL : L.length ≤ 1000) :
    Calls Try.prog 98 #[.pointer (some ⟨b, 0, none⟩)] w fun e w' => e = .returned t.2.1 ∧ (∃ vl', BObj w' b B vp D h L arms vs vo vh vl' va ∧ ∀ x ∈ t.2.2, ∀ i, x ∉ comp b vs vo vh vl' va (ftL L) i) ∧ (∀ x ∈ t.2.2, B.ok x) ∧ MkAt w' b B t.1 t.2.1 t.2.2 ∧ Touch w w' [b] := by
  obtain ⟨g, lc, rfl, hg, _⟩ := World.ownsRow.form k.lf (by simp)
  have hlen : (L ++ [t]).length = L.length + 1 := by simp
  rw [hlen] at k
  obtain ⟨hA, hB, hG, hC⟩ := inner_obj k
  have HG : Hid _ := hG
  have HA : Hid _ := hA
  have HB : Hid _ := hB
  have HC : Hid _ := hC
  have c10 := k.c9.2.1
  have f10 := k.o.fr 10
  have hcell : w.cell? ⟨g, L.length, none⟩ = some t.2.1 := by
    have h1 := k.lf
    have h2 := h1.cells (g := g) rfl L.length t.2.1 (by simp)
    rw [Addr.add_lit] at h2
    simpa using h2
  have hle : L.length + 1 ≤ lc := by
    have h1 := k.lf
    rw [hlen] at h1
    rcases h1.2 with ⟨e, _⟩ | ⟨g', cap', cur, e, _, _, hnc, _⟩
    · cases e
    · simp only [Value.slice.injEq, true_and] at e; omega
  have HT : Hid (Touch w (w.setCell ⟨b, 10, none⟩ (.slice (some ⟨g, 0, none⟩) L.length lc)) [b]) := (Touch.refl w [b]).setCell (.inl (by simp)) _
  generalize t.2.1 = fv at *
  generalize L.length = n at *
  have hw1 : IntKind.i64.wrap ((n : Int) + 1 - 1) = n := by rw [IntKind.wrap_i64]; omega
  have hw2 : IntKind.i64.wrap (n : Int) = n := by rw [IntKind.wrap_i64]; omega
  have q0 : (0 : Int) ≤ n := by omega
  have q1 : (n : Int) < n + 1 := by omega
  have q2 : (n : Int) ≤ lc := by omega
  have q3 : n ≤ lc := by omega
  clear k hA hB hC hG hlen
  go_enter Try.func98, Try.ntmps98
  go_wp2_with fail
  refine (sneed_ok 3 _).mono ?_
  rintro e _ ⟨rfl, rfl⟩
  go_wp2
  go_ret
  exact ⟨rfl, ⟨_, HA.out, HB.out⟩, HG.out, HC.out, HT.out⟩

set_option maxRecDepth 100000 in
theorem inner_no {w : World} {b : Nat} {B : Gd} {vp : Value} {D : WD} {h : List Int} {arms : List Bool} {vs vo vh vl va : Value} (k : BObj w b B vp D h [] arms vs vo vh vl va) :
    Calls Try.prog 98 #[.pointer (some ⟨b, 0, none⟩)] w (StuckP 3 w) := by
  obtain ⟨la, lc, rfl⟩ := owns_slice k.lf
  have c10 := k.c9.2.1
  simp only [List.length_nil] at c10
  clear k
  go_enter Try.func98, Try.ntmps98
  go_wp2_with fail
  refine (sneed_no 3 _).mono ?_
  rintro e w1 ⟨rfl, t1⟩
  exact ⟨rfl, rfl, t1⟩

end Go.Proofs.Ytlndbligbpfdpaa

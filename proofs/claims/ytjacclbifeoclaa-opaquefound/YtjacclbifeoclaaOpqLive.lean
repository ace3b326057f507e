/-
  package rowlocklaw09: live, few, heaped BY THEIR CONTRACTS.
-/
import Derived.Test.YtjacclbifeoclaaOpqFound
namespace Go.Proofs.Ytjacclbifeoclaa
set_option linter.unusedVariables false
set_option linter.unusedSimpArgs false
open Go.RowKit Go.Maps
attribute [local go_sem] Oper.semAt_some

def TrueN (w : World) (e : Ending) (w' : World) : Prop := e = .returned (.bool true) ∧ Touch w w' []

/-- A row that is laid. -/
theorem srow_new {α : Type} {cells : α → List Value} {n : Nat} (hc : ∀ x, (cells x).length = n) (w : World) (l : List α) (T : TypeId) (c : Nat) : SRow n cells (w.alloc (.cells (l.flatMap cells).toArray T)) (.slice (some ⟨w.heap.size, 0, none⟩) l.length c) l :=
  ⟨_, _, rfl, fun _ => ⟨w.heap.size, 0, rfl, by simp, fun k hk j hj => by rw [cell_new, List.getElem?_toArray, Nat.zero_add]; exact flat_at hc l k hk j hj⟩⟩

theorem liveEv_wf : ∀ e ∈ liveEv, e.Wf := by
  intro e he
  simp only [liveEv, List.mem_cons, List.not_mem_nil, or_false] at he
  rcases he with rfl | rfl | rfl | rfl | rfl | rfl | rfl | rfl | rfl | rfl
  all_goals exact ⟨by decide, by decide, by decide, by unfold Wf64; decide⟩

set_option maxRecDepth 100000 in
set_option maxHeartbeats 4000000 in
theorem olive_any (w : World) : Calls Try.prog 12 #[] w (TrueN w) := by
  have TE : Touch w (w.alloc (.cells (liveEv.flatMap EvD.cells).toArray 51)) [] := (Touch.refl w []).alloc _
  have hE : EvRow (w.alloc (.cells (liveEv.flatMap EvD.cells).toArray 51)) (.slice (some ⟨w.heap.size, 0, none⟩) 10 10) liveEv := srow_new (cells := EvD.cells) (fun _ => rfl) w liveEv 51 10
  have nilI : ∀ W, IRow W (.slice none 0 0) [] := fun W => ⟨none, 0, rfl, fun h => absurd rfl h⟩
  have nilC : ∀ ao n cap, (Value.slice none 0 0) = .slice ao n cap → n ≤ cap := fun ao n cap e => by simp at e; omega
  have hV : ∀ W : World, VRow (W.alloc (.cells #[.int .u64 0, .int .u64 0] 49)) (.slice (some ⟨W.heap.size, 0, none⟩) 2 2) [0, 0] := fun W => srow_new (cells := fun x : Int => [Value.int .u64 x]) (fun _ => rfl) W [0, 0] 49 2
  have hI : ∀ W : World, IRow (W.alloc (.cells #[.int .i64 0, .int .i64 1] 3)) (.slice (some ⟨W.heap.size, 0, none⟩) 2 2) [0, 1] := fun W => srow_new (cells := fun x : Int => [Value.int .i64 x]) (fun _ => rfl) W [0, 1] 3 2
  have H1 : Hid (∀ W : World, Touch (w.alloc (.cells (liveEv.flatMap EvD.cells).toArray 51)) W [] → Calls Try.prog 10 #[.slice (some ⟨w.heap.size, 0, none⟩) 10 10, .slice (some ⟨W.heap.size, 0, none⟩) 2 2, .slice none 0 0] (W.alloc (.cells #[.int .u64 0, .int .u64 0] 49)) (FoundE (W.alloc (.cells #[.int .u64 0, .int .u64 0] 49)) (5, []))) := fun W t => by
    have := found_any (SRow.keep (SRow.keep hE t (by simp)) ((Touch.refl W []).alloc (.cells #[.int .u64 0, .int .u64 0] 49)) (by simp)) (by decide) liveEv_wf (hV W) (by decide) (nilI _) (by decide) nilC
    rw [live_f1] at this
    exact this
  have H2 : Hid (∀ W : World, Touch (w.alloc (.cells (liveEv.flatMap EvD.cells).toArray 51)) W [] → Calls Try.prog 14 #[.slice (some ⟨w.heap.size, 0, none⟩) 10 10, .slice (some ⟨W.heap.size, 0, none⟩) 2 2, .slice (some ⟨W.heap.size + 1, 0, none⟩) 2 2, .slice none 0 0] ((W.alloc (.cells #[.int .u64 0, .int .u64 0] 49)).alloc (.cells #[.int .i64 0, .int .i64 1] 3)) (LegE ((W.alloc (.cells #[.int .u64 0, .int .u64 0] 49)).alloc (.cells #[.int .i64 0, .int .i64 1] 3)) (1, 9, []))) := fun W t => by
    have t1 : Touch W (W.alloc (.cells #[.int .u64 0, .int .u64 0] 49)) [] := (Touch.refl W []).alloc _
    have t2 : Touch (W.alloc (.cells #[.int .u64 0, .int .u64 0] 49)) ((W.alloc (.cells #[.int .u64 0, .int .u64 0] 49)).alloc (.cells #[.int .i64 0, .int .i64 1] 3)) [] := (Touch.refl _ []).alloc _
    have hI2 := hI (W.alloc (.cells #[.int .u64 0, .int .u64 0] 49))
    rw [World.size_alloc] at hI2
    have := legal_any (SRow.keep (SRow.keep (SRow.keep hE t (by simp)) t1 (by simp)) t2 (by simp)) (by decide) liveEv_wf (SRow.keep (hV W) t2 (by simp)) (by decide) hI2 (by decide) (fun ao n cap e => by simp at e; omega) (nilI _) (by decide) nilC
    rw [live_l1] at this
    exact this
  have H3 : Hid (∀ W : World, Touch (w.alloc (.cells (liveEv.flatMap EvD.cells).toArray 51)) W [] → Calls Try.prog 10 #[.slice (some ⟨w.heap.size, 0, none⟩) 9 10, .slice (some ⟨W.heap.size, 0, none⟩) 2 2, .slice none 0 0] (W.alloc (.cells #[.int .u64 0, .int .u64 0] 49)) (FoundE (W.alloc (.cells #[.int .u64 0, .int .u64 0] 49)) (0, [1, 0]))) := fun W t => by
    have hE9 := SRow.first (l := liveEv) (ao := some ⟨w.heap.size, 0, none⟩) (cap := 10) hE 9 (by decide)
    have := found_any (SRow.keep (SRow.keep hE9 t (by simp)) ((Touch.refl W []).alloc (.cells #[.int .u64 0, .int .u64 0] 49)) (by simp)) (by decide) (fun e he => liveEv_wf e (List.take_subset 9 liveEv he)) (hV W) (by decide) (nilI _) (by decide) nilC
    rw [live_f2] at this
    exact this
  have HT : Hid (Touch w (w.alloc (.cells (liveEv.flatMap EvD.cells).toArray 51)) []) := TE
  have h1 := H1.out _ (Touch.refl _ [])
  rw [World.size_alloc] at h1
  clear hE nilI nilC hV hI TE H1
  go_enter Try.func12, Try.ntmps12
  go_wp2_with fail
  refine h1.mono ?_
  rintro e w1 ⟨t1, ⟨_, _, rfl⟩ | ⟨h0, _⟩⟩
  · have t1' : Touch (w.alloc (.cells (liveEv.flatMap EvD.cells).toArray 51)) w1 [] := ((Touch.refl _ []).alloc _).trans t1 (by simp)
    have h2 := H2.out w1 t1'
    have HT1 : Hid _ := t1'
    clear h1 t1 t1'
    go_wp2_with fail
    refine h2.mono ?_
    rintro e w2 ⟨rfl, t2⟩
    have t2' := HT1.out.trans (((Touch.refl w1 []).alloc _).alloc _ |>.trans t2 (by simp)) (by simp)
    have h3 := H3.out w2 t2'
    have HT2 : Hid _ := t2'
    clear h2 t2 t2'
    go_wp2_with fail
    refine h3.mono ?_
    rintro e w3 ⟨t3, ⟨h0, _⟩ | ⟨_, a, c, rfl, hv⟩⟩
    · exact absurd rfl h0
    · have t3' := HT2.out.trans (((Touch.refl w2 []).alloc _).trans t3 (by simp)) (by simp)
      obtain ⟨g, rfl⟩ : ∃ g, a = some ⟨g, 0, none⟩ := by
        rcases hv.2 with ⟨e, e2⟩ | ⟨g', cap', cur, e, _⟩
        · simp at e2
        · simp at e; exact ⟨g', e.1⟩
      have d0 : w3.cell? ⟨g, 0, none⟩ = some (.int .i64 1) := by
        have := hv.cells (g := g) rfl 0 (.int .i64 1) rfl
        rw [Addr.add_lit] at this
        simpa using this
      have HT3 : Hid (Touch w w3 []) := HT.out.trans t3' (by simp)
      clear h3 t3 t3' hv
      go_wp2
      go_ret
      exact ⟨rfl, HT3.out⟩
  · cases h0

end Go.Proofs.Ytjacclbifeoclaa

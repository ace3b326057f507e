/-
  Held of the document's table; two lists that are the same; same: BY THEIR CONTRACTS.
-/
import Derived.Test.YthkphhjhgkclfaaDoorStripesSame
import Derived.Test.YthkphhjhgkclfaaDoorStripesPlay
import Derived.Maps.AppendAt
namespace Go.Proofs.YthkphhjhgkclfaaDoor
set_option linter.unusedVariables false
set_option linter.unusedSimpArgs false
open Go.RowKit

set_option maxRecDepth 100000 in
set_option maxHeartbeats 1000000 in
theorem rheld_get {B : Nat} {w : World} {b : Nat} {vw : Value} {now : Int} {ws : List Int} (h : RObj B w b vw now ws) (G : Good now ws) (o : Int) : Calls Tryd.prog 31 #[ptr b, .int .i64 o] w (HeldE w (heldK ws o ws.length)) := by
  have HO : Hid _ := h
  obtain ⟨i0, hi, hz0, hz1, hz2⟩ := info_parts Tryd.info_int
  clear h
  go_enter Tryd.func31, Tryd.ntmps31
  go_wp2_with fail
  go_loopw [5, 6] (fun v i wr => ∃ k : Nat, i = .int .i64 k ∧ k ≤ ws.length ∧ wr.ownsRow w.heap.size 3 1 v (heldK ws o k).length ((heldK ws o k).map (Value.int .i64)) ∧ Touch w wr []) (fun _ i _ => 9 - (intOf i).toNat)
  case atStart => exact ⟨0, rfl, by omega, by rw [heldK_zero]; exact World.ownsRow_nil _ _ _ _, Touch.refl _ _⟩
  case round =>
    obtain ⟨k, rfl, hk, hrow, hT⟩ := hrel
    have HT : Hid _ := hT
    have h8 := G.le
    have hR := HO.out.touch hT (by simp) (by simp)
    have hle := heldK_le ws o k
    have hts := hT.size
    clear hT HO
    by_cases hlt : k < ws.length
    · have hin : inS ws k := by unfold inS; omega
      have hm := may_in hR G.pos k hin
      have ho := rowner_ext hR G k
      clear hR
      rcases ownerP_mine G o k hlt with ⟨e1, hmi⟩ | ⟨h, e1, (⟨rfl, hmi⟩ | ⟨hne, hmi⟩)⟩
      · rw [e1] at ho
        have hK := heldK_not hmi
        have HK : Hid _ := hK
        have HR : Hid (wr.ownsRow w.heap.size 3 1 _ _ _) := hrow
        clear e1 hmi hK hrow
        go_wp2_with fail
        refine hm.mono ?_
        rintro e w1 ⟨rfl, rfl⟩
        clear hm
        go_wp2_with fail
        refine ho.mono ?_
        rintro e w1 ⟨rfl, rfl⟩
        clear ho
        go_wp2
        go_roundw
        case rel => exact ⟨k + 1, by go_num, by omega, by rw [HK.out]; exact HR.out, HT.out⟩
        case measure => simp [intOf]; omega
      · rw [e1] at ho
        have hK := heldK_mine hmi
        have HK : Hid _ := hK
        clear e1 hmi hK
        go_wp2_with fail
        refine hm.mono ?_
        rintro e w1 ⟨rfl, rfl⟩
        clear hm
        go_wp2_with fail
        refine ho.mono ?_
        rintro e w1 ⟨rfl, rfl⟩
        clear ho
        go_wp2_with (at_builtin; refine wpList_append_own_at _ rfl _ _ 44 rfl w.heap.size 3 i0 (.int .i64 0) 1 8 Tryd.underlying44 hi hz0 hz1 hz2 rfl (by decide) _ _ _ rfl (hrow.alloc _) ⟨wr.heap.size, 0, none⟩ 1 1 [.int .i64 (k : Int)] rfl rfl (cell_one_new _ _ _) (by simp [Value.oneCell']) (by unfold maxLen; omega) (by omega) (by simp; omega) ?_)
        intro v' w2 hown' hgrow _ _
        have t2 : Touch w w2 [] := (HT.out.alloc _).grown hgrow (fun q hq => .inr (by
          rcases hrow.2 with ⟨rfl, _⟩ | ⟨g, cap, cur, rfl, hbg, _⟩
          · simp [Value.ownBlock] at hq
          · simp [Value.ownBlock] at hq; omega))
        have HR : Hid (w2.ownsRow w.heap.size 3 1 _ _ _) := hown'
        clear hown' hgrow hrow
        go_wp2
        go_roundw
        case rel => exact ⟨k + 1, by go_num, by omega, by rw [HK.out, List.length_append, List.map_append]; exact HR.out, t2⟩
        case measure => simp [intOf]; omega
      · rw [e1] at ho
        have hK := heldK_not hmi
        have HK : Hid _ := hK
        have HR : Hid (wr.ownsRow w.heap.size 3 1 _ _ _) := hrow
        clear e1 hmi hK hrow
        go_wp2_with fail
        refine hm.mono ?_
        rintro e w1 ⟨rfl, rfl⟩
        clear hm
        go_wp2_with fail
        refine ho.mono ?_
        rintro e w1 ⟨rfl, rfl⟩
        clear ho
        go_wp2
        go_roundw
        case rel => exact ⟨k + 1, by go_num, by omega, by rw [HK.out]; exact HR.out, HT.out⟩
        case measure => simp [intOf]; omega
    · obtain rfl : k = ws.length := by omega
      have hout : ¬ inS ws (ws.length : Int) := by unfold inS; omega
      have hm := may_out hR G.pos ws.length hout
      have HR : Hid (wr.ownsRow w.heap.size 3 1 _ _ _) := hrow
      clear hR hout hrow
      go_wp2_with fail
      refine hm.mono ?_
      rintro e w1 ⟨rfl, rfl⟩
      clear hm
      go_wp2
      go_ret
      exact ⟨_, _, rfl, HR.out, Nat.le_refl _, HT.out⟩

theorem owns_form {w : World} {B : Nat} {e : TypeId} {size : Nat} {v : Value} {n : Nat} {xs : List Value} (h : w.ownsRow B e size v n xs) :
    ∃ ao cap, v = .slice ao n cap ∧ (0 < n → ∃ g, ao = some ⟨g, 0, none⟩ ∧ g < w.heap.size ∧ ∀ j u, xs[j]? = some u → w.cell? ⟨g, j, none⟩ = some u) := by
  rcases h.2 with ⟨rfl, h0⟩ | ⟨g, cap, cur, rfl, hb, hg, _⟩
  · exact ⟨none, 0, by rw [h0], fun hn => by omega⟩
  · refine ⟨_, cap, rfl, fun _ => ⟨g, rfl, lt_of_heap hg, fun j u hu => ?_⟩⟩
    have := h.cells (g := g) rfl j u hu
    rw [Addr.add_lit] at this
    simpa using this

set_option maxRecDepth 100000 in
set_option maxHeartbeats 1600000 in
theorem sameInts_eq (B1 B2 n : Nat) (va vb : Value) (xs : List Int) (w : World) (hn : n ≤ 1000) (ha : w.ownsRow B1 3 1 va n (xs.map (Value.int .i64))) (hb : w.ownsRow B2 3 1 vb n (xs.map (Value.int .i64))) :
    Calls Tryd.prog 30 #[va, vb] w fun e w' => e = .returned (.bool true) ∧ Touch w w' [] := by
  have hlen : xs.length = n := by have := ha.1; simpa using this
  obtain ⟨ao, ca, rfl, hac⟩ := owns_form ha
  obtain ⟨bo, cb, rfl, hbc⟩ := owns_form hb
  clear ha hb
  go_enter Tryd.func30, Tryd.ntmps30
  go_wp2_with fail
  go_loopw [5] (fun i wr => ∃ k : Nat, i = .int .i64 k ∧ k ≤ n ∧ Touch w wr []) (fun i _ => n - (intOf i).toNat)
  case atStart => exact ⟨0, rfl, Nat.zero_le _, Touch.refl _ _⟩
  case round =>
    obtain ⟨k, rfl, hk, t⟩ := hrel
    by_cases hlt : k < n
    · have h1 : (k : Int) < n := by omega
      have h0 : (0 : Int) ≤ k := by omega
      obtain ⟨ga, rfl, hga, hca⟩ := hac (by omega)
      obtain ⟨gb, rfl, hgb, hcb⟩ := hbc (by omega)
      have hx : (xs.map (Value.int .i64))[k]? = some (.int .i64 (xs.getD k 0)) := by
        rw [List.getElem?_map, List.getD_eq_getElem?_getD, List.getElem?_eq_getElem (by omega)]; rfl
      have c1 := (t.cell (p := ⟨ga, k, none⟩) hga (by simp)).trans (hca k _ hx)
      have c2 := (t.cell (p := ⟨gb, k, none⟩) hgb (by simp)).trans (hcb k _ hx)
      generalize xs.getD k 0 = x at *
      clear hx hca hcb hac hbc
      go_wp2_with fail
      go_quiet (fail)
      go_wp2
      go_roundw
      case rel => exact ⟨k + 1, by go_num, by omega, t.drewN _⟩
      case measure => simp [intOf]; omega
    · go_wp2
      go_ret
      exact ⟨rfl, t⟩

set_option maxRecDepth 100000 in
set_option maxHeartbeats 2000000 in
theorem same_pair {B : Nat} {w : World} {b rb : Nat} {vw : Value} {st : Int × List Int} (h : Pair B w b rb vw st) (S : Sh w) :
    Calls Tryd.prog 9 #[ptr b, ptr rb] w fun e w' => e = .returned (.bool true) ∧ Touch w w' [] := by
  obtain ⟨now, ws⟩ := st
  have HP : Hid _ := h
  have HS : Hid _ := S
  have h8 : ws.length ≤ 8 := h.g.le
  clear h S
  go_enter Tryd.func9, Tryd.ntmps9
  go_wp2_with fail
  go_loopw [5] (fun i wr => ∃ k : Int, i = .int .i64 k ∧ -1 ≤ k ∧ k ≤ 9 ∧ Touch w wr []) (fun i _ => (9 - intOf i).toNat)
  case atStart => exact ⟨-1, rfl, by omega, by omega, Touch.refl _ _⟩
  case round =>
    obtain ⟨k, rfl, hk0, hk1, t⟩ := hrel
    have hP := HP.out.keep t
    have hS := HS.out.touch t (by simp)
    have HT : Hid _ := t
    clear t
    by_cases hlt : k ≤ 8
    · have c1 := tword_any hP.t hP.g k
      have c2 := rword_any hP.r hP.g k
      have c3 := owner_ext hP.t hP.g hS k
      simp only at c1 c2 c3
      generalize wordP ws k = x at *
      obtain ⟨x1, x2⟩ := x
      have HQ : Hid _ := hP
      have HV : Hid _ := hS
      clear hP hS
      go_wp2_with fail
      refine c1.mono ?_
      rintro e w1 ⟨rfl, rfl⟩
      go_wp2_with fail
      refine c2.mono ?_
      rintro e w1 ⟨rfl, rfl⟩
      clear c1 c2
      go_wp2_with fail
      refine c3.mono ?_
      rintro e w1 ⟨rfl, t1⟩
      have hP := HQ.out.keep t1
      have hS := HV.out.touch t1 (by simp)
      have c4 := rowner_ext hP.r hP.g k
      have c5 := version_any hP.t hP.g hS k
      simp only at c4 c5
      generalize ownerP ws k = y at *
      obtain ⟨y1, y2⟩ := y
      have HT1 : Hid _ := HT.out.trans t1 (by simp)
      have HQ1 : Hid _ := hP
      clear c3 HQ HV HT t1 hP hS
      go_wp2_with fail
      refine c4.mono ?_
      rintro e w2 ⟨rfl, rfl⟩
      clear c4
      go_wp2_with fail
      refine c5.mono ?_
      rintro e w2 ⟨rfl, t2⟩
      have hP := HQ1.out.keep t2
      have c6 := rversion_ext hP.r hP.g k
      simp only at c6
      generalize (saysP ws k).2.1 = v at *
      have HT2 : Hid _ := HT1.out.trans t2 (by simp)
      clear c5 HT1 HQ1 t2 hP
      go_wp2_with fail
      refine c6.mono ?_
      rintro e w3 ⟨rfl, rfl⟩
      clear c6
      go_wp2
      go_roundw
      case rel => exact ⟨k + 1, by go_num, by omega, by omega, HT2.out⟩
      case measure => simp [intOf]; omega
    · clear hP hS
      go_wp2_with fail
      go_loopw [14] (fun i wr => ∃ k : Int, i = .int .i64 k ∧ -1 ≤ k ∧ k ≤ 5 ∧ Touch w wr []) (fun i _ => (5 - intOf i).toNat)
      case atStart => exact ⟨-1, rfl, by omega, by omega, HT.out⟩
      case round =>
        clear HT hlt hk0 hk1
        obtain ⟨q, rfl, hq0, hq1, t⟩ := hrel
        have hP := HP.out.keep t
        have hS := HS.out.touch t (by simp)
        have HT : Hid _ := t
        clear t
        by_cases hlt : q ≤ 4
        · have hle := heldK_le ws q ws.length
          have c1 := held_get hP.t hP.g hS q
          have HQ : Hid _ := hP
          clear hP hS
          go_wp2_with fail
          refine c1.mono ?_
          rintro e w1 ⟨v1, B1, rfl, ho1, _, t1⟩
          have hP := HQ.out.keep t1
          have c2 := rheld_get hP.r hP.g q
          have HO1 : Hid (w1.ownsRow B1 3 1 _ _ _) := ho1
          clear c1 HQ hP ho1
          have HT1 : Hid _ := HT.out.trans t1 (by simp)
          clear t1 HT
          go_wp2_with fail
          refine c2.mono ?_
          rintro e w2 ⟨v2, B2, rfl, ho2, _, t2⟩
          have c3 := sameInts_eq B1 B2 _ _ _ (heldK ws q ws.length) w2 (by omega) (ownsRow_touch HO1.out t2 (by simp)) ho2
          have HT2 : Hid _ := HT1.out.trans t2 (by simp)
          clear c2 HO1 ho2 HT1 t2
          go_wp2_with fail
          refine c3.mono ?_
          rintro e w3 ⟨rfl, t3⟩
          have HT3 : Hid _ := HT2.out.trans t3 (by simp)
          clear c3 HT2 t3
          go_wp2
          go_roundw
          case rel => exact ⟨q + 1, by go_num, by omega, by omega, HT3.out⟩
          case measure => simp [intOf]; omega
        · have c1 := clock_any hP.t
          have c2 := rclock_any hP.r
          have c3 := size_any hP.t
          have c4 := rsize_any hP.r hP.g.pos
          simp only at c1 c2 c3 c4
          clear hP hS
          go_wp2_with fail
          refine c1.mono ?_
          rintro e w1 ⟨rfl, rfl⟩
          go_wp2_with fail
          refine c2.mono ?_
          rintro e w1 ⟨rfl, rfl⟩
          clear c1 c2
          go_wp2_with fail
          refine c3.mono ?_
          rintro e w1 ⟨rfl, rfl⟩
          go_wp2_with fail
          refine c4.mono ?_
          rintro e w1 ⟨rfl, rfl⟩
          clear c3 c4
          go_wp2
          go_ret
          exact ⟨by simp, HT.out⟩

end Go.Proofs.YthkphhjhgkclfaaDoor

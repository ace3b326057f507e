/-
  The stripes that an owner has, told by a function that yields: heldBy's own walk, against whatever is kept between two rounds.
-/
import Derived.Test.YthkphhjhgkclfaaDoorStripesDrop
import Derived.RangeFuncNested
import Derived.RangeFuncBound
import Derived.RangeFuncCalls
import Derived.RangeFuncLeaves
import Derived.Shelf.Abstract
import Derived.Shelf.RegionOpen
import Derived.OwnWalkIn
import Derived.TacticsInMore
import Derived.LoopNIn
import Derived.LoopIn
namespace Go.Proofs.YthkphhjhgkclfaaDoor
set_option linter.unusedVariables false
set_option linter.unusedSimpArgs false
open Go.RowKit Go.Shelf

/-- Whose a stripe is, in one word. -/
theorem ownerP_mine {now : Int} {ws : List Int} (G : Good now ws) (o : Int) (k : Nat) (hk : k < ws.length) :
    (ownerP ws k = (0, false) ∧ ¬ isMine o (ws.getD k 0) = true) ∨ (∃ h : Int, ownerP ws k = (h, true) ∧ ((h = o ∧ isMine o (ws.getD k 0) = true) ∨ (¬ h = o ∧ ¬ isMine o (ws.getD k 0) = true))) := by
  have hin : inS ws k := by unfold inS; omega
  have hw : wordAt ws k = ws.getD k 0 := by unfold wordAt; rw [Int.toNat_natCast]
  have hr := (G.at hin).2.1
  unfold ownerP saysP isMine
  rw [if_pos hin, ← hw]
  simp only
  rw [hr]
  by_cases h0 : 0 ≤ (readP (wordAt ws k)).1
  · rw [if_pos ⟨rfl, h0⟩]
    refine .inr ⟨_, rfl, ?_⟩
    by_cases h1 : (readP (wordAt ws k)).1 = o
    · exact .inl ⟨h1, by simp [h1] at h0 ⊢; exact h0⟩
    · exact .inr ⟨h1, by simp [h1]⟩
  · rw [if_neg (fun hh => h0 hh.2)]
    exact .inl ⟨rfl, by simp [h0]⟩

set_option maxRecDepth 100000 in
set_option maxHeartbeats 1000000 in
theorem heldBy1_in (n : Nat) (hn : 1 ≤ n) (l B0 B1 b : Nat) (o now : Int) (f : Nat → List Int) (len : Nat) (hlen : ∀ k, (f k).length = len) (hG : ∀ k, Good now (f k)) (J : Nat → World → Prop)
    (hT : ∀ k W, J k W → TObj W b now (f k) ∧ Sh W ∧ W.cell? ⟨B0, 0, none⟩ = some (ptr b) ∧ W.cell? ⟨B1, 0, none⟩ = some (.int .i64 o))
    (hA : ∀ k W W', J k W → Touch W W' [] → J k W')
    (hN : ∀ k W, k < len → ¬ isMine o ((f k).getD k 0) = true → J k W → J (k + 1) W)
    (hY : ∀ k W, k < len → isMine o ((f k).getD k 0) = true → J k W → YieldAt Fence.wide (n - 1) Tryd.prog l #[.int .i64 k] W fun e W' => e = .returned (.bool true) ∧ J (k + 1) W')
    (W : World) (h0 : J 0 W) :
    CallsIn Fence.wide n Tryd.prog 63 #[.func (.yield l) #[] #[], ptr B0, ptr B1] W fun e W' => (∃ v, e = .returned v) ∧ J len W' := by
  have h8 : len ≤ 8 := by have := (hG 0).le; rw [hlen] at this; exact this
  have HT : Hid _ := hT
  have HA : Hid _ := hA
  have HN : Hid _ := hN
  have HY : Hid _ := hY
  have HG : Hid _ := hG
  have HL : Hid _ := hlen
  clear hT hA hN hY hG hlen
  obtain ⟨hO, hS, c0, c1⟩ := HT.out 0 W h0
  have hz := size_any hO
  rw [HL.out 0] at hz
  have HO : Hid _ := h0
  clear hO hS h0
  refine callsIn_of_wp Tryd.func63 rfl trivial ?_ rfl
  simp only [Tryd.ntmps63, List.size_toArray, List.length_cons, List.length_nil, Nat.reduceAdd, Nat.reduceSub, Array.replicate_succ, Array.replicate_zero, List.push_toArray, List.append_toArray, List.nil_append, List.cons_append]
  gi_wp2_with fail
  refine ⟨trivial, ?_⟩
  refine (callsIn_wide.2 hz).mono ?_
  rintro e w1 ⟨rfl, rfl⟩
  clear hz
  gi_wp2_with fail
  gi_loopw [9] (fun i wr => ∃ k : Nat, i = .int .i64 k ∧ k ≤ len ∧ J k wr) (fun i _ => 9 - (intOf i).toNat)
  case atStart => exact ⟨0, rfl, by omega, HO.out⟩
  case round =>
    obtain ⟨k, rfl, hk, hJ⟩ := hrel
    clear HO c0 c1
    by_cases hlt : k < len
    · have hlt' : (k : Int) < len := by omega
      obtain ⟨hO, hS, c0, c1⟩ := HT.out k wr hJ
      have ho := owner_ext hO (HG.out k) hS k
      have HJ : Hid _ := hJ
      clear hO hS hJ
      rcases ownerP_mine (HG.out k) o k (by rw [HL.out]; exact hlt) with ⟨e1, hm⟩ | ⟨h, e1, (⟨hh, hm⟩ | ⟨hne, hm⟩)⟩
      · rw [e1] at ho
        · clear e1
          gi_wp2_with fail
          refine ⟨trivial, ?_⟩
          refine (callsIn_wide.2 ho).mono ?_
          rintro e w1 ⟨rfl, t1⟩
          clear ho
          have hJ1 := HA.out k wr w1 HJ.out t1
          obtain ⟨_, _, _, d1⟩ := HT.out k w1 hJ1
          have HJ1 : Hid _ := HN.out k w1 hlt hm hJ1
          clear hJ1 hm t1
          gi_wp2
          refine ⟨fun _ h => (by cases h), ?_⟩
          gi_wp2
          go_roundw
          case rel => exact ⟨k + 1, by go_num, by omega, HJ1.out⟩
          case measure => simp [intOf]; omega
      · rw [e1] at ho
        · clear e1
          subst hh
          gi_wp2_with fail
          refine ⟨trivial, ?_⟩
          refine (callsIn_wide.2 ho).mono ?_
          rintro e w1 ⟨rfl, t1⟩
          clear ho
          have hJ1 := HA.out k wr w1 HJ.out t1
          obtain ⟨_, _, _, d1⟩ := HT.out k w1 hJ1
          obtain ⟨fn, tmps, assign, body, hy, hR⟩ := HY.out k w1 hlt hm hJ1
          clear hJ1 hm t1
          gi_wp2
          refine hR.mono ?_
          rintro e W3 ⟨rfl, hJ3⟩
          have HJ3 : Hid _ := hJ3
          clear hJ3
          gi_wp2
          go_roundw
          case rel => exact ⟨k + 1, by go_num, by omega, HJ3.out⟩
          case measure => simp [intOf]; omega
      · rw [e1] at ho
        · clear e1
          have hne' : (h == o) = false := by simpa using hne
          clear hne
          gi_wp2_with fail
          refine ⟨trivial, ?_⟩
          refine (callsIn_wide.2 ho).mono ?_
          rintro e w1 ⟨rfl, t1⟩
          clear ho
          have hJ1 := HA.out k wr w1 HJ.out t1
          obtain ⟨_, _, _, d1⟩ := HT.out k w1 hJ1
          have HJ1 : Hid _ := HN.out k w1 hlt hm hJ1
          clear hJ1 hm t1
          gi_wp2
          refine ⟨fun _ h => (by cases h), ?_⟩
          gi_wp2
          go_roundw
          case rel => exact ⟨k + 1, by go_num, by omega, HJ1.out⟩
          case measure => simp [intOf]; omega
    · obtain rfl : k = len := by omega
      have hlt' : ¬ (k : Int) < k := by omega
      have HJ : Hid _ := hJ
      clear hJ
      gi_wp2
      go_end0
      exact ⟨⟨_, rfl⟩, HJ.out⟩

end Go.Proofs.YthkphhjhgkclfaaDoor

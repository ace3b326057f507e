/-
  Stripes of the document's table BY ITS CONTRACT.
-/
import Derived.Test.YtnlamhmjlgaomaaDoorOfCalls
namespace Go.Proofs.YtnlamhmjlgaomaaDoor
set_option linter.unusedVariables false
set_option linter.unusedSimpArgs false
open Go.RowKit Go.Sort

def anyK (n : Nat) (l : List Int) (s : Int) (k : Nat) : Bool := (l.take k).any fun v => decide (ofP n v = s)
theorem beq_eq_decide (a b : Int) : (a == b) = decide (a = b) := by
  by_cases h : a = b <;> simp [h]
theorem anyK_zero (n : Nat) (l : List Int) (s : Int) : anyK n l s 0 = false := rfl
theorem anyK_succ (n : Nat) (l : List Int) (s : Int) (k : Nat) (hk : k < l.length) : anyK n l s (k + 1) = (anyK n l s k || decide (ofP n l[k] = s)) := by
  unfold anyK
  rw [List.take_succ_eq_append_getElem hk, List.any_append]
  simp
theorem anyK_all (n : Nat) (l : List Int) (s : Int) : anyK n l s l.length = l.any fun v => decide (ofP n v = s) := by
  unfold anyK
  rw [List.take_length]

set_option maxRecDepth 100000 in
set_option maxHeartbeats 2000000 in
theorem rstripes_any {B : Nat} {w : World} {b : Nat} {vw : Value} {now : Int} {ws : List Int} (h : RObj B w b vw now ws) (G : Good now ws) (ao : Option Addr) (cap : Nat) (l : List Int) (hl : l.length ≤ 1000) (hr : IntRow w (.slice ao l.length cap) l) :
    Calls Tryd.prog 11 #[ptr b, .slice ao l.length cap] w (HeldE w (stripesP ws.length l ws.length)) := by
  have HO : Hid _ := h
  have HR : Hid (IntRow w (.slice ao l.length cap) l) := hr
  obtain ⟨i0, hi, hz0, hz1, hz2⟩ := info_parts Tryd.info_int
  obtain ⟨N, hN⟩ : ∃ N, N = l.length := ⟨_, rfl⟩
  have HN : Hid (N = l.length) := hN
  have h8 := G.le
  rw [← hN] at hl ⊢
  clear h hr hN
  go_enter Tryd.func11, Tryd.ntmps11
  go_wp2_with fail
  go_loopw [5, 6] (fun v i wr => ∃ s : Nat, i = .int .i64 s ∧ s ≤ ws.length ∧ wr.ownsRow w.heap.size 3 1 v (stripesP ws.length l s).length ((stripesP ws.length l s).map (Value.int .i64)) ∧ Touch w wr []) (fun _ i _ => ws.length - (intOf i).toNat)
  case atStart => exact ⟨0, rfl, by omega, World.ownsRow_nil _ _ _ _, Touch.refl _ _⟩
  case round =>
    obtain ⟨s, rfl, hs, hrow, hT⟩ := hrel
    have HT : Hid _ := hT
    have hts := hT.size
    have hle := stripesP_le ws.length l s
    have hRO := HO.out.touch hT (by simp) (by simp)
    have HIR : Hid (IntRow wr (.slice ao l.length cap) l) := IntRow.touch HR.out hT
    clear hT
    by_cases hlt : s < ws.length
    · have hin : inS ws s := by unfold inS; omega
      have hm := may_in hRO G.pos s hin
      have HRO : Hid _ := hRO
      have HRW : Hid (wr.ownsRow w.heap.size 3 1 _ _ _) := hrow
      clear hRO hrow
      go_wp2_with fail
      refine hm.mono ?_
      rintro e w1 ⟨rfl, rfl⟩
      clear hm
      go_wp2_with fail
      go_loopw [7, 8] (fun v i w2 => ∃ k : Nat, i = .int .i64 k ∧ k ≤ N ∧ v = .bool (anyK ws.length l s k) ∧ wr = w2) (fun _ i _ => N - (intOf i).toNat)
      case atStart => exact ⟨0, rfl, by omega, rfl, rfl⟩
      case round =>
        obtain ⟨k, rfl, hk, rfl, rfl⟩ := hrel
        by_cases hlk : k < N
        · have hlk' : (k : Int) < N := by omega
          have hkl : k < l.length := by rw [← HN.out]; exact hlk
          obtain ⟨g, off, hao, hg, m0⟩ := IntRow.at HIR.out k hkl
          have ho := rof_any HRO.out G.pos l[k]
          have HA : Hid _ := anyK_succ ws.length l s k hkl
          subst hao
          generalize l[k] = x at *
          generalize ofP ws.length x = y at *
          generalize anyK ws.length l s k = q at *
          cases q with
          | true =>
            clear ho m0
            go_wp2
            go_roundw
            case rel => exact ⟨k + 1, by go_num, by omega, by rw [HA.out]; rfl, by first | rfl | trivial⟩
            case measure => simp [intOf]; omega
          | false =>
            go_wp2_with fail
            refine ho.mono ?_
            rintro e w1 ⟨rfl, rfl⟩
            clear ho m0
            go_wp2
            go_roundw
            case rel => exact ⟨k + 1, by go_num, by omega, by rw [HA.out]; simp [beq_eq_decide], by first | rfl | trivial⟩
            case measure => simp [intOf]; omega
        · obtain rfl : k = N := by omega
          have hall : anyK ws.length l s k = l.any fun v => decide (ofP ws.length v = (s : Int)) := by rw [HN.out]; exact anyK_all _ _ _
          by_cases hq : anyK ws.length l s k = true
          · have HK : Hid _ := stripesP_in (by rw [← hall]; exact hq)
            rw [hq]
            have hrow := HRW.out
            clear hall hq HRW
            go_wp2_with (at_builtin; refine wpList_append_own_at _ rfl _ _ 22 rfl w.heap.size 3 i0 (.int .i64 0) 1 8 Tryd.underlying22 hi hz0 hz1 hz2 rfl (by decide) _ _ _ rfl (hrow.alloc _) ⟨wr.heap.size, 0, none⟩ 1 1 [.int .i64 (s : Int)] rfl rfl (cell_one_new _ _ _) (by simp [Value.oneCell']) (by unfold maxLen; omega) (by omega) (by simp; omega) ?_)
            intro v' w2 hown' hgrow _ _
            have t2 : Touch w w2 [] := (HT.out.alloc _).grown hgrow (fun q hq => .inr (by
              rcases hrow.2 with ⟨rfl, _⟩ | ⟨g, cap, cur, rfl, hbg, _⟩
              · simp [Value.ownBlock] at hq
              · simp [Value.ownBlock] at hq; omega))
            have HR2 : Hid (w2.ownsRow w.heap.size 3 1 _ _ _) := hown'
            clear hown' hgrow hrow
            go_wp2
            go_roundw
            case rel => exact ⟨s + 1, by go_num, by omega, by rw [HK.out, List.length_append, List.map_append]; exact HR2.out, t2⟩
            case measure => simp [intOf]; omega
          · have hq' : anyK ws.length l s k = false := by simpa using hq
            have HK : Hid _ := stripesP_out (n := ws.length) (l := l) (k := s) (by rw [← hall]; exact hq')
            rw [hq']
            clear hall hq hq'
            go_wp2
            go_roundw
            case rel => exact ⟨s + 1, by go_num, by omega, by rw [HK.out]; exact HRW.out, HT.out⟩
            case measure => simp [intOf]; omega
    · obtain rfl : s = ws.length := by omega
      have hout : ¬ inS ws (ws.length : Int) := by unfold inS; omega
      have hm := may_out hRO G.pos ws.length hout
      have HRW : Hid (wr.ownsRow w.heap.size 3 1 _ _ _) := hrow
      clear hRO hout hrow
      go_wp2_with fail
      refine hm.mono ?_
      rintro e w1 ⟨rfl, rfl⟩
      clear hm
      go_wp2
      go_ret
      exact ⟨_, _, rfl, HRW.out, Nat.le_refl _, HT.out⟩

end Go.Proofs.YtnlamhmjlgaomaaDoor

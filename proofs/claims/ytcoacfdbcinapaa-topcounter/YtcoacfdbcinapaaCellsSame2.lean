/-
  Right; the ref's Words and Log; same: BY THEIR CONTRACTS.
-/
import Derived.Test.YtcoacfdbcinapaaCellsSame
namespace Go.Proofs.Ytcoacfdbcinapaa
set_option linter.unusedVariables false
set_option linter.unusedSimpArgs false
open Go.RowKit

theorem right_ok (m : Nat) (h1 : 0 < m) (h2 : m ≤ 32) (v : Value) (l : List DoneD) (hl : l.length ≤ 900) (hwf : ∀ d ∈ l, d.op.Wf) (w : World) (hr : DoneRow w v l) :
    Calls Try.prog 17 #[.int .i64 m, v] w fun e w' => e = .returned (.bool (playLog (List.replicate m 0) [] l).isSome) ∧ Touch w w' [] := by
  have hc := replay_ok m h1 h2 v l hl hwf w hr
  obtain ⟨ao, cap, rfl, _⟩ := hr
  go_enter Try.func17, Try.ntmps17
  go_wp2_with fail
  refine hc.mono ?_
  rintro e w' (⟨ws, lg, v, hp, rfl, _, _, t⟩ | ⟨hp, rfl, t⟩)
  · have HP : Hid _ := hp
    clear hc hp
    go_wp2
    go_ret
    exact ⟨by rw [HP.out]; rfl, t⟩
  · have HP : Hid _ := hp
    clear hc hp
    go_wp2
    go_ret
    exact ⟨by rw [HP.out]; rfl, t⟩

/-- A copy by append. -/
def AppPost (E size : Nat) (w : World) (n : Nat) (xs : List Value) (e : Ending) (w' : World) : Prop :=
  ∃ g cap, e = .returned (.slice (some ⟨g, 0, none⟩) n cap) ∧ w'.ownsRow w.heap.size E size (.slice (some ⟨g, 0, none⟩) n cap) n xs ∧ Touch w w' []

theorem empty_row (w : World) (E size : Nat) : (w.alloc (.cells #[] E)).ownsRow w.heap.size E size (.slice (some ⟨w.heap.size, 0, none⟩) 0 0) 0 [] := World.ownsRow_made w #[] 0 (Nat.le_refl _) (by decide) (by simp)

set_option maxRecDepth 100000 in
theorem rwords_any {B b : Nat} {w : World} {vw vl : Value} {ws : List Int} {lg : List DoneD} (h : CObj 66 B w b vw vl ws lg) (hn : ws.length ≤ 1000) :
    Calls Try.prog 29 #[.pointer (some ⟨b, 0, none⟩)] w (AppPost 43 1 w ws.length (ws.map (Value.int .u64))) := by
  obtain ⟨s0, s1, f0, f1⟩ := cells_two h.st
  obtain ⟨i0, hi0, hz0, hz1, hz2⟩ := info_parts Try.info_u64
  have hown := h.own
  have h1 : Hid (∀ u ∈ ws.map (Value.int .u64), u.oneCell' = true) := by
    intro u hu
    rw [List.mem_map] at hu
    obtain ⟨x, _, rfl⟩ := hu
    rfl
  have S0 := cell_alloc s0
  have e1 := empty_row w 43 1
  have hl1 : 0 + ws.length ≤ maxLen := by unfold maxLen; omega
  have hl2 : (0 + ws.length) * 8 ≤ 140737488355328 := by omega
  generalize ws.map (Value.int .u64) = xs at *
  generalize ws.length = n at *
  go_enter Try.func29, Try.ntmps29
  go_wp2_with (at_builtin; refine wpList_append_src rfl (.tmp 5) (.tmp 9) 31 rfl w.heap.size 43 i0 _ 1 8 Try.underlying31 hi0 hz0 hz1 hz2 rfl (by omega) w.heap.size 0 0 [] rfl e1 vw B n xs rfl (hown.alloc _) h1.out hl1 hl2 (by simp) ?_)
  intro g cap w1 hown1 hgrow1 hat1 hlt1
  try simp only [Nat.zero_add, List.nil_append] at hown1
  have t1 : Touch w w1 [] := ((Touch.refl w []).alloc _).grown hgrow1 (fun q hq => .inr (by simp at hq; omega))
  clear e1 S0 hgrow1
  go_wp2
  go_ret
  exact ⟨g, cap, by simp, hown1, t1⟩

set_option maxRecDepth 100000 in
theorem rlog_any {B b : Nat} {w : World} {vw vl : Value} {ws : List Int} {lg : List DoneD} (h : CObj 66 B w b vw vl ws lg) (hn : lg.length ≤ 1000) :
    Calls Try.prog 31 #[.pointer (some ⟨b, 0, none⟩)] w (AppPost 51 6 w lg.length (lg.flatMap DoneD.cells)) := by
  obtain ⟨s0, s1, f0, f1⟩ := cells_two h.st
  obtain ⟨i0, hi0, hz0, hz1, hz2⟩ := info_parts Try.info_done
  have hown := h.log
  have h1 : Hid (∀ u ∈ lg.flatMap DoneD.cells, u.oneCell' = true) := done_one
  have S0 := cell_alloc s1
  have e1 := empty_row w 51 6
  have hl1 : 0 + lg.length ≤ maxLen := by unfold maxLen; omega
  have hl2 : (0 + lg.length) * 48 ≤ 140737488355328 := by omega
  generalize lg.flatMap DoneD.cells = xs at *
  generalize lg.length = n at *
  go_enter Try.func31, Try.ntmps31
  go_wp2_with (at_builtin; refine wpList_append_src rfl (.tmp 5) (.tmp 9) 30 rfl w.heap.size 51 i0 _ 6 48 Try.underlying30 hi0 hz0 hz1 hz2 rfl (by omega) w.heap.size 0 0 [] rfl e1 vl B n xs rfl (hown.alloc _) h1.out hl1 hl2 (by simp) ?_)
  intro g cap w1 hown1 hgrow1 hat1 hlt1
  try simp only [Nat.zero_add, List.nil_append] at hown1
  have t1 : Touch w w1 [] := ((Touch.refl w []).alloc _).grown hgrow1 (fun q hq => .inr (by simp at hq; omega))
  clear e1 S0 hgrow1
  go_wp2
  go_ret
  exact ⟨g, cap, by simp, hown1, t1⟩

/-- A word of both. -/
theorem word_at {B b : Nat} {w : World} {vw vl : Value} {ws : List Int} {lg : List DoneD} (h : CObj 69 B w b vw vl ws lg) (hn : ws.length ≤ 32) (i : Int) :
    Calls Try.prog 21 #[.pointer (some ⟨b, 0, none⟩), .int .i64 i] w fun e w' => e = .returned (.tuple #[.int .u64 (if 0 ≤ i ∧ i < ws.length then ws.getD i.toNat 0 else 0), .int .i64 (if 0 ≤ i ∧ i < ws.length then 0 else 2)]) ∧ w = w' := by
  obtain ⟨g, cap, rfl, hcell, _⟩ := h.words
  obtain ⟨s0, _⟩ := cells_two h.st
  by_cases hi : 0 ≤ i ∧ i < ws.length
  · rw [if_pos hi, if_pos hi]
    obtain ⟨j, rfl⟩ : ∃ j : Nat, i = j := ⟨i.toNat, by omega⟩
    rw [Int.toNat_natCast]
    exact word_in b g ws.length cap j _ w s0 (by omega) (by unfold maxLen; omega) (hcell j (by omega))
  · rw [if_neg hi, if_neg hi]
    exact word_out b ws.length cap _ i w s0 (by omega) (by unfold maxLen; omega)

theorem rword_at {B b : Nat} {w : World} {vw vl : Value} {ws : List Int} {lg : List DoneD} (h : CObj 66 B w b vw vl ws lg) (hn : ws.length ≤ 32) (i : Int) :
    Calls Try.prog 28 #[.pointer (some ⟨b, 0, none⟩), .int .i64 i] w fun e w' => e = .returned (.tuple #[.int .u64 (if 0 ≤ i ∧ i < ws.length then ws.getD i.toNat 0 else 0), .int .i64 (if 0 ≤ i ∧ i < ws.length then 0 else 2)]) ∧ w = w' := by
  obtain ⟨g, cap, rfl, hcell, _⟩ := h.words
  obtain ⟨s0, _⟩ := cells_two h.st
  by_cases hi : 0 ≤ i ∧ i < ws.length
  · rw [if_pos hi, if_pos hi]
    obtain ⟨j, rfl⟩ : ∃ j : Nat, i = j := ⟨i.toNat, by omega⟩
    rw [Int.toNat_natCast]
    exact rword_in b g ws.length cap j _ w s0 (by omega) (by unfold maxLen; omega) (hcell j (by omega))
  · rw [if_neg hi, if_neg hi]
    exact rword_out b ws.length cap _ i w s0 (by omega) (by unfold maxLen; omega)

set_option maxRecDepth 100000 in
set_option maxHeartbeats 1600000 in
theorem same_eq {B bc br : Nat} {w : World} {vwc vlc vwr vlr : Value} {ws : List Int} {lg : List DoneD} (hb : Both B w bc vwc vlc br vwr vlr ws lg) (hn : ws.length ≤ 32) (hlg : lg.length ≤ 1000) :
    Calls Try.prog 11 #[.pointer (some ⟨bc, 0, none⟩), .pointer (some ⟨br, 0, none⟩)] w fun e w' => e = .returned (.bool true) ∧ Touch w w' [] := by
  have HB : Hid _ := hb
  have hc := fun i => word_at hb.c hn i
  have hr := fun i => rword_at hb.r hn i
  have HC : Hid _ := hc
  have HR : Hid _ := hr
  clear hb hc hr
  go_enter Try.func11, Try.ntmps11
  go_wp2_with fail
  go_loopw [5] (fun i wr => ∃ k : Int, i = .int .i64 k ∧ -1 ≤ k ∧ k ≤ 7 ∧ w = wr) (fun i _ => (7 - intOf i).toNat)
  case atStart => exact ⟨-1, rfl, by omega, by omega, rfl⟩
  case round =>
    obtain ⟨k, rfl, hk0, hk1, rfl⟩ := hrel
    by_cases hlt : k < 7
    · have hc := HC.out k
      have hr := HR.out k
      generalize (if 0 ≤ k ∧ k < (ws.length : Int) then ws.getD k.toNat 0 else 0) = x at hc hr
      generalize (if 0 ≤ k ∧ k < (ws.length : Int) then (0 : Int) else 2) = y at hc hr
      go_wp2_with fail
      refine hc.mono ?_
      rintro e w1 ⟨rfl, rfl⟩
      go_wp2_with fail
      refine hr.mono ?_
      rintro e w1 ⟨rfl, rfl⟩
      clear hc hr
      go_wp2
      go_roundw
      case rel => exact ⟨k + 1, by go_num, by omega, by omega, by first | rfl | trivial⟩
      case measure => simp [intOf]; omega
    · go_wp2_with fail
      refine (words_any HB.out.c (by omega)).mono ?_
      rintro e w1 ⟨rfl, o1, t1⟩
      go_wp2_with fail
      refine (rwords_any (HB.out.touch t1).r (by omega)).mono ?_
      rintro e w2 ⟨g2, cap2, rfl, o2, t2⟩
      go_wp2_with fail
      refine (sameWords_eq _ _ _ _ _ ws _ (by omega) (ownsRow_touch o1 t2 (by simp)) o2).mono ?_
      rintro e w3 ⟨rfl, t3⟩
      have t03 := (t1.trans t2 (by simp)).trans t3 (by simp)
      clear o1 o2 t1 t2 t3
      go_wp2_with fail
      refine (log_any (HB.out.touch t03).c hlg).mono ?_
      rintro e w4 ⟨rfl, o4, t4⟩
      go_wp2_with fail
      refine (rlog_any ((HB.out.touch t03).touch t4).r hlg).mono ?_
      rintro e w5 ⟨g5, cap5, rfl, o5, t5⟩
      go_wp2_with fail
      refine (sameLog_eq _ _ _ _ lg _ hlg (ownsRow_touch o4 t5 (by simp)) o5).mono ?_
      rintro e w6 ⟨rfl, t6⟩
      have t06 := ((t03.trans t4 (by simp)).trans t5 (by simp)).trans t6 (by simp)
      clear o4 o5 t4 t5 t6 t03
      have hb6 := HB.out.touch t06
      obtain ⟨ac, cc, hvc⟩ := hb6.c.logForm
      obtain ⟨ar, cr, hvr⟩ := hb6.r.logForm
      obtain ⟨_, sc, _⟩ := cells_two hb6.c.st
      obtain ⟨_, sr, _⟩ := cells_two hb6.r.st
      rw [hvc] at sc
      rw [hvr] at sr
      clear hb6 hvc hvr
      go_wp2_with fail
      refine (steps_any bc _ cc ac _ sc).mono ?_
      rintro e w7 ⟨rfl, rfl⟩
      go_wp2_with fail
      refine (rsteps_any br _ cr ar _ sr).mono ?_
      rintro e w7 ⟨rfl, rfl⟩
      go_wp2
      go_ret
      exact ⟨rfl, t06⟩

end Go.Proofs.Ytcoacfdbcinapaa

/-
  THE STATEMENTS OF PACKAGE writes, WALKED: WritesPlays, WritesMerges, WritesDrops.
-/
import Derived.Test.YtdpmkdomgnkplaaWritesSame2
namespace Go.Proofs.Ytdpmkdomgnkplaa
set_option linter.unusedVariables false
set_option linter.unusedSimpArgs false
open Go.RowKit Go.Maps Go.Shelf

theorem srow_keep {α : Type} {n : Nat} {cells : α → List Value} {w w' : World} {v : Value} {l : List α} {S : List Nat} (h : SRow n cells w v l) (t : Touch w w' S) (hS : ∀ k, v.ownBlock = some k → k ∉ S) : SRow n cells w' v l := by
  obtain ⟨ao, cap, e, h1⟩ := h
  refine ⟨ao, cap, e, fun hn => ?_⟩
  obtain ⟨g, off, rfl, hlt, hc⟩ := h1 hn
  have hne : g ∉ S := hS g (by rw [e]; rfl)
  exact ⟨g, off, rfl, Nat.lt_of_lt_of_le hlt t.size, fun k hk j hj => (t.cell (p := ⟨g, _, none⟩) hlt hne).trans (hc k hk j hj)⟩

set_option maxRecDepth 100000 in
theorem wplays_any (ao : Option Addr) (cap : Nat) (l : List DeedD) (w : World) (hr : DeedRow w (.slice ao l.length cap) l) (hl : l.length ≤ maxLen) (hwf : ∀ e ∈ l, e.Wf) :
    Calls Try.prog 3 #[.slice ao l.length cap] w (TrueN w) := by
  have hp := play_any ao cap l w hr hl hwf
  clear hr hl hwf
  go_enter Try.func3, Try.ntmps3
  go_wp2_with fail
  refine hp.mono ?_
  rintro e w1 ⟨b, ch, rb, vr, rfl, h1, t1⟩
  have H1 : Hid _ := h1
  clear hp h1
  go_wp2_with fail
  refine (live_any w1).mono ?_
  rintro e w2 ⟨rfl, t2⟩
  have hs := wsame_any (H1.out.told.touch t2)
  clear H1
  go_wp2_with fail
  refine hs.mono ?_
  rintro e w3 ⟨rfl, t3⟩
  clear hs
  go_wp2
  go_ret
  exact ⟨by simp, (t1.trans t2 (by simp)).trans t3 (by simp)⟩

theorem getF_merge {Fs : List Fr} (hok : ∀ f ∈ Fs, FrOk f) (t : Int) : getF (mergeS Fs).2 t = getF Fs t := by
  match Fs with
  | [] => rfl
  | [f] => rfl
  | f :: g :: r =>
    simp only [mergeS, getF, List.findSome?_cons]
    rw [fget_over (hok f (by simp)) (hok g (by simp))]
    cases fget f t <;> cases fget g t <;> rfl
theorem all_merge {Fs : List Fr} (hok : ∀ f ∈ Fs, FrOk f) : allK (getF (mergeS Fs).2) 12 = allK (getF Fs) 12 := by
  have : getF (mergeS Fs).2 = getF Fs := funext (getF_merge hok)
  rw [this]
theorem PLog.oks {B : Nat} {w : World} {b : Nat} {ch : List (Nat × Nat)} {Fs : List Fr} (h : PLog B w b ch Fs) : ∀ f ∈ Fs, FrOk f := fun f hf => by
  obtain ⟨i, hi, rfl⟩ := List.getElem_of_mem hf
  exact (h.fr i (by rw [h.len]; exact hi) hi).ok

set_option maxRecDepth 100000 in
set_option maxHeartbeats 1600000 in
theorem wmerges_any (ao : Option Addr) (cap : Nat) (l : List DeedD) (w : World) (hr : DeedRow w (.slice ao l.length cap) l) (hl : l.length ≤ maxLen) (hwf : ∀ e ∈ l, e.Wf) :
    Calls Try.prog 4 #[.slice ao l.length cap] w (TrueN w) := by
  have hp := play_any ao cap l w hr hl hwf
  clear hr hl hwf
  generalize runF [f0] (l.take 60) = Fs at *
  go_enter Try.func4, Try.ntmps4
  go_wp2_with fail
  refine hp.mono ?_
  rintro e w1 ⟨b, ch, rb, vr, rfl, h1, t1⟩
  generalize runF [f0] (l.take 60) = Fs at *
  have H1 : Hid _ := h1.p
  have hle := allK_le (getF Fs) 12
  clear hp h1
  go_wp2_with fail
  refine (live_any w1).mono ?_
  rintro e w2 ⟨rfl, t2⟩
  have hp2 := H1.out.touch t2
  have a1 := all_any hp2
  have t12 := t1.trans t2 (by simp)
  have H2 : Hid _ := hp2
  clear H1 hp2 t1 t2
  go_wp2_with fail
  refine a1.mono ?_
  rintro e w3 ⟨v3, B3, rfl, q3, hB3, t3⟩
  have hp3 := H2.out.touch t3
  have a2 := depth_any hp3
  have Q3 : Hid _ := srow_of_owns (cells := pairC) (n := 2) (fun _ => rfl) q3
  have hv3 : ∀ k, v3.ownBlock = some k → w2.heap.size ≤ k := fun k hk => Nat.le_trans hB3 (q3.lt k hk).1
  obtain ⟨ao3, cap3, e3⟩ := owns_form q3
  have t13 := t12.trans t3 (by simp)
  have hf2 := H2.out.foot_lt
  have H3 : Hid _ := hp3
  clear a1 q3 hp3 t12 t3 H2
  subst e3
  go_wp2_with fail
  refine a2.mono ?_
  rintro e w4 ⟨rfl, t4⟩
  have hp4 := H3.out.touch t4
  have Q4 : Hid _ := SRow.keep Q3.out t4 (by simp)
  have a3 := merge_any hp4
  have t14 := t13.trans t4 (by simp)
  have hlen := hp4.len
  have hpos := hp4.pos
  have h5 := hp4.le
  have hoks := hp4.oks
  have H4 : Hid _ := hp4
  clear a2 t4 t13 hp4 Q3 H3
  by_cases h0 : Fs.length - 1 = 0
  · have hm : mergeS Fs = (8, Fs) := by
      match Fs, h0, hlen with
      | [], _, hlen => exact absurd hpos (by rw [hlen]; simp)
      | [f], _, _ => rfl
      | f :: g :: r, h0, _ => simp at h0
    rw [hm] at a3
    rw [h0]
    go_wp2_with fail
    refine a3.mono ?_
    rintro e w5 ⟨ch5, rfl, p5, t5, x5⟩
    have Q5 : Hid _ := srow_keep Q4.out t5 (fun k hk hs => by have h1 := hv3 k hk; have h2 := (hf2 k hs).2; omega)
    have t15 : Touch w w5 [] := t14.trans t5 (fun x hx => .inr (H4.out.foot_lt x hx).1)
    have a4 := all_any p5
    clear a3 t5 Q4
    go_wp2_with fail
    refine a4.mono ?_
    rintro e w6 ⟨v6, B6, rfl, q6, hB6, t6⟩
    have a5 := samePairs v6 _ (allK (getF Fs) 12) w6 (by omega) (srow_of_owns (cells := pairC) (n := 2) (fun _ => rfl) q6) (SRow.keep Q5.out t6 (by simp))
    have t16 := t15.trans t6 (by simp)
    clear a4 q6 Q5 t6 t15
    go_wp2_with fail
    refine a5.mono ?_
    rintro e w7 ⟨rfl, t7⟩
    go_wp2
    go_ret
    exact ⟨by simp, t16.trans t7 (by simp)⟩
  · have hm : ∃ G, mergeS Fs = (0, G) ∧ G.length = Fs.length - 1 := by
      match Fs, h0, hlen with
      | [], _, hlen => exact absurd hpos (by rw [hlen]; simp)
      | [f], h0, _ => exact absurd rfl h0
      | f :: g :: r, _, _ => exact ⟨_, rfl, by simp⟩
    obtain ⟨G, hG, hGl⟩ := hm
    have hall := all_merge hoks
    rw [hG] at a3 hall
    simp only at hall
    have hn0 : ¬ (((Fs.length - 1 : Nat) : Int) = 0) := by omega
    have hGd : ((G.length - 1 : Nat) : Int) = ((Fs.length - 1 : Nat) : Int) - 1 := by omega
    have hL5 : ((Fs.length - 1 : Nat) : Int) ≤ 4 := by omega
    have hL0 : (0 : Int) ≤ ((Fs.length - 1 : Nat) : Int) := by omega
    generalize ((Fs.length - 1 : Nat) : Int) = D at *
    go_wp2_with fail
    refine a3.mono ?_
    rintro e w5 ⟨ch5, rfl, p5, t5, x5⟩
    have Q5 : Hid _ := srow_keep Q4.out t5 (fun k hk hs => by have h1 := hv3 k hk; have h2 := (hf2 k hs).2; omega)
    have t15 : Touch w w5 [] := t14.trans t5 (fun x hx => .inr (H4.out.foot_lt x hx).1)
    have a4 := depth_any p5
    rw [hGd] at a4
    have P5 : Hid _ := p5
    clear a3 t5 Q4 p5
    go_wp2_with fail
    refine a4.mono ?_
    rintro e w6 ⟨rfl, t6⟩
    have a5 := all_any (P5.out.touch t6)
    rw [hall] at a5
    have Q6 : Hid _ := SRow.keep Q5.out t6 (by simp)
    have t16 := t15.trans t6 (by simp)
    clear a4 t6 Q5
    go_wp2_with fail
    refine a5.mono ?_
    rintro e w7 ⟨v7, B7, rfl, q7, hB7, t7⟩
    have a6 := samePairs v7 _ (allK (getF Fs) 12) w7 (by omega) (srow_of_owns (cells := pairC) (n := 2) (fun _ => rfl) q7) (SRow.keep Q6.out t7 (by simp))
    have t17 := t16.trans t7 (by simp)
    clear a5 q7 Q6 t7
    go_wp2_with fail
    refine a6.mono ?_
    rintro e w8 ⟨rfl, t8⟩
    go_wp2
    go_ret
    exact ⟨by simp, t17.trans t8 (by simp)⟩

end Go.Proofs.Ytdpmkdomgnkplaa

/-
  VERSIONS NEVER FALL, AND ARE NEVER ABOVE THE CLOCK: the law, walked.
-/
import Derived.Test.YthkphhjhgkclfaaDoorStripesPlay
namespace Go.Proofs.YthkphhjhgkclfaaDoor
set_option linter.unusedVariables false
set_option linter.unusedSimpArgs false
open Go.RowKit

/-- What was told of the first j stripes, in an array of its own. -/
structure Was (w : World) (p : Nat) (ws : List Int) (j : Nat) : Prop where
  ex : ∃ arr : Array Value, w.heap[p]? = some (.cells arr 32 (0, 0)) ∧ arr.size = 8 ∧ ∀ q, q < j → arr[q]? = some (.int .u64 (verP ws q))

theorem Was.touch {w w' : World} {p : Nat} {ws : List Int} {j : Nat} {S : List Nat} (h : Was w p ws j) (t : Touch w w' S) (hS : p ∉ S) : Was w' p ws j := by
  obtain ⟨arr, h1, h2, h3⟩ := h.ex
  exact ⟨arr, (t.block _ (lt_of_heap h1) hS).trans h1, h2, h3⟩
theorem Was.lt {w : World} {p : Nat} {ws : List Int} {j : Nat} (h : Was w p ws j) : p < w.heap.size := by
  obtain ⟨arr, h1, _, _⟩ := h.ex
  exact lt_of_heap h1
theorem Was.cell {w : World} {p : Nat} {ws : List Int} {j : Nat} (h : Was w p ws j) (q : Nat) (hq : q < j) : w.cell? ⟨p, q, none⟩ = some (.int .u64 (verP ws q)) := by
  obtain ⟨arr, h1, _, h3⟩ := h.ex
  simp [World.cell?, h1, h3 q hq]
theorem Was.there {w : World} {p : Nat} {ws : List Int} {j : Nat} (h : Was w p ws j) (q : Nat) (hq : q < 8) : ∃ v, w.cell? ⟨p, q, none⟩ = some v := by
  obtain ⟨arr, h1, h2, _⟩ := h.ex
  exact ⟨arr[q]'(by omega), by simp [World.cell?, h1, show q < arr.size by omega]⟩
theorem Was.frozen {w : World} {p : Nat} {ws : List Int} {j : Nat} (h : Was w p ws j) (q : Nat) : w.frozen? ⟨p, q, none⟩ = false := by
  obtain ⟨arr, h1, _, _⟩ := h.ex
  simp [World.frozen?, h1]
theorem Was.next {w : World} {p : Nat} {ws : List Int} {j : Nat} (h : Was w p ws j) (hj : j < 8) : Was (w.setCell ⟨p, j, none⟩ (.int .u64 (verP ws j))) p ws (j + 1) := by
  obtain ⟨arr, h1, h2, h3⟩ := h.ex
  refine ⟨arr.setIfInBounds j (.int .u64 (verP ws j)), ?_, by simpa using h2, fun q hq => ?_⟩
  · simp [World.setCell, Array.getElem?_modify, h1]
  · by_cases e : q = j
    · subst e
      simp [h2, hj]
    · rw [Array.getElem?_setIfInBounds_ne (by omega)]
      exact h3 q (by omega)

set_option maxRecDepth 100000 in
set_option maxHeartbeats 4000000 in
theorem rise_any (n : Int) (h0 : 0 ≤ n) (h1 : n ≤ 255) (ao : Option Addr) (cap : Nat) (l : List DeedD) (hwf : ∀ d ∈ l, 0 ≤ d.v) (w : World) (S : Sh w) (hr : DeedRow w (.slice ao l.length cap) l) (hl : l.length ≤ maxLen) :
    Calls Tryd.prog 4 #[.int .u8 n, .slice ao l.length cap] w fun e w' => e = .returned (.bool true) ∧ Touch w w' [] := by
  unfold maxLen at hl
  obtain ⟨m, hm⟩ : ∃ m : Nat, (m : Int) = n % 8 + 1 := ⟨(n % 8 + 1).toNat, by omega⟩
  have hmt : (n % 8 + 1).toNat = m := by omega
  have hm1 : 1 ≤ m := by omega
  have hm8 : m ≤ 8 := by omega
  have hp := play_nil n h0 h1 w
  rw [hmt] at hp
  obtain ⟨N, hN⟩ : ∃ N, N = l.length := ⟨_, rfl⟩
  have HN : Hid (N = l.length) := hN
  have HM : Hid ((m : Int) = n % 8 + 1) := hm
  have HRW : Hid _ := hr
  have HS : Hid _ := S
  have hgl : 0 < w.heap.size := S.lt
  go_enter Tryd.func4, Tryd.ntmps4
  rw [← hN] at hl ⊢
  clear hN hm hmt hr S
  go_wp2_with fail
  refine hp.mono ?_
  rintro e w1 ⟨b, rb0, vw0, rfl, hP1, t1⟩
  clear hp
  have HP1 : Hid _ := hP1
  clear hP1
  go_wp2_with fail
  refine (slive_any w1 (HS.out.touch t1 (by simp))).mono ?_
  rintro e w2 ⟨rfl, t2'⟩
  have t2 : Touch w w2 [] := t1.trans t2' (by simp)
  have HP2 : Hid _ := HP1.out.keep t2'
  clear HP1 t1 t2'
  go_wp2_with fail
  have hrn := rnew_ok w.heap.size m hm1 hm8 w2 t2.size
  rw [HM.out] at hrn
  refine hrn.mono ?_
  rintro e w3 ⟨vw, rfl, hro, t3', hv⟩
  clear hrn
  have t3 : Touch w w3 [] := t2.trans t3' (by simp)
  obtain ⟨rb, hrb⟩ : ∃ rb, rb = w2.heap.size + 1 := ⟨_, rfl⟩
  rw [← hrb] at hro
  have hblt := HP2.out.t.lt
  have HP : Hid (Pair w.heap.size w3 b rb vw (runD m (l.take 0))) := ⟨HP2.out.t.touch t3' (by simp), hro, HP2.out.g, HP2.out.hb, by simp; omega, fun k hk => by have := hv k hk; simp; omega⟩
  clear HP2 hro t3' hv t2 hblt
  rw [← hrb]
  clear hrb
  go_wp2_with fail
  go_loopw [9] (fun i wr => ∃ k : Nat, i = .int .i64 k ∧ k ≤ N ∧ k ≤ 60 ∧ Pair w.heap.size wr b rb vw (runD m (l.take k)) ∧ Touch w wr []) (fun i _ => 60 - (intOf i).toNat)
  case atStart => exact ⟨0, rfl, by omega, by omega, HP.out, t3⟩
  case round =>
    obtain ⟨k, rfl, hk, hk60, hP, t⟩ := hrel
    clear HP t3
    by_cases hlt : k < N ∧ k < 60
    · obtain ⟨hlt, hlt6⟩ := hlt
      have hlt' : (k : Int) < N := by omega
      have hlt6' : (k : Int) < 60 := by omega
      have hkl : k < l.length := by rw [← HN.out]; exact hlt
      obtain ⟨g, off, hao, hg, M0, M1, M2, M3⟩ := DeedRow.four HRW.out k hkl
      have hn := runD_next (m := m) hkl
      have hdv := hwf l[k] (List.getElem_mem hkl)
      have hlen := runD_len m l k
      generalize l[k] = d at *
      obtain ⟨kd, o, s, v⟩ := d
      generalize runD m (l.take k) = st at *
      obtain ⟨now, ws⟩ := st
      simp only at hlen hn hdv M0 M1 M2 M3
      subst hao
      have HNX : Hid _ := hn
      obtain ⟨W0, hW0⟩ : ∃ W0, W0 = wr := ⟨_, rfl⟩
      subst hW0
      have hG := hP.g
      have hrise := fun q hq => deed_rise hG ⟨kd, o, s, v⟩ hdv q hq
      have hnow := deed_now hG ⟨kd, o, s, v⟩
      simp only at hG hrise hnow
      have HRI : Hid _ := hrise
      have hbp : ∀ x ∈ b :: rfoot rb vw, w.heap.size ≤ x ∧ x < W0.heap.size := fun x hx => ⟨hP.foot x hx, by
        simp only [rfoot, List.mem_cons, Option.mem_toList] at hx
        rcases hx with rfl | rfl | hx
        · exact hP.t.lt
        · exact lt_of_heap hP.r.st
        · exact (hP.r.apart hP.g.pos x hx).2.1⟩
      have HBP : Hid _ := hbp
      have hpw : W0.heap.size ∉ b :: rfoot rb vw := fun hh => by have := (hbp _ hh).2; omega
      have HPW : Hid _ := hpw
      have t4 := (t.alloc (.cells #[.int .u64 0, .int .u64 0, .int .u64 0, .int .u64 0, .int .u64 0, .int .u64 0, .int .u64 0, .int .u64 0] 32))
      have HP4 : Hid _ := hP.keep ((Touch.refl W0 []).alloc (.cells #[.int .u64 0, .int .u64 0, .int .u64 0, .int .u64 0, .int .u64 0, .int .u64 0, .int .u64 0, .int .u64 0] 32))
      have HW4 : Hid (Was (W0.alloc (.cells #[.int .u64 0, .int .u64 0, .int .u64 0, .int .u64 0, .int .u64 0, .int .u64 0, .int .u64 0, .int .u64 0] 32)) W0.heap.size ws 0) := ⟨_, heap_alloc_new _ _, rfl, fun q hq => by omega⟩
      have HT4 : Hid _ := t4
      have HT0 : Hid (w.heap.size ≤ W0.heap.size) := t.size
      clear hn hP hrise hbp hpw t t4
      go_wp2_with fail
      go_loopw [11] (fun i wr => ∃ j : Nat, i = .int .i64 j ∧ j ≤ m ∧ Pair w.heap.size wr b rb vw (now, ws) ∧ Was wr W0.heap.size ws j ∧ Touch w wr []) (fun i _ => 9 - (intOf i).toNat)
      case atStart => exact ⟨0, rfl, by omega, HP4.out, HW4.out, HT4.out⟩
      case round =>
        obtain ⟨j, rfl, hj, hP5, hW5, t5⟩ := hrel
        clear HP4 HW4 HT4
        have hz := size_any hP5.t
        simp only at hz
        rw [hlen] at hz
        by_cases hjm : j < m
        · have b1 : (j : Int) < m := by omega
          have b2 : (j : Int) < 8 := by omega
          have hve := version_any hP5.t hG (HS.out.touch t5 (by simp)) j
          rw [says_ver (now := now) j (by rw [hlen]; exact hjm)] at hve
          have HP5 : Hid _ := hP5
          have HW5 : Hid _ := hW5
          have HT5 : Hid _ := t5
          clear hP5 hW5 t5
          go_wp2_with fail
          refine hz.mono ?_
          rintro e w6 ⟨rfl, e6⟩
          subst e6
          clear hz
          go_wp2_with fail
          refine hve.mono ?_
          rintro e w6 ⟨rfl, t6⟩
          clear hve
          have hW6 := HW5.out.touch t6 (by simp)
          obtain ⟨v6, c6⟩ := hW6.there j (by omega)
          have f6 := hW6.frozen j
          have HW7 : Hid _ := hW6.next (by omega)
          have HP7 : Hid (Pair w.heap.size (w6.setCell ⟨W0.heap.size, j, none⟩ (.int .u64 (verP ws j))) b rb vw (now, ws)) := by
            have h6 := HP5.out.keep t6
            have t7 : Touch w6 (w6.setCell ⟨W0.heap.size, j, none⟩ (.int .u64 (verP ws j))) [W0.heap.size] := (Touch.refl _ _).setCell (.inl (by simp)) _
            have hn (x : Nat) (hx : x ∈ b :: rfoot rb vw) : x ∉ [W0.heap.size] := by have := (HBP.out x hx).2; simp; omega
            exact ⟨h6.t.touch t7 (hn _ (by simp)), h6.r.touch t7 (hn _ (by simp [rfoot])) (fun k hk => hn _ (by simp [rfoot, hk])), h6.g, h6.hb, h6.a1, h6.a2⟩
          have HT7 : Hid (Touch w (w6.setCell ⟨W0.heap.size, j, none⟩ (.int .u64 (verP ws j))) []) := (HT5.out.trans t6 (by simp)).setCell (.inr HT0.out) _
          clear hW6 t6 HW5 HP5 HT5
          go_wp2
          go_roundw
          case rel => exact ⟨j + 1, by go_num, by omega, HP7.out, HW7.out, HT7.out⟩
          case measure => simp [intOf]; omega
        · obtain rfl : j = m := by omega
          have b1 : ¬ (j : Int) < j := by omega
          have hc := clock_any hP5.t
          simp only at hc
          have hdo := do_pair hP5 (HS.out.touch t5 (by simp)) hgl ⟨kd, o, s, v⟩ hdv
          simp only [DeedD.val] at hdo
          have m0 := (t5.cell (p := ⟨g, off + k * 4, none⟩) hg (by simp)).trans M0
          have m1 := (t5.cell (p := ⟨g, off + k * 4 + 1, none⟩) hg (by simp)).trans M1
          have m2 := (t5.cell (p := ⟨g, off + k * 4 + 2, none⟩) hg (by simp)).trans M2
          have m3 := (t5.cell (p := ⟨g, off + k * 4 + 3, none⟩) hg (by simp)).trans M3
          have HW5 : Hid _ := hW5
          have HT5 : Hid _ := t5
          clear hP5 hW5 t5
          generalize hst : deedS now ws ⟨kd, o, s, v⟩ = st2 at *
          obtain ⟨now2, ws2⟩ := st2
          simp only at hnow
          have hnow' : decide (now2 < now) = false := decide_eq_false (by omega)
          have hlen2 : ws2.length = j := by have := deed_len now ws ⟨kd, o, s, v⟩; rw [hst] at this; simp only at this; omega
          go_wp2_with fail
          refine hz.mono ?_
          rintro e w6 ⟨rfl, e6⟩
          subst e6
          clear hz
          go_wp2_with fail
          refine hc.mono ?_
          rintro e w6 ⟨rfl, e6⟩
          subst e6
          clear hc
          go_wp2_with fail
          refine hdo.mono ?_
          rintro e w7 ⟨rfl, hP7, S7, t7⟩
          clear hdo m0 m1 m2 m3
          have hc7 := clock_any hP7.t
          simp only at hc7
          have HP7 : Hid _ := hP7
          have HW7 : Hid _ := HW5.out.touch t7 HPW.out
          have HT7 : Hid (Touch w w7 []) := HT5.out.trans t7 (fun x hx => .inr (HBP.out x hx).1)
          clear hP7 S7 t7 HW5 HT5
          go_wp2_with fail
          refine hc7.mono ?_
          rintro e w8 ⟨rfl, e8⟩
          subst e8
          clear hc7
          go_wp2_with fail
          have hG2 := HP7.out.g
          simp only at hG2
          have HRI2 : Hid (∀ q, q < ws.length → verP ws q ≤ verP ws2 q) := HRI.out
          clear HRI hst
          go_loopw [13] (fun i wr => ∃ q : Nat, i = .int .i64 q ∧ q ≤ j ∧ Pair w.heap.size wr b rb vw (now2, ws2) ∧ Was wr W0.heap.size ws j ∧ Touch w wr []) (fun i _ => 9 - (intOf i).toNat)
          case atStart => exact ⟨0, rfl, by omega, HP7.out, HW7.out, HT7.out⟩
          case round =>
            obtain ⟨q, rfl, hq, hP8, hW8, t8⟩ := hrel
            clear HP7 HW7 HT7
            have hz := size_any hP8.t
            simp only at hz
            rw [hlen2] at hz
            by_cases hqj : q < j
            · have d1 : (q : Int) < j := by omega
              have d2 : (q : Int) < 8 := by omega
              have d0 : (0 : Int) ≤ q := by omega
              have e1 := HRI2.out q (by omega)
              have e2 := ver_le hG2 q (by omega)
              have hsv := says_ver (now := now2) (ws := ws2) q (by omega)
              generalize hv2 : verP ws2 q = v2 at *
              have cw := hW8.cell q hqj
              generalize hv1 : verP ws q = v1 at *
              have n1 : decide (v2 < v1) = false := decide_eq_false (by omega)
              have n2 : decide (now2 < v2) = false := decide_eq_false (by omega)
              clear e1 e2 hv1 hv2
              have HP8 : Hid _ := hP8
              have HW8 : Hid _ := hW8
              have HT8 : Hid _ := t8
              have hO : TObj wr b now2 ws2 := hP8.t
              have hS : Sh wr := HS.out.touch t8 (by simp)
              have hpl : W0.heap.size < wr.heap.size := hW8.lt
              clear hP8 hW8 t8
              go_wp2_with fail
              refine hz.mono ?_
              rintro e w6 ⟨rfl, e6⟩
              subst e6
              clear hz
              go_wp2_with fail
              have hd : Touch wr wr.drew [] := (Touch.refl _ _).drew
              go_region_held3 (fun w' => w'.cell? ⟨W0.heap.size, q, none⟩ = some (.int .u64 v1)) ((first | exact (hd.cell (p := ⟨W0.heap.size, q, none⟩) hpl (by simp)).trans cw | exact (t4.cell (p := ⟨W0.heap.size, q, none⟩) hpl (by simp)).trans cw | exact (t3.cell (p := ⟨W0.heap.size, q, none⟩) hpl (by simp)).trans cw)) ((first | (go_at_call 12; refine (version_any (hO.touch t3 (by simp)) hG2 (hS.touch t3 (by simp)) q).mono ?_; rw [hsv]; rintro e w4 ⟨rfl, t4'⟩; have t4 : Touch wr w4 [] := t3.trans t4' (by simp)) | (go_at_call 12; refine (version_any (hO.touch hd (by simp)) hG2 (hS.touch hd (by simp)) q).mono ?_; rw [hsv]; rintro e w3 ⟨rfl, t3'⟩; have t3 : Touch wr w3 [] := hd.trans t3' (by simp)) | (go_at_call 13; refine (clock_any (hO.touch t4 (by simp))).mono ?_; rintro e w5 ⟨rfl, e5⟩; subst e5)))
              have HP9 : Hid _ := HP8.out.keep t4
              have HW9 : Hid _ := HW8.out.touch t4 (by simp)
              have HT9 : Hid (Touch w w4 []) := HT8.out.trans t4 (by simp)
              clear HP8 HW8 HT8 t4 t3 hO hS hd
              go_wp2
              go_roundw
              case rel => exact ⟨q + 1, by go_num, by omega, HP9.out, HW9.out, HT9.out⟩
              case measure => simp [intOf]; omega
            · obtain rfl : q = j := by omega
              have d1 : ¬ (q : Int) < q := by omega
              have HP8 : Hid _ := hP8
              have HT8 : Hid _ := t8
              clear hP8 hW8 t8
              go_wp2_with fail
              refine hz.mono ?_
              rintro e w6 ⟨rfl, e6⟩
              subst e6
              clear hz
              go_wp2
              go_roundw
              case rel => exact ⟨k + 1, by go_num, by omega, by omega, by rw [HNX.out]; exact HP8.out, HT8.out⟩
              case measure => simp [intOf]; omega
    · have HT : Hid _ := t
      clear hP t
      rcases Nat.lt_or_ge k N with hkN | hkN
      · have a1 : (k : Int) < N := by omega
        have a2 : ¬ (k : Int) < 60 := by omega
        go_wp2
        go_ret
        exact ⟨by simp, HT.out⟩
      · have a1 : ¬ (k : Int) < N := by omega
        go_wp2
        go_ret
        exact ⟨by simp, HT.out⟩

end Go.Proofs.YthkphhjhgkclfaaDoor

/-
  The document's lists (rowlockref13): Register BY ITS CONTRACT.
-/
import Derived.Test.YteffdibdnoppjaaWtRefW
import Derived.Deep.RegionLaw
namespace Go.Proofs.Yteffdibdnoppjaa
set_option linter.unusedVariables false
set_option linter.unusedSimpArgs false
open Go.RowKit Go.Maps
attribute [local go_sem] Oper.semAt_some

theorem ocells_put' (th : Int) (s s' : Nat) : ∀ t : Nat, t < 12 → (∀ i, s'.testBit i = (s.testBit i || decide (t = i))) → (ocells ⟨th, s, false⟩).toArray.setIfInBounds (1 + t) (.bool true) = (ocells ⟨th, s', false⟩).toArray
  | 0, _, h => by simp only [ocells, h]; generalize s.testBit 0 = b0; simp
  | 1, _, h => by simp only [ocells, h]; generalize s.testBit 0 = b0; simp
  | 2, _, h => by simp only [ocells, h]; generalize s.testBit 0 = b0; simp
  | 3, _, h => by simp only [ocells, h]; generalize s.testBit 0 = b0; simp
  | 4, _, h => by simp only [ocells, h]; generalize s.testBit 0 = b0; simp
  | 5, _, h => by simp only [ocells, h]; generalize s.testBit 0 = b0; simp
  | 6, _, h => by simp only [ocells, h]; generalize s.testBit 0 = b0; simp
  | 7, _, h => by simp only [ocells, h]; generalize s.testBit 0 = b0; simp
  | 8, _, h => by simp only [ocells, h]; generalize s.testBit 0 = b0; simp
  | 9, _, h => by simp only [ocells, h]; generalize s.testBit 0 = b0; simp
  | 10, _, h => by simp only [ocells, h]; generalize s.testBit 0 = b0; simp
  | 11, _, h => by simp only [ocells, h]; generalize s.testBit 0 = b0; simp
  | n + 12, h, _ => absurd h (by omega)
theorem ocells_put (th : Int) (s t : Nat) (ht : t < 12) : (ocells ⟨th, s, false⟩).toArray.setIfInBounds (1 + t) (.bool true) = (ocells ⟨th, s ||| 2 ^ t, false⟩).toArray :=
  ocells_put' th s _ t ht (fun i => by rw [Nat.testBit_or, Nat.testBit_two_pow])

theorem orow_keep {w w' : World} {g n cap : Nat} {l : List WD} {S : List Nat} (h : ORow w (.slice (some ⟨g, 0, none⟩) n cap) l) (t : Touch w w' S) (hg : g ∉ S) : ORow w' (.slice (some ⟨g, 0, none⟩) n cap) l := by
  obtain ⟨ao, cap', e, h1⟩ := h
  refine ⟨ao, cap', e, fun hn => ?_⟩
  obtain ⟨g', off, rfl, hlt, hc⟩ := h1 hn
  simp only [Value.slice.injEq, Option.some.injEq, Addr.mk.injEq] at e
  obtain ⟨⟨rfl, rfl, _⟩, _, _⟩ := e
  exact ⟨g, 0, rfl, Nat.lt_of_lt_of_le hlt t.size, fun k hk j hj => (t.cell (p := ⟨g, _, none⟩) hlt hg).trans (hc k hk j hj)⟩

/-- The first append: the old row, copied. -/
theorem step1 {w wc w0 : World} {L : List WD} {ao : Option Addr} {cap e : Nat} (hrow : ORow w (.slice ao L.length cap) L) (ht : Touch w wc []) (hl : L.length ≤ 4) (t0 : Touch wc w0 []) (h0 : oneOwn w0 wc.heap.size (.slice (some ⟨e, 0, none⟩) 0 0) []) :
    ∃ a1 p1 w3, (Builtin.append_ #[64, 64] 64 #[.slice (some ⟨e, 0, none⟩) 0 0, .slice ao L.length cap]).run Try.prog w0 = .ok (.slice a1 L.length p1) w3 ∧ oneOwn w3 wc.heap.size (.slice a1 L.length p1) L ∧ Touch w0 w3 [e] ∧ Touch wc w3 [] := by
  obtain ⟨a1, p1, w3, h1, h2, h3, h4⟩ := ones_app h0 (SRow.keep hrow (ht.trans t0 (by simp)) (by simp)) (by simp only [List.length_nil]; omega) t0.size 64
  simp only [List.length_nil, Nat.zero_add, List.nil_append] at h1 h2
  have he := (own_lt h0 e rfl).1
  have h3' : Touch w0 w3 [e] := h3
  exact ⟨a1, p1, w3, h1, h2, h3', t0.trans h3' (fun x hx => .inr (by simp at hx; omega))⟩
/-- The second append, and the store. -/
theorem step2 {w wc w3 : World} {b : Nat} {F : List Nat} {L : List WD} {x : WD} {ao a1 : Option Addr} {cap p1 e : Nat} (h : RAt w b F L) (hc0 : w.cell? ⟨b, 0, none⟩ = some (.slice ao L.length cap)) (ht : Touch w wc []) (hl : L.length ≤ 4) (hw : WWf (L ++ [x])) (t3 : Touch wc w3 [])
    (hown : oneOwn w3 wc.heap.size (.slice a1 L.length p1) L) (hsrc : ORow w3 (.slice (some ⟨e, 0, none⟩) 1 1) [x]) :
    ∃ a2 p2 w4, (Builtin.append_ #[64, 64] 64 #[.slice a1 L.length p1, .slice (some ⟨e, 0, none⟩) 1 1]).run Try.prog w3 = .ok (.slice a2 (L.length + 1) p2) w4 ∧ w4.cell? ⟨b, 0, none⟩ = some (.slice ao L.length cap) ∧ w4.frozen? ⟨b, 0, none⟩ = false ∧ RPost w b F (L ++ [x]) (w4.setCell ⟨b, 0, none⟩ (.slice a2 (L.length + 1) p2)) := by
  obtain ⟨a2, p2, w4, h1, h2, h3, h4⟩ := ones_app (l := [x]) hown hsrc (by simp; omega) t3.size 64
  have hob := own_lt hown
  have tw : Touch w w4 [] := (ht.trans t3 (by simp)).trans h3 (fun y hy => .inr (by have := (hob y (by simpa using hy)).1; have := ht.size; omega))
  have hbl : b < w.heap.size := World.block_lt_of_cell? w _ hc0
  obtain ⟨k1, _, k3⟩ := rstore h tw (own_low h2 ht.size) hw
  exact ⟨a2, p2, w4, h1, (tw.cell (p := ⟨b, 0, none⟩) hbl (by simp)).trans hc0, k1, k3⟩

set_option maxRecDepth 100000 in
set_option maxHeartbeats 4000000 in
theorem rregister_any {w : World} {b : Nat} {F : List Nat} {L : List WD} (h : RAt w b F L) (th : Int) {v : Value} {tv : List Int} (hr : IRow w v tv) (hl : tv.length ≤ 1000) :
    Calls Try.prog 41 #[ptr b, .int .i64 th, v] w fun e w' => e = .returned (.int .i64 (regE L th tv).1) ∧ RPost w b F (regE L th tv).2 w' := by
  have HH : Hid _ := h
  have HST : Hid (∀ W, Touch w W [] → RPost w b F L W) := fun W T => h.stay T
  have hmy : HidC _ _ _ _ _ := ⟨rmay_any b th w⟩
  have hat : Hid (∀ W, Touch w W [] → HidC _ _ _ W _) := fun W T => ⟨rat_any (h.touch T (by simp)) th⟩
  have hWF := h.wf
  obtain ⟨vo, hFe, ho⟩ := h
  have hlen := ho.wf.len
  obtain ⟨ao, cap, rfl, c0, f0, hbl, hc⟩ := ho.read
  have hrowL : ORow w (.slice ao L.length cap) L := srow_of ocells_len ho.own
  obtain ⟨at', ct, rfl⟩ := hr.shape
  have HTV : Hid (∀ k (hk : k < tv.length), ∃ g off, at' = some ⟨g, off, none⟩ ∧ g < w.heap.size ∧ w.cell? ⟨g, off + k, none⟩ = some (.int .i64 tv[k])) := fun k hk => IRow.one hr k hk
  obtain ⟨M, hM⟩ : ∃ M, M = tv.length := ⟨_, rfl⟩
  have HM : Hid _ := hM
  cases h1 : noTh th with
  | true =>
    have e1 : regE L th tv = (2, L) := by unfold regE; rw [if_pos (.inl h1)]
    rw [e1]
    rw [h1] at hmy
    simp only [if_true] at hmy
    have HS0 : Hid _ := HST.out w (Touch.refl w [])
    clear ho hc h1 e1 hr hrowL HTV
    rw [← hM]
    clear hM HM hl
    go_enter Try.func41, Try.ntmps41
    go_wp2_with fail
    refine hmy.out.mono ?_
    rintro e w1 ⟨rfl, rfl⟩
    clear hmy
    go_wp2
    go_ret
    exact ⟨rfl, HS0.out⟩
  | false =>
    rw [h1] at hmy
    simp only [Bool.false_eq_true, if_false] at hmy
    have HN1 : Hid _ := h1
    have HWF : Hid _ := hWF
    have HFE : Hid _ := hFe
    have HROW : Hid _ := hrowL
    rw [← hM] at hl ⊢
    have HQ0 : Hid ((w.alloc (.cells #[.int .i64 th, .bool false, .bool false, .bool false, .bool false, .bool false, .bool false, .bool false, .bool false, .bool false, .bool false, .bool false, .bool false, .bool false] 73)).heap[w.heap.size]? = some (.cells (ocells ⟨th, 0, false⟩).toArray 73 (0, 0))) := by
      have e0 : (ocells ⟨th, 0, false⟩).toArray = #[.int .i64 th, .bool false, .bool false, .bool false, .bool false, .bool false, .bool false, .bool false, .bool false, .bool false, .bool false, .bool false, .bool false, .bool false] := by simp [ocells]
      show _ = _
      rw [e0]
      exact heap_alloc_new w _
    have HT0 : Hid (Touch w (w.alloc (.cells #[.int .i64 th, .bool false, .bool false, .bool false, .bool false, .bool false, .bool false, .bool false, .bool false, .bool false, .bool false, .bool false, .bool false, .bool false] 73)) []) := (Touch.refl w []).alloc _
    clear ho hc h1 hr hrowL hM hFe hWF
    go_enter Try.func41, Try.ntmps41
    go_wp2_with fail
    refine hmy.out.mono ?_
    rintro e w1 ⟨rfl, rfl⟩
    clear hmy
    go_wp2_with fail
    go_loopw [9] (fun i wr => ∃ n : Nat, i = .int .i64 n ∧ n ≤ M ∧ (tv.take n).any noT = false ∧ wr.heap[w.heap.size]? = some (.cells (ocells ⟨th, setP (tv.take n), false⟩).toArray 73 (0, 0)) ∧ Touch w wr []) (fun i _ => M - (intOf i).toNat)
    case atStart => exact ⟨0, rfl, Nat.zero_le _, by simp, HQ0.out, HT0.out⟩
    case round =>
      obtain ⟨n, rfl, hn, hok, hq, hT⟩ := hrel
      have HT : Hid _ := hT
      have HOK : Hid _ := hok
      have HQ : Hid _ := hq
      by_cases hnt : n < M
      · have n1 : (n : Int) < M := by omega
        have n0 : (0 : Int) ≤ n := by omega
        have hnl : n < tv.length := by rw [← HM.out]; exact hnt
        obtain ⟨gt, off, rfl, hgt, dt⟩ := HTV.out n hnl
        have dt2 := (hT.cell (p := ⟨gt, off + n, none⟩) hgt (by simp)).trans dt
        have HAN : Hid ((tv.take (n + 1)).any noT = ((tv.take n).any noT || noT tv[n])) := by show _ = _; rw [List.take_succ_eq_append_getElem hnl, List.any_append]; simp
        have HSN : Hid _ := setP_snoc hnl
        have HALL : Hid (noT tv[n] = true → tv.any noT = true) := fun hno => List.any_eq_true.2 ⟨tv[n], List.getElem_mem hnl, hno⟩
        generalize tv[n] = t at *
        clear dt hok hq hT
        by_cases ht0 : t < 0
        · have hno : noT t = true := by simp [noT]; omega
          have e1 : regE L th tv = (2, L) := by unfold regE; rw [if_pos (.inr (HALL.out hno))]
          have HE1 : Hid _ := e1
          have HS0 : Hid _ := HST.out _ HT.out
          clear e1 hno
          go_wp2
          go_ret
          rw [HE1.out]
          exact ⟨rfl, HS0.out⟩
        · by_cases ht1 : 12 ≤ t
          · have hno : noT t = true := by simp [noT]; omega
            have e1 : regE L th tv = (2, L) := by unfold regE; rw [if_pos (.inr (HALL.out hno))]
            have HE1 : Hid _ := e1
            have HS0 : Hid _ := HST.out _ HT.out
            clear e1 hno
            go_wp2
            go_ret
            rw [HE1.out]
            exact ⟨rfl, HS0.out⟩
          · have hno : noT t = false := by simp [noT]; omega
            obtain ⟨m, rfl⟩ := Int.eq_ofNat_of_zero_le (show 0 ≤ t by omega)
            have hm12 : m < 12 := by omega
            have m1 : (m : Int) < 12 := by omega
            have m0 : (0 : Int) ≤ m := by omega
            have HS2 : Hid (setP (tv.take (n + 1)) = setP (tv.take n) ||| 2 ^ m) := by show _ = _; rw [HSN.out, setStep, if_neg (by rw [hno]; simp)]; simp
            have HA2 : Hid ((tv.take (n + 1)).any noT = false) := by show _ = _; rw [HAN.out, HOK.out, hno]; rfl
            have hcq : ∃ u, wr.cell? ⟨w.heap.size, 1 + m, none⟩ = some u := by
              have h5 := ocells_bit ⟨th, setP (tv.take n), false⟩ m hm12
              refine ⟨.bool ((setP (tv.take n)).testBit m), ?_⟩
              unfold World.cell?
              rw [HQ.out]
              simpa using h5
            obtain ⟨u, hcq⟩ := hcq
            have hfq : wr.frozen? ⟨w.heap.size, 1 + m, none⟩ = false := by unfold World.frozen?; rw [HQ.out]; simp
            have HQ2 : Hid ((wr.setCell ⟨w.heap.size, 1 + m, none⟩ (.bool true)).heap[w.heap.size]? = some (.cells (ocells ⟨th, setP (tv.take (n + 1)), false⟩).toArray 73 (0, 0))) := by
              show _ = _
              rw [HS2.out, ← ocells_put th _ m hm12]
              exact heap_setCell_same _ _ _ _ _ _ HQ.out
            have HT2 : Hid (Touch w (wr.setCell ⟨w.heap.size, 1 + m, none⟩ (.bool true)) []) := HT.out.setCell (.inr (Nat.le_refl _)) _
            clear hno
            go_wp2
            go_roundw
            case rel => exact ⟨n + 1, by go_num, by omega, HA2.out, HQ2.out, HT2.out⟩
            case measure => simp [intOf]; omega
      · obtain rfl : n = M := by omega
        have hall : tv.take n = tv := by rw [HM.out, List.take_length]
        rw [hall] at hok hq
        have hno : ¬ (noTh th = true ∨ tv.any noT = true) := by rw [HN1.out, hok]; simp
        by_cases h3 : tv = []
        · have e1 : regE L th tv = (3, L) := by unfold regE; rw [if_neg hno, if_pos h3]
          have HE1 : Hid _ := e1
          have hn0 : n = 0 := by rw [HM.out, h3]; rfl
          have HS0 : Hid _ := HST.out _ HT.out
          clear e1 hno hq hok hT hall
          subst hn0
          go_wp2
          go_ret
          rw [HE1.out]
          exact ⟨rfl, HS0.out⟩
        · have hpos : ¬ ((n : Int) = 0) := by
            intro e; exact h3 (List.eq_nil_of_length_eq_zero (by have := HM.out; omega))
          have hat2 := hat.out _ hT
          cases hf : findW L th with
          | some x =>
            have e1 : regE L th tv = (6, L) := by unfold regE; rw [if_neg hno, if_neg h3, if_pos (by rw [hf]; rfl)]
            have HE1 : Hid _ := e1
            obtain ⟨k, hk, ek, ex⟩ := atW_some HWF.out hf
            rw [ek] at hat2
            have HS0 : Hid _ := HST.out _ HT.out
            clear e1 hno hq hok hT hall hf ek ex
            go_wp2_with fail
            refine hat2.out.mono ?_
            rintro e w1 ⟨rfl, rfl⟩
            clear hat2
            go_wp2
            go_ret
            rw [HE1.out]
            exact ⟨rfl, HS0.out⟩
          | none =>
            have e1 : regE L th tv = (0, L ++ [⟨th, setP tv, false⟩]) := by unfold regE; rw [if_neg hno, if_neg h3, if_neg (by rw [hf]; simp)]
            have HE1 : Hid _ := e1
            have HWF2 : Hid _ := wwf_reg HWF.out HN1.out hok h3 (by rw [hf]; rfl)
            rw [atW_none hf] at hat2
            clear e1 hno hok hall hf
            go_wp2_with fail
            refine hat2.out.mono ?_
            rintro e w1 ⟨rfl, rfl⟩
            clear hat2
            go_wp2_with fail
            refine wp_name fun wc hwc => ?_
            obtain ⟨sv, hsv⟩ : ∃ sv, sv = setP tv := ⟨_, rfl⟩
            rw [← hsv] at HE1 HWF2 hq
            have ht : Touch w wc [] := by rw [hwc]; exact HT.out
            have hqc : wc.heap[w.heap.size]? = some (.cells (ocells ⟨th, sv, false⟩).toArray 73 (0, 0)) := by rw [hwc]; exact hq
            obtain ⟨N, hN⟩ : ∃ N, N = L.length := ⟨_, rfl⟩
            have hql := lt_of_heap hqc
            have hqQ : ∀ W, Touch wc W [] → W.cell? ⟨w.heap.size, 0, none⟩ = some (.int .i64 th) ∧ W.cell? ⟨w.heap.size, 1, none⟩ = some (.bool (sv.testBit 0)) ∧ W.cell? ⟨w.heap.size, 2, none⟩ = some (.bool (sv.testBit 1)) ∧ W.cell? ⟨w.heap.size, 3, none⟩ = some (.bool (sv.testBit 2)) ∧ W.cell? ⟨w.heap.size, 4, none⟩ = some (.bool (sv.testBit 3)) ∧ W.cell? ⟨w.heap.size, 5, none⟩ = some (.bool (sv.testBit 4)) ∧ W.cell? ⟨w.heap.size, 6, none⟩ = some (.bool (sv.testBit 5)) ∧ W.cell? ⟨w.heap.size, 7, none⟩ = some (.bool (sv.testBit 6)) ∧ W.cell? ⟨w.heap.size, 8, none⟩ = some (.bool (sv.testBit 7)) ∧ W.cell? ⟨w.heap.size, 9, none⟩ = some (.bool (sv.testBit 8)) ∧ W.cell? ⟨w.heap.size, 10, none⟩ = some (.bool (sv.testBit 9)) ∧ W.cell? ⟨w.heap.size, 11, none⟩ = some (.bool (sv.testBit 10)) ∧ W.cell? ⟨w.heap.size, 12, none⟩ = some (.bool (sv.testBit 11)) ∧ W.cell? ⟨w.heap.size, 13, none⟩ = some (.bool false) := fun W T => by
              have hb := (T.block w.heap.size hql (by simp)).trans hqc
              unfold World.cell?
              simp only [hb]
              exact ⟨rfl, rfl, rfl, rfl, rfl, rfl, rfl, rfl, rfl, rfl, rfl, rfl, rfl, rfl⟩
            have hcb : ∀ W, Touch wc W [] → W.cell? ⟨b, 0, none⟩ = some (.slice ao N cap) := fun W T => by
              rw [hN]; exact (T.cell (p := ⟨b, 0, none⟩) (Nat.lt_of_lt_of_le hbl ht.size) (by simp)).trans ((ht.cell (p := ⟨b, 0, none⟩) hbl (by simp)).trans c0)
            -- the empty one first
            have TE : Touch wc (wc.alloc (.cells #[] 73)).drew [] := ((Touch.refl wc []).alloc _).drew
            have hE : oneOwn (wc.alloc (.cells #[] 73)).drew wc.heap.size (.slice (some ⟨wc.heap.size, 0, none⟩) 0 0) [] := ownsRow_touch (ones_empty wc) (Touch.refl _ []).drew (by simp)
            obtain ⟨a1, p1, w3a, hr1, ho1, _, t3a⟩ := step1 HROW.out ht hlen TE hE
            obtain ⟨a2, p2, w4a, hr2, c4a, f4a, ra⟩ := step2 (w3 := w3a.alloc (.cells (ocells ⟨th, sv, false⟩).toArray 73)) HH.out c0 ht hlen HWF2.out (t3a.alloc _) (ownsRow_touch ho1 ((Touch.refl _ []).alloc _) (by simp)) (one_row w3a _)
            -- the empty one, then the new one
            have TF : Touch wc ((wc.alloc (.cells #[] 73)).alloc (.cells (ocells ⟨th, sv, false⟩).toArray 73)).drew [] := (((Touch.refl wc []).alloc _).alloc _).drew
            have hE2 : oneOwn ((wc.alloc (.cells #[] 73)).alloc (.cells (ocells ⟨th, sv, false⟩).toArray 73)).drew wc.heap.size (.slice (some ⟨wc.heap.size, 0, none⟩) 0 0) [] := ownsRow_touch (ones_empty wc) (((Touch.refl _ []).alloc _).drew) (by simp)
            have hX2 := orow_keep (one_row (wc.alloc (.cells #[] 73)) ⟨th, sv, false⟩) (Touch.refl _ []).drew (by simp)
            obtain ⟨a3, p3, w3b, hr3, ho3, u3, t3b⟩ := step1 HROW.out ht hlen TF hE2
            obtain ⟨a4, p4, w4b, hr4, c4b, f4b, rb⟩ := step2 HH.out c0 ht hlen HWF2.out t3b ho3 (orow_keep hX2 u3 (by simp))
            -- the new one, then the empty one
            have TG : Touch wc ((wc.alloc (.cells (ocells ⟨th, sv, false⟩).toArray 73)).alloc (.cells #[] 73)).drew [] := (((Touch.refl wc []).alloc _).alloc _).drew
            have hE3 : oneOwn ((wc.alloc (.cells (ocells ⟨th, sv, false⟩).toArray 73)).alloc (.cells #[] 73)).drew wc.heap.size (.slice (some ⟨(wc.alloc (.cells (ocells ⟨th, sv, false⟩).toArray 73)).heap.size, 0, none⟩) 0 0) [] := own_low (ownsRow_touch (ones_empty _) (Touch.refl _ []).drew (by simp)) (by simp)
            have hX3 := orow_keep (one_row wc ⟨th, sv, false⟩) (((Touch.refl _ []).alloc (.cells #[] 73)).drew) (by simp)
            obtain ⟨a5, p5, w3c, hr5, ho5, u5, t3c⟩ := step1 HROW.out ht hlen TG hE3
            obtain ⟨a6, p6, w4c, hr6, c4c, f4c, rc⟩ := step2 HH.out c0 ht hlen HWF2.out t3c ho5 (orow_keep hX3 u5 (by simp))
            have HA : Hid _ := ra
            have HB : Hid _ := rb
            have HC : Hid _ := rc
            have m0 := hcb _ ((Touch.refl wc []).drew)
            have m1 := hcb _ TE
            have m2 := hcb _ TF
            have m3 := hcb _ TG
            have m4 := hcb (wc.alloc (.cells (ocells ⟨th, sv, false⟩).toArray 73)).drew ((Touch.refl wc []).alloc _).drew
            obtain ⟨y0, y1, y2, y3, y4, y5, y6, y7, y8, y9, y10, y11, y12, y13⟩ := hqQ _ ((Touch.refl wc []).drew)
            obtain ⟨x0, x1, x2, x3, x4, x5, x6, x7, x8, x9, x10, x11, x12, x13⟩ := hqQ _ TE
            obtain ⟨z0, z1, z2, z3, z4, z5, z6, z7, z8, z9, z10, z11, z12, z13⟩ := hqQ _ t3a
            rw [← hN] at hr1 hr2 hr3 hr4 hr5 hr6 c4a c4b c4c HA HB HC
            simp only [World.size_alloc] at hr4 hr5
            simp only [ocells] at hr2 hr3 hr5 m2 m3 m4
            clear hqQ hcb ho1 ho3 ho5 hE hE2 hE3 hX2 hX3 u3 u5 TE TF TG ra rb rc hqc hq hwc hT hsv hN
            generalize sv.testBit 0 = b0 at *
            generalize sv.testBit 1 = b1 at *
            generalize sv.testBit 2 = b2 at *
            generalize sv.testBit 3 = b3 at *
            generalize sv.testBit 4 = b4 at *
            generalize sv.testBit 5 = b5 at *
            generalize sv.testBit 6 = b6 at *
            generalize sv.testBit 7 = b7 at *
            generalize sv.testBit 8 = b8 at *
            generalize sv.testBit 9 = b9 at *
            generalize sv.testBit 10 = b10 at *
            generalize sv.testBit 11 = b11 at *
            go_region_law (first | (refine step_append_run (by rfl) (.tmp 52) (.tmp 56) 64 64 (by rfl) (by rfl) (.slice (some ⟨wc.heap.size, 0, none⟩) 0 0) (.slice ao N cap) (.slice a1 N p1) w3a (by rfl) (by rfl) hr1 ?_) | (refine step_append_run (by rfl) (.tmp 57) (.tmp 59) 64 64 (by rfl) (by rfl) (.slice a1 N p1) (.slice (some ⟨w3a.heap.size, 0, none⟩) 1 1) (.slice a2 (N + 1) p2) w4a (by rfl) (by rfl) hr2 ?_) | (refine step_append_run (by rfl) (.tmp 52) (.tmp 56) 64 64 (by rfl) (by rfl) (.slice (some ⟨wc.heap.size, 0, none⟩) 0 0) (.slice ao N cap) (.slice a3 N p3) w3b (by rfl) (by rfl) hr3 ?_) | (refine step_append_run (by rfl) (.tmp 57) (.tmp 59) 64 64 (by rfl) (by rfl) (.slice a3 N p3) (.slice (some ⟨wc.heap.size + 1, 0, none⟩) 1 1) (.slice a4 (N + 1) p4) w4b (by rfl) (by rfl) hr4 ?_) | (refine step_append_run (by rfl) (.tmp 52) (.tmp 56) 64 64 (by rfl) (by rfl) (.slice (some ⟨wc.heap.size + 1, 0, none⟩) 0 0) (.slice ao N cap) (.slice a5 N p5) w3c (by rfl) (by rfl) hr5 ?_) | (refine step_append_run (by rfl) (.tmp 57) (.tmp 59) 64 64 (by rfl) (by rfl) (.slice a5 N p5) (.slice (some ⟨wc.heap.size, 0, none⟩) 1 1) (.slice a6 (N + 1) p6) w4c (by rfl) (by rfl) hr6 ?_))
            all_goals
              go_wp2
              go_ret
              rw [HE1.out]
              first
              | exact ⟨rfl, HA.out⟩
              | exact ⟨rfl, HB.out⟩
              | exact ⟨rfl, HC.out⟩

end Go.Proofs.Yteffdibdnoppjaa

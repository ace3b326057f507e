/-
  The document's lists (rowlockref13): Wake BY ITS CONTRACT.
-/
import Derived.Test.YteffdibdnoppjaaWtRefM
namespace Go.Proofs.Yteffdibdnoppjaa
set_option linter.unusedVariables false
set_option linter.unusedSimpArgs false
open Go.RowKit Go.Maps
attribute [local go_sem] Oper.semAt_some

theorem one_row (w : World) (x : WD) : ORow (w.alloc (.cells (ocells x).toArray 73)) (.slice (some ⟨w.heap.size, 0, none⟩) 1 1) [x] := by
  refine ⟨_, 1, rfl, fun _ => ⟨w.heap.size, 0, rfl, by simp, fun k hk j hj => ?_⟩⟩
  have hk0 : k = 0 := by simpa using hk
  subst hk0
  have h0 := heap_alloc_new w (.cells (ocells x).toArray 73)
  unfold World.cell?
  simp only [h0]
  simp
/-- One more. -/
theorem ones_push {w : World} {B : Nat} {v : Value} {L1 : List WD} (h : oneOwn w B v L1) (hl : L1.length ≤ 900) (hB : B ≤ w.heap.size) (x : WD) (ty : TypeId) :
    ∃ ao' cap' w', (Builtin.append_ #[64, 64] ty #[v, .slice (some ⟨w.heap.size, 0, none⟩) 1 1]).run Try.prog (w.alloc (.cells (ocells x).toArray 73)) = .ok (.slice ao' (L1.length + 1) cap') w' ∧ oneOwn w' B (.slice ao' (L1.length + 1) cap') (L1 ++ [x]) ∧ Touch w w' v.ownBlock.toList ∧ (∀ g, (Value.slice ao' (L1.length + 1) cap').ownBlock = some g → v.ownBlock = some g ∨ w.heap.size ≤ g) := by
  have T1 : Touch w (w.alloc (.cells (ocells x).toArray 73)) [] := (Touch.refl w []).alloc _
  obtain ⟨ao', cap', w', h1, h2, h3, h4⟩ := ones_app (l := [x]) (ownsRow_touch h T1 (by simp)) (one_row w x) (by simp; omega) (by simp; omega) ty
  refine ⟨ao', cap', w', h1, h2, (T1.mono (by simp)).trans h3 (fun y hy => .inl hy), fun g hg => ?_⟩
  rcases h4 g hg with h5 | h5
  · exact .inl h5
  · exact .inr (by simp at h5; omega)

/-- Is one of the variables its? -/
def hitP (s : Nat) (l : List Int) : Bool := l.any (fun t => !noT t && s.testBit t.toNat)
theorem hitP_snoc {l : List Int} {k : Nat} (hk : k < l.length) (s : Nat) : hitP s (l.take (k + 1)) = (hitP s (l.take k) || (!noT l[k] && s.testBit l[k].toNat)) := by
  unfold hitP
  rw [List.take_succ_eq_append_getElem hk, List.any_append]
  simp
theorem hitP_set (s : Nat) (l : List Int) : hitP s l = decide (s &&& setP l ≠ 0) := by
  rw [Bool.eq_iff_iff]
  unfold hitP
  rw [List.any_eq_true, decide_eq_true_eq, ne_eq, and_zero]
  constructor
  · rintro ⟨t, ht, h⟩ hno
    simp only [Bool.and_eq_true, Bool.not_eq_true'] at h
    have ht2 : 0 ≤ t ∧ t < 12 := by have := h.1; simp [noT] at this; omega
    refine hno t.toNat ⟨h.2, ?_⟩
    rw [setP_bit l t.toNat (by omega)]
    simp [Int.toNat_of_nonneg ht2.1, ht]
  · intro hno
    have : ∃ i, s.testBit i = true ∧ (setP l).testBit i = true := by
      refine Classical.byContradiction fun hc => hno fun i hi => hc ⟨i, hi⟩
    obtain ⟨i, h1, h2⟩ := this
    have hi : i < 12 := by
      refine Nat.lt_of_not_le fun hge => ?_
      have : (setP l).testBit i = false := Nat.testBit_lt_two_pow (Nat.lt_of_lt_of_le (setP_lt l) (Nat.pow_le_pow_right (n := 2) (i := 12) (by decide) hge))
      rw [this] at h2
      cases h2
    rw [setP_bit l i hi] at h2
    refine ⟨(i : Int), by simpa using h2, ?_⟩
    have : noT (i : Int) = false := by simp [noT]; omega
    simp [this, h1]
def leftL (L : List WD) (l : List Int) : List WD := L.filter (fun x => !hitP x.s l)
theorem leftL_wake (L : List WD) (l : List Int) : leftL L l = wakeL L (setP l) := by
  unfold leftL wakeL
  refine List.filter_congr fun x _ => ?_
  rw [hitP_set]
  by_cases h : x.s &&& setP l = 0 <;> simp [h]
def outL (L : List WD) (l : List Int) : List Int := (L.filter (fun x => hitP x.s l)).map WD.th
theorem outL_for (L : List WD) (l : List Int) : outL L l = forP L (setP l) := by
  unfold outL forP
  congr 1
  refine List.filter_congr fun x _ => ?_
  rw [hitP_set]
theorem outL_snoc {L : List WD} {k : Nat} (hk : k < L.length) (l : List Int) : outL (L.take (k + 1)) l = if hitP L[k].s l then outL (L.take k) l ++ [L[k].th] else outL (L.take k) l := by
  unfold outL
  rw [List.take_succ_eq_append_getElem hk, List.filter_append, List.map_append]
  cases h : hitP L[k].s l <;> simp [h]
theorem leftL_snoc {L : List WD} {k : Nat} (hk : k < L.length) (l : List Int) : leftL (L.take (k + 1)) l = if hitP L[k].s l then leftL (L.take k) l else leftL (L.take k) l ++ [L[k]] := by
  unfold leftL
  rw [List.take_succ_eq_append_getElem hk, List.filter_append]
  cases h : hitP L[k].s l <;> simp [h]

set_option maxRecDepth 100000 in
set_option maxHeartbeats 2000000 in
theorem rwake_any {w : World} {b : Nat} {F : List Nat} {L : List WD} (h : RAt w b F L) {v : Value} {tv : List Int} (hr : IRow w v tv) (hl : tv.length ≤ 1000) :
    Calls Try.prog 44 #[ptr b, v] w fun e w' => ∃ u, e = .returned u ∧ intOwn w' w.heap.size u (forP L (setP tv)) ∧ RPost w b F (wakeL L (setP tv)) w' := by
  have HH : Hid _ := h
  obtain ⟨vo, rfl, ho⟩ := h
  have hlen := ho.wf.len
  have HWF : Hid (WWf (wakeL L (setP tv))) := by
    rw [← outP_wake ho.wf]; exact outP_wf ho.wf _
  obtain ⟨ao, cap, rfl, c0, f0, hbl, hc⟩ := ho.read
  obtain ⟨at', ct, rfl⟩ := hr.shape
  have HTV : Hid (∀ k (hk : k < tv.length), ∃ g off, at' = some ⟨g, off, none⟩ ∧ g < w.heap.size ∧ w.cell? ⟨g, off + k, none⟩ = some (.int .i64 tv[k])) := fun k hk => IRow.one hr k hk
  have HC : Hid _ := hc
  obtain ⟨N, hN⟩ : ∃ N, N = L.length := ⟨_, rfl⟩
  have HN : Hid _ := hN
  obtain ⟨M, hM⟩ : ∃ M, M = tv.length := ⟨_, rfl⟩
  have HM : Hid _ := hM
  rw [← hN] at hlen c0
  rw [← hM] at hl ⊢
  clear hN hc ho hM hr
  go_enter Try.func44, Try.ntmps44
  go_wp2_with fail
  go_loopw [5, 6, 7] (fun vo vl i wr => ∃ j : Nat, i = .int .i64 j ∧ j ≤ N ∧ intOwn wr w.heap.size vo (outL (L.take j) tv) ∧ oneOwn wr w.heap.size vl (leftL (L.take j) tv) ∧ (∀ g, vo.ownBlock = some g → vl.ownBlock ≠ some g) ∧ Touch w wr []) (fun _ _ i _ => N - (intOf i).toNat)
  case atStart => exact ⟨0, rfl, Nat.zero_le _, World.ownsRow_nil _ _ _ _, World.ownsRow_nil _ _ _ _, by simp [Value.ownBlock], Touch.refl _ _⟩
  case round =>
    obtain ⟨j, rfl, hj, hrow, hleft, hap, hT⟩ := hrel
    rename World => wo
    have HT : Hid _ := hT
    have hsz := hT.size
    have e0 := (hT.cell (p := ⟨b, 0, none⟩) hbl (by simp)).trans c0
    by_cases hlt : j < N
    · have h1 : (j : Int) < N := by omega
      have h0 : (0 : Int) ≤ j := by omega
      have hjl : j < L.length := by rw [← HN.out]; exact hlt
      obtain ⟨g, rfl, hg, d⟩ := HC.out j hjl
      have D : Hid (∀ i, i < 14 → wo.cell? ⟨g, j * 14 + i, none⟩ = (ocells L[j])[i]?) := fun i hi => (hT.cell (p := ⟨g, j * 14 + i, none⟩) hg (by simp)).trans (d i hi)
      have HO : Hid _ := hrow
      have HL : Hid _ := hleft
      have HAP : Hid _ := hap
      have HS1 : Hid _ := outL_snoc hjl tv
      have HS2 : Hid _ := leftL_snoc hjl tv
      have hlo : (outL (L.take j) tv).length ≤ 4 := by unfold outL; rw [List.length_map]; exact Nat.le_trans (List.length_filter_le _ _) (by rw [List.length_take]; omega)
      have hll : (leftL (L.take j) tv).length ≤ 4 := by unfold leftL; exact Nat.le_trans (List.length_filter_le _ _) (by rw [List.length_take]; omega)
      have HLO : Hid _ := hlo
      have HLL : Hid _ := hll
      obtain ⟨x, hx⟩ : ∃ x, x = L[j] := ⟨_, rfl⟩
      rw [← hx] at D HS1 HS2
      clear d hrow hleft hap hT hx hlo hll
      go_wp2_with fail
      go_loopw [8, 9] (fun hv i w2 => ∃ n : Nat, i = .int .i64 n ∧ n ≤ M ∧ hv = .bool (hitP x.s (tv.take n)) ∧ Touch wo w2 []) (fun _ i _ => M - (intOf i).toNat)
      case atStart => exact ⟨0, rfl, Nat.zero_le _, by simp [hitP], Touch.refl _ _⟩
      case round =>
        obtain ⟨n, rfl, hn, rfl, hT2⟩ := hrel
        have HT2 : Hid _ := hT2
        have e2 := (hT2.cell (p := ⟨b, 0, none⟩) (Nat.lt_of_lt_of_le hbl hsz) (by simp)).trans e0
        by_cases hnt : n < M
        · have n1 : (n : Int) < M := by omega
          have n0 : (0 : Int) ≤ n := by omega
          have hnl : n < tv.length := by rw [← HM.out]; exact hnt
          obtain ⟨gt, off, rfl, hgt, dt⟩ := HTV.out n hnl
          have dt2 := (hT2.cell (p := ⟨gt, off + n, none⟩) (Nat.lt_of_lt_of_le hgt hsz) (by simp)).trans ((HT.out.cell (p := ⟨gt, off + n, none⟩) hgt (by simp)).trans dt)
          have hsn := hitP_snoc hnl x.s
          have hbit : noT tv[n] = false → wr.cell? ⟨g, j * 14 + 1 + tv[n].toNat, none⟩ = some (.bool (x.s.testBit tv[n].toNat)) := fun hno => by
            have ht : tv[n].toNat < 12 := by simp [noT] at hno; omega
            have := D.out (1 + tv[n].toNat) (by omega)
            rw [ocells_bit x _ ht, ← Nat.add_assoc] at this
            exact (hT2.cell (p := ⟨g, j * 14 + 1 + tv[n].toNat, none⟩) (Nat.lt_of_lt_of_le hg hsz) (by simp)).trans this
          have HSN : Hid _ := hsn
          generalize tv[n] = t at *
          clear dt hsn hT2
          cases hh : hitP x.s (tv.take n) with
          | true =>
            have HS3 : Hid (hitP x.s (tv.take (n + 1)) = true) := by show _ = _; rw [HSN.out, hh]; rfl
            clear hbit
            go_wp2_with fail
            go_quiet (fail)
            go_wp2
            go_roundw
            case rel => exact ⟨n + 1, by go_num, by omega, by rw [HS3.out], HT2.out.drewN _⟩
            case measure => simp [intOf]; omega
          | false =>
            by_cases ht0 : 0 ≤ t
            · by_cases ht1 : t < 12
              · have hno : noT t = false := by simp [noT]; omega
                have hb := hbit hno
                obtain ⟨m, rfl⟩ := Int.eq_ofNat_of_zero_le ht0
                simp only [Int.toNat_natCast] at hb
                have HS3 : Hid (hitP x.s (tv.take (n + 1)) = x.s.testBit m) := by show _ = _; rw [HSN.out, hh, hno]; simp
                clear hbit hno
                go_wp2_with fail
                go_quiet (fail)
                go_wp2
                go_roundw
                case rel => exact ⟨n + 1, by go_num, by omega, by rw [HS3.out], HT2.out.drewN _⟩
                case measure => simp [intOf]; omega
              · have hno : noT t = true := by simp [noT]; omega
                have p1 : decide (t < 12) = false := decide_eq_false ht1
                have p2 : 12 ≤ t := by omega
                have HS3 : Hid (hitP x.s (tv.take (n + 1)) = false) := by show _ = _; rw [HSN.out, hh, hno]; rfl
                clear hbit hno
                go_wp2_with fail
                go_quiet (fail)
                go_wp2
                go_roundw
                case rel => exact ⟨n + 1, by go_num, by omega, by rw [HS3.out], HT2.out.drewN _⟩
                case measure => simp [intOf]; omega
            · have hno : noT t = true := by simp [noT]; omega
              have p1 : decide (0 ≤ t) = false := decide_eq_false ht0
              have p2 : t < 0 := by omega
              have HS3 : Hid (hitP x.s (tv.take (n + 1)) = false) := by show _ = _; rw [HSN.out, hh, hno]; rfl
              clear hbit hno
              go_wp2_with fail
              go_quiet (fail)
              go_wp2
              go_roundw
              case rel => exact ⟨n + 1, by go_num, by omega, by rw [HS3.out], HT2.out.drewN _⟩
              case measure => simp [intOf]; omega
        · obtain rfl : n = M := by omega
          have hall : tv.take n = tv := by rw [HM.out, List.take_length]
          rw [hall]
          have hO2 : intOwn wr w.heap.size _ _ := ownsRow_touch HO.out hT2 (by simp)
          have hL2 : oneOwn wr w.heap.size _ _ := ownsRow_touch HL.out hT2 (by simp)
          have D2 : Hid (∀ i, i < 14 → wr.cell? ⟨g, j * 14 + i, none⟩ = (ocells x)[i]?) := fun i hi => (hT2.cell (p := ⟨g, j * 14 + i, none⟩) (Nat.lt_of_lt_of_le hg hsz) (by simp)).trans (D.out i hi)
          have hTw : Touch w wr [] := HT.out.trans hT2 (by simp)
          obtain ⟨ao2, cap2, rfl⟩ := owns_slice hO2
          obtain ⟨ao3, cap3, rfl⟩ := owns_slice hL2
          cases hh : hitP x.s tv with
          | true =>
            have d0 : wr.cell? ⟨g, j * 14, none⟩ = some (.int .i64 x.th) := D2.out 0 (by omega)
            obtain ⟨ao', cap', w3, hrun, hown, ht, hbl2⟩ := run_push hO2 (by have := HLO.out; omega) hTw.size x.th 22
            have HT3 : Hid (Touch w w3 []) := hTw.trans ht (fun y hy => .inr (int_lt hO2 y (by simpa using hy)).1)
            have HR : Hid _ := hown
            have hL3 : oneOwn w3 w.heap.size _ _ := ownsRow_touch hL2 ht (fun q hq hs => HAP.out q (by simpa using hs) hq)
            have HL3 : Hid _ := hL3
            have HAP3 : Hid (∀ q, (Value.slice ao' ((outL (L.take j) tv).length + 1) cap').ownBlock = some q → (Value.slice ao3 (leftL (L.take j) tv).length cap3).ownBlock ≠ some q) := fun q hq h3 => by
              rcases hbl2 q hq with h4 | h4
              · exact HAP.out q h4 h3
              · have := (own_lt hL2 q h3).2; omega
            have HE1 : Hid (outL (L.take (j + 1)) tv = outL (L.take j) tv ++ [x.th]) := by show _ = _; rw [HS1.out, if_pos hh]
            have HE2 : Hid (leftL (L.take (j + 1)) tv = leftL (L.take j) tv) := by show _ = _; rw [HS2.out, if_pos hh]
            clear hO2 hL2 hL3 hown ht hbl2 hT2 hh hall D2 D HO HL HAP HS1 HS2 hTw
            go_wp2_with (at_builtin; refine Lib.wpList_append_run _ rfl _ _ _ _ rfl _ _ rfl rfl _ _ hrun ?_)
            go_wp2
            go_roundw
            case rel => exact ⟨j + 1, by go_num, by omega, by rw [HE1.out]; exact HR.out, by rw [HE2.out]; exact HL3.out, HAP3.out, HT3.out⟩
            case measure => simp [intOf]; omega
          | false =>
            have hrow14 : wr.cell? ⟨g, j * 14, none⟩ = some (.int .i64 x.th) ∧ wr.cell? ⟨g, j * 14 + 1, none⟩ = some (.bool (x.s.testBit 0)) ∧ wr.cell? ⟨g, j * 14 + 2, none⟩ = some (.bool (x.s.testBit 1)) ∧ wr.cell? ⟨g, j * 14 + 3, none⟩ = some (.bool (x.s.testBit 2)) ∧ wr.cell? ⟨g, j * 14 + 4, none⟩ = some (.bool (x.s.testBit 3)) ∧ wr.cell? ⟨g, j * 14 + 5, none⟩ = some (.bool (x.s.testBit 4)) ∧ wr.cell? ⟨g, j * 14 + 6, none⟩ = some (.bool (x.s.testBit 5)) ∧ wr.cell? ⟨g, j * 14 + 7, none⟩ = some (.bool (x.s.testBit 6)) ∧ wr.cell? ⟨g, j * 14 + 8, none⟩ = some (.bool (x.s.testBit 7)) ∧ wr.cell? ⟨g, j * 14 + 9, none⟩ = some (.bool (x.s.testBit 8)) ∧ wr.cell? ⟨g, j * 14 + 10, none⟩ = some (.bool (x.s.testBit 9)) ∧ wr.cell? ⟨g, j * 14 + 11, none⟩ = some (.bool (x.s.testBit 10)) ∧ wr.cell? ⟨g, j * 14 + 12, none⟩ = some (.bool (x.s.testBit 11)) ∧ wr.cell? ⟨g, j * 14 + 13, none⟩ = some (.bool x.sl) := ⟨D2.out 0 (by omega), D2.out 1 (by omega), D2.out 2 (by omega), D2.out 3 (by omega), D2.out 4 (by omega), D2.out 5 (by omega), D2.out 6 (by omega), D2.out 7 (by omega), D2.out 8 (by omega), D2.out 9 (by omega), D2.out 10 (by omega), D2.out 11 (by omega), D2.out 12 (by omega), D2.out 13 (by omega)⟩
            obtain ⟨y0, y1, y2, y3, y4, y5, y6, y7, y8, y9, y10, y11, y12, y13⟩ := hrow14
            obtain ⟨ao', cap', w3, hrun, hown, ht, hbl2⟩ := ones_push hL2 (by have := HLL.out; omega) hTw.size x 64
            simp only [ocells] at hrun
            have HT3 : Hid (Touch w w3 []) := hTw.trans ht (fun y hy => .inr (own_lt hL2 y (by simpa using hy)).1)
            have HR : Hid _ := hown
            have hO3 : intOwn w3 w.heap.size _ _ := ownsRow_touch hO2 ht (fun q hq hs => HAP.out q hq (by simpa using hs))
            have HO3 : Hid _ := hO3
            have HAP3 : Hid (∀ q, (Value.slice ao2 (outL (L.take j) tv).length cap2).ownBlock = some q → (Value.slice ao' ((leftL (L.take j) tv).length + 1) cap').ownBlock ≠ some q) := fun q hq h3 => by
              rcases hbl2 q h3 with h4 | h4
              · exact HAP.out q hq h4
              · have := (int_lt hO2 q hq).2; omega
            have HE1 : Hid (outL (L.take (j + 1)) tv = outL (L.take j) tv) := by show _ = _; rw [HS1.out, if_neg (by rw [hh]; simp)]
            have HE2 : Hid (leftL (L.take (j + 1)) tv = leftL (L.take j) tv ++ [x]) := by show _ = _; rw [HS2.out, if_neg (by rw [hh]; simp)]
            clear hO2 hL2 hO3 hown ht hbl2 hT2 hh hall D2 D HO HL HAP HS1 HS2 hTw
            generalize x.s.testBit 0 = b0 at hrun y1
            generalize x.s.testBit 1 = b1 at hrun y2
            generalize x.s.testBit 2 = b2 at hrun y3
            generalize x.s.testBit 3 = b3 at hrun y4
            generalize x.s.testBit 4 = b4 at hrun y5
            generalize x.s.testBit 5 = b5 at hrun y6
            generalize x.s.testBit 6 = b6 at hrun y7
            generalize x.s.testBit 7 = b7 at hrun y8
            generalize x.s.testBit 8 = b8 at hrun y9
            generalize x.s.testBit 9 = b9 at hrun y10
            generalize x.s.testBit 10 = b10 at hrun y11
            generalize x.s.testBit 11 = b11 at hrun y12
            go_wp2_with (at_builtin; refine Lib.wpList_append_run _ rfl _ _ _ _ rfl _ _ rfl rfl _ _ hrun ?_)
            go_wp2
            go_roundw
            case rel => exact ⟨j + 1, by go_num, by omega, by rw [HE1.out]; exact HO3.out, by rw [HE2.out]; exact HR.out, HAP3.out, HT3.out⟩
            case measure => simp [intOf]; omega
    · obtain rfl : j = N := by omega
      have hall : L.take j = L := by rw [HN.out, List.take_length]
      rw [hall, outL_for] at hrow
      rw [hall, leftL_wake] at hleft
      have HO : Hid _ := hrow
      obtain ⟨k1, ⟨v1, k2⟩, k3⟩ := rstore HH.out hT hleft HWF.out
      have HO2 : Hid _ := ownsRow_touch hrow ((Touch.refl wo [b]).setCell (p := ⟨b, 0, none⟩) (.inl (by simp)) u6) (fun q hq hs => by have := (int_lt hrow q hq).1; simp at hs; omega)
      have H3 : Hid _ := k3
      obtain ⟨ao2, cap2, rfl⟩ := owns_slice hrow
      obtain ⟨ao3, cap3, rfl⟩ := owns_slice hleft
      clear hrow hleft hap hT k3
      go_wp2
      go_ret
      exact ⟨_, rfl, HO2.out, H3.out⟩

end Go.Proofs.Yteffdibdnoppjaa

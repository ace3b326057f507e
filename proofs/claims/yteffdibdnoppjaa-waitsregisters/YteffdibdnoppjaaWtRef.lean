/-
  The document's lists (rowlockref13): THE OBJECT; New, may, at, Asleep, Of, At, Waiting BY THEIR CONTRACTS.
-/
import Derived.Test.YteffdibdnoppjaaWtMore
namespace Go.Proofs.Yteffdibdnoppjaa
set_option linter.unusedVariables false
set_option linter.unusedSimpArgs false
open Go.RowKit Go.Maps
attribute [local go_sem] Oper.semAt_some

def ocells (x : WD) : List Value := [.int .i64 x.th, .bool (x.s.testBit 0), .bool (x.s.testBit 1), .bool (x.s.testBit 2), .bool (x.s.testBit 3), .bool (x.s.testBit 4), .bool (x.s.testBit 5), .bool (x.s.testBit 6), .bool (x.s.testBit 7), .bool (x.s.testBit 8), .bool (x.s.testBit 9), .bool (x.s.testBit 10), .bool (x.s.testBit 11), .bool x.sl]
theorem ocells_len (x : WD) : (ocells x).length = 14 := rfl
theorem ocells_bit (x : WD) : ∀ i, i < 12 → (ocells x)[1 + i]? = some (.bool (x.s.testBit i))
  | 0, _ => rfl
  | 1, _ => rfl
  | 2, _ => rfl
  | 3, _ => rfl
  | 4, _ => rfl
  | 5, _ => rfl
  | 6, _ => rfl
  | 7, _ => rfl
  | 8, _ => rfl
  | 9, _ => rfl
  | 10, _ => rfl
  | 11, _ => rfl
  | n + 12, h => absurd h (by omega)
abbrev ORow := SRow 14 ocells
abbrev oneOwn (w : World) (B : Nat) (v : Value) (L : List WD) : Prop := w.ownsRow B 73 14 v L.length (L.flatMap ocells)

structure RObj (w : World) (b : Nat) (v : Value) (L : List WD) : Prop where
  st : w.heap[b]? = some (.cells #[v] 66 (0, 0))
  own : oneOwn w 0 v L
  n1 : ∀ g, v.ownBlock = some g → g ≠ b
  wf : WWf L
def RAt (w : World) (b : Nat) (F : List Nat) (L : List WD) : Prop := ∃ v, F = b :: v.ownBlock.toList ∧ RObj w b v L
theorem own_lt {w : World} {B n : Nat} {e : TypeId} {m : Nat} {v : Value} {xs : List Value} (h : w.ownsRow B e m v n xs) : ∀ g, v.ownBlock = some g → B ≤ g ∧ g < w.heap.size := by
  intro g hg
  rcases h.2 with ⟨e, h0⟩ | ⟨g', cap, cur, e, hb, hg', _⟩
  · rw [e] at hg; simp [Value.ownBlock] at hg
  · rw [e] at hg
    simp [Value.ownBlock] at hg
    subst hg
    exact ⟨hb, lt_of_heap hg'⟩
theorem RAt.lt {w : World} {b : Nat} {F : List Nat} {L : List WD} (h : RAt w b F L) : ∀ x ∈ F, x < w.heap.size := by
  obtain ⟨v, rfl, ho⟩ := h
  intro x hx
  rcases List.mem_cons.1 hx with rfl | hx
  · exact lt_of_heap ho.st
  · exact (own_lt ho.own x (by simpa using hx)).2
theorem RAt.touch {w w' : World} {b : Nat} {F S : List Nat} {L : List WD} (h : RAt w b F L) (t : Touch w w' S) (hS : ∀ x ∈ F, x ∉ S) : RAt w' b F L := by
  obtain ⟨v, rfl, ho⟩ := h
  exact ⟨v, rfl, ⟨(t.block b (lt_of_heap ho.st) (hS b (by simp))).trans ho.st, ownsRow_touch ho.own t (fun k hk => hS k (by simp [hk])), ho.n1, ho.wf⟩⟩
theorem RAt.wf {w : World} {b : Nat} {F : List Nat} {L : List WD} (h : RAt w b F L) : WWf L := by obtain ⟨v, _, ho⟩ := h; exact ho.wf
/-- What can be read of it. -/
theorem RObj.read {w : World} {b : Nat} {v : Value} {L : List WD} (h : RObj w b v L) : ∃ ao cap, v = .slice ao L.length cap ∧ w.cell? ⟨b, 0, none⟩ = some (.slice ao L.length cap) ∧ w.frozen? ⟨b, 0, none⟩ = false ∧ b < w.heap.size ∧ ∀ k (hk : k < L.length), ∃ g, ao = some ⟨g, 0, none⟩ ∧ g < w.heap.size ∧ ∀ j, j < 14 → w.cell? ⟨g, k * 14 + j, none⟩ = (ocells L[k])[j]? := by
  have hs : ORow w v L := srow_of ocells_len h.own
  obtain ⟨ao, cap, e⟩ := owns_slice h.own
  subst e
  refine ⟨ao, cap, rfl, by simp [World.cell?, h.st], by simp [World.frozen?, h.st], lt_of_heap h.st, fun k hk => ?_⟩
  rcases h.own.2 with ⟨e, h0⟩ | ⟨g, cap', cur, e, hb, hg, _⟩
  · omega
  · simp only [Value.slice.injEq] at e
    obtain ⟨rfl, _, rfl⟩ := e
    obtain ⟨g', off, e', hlt, hc⟩ := hs.at k hk
    simp only [Option.some.injEq, Addr.mk.injEq] at e'
    obtain ⟨rfl, rfl, _⟩ := e'
    exact ⟨g, rfl, hlt, fun j hj => by have := hc j hj; rwa [Nat.zero_add] at this⟩

theorem rnew_any (w : World) : Calls Try.prog 36 #[] w fun e w' => ∃ b F, e = .returned (ptr b) ∧ RAt w' b F [] ∧ Touch w w' [] ∧ ∀ x ∈ F, w.heap.size ≤ x := by
  go_enter Try.func36, Try.ntmps36
  go_wp2
  go_ret
  refine ⟨_, _, rfl, ⟨.slice none 0 0, rfl, ⟨heap_alloc_new w _, World.ownsRow_nil _ _ _ _, by simp [Value.ownBlock], WWf.nil⟩⟩, (Touch.refl w []).alloc _, ?_⟩
  simp [Value.ownBlock]

theorem rmay_any (b : Nat) (th : Int) (w : World) : Calls Try.prog 50 #[ptr b, .int .i64 th] w fun e w' => e = .returned (.int .i64 (if noTh th then 2 else 0)) ∧ w = w' := by
  by_cases h : th < 0
  · have e1 : noTh th = true := by simp [noTh, h]
    rw [e1]
    go_enter Try.func50, Try.ntmps50
    go_wp2
    go_ret
    exact ⟨rfl, rfl⟩
  · by_cases h2 : 4 ≤ th
    · have e1 : noTh th = true := by simp [noTh, h2]
      rw [e1]
      go_enter Try.func50, Try.ntmps50
      go_wp2
      go_ret
      exact ⟨rfl, rfl⟩
    · have e1 : noTh th = false := by simp [noTh]; omega
      rw [e1]
      go_enter Try.func50, Try.ntmps50
      go_wp2
      go_ret
      exact ⟨rfl, rfl⟩

/-- The place of a thread. -/
def atW (L : List WD) (th : Int) : Int := idxP (fun t => t == th) (L.map WD.th) 0
theorem idxP_neg {f : Int → Bool} : ∀ (l : List Int) (i : Nat), idxP f l i = -1 ↔ l.any f = false
  | [], i => by simp [idxP]
  | x :: l, i => by
    unfold idxP
    by_cases h : f x = true
    · simp [h]
    · rw [if_neg h, idxP_neg l (i + 1)]
      simp at h
      simp [h]
theorem idxP_pos {f : Int → Bool} : ∀ (l : List Int) (i : Nat), idxP f l i ≠ -1 → ∃ k, ∃ hk : k < l.length, idxP f l i = ((i + k : Nat) : Int) ∧ f l[k] = true
  | [], i => by simp [idxP]
  | x :: l, i => by
    intro h
    unfold idxP at h ⊢
    by_cases hx : f x = true
    · exact ⟨0, by simp, by simp [hx], by simpa using hx⟩
    · rw [if_neg hx] at h ⊢
      obtain ⟨k, hk, h1, h2⟩ := idxP_pos l (i + 1) h
      exact ⟨k + 1, by simpa using hk, by rw [h1]; congr 1; omega, by simpa using h2⟩
theorem atW_none {L : List WD} {th : Int} (h : findW L th = none) : atW L th = -1 := by
  unfold atW
  rw [idxP_neg]
  have := findW_none.1 h
  rw [Bool.eq_false_iff]
  intro ha
  obtain ⟨x, hx, hf⟩ := List.any_eq_true.1 ha
  exact this (by have : x = th := by simpa using hf
                 rw [← this]; exact hx)
theorem atW_some {L : List WD} (hw : WWf L) {th : Int} {x : WD} (h : findW L th = some x) : ∃ k, ∃ hk : k < L.length, atW L th = (k : Int) ∧ L[k] = x := by
  have hne : atW L th ≠ -1 := by
    unfold atW
    rw [ne_eq, idxP_neg, Bool.not_eq_false]
    obtain ⟨h1, h2⟩ := findW_some h
    exact List.any_eq_true.2 ⟨x.th, List.mem_map.2 ⟨x, h1, rfl⟩, by simpa using h2⟩
  obtain ⟨k, hk, h1, h2⟩ := idxP_pos (L.map WD.th) 0 hne
  have hk' : k < L.length := by simpa using hk
  refine ⟨k, hk', by unfold atW; rw [h1, Nat.zero_add], ?_⟩
  have h3 : L[k].th = th := by simpa using h2
  have h4 := findW_mem hw.nod (List.getElem_mem hk')
  rw [h3, h] at h4
  simpa using h4.symm

set_option maxRecDepth 100000 in
set_option maxHeartbeats 1000000 in
theorem rat_any {w : World} {b : Nat} {F : List Nat} {L : List WD} (h : RAt w b F L) (th : Int) : Calls Try.prog 49 #[ptr b, .int .i64 th] w fun e w' => e = .returned (.int .i64 (atW L th)) ∧ w = w' := by
  obtain ⟨v, rfl, ho⟩ := h
  have hlen := ho.wf.len
  obtain ⟨ao, cap, rfl, c0, f0, hbl, hc⟩ := ho.read
  have HC : Hid _ := hc
  obtain ⟨N, hN⟩ : ∃ N, N = L.length := ⟨_, rfl⟩
  have HN : Hid _ := hN
  obtain ⟨res, hres⟩ : ∃ r, r = atW L th := ⟨_, rfl⟩
  have HRES : Hid (res = idxP (fun t => t == th) (L.map WD.th) 0) := hres
  rw [← hres]
  rw [← hN] at hlen c0
  clear hN hc ho hres
  go_enter Try.func49, Try.ntmps49
  go_wp2_with fail
  go_loopw [5] (fun i wr => ∃ j : Nat, i = .int .i64 j ∧ j ≤ N ∧ res = idxP (fun t => t == th) ((L.map WD.th).drop j) j ∧ wr = w) (fun i _ => N - (intOf i).toNat)
  case atStart => exact ⟨0, rfl, Nat.zero_le _, HRES.out, rfl⟩
  case round =>
    obtain ⟨j, rfl, hj, hrs, rfl⟩ := hrel
    clear HRES
    by_cases hlt : j < N
    · have h1 : (j : Int) < N := by omega
      have h0 : (0 : Int) ≤ j := by omega
      have hjl : j < L.length := by rw [← HN.out]; exact hlt
      obtain ⟨g, rfl, hg, d⟩ := HC.out j hjl
      have d0 : wr.cell? ⟨g, j * 14, none⟩ = some (.int .i64 L[j].th) := d 0 (by omega)
      rw [idxP_drop (by simpa using hjl), List.getElem_map] at hrs
      generalize L[j].th = y at *
      have HR : Hid _ := hrs
      clear d hrs
      by_cases hy : y = th
      · subst hy
        go_wp2
        go_ret
        exact ⟨by have := HR.out; simp only [beq_self_eq_true, if_true] at this; rw [this]; rfl, rfl⟩
      · have hb : (y == th) = false := by simpa using hy
        go_wp2
        go_roundw
        case rel => exact ⟨j + 1, by go_num, by omega, by have := HR.out; rw [hb] at this; simpa using this, by simp⟩
        case measure => simp [intOf]; omega
    · obtain rfl : j = N := by omega
      have hall : (L.map WD.th).drop j = [] := by rw [List.drop_eq_nil_iff, List.length_map, HN.out]; exact Nat.le_refl _
      rw [hall] at hrs
      have HR : Hid _ := hrs
      clear hrs hall
      go_wp2
      go_ret
      exact ⟨by rw [HR.out]; rfl, rfl⟩

set_option maxRecDepth 100000 in
theorem rasleep_any {w : World} {b : Nat} {F : List Nat} {L : List WD} (h : RAt w b F L) (th : Int) : Calls Try.prog 39 #[ptr b, .int .i64 th] w fun e w' => e = .returned (.bool (slP L th)) ∧ w = w' := by
  have hat : HidC _ _ _ _ _ := ⟨rat_any h th⟩
  obtain ⟨v, rfl, ho⟩ := h
  have hlen := ho.wf.len
  obtain ⟨ao, cap, rfl, c0, f0, hbl, hc⟩ := ho.read
  unfold slP
  cases hf : findW L th with
  | none =>
    rw [atW_none hf] at hat
    clear ho hc hf
    generalize L.length = N at *
    go_enter Try.func39, Try.ntmps39
    go_wp2_with fail
    refine hat.out.mono ?_
    rintro e w1 ⟨rfl, rfl⟩
    clear hat
    go_wp2
    go_ret
    exact ⟨rfl, rfl⟩
  | some x =>
    obtain ⟨k, hk, e1, e2⟩ := atW_some ho.wf hf
    rw [e1] at hat
    obtain ⟨g, rfl, hg, d⟩ := hc k hk
    have d0 : w.cell? ⟨g, k * 14 + 13, none⟩ = some (.bool x.sl) := by have := d 13 (by omega); rw [e2] at this; exact this
    have h1 : (k : Int) < L.length := by omega
    have h0 : (0 : Int) ≤ k := by omega
    clear ho hc hf d e2
    generalize L.length = N at *
    go_enter Try.func39, Try.ntmps39
    go_wp2_with fail
    refine hat.out.mono ?_
    rintro e w1 ⟨rfl, rfl⟩
    clear hat
    go_wp2
    go_ret
    exact ⟨rfl, rfl⟩

set_option maxRecDepth 100000 in
set_option maxHeartbeats 1000000 in
theorem rwaiting_any {w : World} {b : Nat} {F : List Nat} {L : List WD} (h : RAt w b F L) : Calls Try.prog 40 #[ptr b] w (IntsPost w (L.map WD.th)) := by
  obtain ⟨v, rfl, ho⟩ := h
  have hlen := ho.wf.len
  obtain ⟨ao, cap, rfl, c0, f0, hbl, hc⟩ := ho.read
  have HC : Hid _ := hc
  obtain ⟨N, hN⟩ : ∃ N, N = L.length := ⟨_, rfl⟩
  have HN : Hid _ := hN
  rw [← hN] at hlen c0
  clear hN hc ho
  go_enter Try.func40, Try.ntmps40
  go_wp2_with fail
  go_loopw [3, 4] (fun v i wr => ∃ j : Nat, i = .int .i64 j ∧ j ≤ N ∧ intOwn wr w.heap.size v ((L.map WD.th).take j) ∧ Touch w wr []) (fun _ i _ => N - (intOf i).toNat)
  case atStart => exact ⟨0, rfl, Nat.zero_le _, World.ownsRow_nil _ _ _ _, Touch.refl _ _⟩
  case round =>
    obtain ⟨j, rfl, hj, hrow, hT⟩ := hrel
    have HT : Hid _ := hT
    have hsz := hT.size
    have e0 := (hT.cell (p := ⟨b, 0, none⟩) hbl (by simp)).trans c0
    by_cases hlt : j < N
    · have h1 : (j : Int) < N := by omega
      have h0 : (0 : Int) ≤ j := by omega
      have hjl : j < L.length := by rw [← HN.out]; exact hlt
      obtain ⟨g, rfl, hg, d⟩ := HC.out j hjl
      have d0 : wr.cell? ⟨g, j * 14, none⟩ = some (.int .i64 L[j].th) := by
        exact (hT.cell (p := ⟨g, j * 14, none⟩) hg (by simp)).trans (d 0 (by omega))
      have HS2 : Hid ((L.map WD.th).take (j + 1) = (L.map WD.th).take j ++ [L[j].th]) := by
        show _ = _
        rw [List.take_succ_eq_append_getElem (by simpa using hjl), List.getElem_map]
      have hM : ((L.map WD.th).take j).length = j := by rw [List.length_take, List.length_map]; omega
      obtain ⟨ao2, cap2, rfl⟩ := owns_slice hrow
      obtain ⟨ao', cap', w', hrun, hown, ht, hbl2⟩ := run_push hrow (by omega) hsz L[j].th 22
      rw [hM] at hrun hown
      simp only [hM]
      have HT2 : Hid (Touch w w' []) := HT.out.trans ht (fun y hy => .inr (by have := int_lt hrow y (by simpa using hy); omega))
      have HR : Hid _ := hown
      generalize L[j].th = y at *
      clear d hrow hT hown ht hbl2 hM
      go_wp2_with (at_builtin; refine Lib.wpList_append_run _ rfl _ _ _ _ rfl _ _ rfl rfl _ _ hrun ?_)
      go_wp2
      go_roundw
      case rel => exact ⟨j + 1, by go_num, by omega, by rw [HS2.out]; exact HR.out, HT2.out⟩
      case measure => simp [intOf]; omega
    · obtain rfl : j = N := by omega
      have hall : (L.map WD.th).take j = L.map WD.th := List.take_of_length_le (by rw [List.length_map, HN.out]; exact Nat.le_refl _)
      rw [hall] at hrow
      have HR : Hid _ := hrow
      obtain ⟨ao2, cap2, rfl⟩ := owns_slice hrow
      clear hrow hT
      go_wp2
      go_ret
      exact ⟨_, rfl, HR.out, HT.out⟩

theorem bitAt (x : WD) (t : Int) (h : noT t = false) : (x.s &&& setP [t] ≠ 0) ↔ x.s.testBit t.toNat = true := by
  have ht : 0 ≤ t ∧ t < 12 := by simp [noT] at h; omega
  have hs : setP [t] = 2 ^ t.toNat := by simp [setP, setStep, h]
  have := and_pow x.s t.toNat
  rw [hs]
  cases hb : x.s.testBit t.toNat
  · rw [hb] at this
    simp at this
    simp
    omega
  · rw [hb] at this
    simp at this
    simp
    omega
theorem setP_no (t : Int) (h : noT t = true) : setP [t] = 0 := by simp [setP, setStep, h]
theorem forP_no (L : List WD) : forP L 0 = [] := by simp [forP]

set_option maxRecDepth 100000 in
set_option maxHeartbeats 1000000 in
theorem rAt_any {w : World} {b : Nat} {F : List Nat} {L : List WD} (h : RAt w b F L) (t : Int) : Calls Try.prog 37 #[ptr b, .int .i64 t] w (IntsPost w (forP L (setP [t]))) := by
  obtain ⟨v, rfl, ho⟩ := h
  have hlen := ho.wf.len
  obtain ⟨ao, cap, rfl, c0, f0, hbl, hc⟩ := ho.read
  have HC : Hid _ := hc
  obtain ⟨N, hN⟩ : ∃ N, N = L.length := ⟨_, rfl⟩
  have HN : Hid _ := hN
  rw [← hN] at hlen c0
  clear hN hc ho
  cases hno : noT t with
  | true =>
    rw [setP_no t hno, forP_no]
    by_cases ht0 : 0 ≤ t
    · have ht1 : ¬ t < 12 := by simp [noT] at hno; omega
      clear hno
      go_enter Try.func37, Try.ntmps37
      go_wp2_with fail
      go_loopw [5, 6] (fun v i wr => i = .int .i64 0 ∧ v = .slice none 0 0 ∧ wr = w) (fun _ i _ => 0)
      case atStart => exact ⟨rfl, rfl, rfl⟩
      case round =>
        obtain ⟨rfl, rfl, rfl⟩ := hrel
        go_wp2
        go_ret
        exact ⟨_, rfl, World.ownsRow_nil _ _ _ _, Touch.refl _ _⟩
    · clear hno
      go_enter Try.func37, Try.ntmps37
      go_wp2_with fail
      go_loopw [5, 6] (fun v i wr => i = .int .i64 0 ∧ v = .slice none 0 0 ∧ wr = w) (fun _ i _ => 0)
      case atStart => exact ⟨rfl, rfl, rfl⟩
      case round =>
        obtain ⟨rfl, rfl, rfl⟩ := hrel
        go_wp2
        go_ret
        exact ⟨_, rfl, World.ownsRow_nil _ _ _ _, Touch.refl _ _⟩
  | false =>
    have ht0 : 0 ≤ t := by simp [noT] at hno; omega
    have ht1 : t < 12 := by simp [noT] at hno; omega
    have HNO : Hid _ := hno
    obtain ⟨n, rfl⟩ := Int.eq_ofNat_of_zero_le ht0
    have hn12 : n < 12 := by omega
    clear hno
    go_enter Try.func37, Try.ntmps37
    go_wp2_with fail
    go_loopw [5, 6] (fun v i wr => ∃ j : Nat, i = .int .i64 j ∧ j ≤ N ∧ intOwn wr w.heap.size v (forP (L.take j) (setP [(n : Int)])) ∧ Touch w wr []) (fun _ i _ => N - (intOf i).toNat)
    case atStart => exact ⟨0, rfl, Nat.zero_le _, World.ownsRow_nil _ _ _ _, Touch.refl _ _⟩
    case round =>
      obtain ⟨j, rfl, hj, hrow, hT⟩ := hrel
      have HT : Hid _ := hT
      have hsz := hT.size
      have e0 := (hT.cell (p := ⟨b, 0, none⟩) hbl (by simp)).trans c0
      by_cases hlt : j < N
      · have h1 : (j : Int) < N := by omega
        have h0 : (0 : Int) ≤ j := by omega
        have hjl : j < L.length := by rw [← HN.out]; exact hlt
        obtain ⟨g, rfl, hg, d⟩ := HC.out j hjl
        have d0 : wr.cell? ⟨g, j * 14, none⟩ = some (.int .i64 L[j].th) := by
          exact (hT.cell (p := ⟨g, j * 14, none⟩) hg (by simp)).trans (d 0 (by omega))
        have d1 : wr.cell? ⟨g, j * 14 + 1 + n, none⟩ = some (.bool (L[j].s.testBit n)) := by
          have := d (1 + n) (by omega)
          rw [ocells_bit _ n hn12, ← Nat.add_assoc] at this
          exact (hT.cell (p := ⟨g, j * 14 + 1 + n, none⟩) hg (by simp)).trans this
        have hbt := bitAt L[j] (n : Int) HNO.out
        have hsn := forP_snoc hjl (setP [(n : Int)])
        have hll := forP_len (L.take j) (setP [(n : Int)])
        rw [List.length_take] at hll
        obtain ⟨ao2, cap2, rfl⟩ := owns_slice hrow
        generalize L[j] = x at *
        generalize hM : (forP (L.take j) (setP [(n : Int)])).length = M at *
        simp only [Int.toNat_natCast] at hbt
        have HSN : Hid _ := hsn
        clear d hsn
        cases hb : x.s.testBit n with
        | true =>
          rw [hb] at d1
          have HS2 : Hid (forP (L.take (j + 1)) (setP [(n : Int)]) = forP (L.take j) (setP [(n : Int)]) ++ [x.th]) := by show _ = _; rw [HSN.out, if_pos (hbt.2 hb)]
          obtain ⟨ao', cap', w', hrun, hown, ht, hbl2⟩ := run_push hrow (by omega) hsz x.th 22
          rw [hM] at hrun hown hbl2
          have HT2 : Hid (Touch w w' []) := HT.out.trans ht (fun y hy => .inr (by have := int_lt hrow y (by simpa [hM] using hy); omega))
          have HR : Hid _ := hown
          clear hrow hT hown ht hbl2 hbt hb
          go_wp2_with (at_builtin; refine Lib.wpList_append_run _ rfl _ _ _ _ rfl _ _ rfl rfl _ _ hrun ?_)
          go_wp2
          go_roundw
          case rel => exact ⟨j + 1, by go_num, by omega, by rw [HS2.out]; exact HR.out, HT2.out⟩
          case measure => simp [intOf]; omega
        | false =>
          rw [hb] at d1
          have HS2 : Hid (forP (L.take (j + 1)) (setP [(n : Int)]) = forP (L.take j) (setP [(n : Int)])) := by show _ = _; rw [HSN.out, if_neg (fun h => by have := hbt.1 h; rw [hb] at this; cases this)]
          have HR : Hid _ := hrow
          clear hrow hT hbt hb
          go_wp2
          go_roundw
          case rel => exact ⟨j + 1, by go_num, by omega, by rw [HS2.out]; exact HR.out, HT.out⟩
          case measure => simp [intOf]; omega
      · obtain rfl : j = N := by omega
        have hall : L.take j = L := by rw [HN.out, List.take_length]
        rw [hall] at hrow
        have HR : Hid _ := hrow
        obtain ⟨ao2, cap2, rfl⟩ := owns_slice hrow
        clear hrow hT
        go_wp2
        go_ret
        exact ⟨_, rfl, HR.out, HT.out⟩

set_option maxRecDepth 100000 in
set_option maxHeartbeats 1000000 in
theorem rof_any {w : World} {b : Nat} {F : List Nat} {L : List WD} (h : RAt w b F L) (th : Int) : Calls Try.prog 38 #[ptr b, .int .i64 th] w (IntsPost w (listP (ofP L th))) := by
  have hat : HidC _ _ _ _ _ := ⟨rat_any h th⟩
  obtain ⟨v, rfl, ho⟩ := h
  have hlen := ho.wf.len
  obtain ⟨ao, cap, rfl, c0, f0, hbl, hc⟩ := ho.read
  cases hf : findW L th with
  | none =>
    have e1 : ofP L th = 0 := by unfold ofP; rw [hf]; rfl
    have e2 : listP 0 = [] := by rfl
    rw [atW_none hf] at hat
    rw [e1, e2]
    clear ho hc hf e1 e2
    generalize L.length = N at *
    go_enter Try.func38, Try.ntmps38
    go_wp2_with fail
    refine hat.out.mono ?_
    rintro e w1 ⟨rfl, rfl⟩
    clear hat
    go_wp2_with fail
    go_loopw [5, 7] (fun v i wr => i = .int .i64 0 ∧ v = .slice none 0 0 ∧ wr = w) (fun _ i _ => 0)
    case atStart => exact ⟨rfl, rfl, rfl⟩
    case round =>
      obtain ⟨rfl, rfl, rfl⟩ := hrel
      go_wp2
      go_ret
      exact ⟨_, rfl, World.ownsRow_nil _ _ _ _, Touch.refl _ _⟩
  | some x =>
    have e3 : ofP L th = x.s := by unfold ofP; rw [hf]; rfl
    rw [e3]
    obtain ⟨k, hk, e1, e2⟩ := atW_some ho.wf hf
    rw [e1] at hat
    obtain ⟨g, rfl, hg, d⟩ := hc k hk
    rw [e2] at d
    have HD : Hid (∀ i, i < 12 → w.cell? ⟨g, k * 14 + 1 + i, none⟩ = some (.bool (x.s.testBit i))) := fun i hi => by
      have := d (1 + i) (by omega)
      rwa [ocells_bit _ i hi, ← Nat.add_assoc] at this
    have h1 : (k : Int) < L.length := by omega
    have h0 : (0 : Int) ≤ k := by omega
    generalize x.s = s at *
    clear ho hc hf d e2 e3 e1
    generalize L.length = N at *
    go_enter Try.func38, Try.ntmps38
    go_wp2_with fail
    refine hat.out.mono ?_
    rintro e w1 ⟨rfl, rfl⟩
    clear hat
    go_wp2_with fail
    go_loopw [5, 7] (fun v i wr => ∃ j : Nat, i = .int .i64 j ∧ j ≤ 12 ∧ intOwn wr w.heap.size v (bitsP s j) ∧ Touch w wr []) (fun _ i _ => 12 - (intOf i).toNat)
    case atStart => exact ⟨0, rfl, Nat.zero_le _, World.ownsRow_nil _ _ _ _, Touch.refl _ _⟩
    case round =>
      obtain ⟨j, rfl, hj, hrow, hT⟩ := hrel
      have HT : Hid _ := hT
      have hsz := hT.size
      have c1 := (hT.cell (p := ⟨b, 0, none⟩) hbl (by simp)).trans c0
      by_cases hlt : j < 12
      · have h2 : (j : Int) < 12 := by omega
        have h3 : (0 : Int) ≤ j := by omega
        have d1 := (hT.cell (p := ⟨g, k * 14 + 1 + j, none⟩) hg (by simp)).trans (HD.out j hlt)
        have hsn := bitsP_snoc s j
        have hll := bitsP_len s j
        obtain ⟨ao2, cap2, rfl⟩ := owns_slice hrow
        generalize hM : (bitsP s j).length = M at *
        have HSN : Hid _ := hsn
        clear hsn
        cases hb : s.testBit j with
        | true =>
          rw [hb] at d1
          have HS2 : Hid (bitsP s (j + 1) = bitsP s j ++ [(j : Int)]) := by show _ = _; rw [HSN.out, if_pos hb]
          obtain ⟨ao', cap', w', hrun, hown, ht, hbl2⟩ := run_push hrow (by omega) hsz (j : Int) 22
          rw [hM] at hrun hown hbl2
          have HT2 : Hid (Touch w w' []) := HT.out.trans ht (fun y hy => .inr (by have := int_lt hrow y (by simpa [hM] using hy); omega))
          have HR : Hid _ := hown
          clear hrow hT hown ht hbl2 hb
          go_wp2_with (at_builtin; refine Lib.wpList_append_run _ rfl _ _ _ _ rfl _ _ rfl rfl _ _ hrun ?_)
          go_wp2
          go_roundw
          case rel => exact ⟨j + 1, by go_num, by omega, by rw [HS2.out]; exact HR.out, HT2.out⟩
          case measure => simp [intOf]; omega
        | false =>
          rw [hb] at d1
          have HS2 : Hid (bitsP s (j + 1) = bitsP s j) := by show _ = _; rw [HSN.out, if_neg (by rw [hb]; simp)]
          have HR : Hid _ := hrow
          clear hrow hT hb
          go_wp2
          go_roundw
          case rel => exact ⟨j + 1, by go_num, by omega, by rw [HS2.out]; exact HR.out, HT.out⟩
          case measure => simp [intOf]; omega
      · obtain rfl : j = 12 := by omega
        have HR : Hid _ := hrow
        obtain ⟨ao2, cap2, rfl⟩ := owns_slice hrow
        clear hrow hT
        go_wp2
        go_ret
        exact ⟨_, rfl, HR.out, HT.out⟩

end Go.Proofs.Yteffdibdnoppjaa

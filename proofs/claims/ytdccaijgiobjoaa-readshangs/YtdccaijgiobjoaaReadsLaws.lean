/-
  ReadsValid, ReadsFirst AND ReadsHangs, WALKED.
-/
import Derived.Test.YtdccaijgiobjoaaReadsLive
namespace Go.Proofs.Ytdccaijgiobjoaa
set_option linter.unusedVariables false
set_option linter.unusedSimpArgs false
open Go.RowKit Go.Maps

/-- A law's answer. -/
def TrueIn (w : World) (e : Ending) (w' : World) : Prop := e = .returned (.bool true) ∧ Touch w w' []

set_option maxRecDepth 100000 in
set_option maxHeartbeats 1600000 in
theorem evalid_any (ao : Option Addr) (cap : Nat) (l : List EntD) (bo : Option Addr) (cap2 : Nat) (hp' : List Int) (w : World) (hr : EntRow w (.slice ao l.length cap) l) (hl : l.length ≤ maxLen) (hwf : ∀ e ∈ l, e.Wf)
    (hr2 : ValRow w (.slice bo hp'.length cap2) hp') (hl2 : hp'.length ≤ maxLen) (hw2 : ∀ y ∈ hp', Wf64 y) :
    Calls Try.prog 3 #[.slice ao l.length cap, .slice bo hp'.length cap2] w (TrueIn w) := by
  have hp := eplay_any ao cap l w hr hl hwf
  unfold EPlayed at hp
  generalize runE [] (l.take 30) = L at *
  clear hr hl hwf
  have row := fun (X : World) (tX : Touch w X []) => SRow.keep hr2 tX (by simp)
  go_enter Try.func3, Try.ntmps3
  go_wp2_with fail
  refine hp.mono ?_
  rintro e w1 ⟨b, m, vl, rb, vr, rfl, hP, t1⟩
  clear hp
  go_wp2_with fail
  refine (elive_any _).mono ?_
  rintro e w2 ⟨rfl, t2⟩
  have T2 := t1.trans t2 (by simp)
  have P2 := hP.keep t2
  clear t1 t2 hP
  have h1 := broken_any P2.s bo cap2 hp' (row w2 T2) hl2
  have h2 := fun (X : World) (hX : EPair w.heap.size X b m vl rb vr L) (tX : Touch w X []) => rbroken_any hX.r bo cap2 hp' (row X tX) hl2 hw2
  have h3 := fun (X : World) (hX : EPair w.heap.size X b m vl rb vr L) (tX : Touch w X []) => valid_any hX.s bo cap2 hp' (row X tX) hl2
  have h4 := fun (X : World) (hX : EPair w.heap.size X b m vl rb vr L) (tX : Touch w X []) => rvalid_any hX.r bo cap2 hp' (row X tX) hl2 hw2
  generalize brokenE hp' L = R at *
  clear row hr2 hl2 hw2
  obtain ⟨t, bb⟩ := R
  simp only at h1 h2 h3 h4
  go_wp2_with fail
  refine h1.mono ?_
  rintro e w3 ⟨rfl, t3⟩
  have T3 := T2.trans t3 (by simp)
  have P3 := P2.keep t3
  clear h1 T2 P2 t3
  have h2' := h2 w3 P3 T3
  clear h2
  go_wp2_with fail
  refine h2'.mono ?_
  rintro e w4 ⟨rfl, t4⟩
  have T4 := T3.trans t4 (by simp)
  have P4 := P3.keep t4
  clear h2' T3 P3 t4
  have h5 := h3 w4 P4 T4
  go_wp2_with fail
  refine h5.mono ?_
  rintro e w5 ⟨rfl, t5⟩
  have T5 := T4.trans t5 (by simp)
  have P5 := P4.keep t5
  clear h5 T4 P4 t5
  have h6 := h4 w5 P5 T5
  clear h4
  go_wp2_with fail
  refine h6.mono ?_
  rintro e w6 ⟨rfl, t6⟩
  have T6 := T5.trans t6 (by simp)
  have P6 := P5.keep t6
  clear h6 T5 P5 t6
  have h7 := h3 w6 P6 T6
  clear h3
  go_wp2_with fail
  refine h7.mono ?_
  rintro e w7 ⟨rfl, t7⟩
  have T7 := T6.trans t7 (by simp)
  clear h7 T6 P6 t7
  go_wp2
  go_ret
  exact ⟨by simp, T7⟩

/-- What Add does to what is read of the variable. -/
theorem first_cases (L : List EntD) (e : EntD) :
    ((addE L e).1 ≠ 0 ∧ (addE L e).2 = L ∧ ((addE L e).1 = 4 → 8 ≤ L.length)) ∨ ((addE L e).1 = 0 ∧ hasT L e.tvar = true ∧ (addE L e).2 = L) ∨
    ((addE L e).1 = 0 ∧ hasT L e.tvar = false ∧ (addE L e).2 = L ++ [e] ∧ L.length < 8) := by
  have n4 : (4 : Int) ≠ 0 := by decide
  have n2 : (2 : Int) ≠ 0 := by decide
  have n3 : (3 : Int) ≠ 0 := by decide
  unfold addE
  rcases wrongE_in e with h | h | h
  · rw [if_neg (by simp [h])]
    by_cases hh : hasT L e.tvar = true
    · rw [if_pos hh]; exact .inr (.inl ⟨rfl, hh, rfl⟩)
    · rw [if_neg hh]
      by_cases hl : 8 ≤ L.length
      · rw [if_pos hl]; exact .inl ⟨n4, rfl, fun _ => hl⟩
      · rw [if_neg hl]; exact .inr (.inr ⟨rfl, by simpa using hh, rfl, by omega⟩)
  · rw [h, if_pos n2]; exact .inl ⟨n2, rfl, fun h => absurd h (by simp)⟩
  · rw [h, if_pos n3]; exact .inl ⟨n3, rfl, fun h => absurd h (by simp)⟩

theorem getT_snoc {L : List EntD} {e : EntD} (h : hasT L e.tvar = false) : getT (L ++ [e]) e.tvar = some e ∧ hasT (L ++ [e]) e.tvar = true := by
  have hk : L.length < (L ++ [e]).length := by simp
  have h1 := getT_hit (L := L ++ [e]) hk (t := e.tvar) (by simpa using h) (by simp)
  simpa using h1

set_option maxRecDepth 100000 in
set_option maxHeartbeats 1600000 in
theorem efirst_any (ao : Option Addr) (cap : Nat) (l : List EntD) (e : EntD) (w : World) (hr : EntRow w (.slice ao l.length cap) l) (hl : l.length ≤ maxLen) (hwf : ∀ e ∈ l, e.Wf) (hew : e.Wf) :
    Calls Try.prog 4 #[.slice ao l.length cap, e.v] w (TrueIn w) := by
  have hp := fun W hr => eplay_any ao cap l W hr hl hwf
  unfold EPlayed at hp
  have T0 : Touch w (w.alloc (.cells #[.int .i64 e.tvar, .int .u64 e.val, .int .u64 e.ver] 36)) [] := (Touch.refl w []).alloc _
  have hp := hp _ (SRow.keep hr T0 (by simp))
  have e0 : (w.alloc (.cells #[.int .i64 e.tvar, .int .u64 e.val, .int .u64 e.ver] 36)).heap[w.heap.size]? = some (.cells #[.int .i64 e.tvar, .int .u64 e.val, .int .u64 e.ver] 36 (0, 0)) := heap_alloc_new w _
  have hz0 := lt_of_heap e0
  generalize runE [] (l.take 30) = L at *
  clear hr hl hwf
  have HE0 : Hid _ := e0
  have HT0 : Hid _ := T0
  clear e0 T0
  go_enter Try.func4, Try.ntmps4
  go_wp2_with fail
  refine hp.mono ?_
  rintro x w1 ⟨b, m, vl, rb, vr, rfl, hP, t1⟩
  clear hp
  go_wp2_with fail
  refine (elive_any _).mono ?_
  rintro x w2 ⟨rfl, t2⟩
  have t02 := t1.trans t2 (by simp)
  have e2 := (t02.block _ hz0 (by simp)).trans HE0.out
  have T2 := HT0.out.trans t02 (by simp)
  have S2 := hP.s.keep t2 (by simp)
  have hbe : ∀ k ∈ rdfoot b m vl, k ≠ w.heap.size := fun k hk => by have := (hP.s.foot_lt k hk).1; omega
  clear HE0 HT0 hP t1 t2 t02 hz0
  obtain ⟨q0, q1, q2⟩ := cells_three e2
  have h1 := get_any S2 e.tvar hew.t
  have HC : Hid _ := first_cases L e
  have HG : Hid (hasT L e.tvar = false → getT (L ++ [e]) e.tvar = some e ∧ hasT (L ++ [e]) e.tvar = true) := getT_snoc
  have h8 := S2.sl.len
  have next : ∀ {X Y : World} {v : Value} {K : List EntD}, RdSet (w.heap.size + 1) X b m v K → X.heap[w.heap.size]? = some (.cells #[.int .i64 e.tvar, .int .u64 e.val, .int .u64 e.ver] 36 (0, 0)) → Touch w X [] → Touch X Y [] → RdSet (w.heap.size + 1) Y b m v K ∧ Y.heap[w.heap.size]? = some (.cells #[.int .i64 e.tvar, .int .u64 e.val, .int .u64 e.ver] 36 (0, 0)) ∧ Touch w Y [] :=
    fun hs he ht t => ⟨hs.keep t (by simp), (t.block _ (lt_of_heap he) (by simp)).trans he, ht.trans t (by simp)⟩
  obtain ⟨z, hz⟩ : ∃ z, z = (getT L e.tvar).getD ⟨0, 0, 0⟩ := ⟨_, rfl⟩
  have HZ : Hid (z = (getT L e.tvar).getD ⟨0, 0, 0⟩) := hz
  rw [show entO (getT L e.tvar) = .agg #[.int .i64 z.tvar, .int .u64 z.val, .int .u64 z.ver] by rw [hz]; rfl] at h1
  clear hz
  have hsz : (w.alloc (.cells #[.int .i64 e.tvar, .int .u64 e.val, .int .u64 e.ver] 36)).heap.size = w.heap.size + 1 := by simp
  rw [hsz] at S2
  go_wp2_with fail
  refine h1.mono ?_
  rintro x w3 ⟨rfl, t3⟩
  clear h1
  obtain ⟨w4, hw4⟩ : ∃ w4, w4 = w3.alloc (.cells #[.int .i64 z.tvar, .int .u64 z.val, .int .u64 z.ver] 36) := ⟨_, rfl⟩
  have t4 : Touch w2 w4 [] := by rw [hw4]; exact t3.alloc _
  have z4 : w4.heap[w3.heap.size]? = some (.cells #[.int .i64 z.tvar, .int .u64 z.val, .int .u64 z.ver] 36 (0, 0)) := by rw [hw4]; exact heap_alloc_new w3 _
  obtain ⟨S4, e4, T4⟩ := next S2 e2 T2 t4
  have hlen := len_any S4
  have hadd := add_any S4 (by have := lt_of_heap e4; omega) e hew
  have hwz : ∀ q ∈ rdfoot b m vl, q ≠ w3.heap.size := fun q hq => by have := (S2.foot_lt q hq).2; have := t3.size; omega
  obtain ⟨j0, j1, j2⟩ := cells_three e4
  clear S2 e2 T2 t3 t4 q0 q1 q2
  go_wp2_with fail
  rw [← hw4]
  refine hlen.mono ?_
  rintro x w5 ⟨rfl, rfl⟩
  clear hlen hw4
  go_wp2_with fail
  refine hadd.mono ?_
  rintro x w5 ⟨vl5, rfl, S5, t5, f5⟩
  clear hadd
  have e5 := (t5.block _ (lt_of_heap e4) (fun h => hbe _ h rfl)).trans e4
  have z5 := (t5.block _ (lt_of_heap z4) (fun h => hwz _ h rfl)).trans z4
  have T5 : Touch w w5 [] := T4.trans t5 (fun q hq => .inr (by have := (S4.foot_lt q hq).1; omega))
  have hzl := lt_of_heap z4
  clear e4 z4 t5 T4 j0 j1 j2
  have h2 := get_any S5 e.tvar hew.t
  obtain ⟨y, hy⟩ : ∃ y, y = (getT (addE L e).2 e.tvar).getD ⟨0, 0, 0⟩ := ⟨_, rfl⟩
  have HY : Hid (y = (getT (addE L e).2 e.tvar).getD ⟨0, 0, 0⟩) := hy
  rw [show entO (getT (addE L e).2 e.tvar) = .agg #[.int .i64 y.tvar, .int .u64 y.val, .int .u64 y.ver] by rw [hy]; rfl] at h2
  clear hy
  obtain ⟨j0, j1, j2⟩ := cells_three e5
  go_wp2_with fail
  refine h2.mono ?_
  rintro x w6 ⟨rfl, t6⟩
  clear h2
  obtain ⟨w7, hw7⟩ : ∃ w7, w7 = w6.alloc (.cells #[.int .i64 y.tvar, .int .u64 y.val, .int .u64 y.ver] 36) := ⟨_, rfl⟩
  have t7 : Touch w5 w7 [] := by rw [hw7]; exact t6.alloc _
  have y7 : w7.heap[w6.heap.size]? = some (.cells #[.int .i64 y.tvar, .int .u64 y.val, .int .u64 y.ver] 36 (0, 0)) := by rw [hw7]; exact heap_alloc_new w6 _
  obtain ⟨S7, e7, T7⟩ := next S5 e5 T5 t7
  have z7 := (t7.block _ (lt_of_heap z5) (by simp)).trans z5
  have hlen := len_any S7
  obtain ⟨j0, j1, j2⟩ := cells_three e7
  obtain ⟨k0, k1, k2⟩ := cells_three z7
  obtain ⟨g0, g1, g2⟩ := cells_three y7
  have HT7 : Hid _ := T7
  clear S5 e5 z5 T5 t6 t7 S7 T7 next S4 e7 z7 y7 f5
  subst hw7
  rcases HC.out with ⟨c1, c2, c3⟩ | ⟨c1, c2, c3⟩ | ⟨c1, c2, c3, c4⟩
  · rw [c2] at hlen ⊢
    have hyz : y = z := by rw [HY.out, HZ.out, c2]
    subst hyz
    have c1' : ((addE L e).1 == 0) = false := by simpa using c1
    obtain ⟨r, hr⟩ : ∃ r, r = (addE L e).1 := ⟨_, rfl⟩
    rw [← hr] at c1' c3 ⊢
    generalize hasT L e.tvar = hb at *
    obtain ⟨N, hN⟩ : ∃ N, N = L.length := ⟨_, rfl⟩
    rw [← hN] at hlen c3 h8 ⊢
    clear c1 c2 HC HG HY HZ hr hN
    by_cases c4 : r = 4
    · have hl8 : N = 8 := by have := c3 c4; omega
      subst c4
      subst hl8
      go_wp2_with fail
      refine hlen.mono ?_
      rintro x w8 ⟨rfl, rfl⟩
      go_wp2
      go_ret
      exact ⟨by simp, HT7.out⟩
    · have c4' : (r == 4) = false := by simpa using c4
      have c5 : (r != 4) = true := by simpa using c4
      go_wp2_with fail
      refine hlen.mono ?_
      rintro x w8 ⟨rfl, rfl⟩
      go_wp2
      all_goals
        go_ret
        exact ⟨by simp, HT7.out⟩
  · rw [c3] at hlen ⊢
    have hyz : y = z := by rw [HY.out, HZ.out, c3]
    subst hyz
    rw [c1, c2]
    clear c1 c2 c3 HC HG HY HZ
    go_wp2_with fail
    refine hlen.mono ?_
    rintro x w8 ⟨rfl, rfl⟩
    go_wp2
    go_ret
    exact ⟨by simp, HT7.out⟩
  · obtain ⟨d1, d2⟩ := HG.out c2
    have hye : y = e := by rw [HY.out, c3, d1]; rfl
    subst hye
    rw [c3, List.length_append] at hlen
    rw [c3, d2, c1, c2]
    have c4' : (L.length : Int) < 8 := by omega
    clear c1 c2 c3 HC HG HY HZ d1 d2
    go_wp2_with fail
    refine hlen.mono ?_
    rintro x w8 ⟨rfl, rfl⟩
    go_wp2
    go_ret
    exact ⟨by simp, HT7.out⟩

end Go.Proofs.Ytdccaijgiobjoaa

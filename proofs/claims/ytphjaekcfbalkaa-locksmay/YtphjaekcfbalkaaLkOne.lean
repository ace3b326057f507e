/-
  one OF THE STATEMENTS ON package locks, BY ITS CONTRACT.
-/
import Derived.Test.YtphjaekcfbalkaaLkLaws
namespace Go.Proofs.Ytphjaekcfbalkaa
set_option linter.unusedVariables false
set_option linter.unusedSimpArgs false
open Go.RowKit
attribute [local go_sem] Oper.semAt_some

/-- A call in a block of its own. -/
structure BoxC (W : World) (p : Nat) (o a v : Int) : Prop where
  st : W.heap[p]? = some (.cells #[.int .u8 o, .int .i64 a, .int .u64 v] 35 (0, 0))
theorem BoxC.touch {W W' : World} {p : Nat} {o a v : Int} {S : List Nat} (h : BoxC W p o a v) (t : Touch W W' S) (hS : p ∉ S) : BoxC W' p o a v := ⟨(t.block p (lt_of_heap h.st) hS).trans h.st⟩
theorem BoxC.cells {W : World} {p : Nat} {o a v : Int} (h : BoxC W p o a v) : W.cell? ⟨p, 0, none⟩ = some (.int .u8 o) ∧ W.cell? ⟨p, 1, none⟩ = some (.int .i64 a) ∧ W.cell? ⟨p, 2, none⟩ = some (.int .u64 v) :=
  ⟨by unfold World.cell?; rw [h.st]; rfl, by unfold World.cell?; rw [h.st]; rfl, by unfold World.cell?; rw [h.st]; rfl⟩
theorem BoxC.fr {W : World} {p : Nat} {o a v : Int} (h : BoxC W p o a v) (j : Nat) : W.frozen? ⟨p, j, none⟩ = false := by unfold World.frozen?; rw [h.st]; simp
theorem BoxC.new (w : World) (o a v : Int) : BoxC (w.alloc (.cells #[.int .u8 o, .int .i64 a, .int .u64 v] 35)) w.heap.size o a v := ⟨heap_alloc_new w _⟩
theorem BoxC.set0 {W : World} {p : Nat} {o a v : Int} (h : BoxC W p o a v) (x : Int) : BoxC (W.setCell ⟨p, 0, none⟩ (.int .u8 x)) p x a v := ⟨heap_setCell_same _ _ _ _ _ _ h.st⟩
theorem BoxC.set1 {W : World} {p : Nat} {o a v : Int} (h : BoxC W p o a v) (x : Int) : BoxC (W.setCell ⟨p, 1, none⟩ (.int .i64 x)) p o x v := ⟨heap_setCell_same _ _ _ _ _ _ h.st⟩
theorem BoxC.set2 {W : World} {p : Nat} {o a v : Int} (h : BoxC W p o a v) (x : Int) : BoxC (W.setCell ⟨p, 2, none⟩ (.int .u64 x)) p o a x := ⟨heap_setCell_same _ _ _ _ _ _ h.st⟩

theorem shI_zero (l : List InsD) : l.map (shI 0) = l := by
  have : ∀ i : InsD, shI 0 i = i := by
    intro i
    unfold shI
    split
    · rw [Int.add_zero]
    · rfl
  rw [show (shI 0) = id from funext this, List.map_id]
theorem blk_zero (b : List InsD) : blkL 0 b = bodyL b := shI_zero _
theorem may_zero {t u : Int} (t0 : 0 ≤ t) (t1 : t < 12) (u0 : 0 ≤ u) (u1 : u < 4) : mayP 0 t u = true := by unfold mayP; simp [t0, t1, u0, u1]
def oneL (j t u : Int) : List InsD := if j = 0 then bodyL (lockB t u) else if j = 1 then bodyL (unlockB t u) else if j = 2 then bodyL (downB t) else bodyL (upB t)
def OneP (w : World) (j t u : Int) (e : Ending) (w' : World) : Prop :=
  ∃ ao cap, e = .returned (.tuple #[.slice ao (oneL j t u).length cap, .agg #[.int .u8 (j + 1), .int .i64 u, .int .u64 0], .int .i64 0]) ∧ InsIn w' ao (oneL j t u).length cap (oneL j t u) ∧ Touch w w' []

theorem lk_ok {w : World} {L : List InsD} {er : Int} (he : er = 0) {e : Ending} {w' : World} (h : LkP w er L e w') : ∃ ao cap, e = .returned (.tuple #[.slice ao L.length cap, .int .i64 0]) ∧ InsIn w' ao L.length cap L ∧ Touch w w' [] := by
  rcases h with ⟨_, h⟩ | ⟨h, _⟩
  · exact h
  · exact absurd he h

theorem box_apart {W W' : World} {p : Nat} {ao : Option Addr} {cap : Nat} {L : List InsD} (hb : BoxC W p 0 0 0) (hin : InsIn W ao L.length cap L) (h0 : 0 < L.length) (h21 : L[0].op = 21) (t : Touch W W' [p]) : InsIn W' ao L.length cap L := by
  refine ⟨rfl, SRow.keepB hin.row t (fun _ g hg => ?_), hin.le, hin.max, hin.wf⟩
  obtain ⟨g', off, rfl, d0, _, _⟩ := ins_at hin.row (Touch.refl W []) (by simp) 0 h0
  simp only [Value.ownBlock, Option.some.injEq] at hg
  subst hg
  intro hm
  rw [List.mem_singleton] at hm
  subst hm
  rw [h21] at d0
  unfold World.cell? at d0
  rw [hb.st] at d0
  match off, d0 with
  | 0, d0 => simp at d0
  | 1, d0 => simp at d0
  | 2, d0 => simp at d0
  | n + 3, d0 => simp at d0
theorem one_first (j t u : Int) : 0 < (oneL j t u).length ∧ ∀ h : 0 < (oneL j t u).length, (oneL j t u)[0].op = 21 := by
  unfold oneL
  split
  · exact ⟨by simp [bodyL], fun _ => rfl⟩
  · split
    · exact ⟨by simp [bodyL], fun _ => rfl⟩
    · split
      · exact ⟨by simp [bodyL], fun _ => rfl⟩
      · exact ⟨by simp [bodyL], fun _ => rfl⟩

set_option maxRecDepth 100000 in
set_option maxHeartbeats 2000000 in
theorem lone_any (k t u : Int) (k0 : 0 ≤ k) (k1 : k ≤ 255) (t0 : 0 ≤ t) (t1 : t < 12) (u0 : 0 ≤ u) (u1 : u < 4) (w : World) :
    Calls Try.prog 17 #[.int .u8 k, .int .i64 t, .int .i64 u] w (OneP w (k % 4) t u) := by
  have C0 : Hid (∀ W, HidC Try.prog 7 #[.int .i64 0, .int .i64 t, .int .i64 u] W (fun e w' => ∃ ao cap, e = .returned (.tuple #[.slice ao (bodyL (lockB t u)).length cap, .int .i64 0]) ∧ InsIn w' ao (bodyL (lockB t u)).length cap (bodyL (lockB t u)) ∧ Touch W w' [])) := fun W => ⟨(llock_any 0 t u W).mono fun e w' h => by
    rw [blk_zero] at h; exact lk_ok (by unfold lockE; rw [if_pos (may_zero t0 t1 u0 u1)]; unfold blkE; rw [lock_body]; rfl) h⟩
  have C1 : Hid (∀ W, HidC Try.prog 9 #[.int .i64 0, .int .i64 t, .int .i64 u] W (fun e w' => ∃ ao cap, e = .returned (.tuple #[.slice ao (bodyL (unlockB t u)).length cap, .int .i64 0]) ∧ InsIn w' ao (bodyL (unlockB t u)).length cap (bodyL (unlockB t u)) ∧ Touch W w' [])) := fun W => ⟨(lunlock_any 0 t u W).mono fun e w' h => by
    rw [blk_zero] at h; exact lk_ok (by unfold unlockE; rw [if_pos (may_zero t0 t1 u0 u1)]; unfold blkE; rw [unlock_body]; rfl) h⟩
  have C2 : Hid (∀ W, HidC Try.prog 13 #[.int .i64 0, .int .i64 t] W (fun e w' => ∃ ao cap, e = .returned (.tuple #[.slice ao (bodyL (downB t)).length cap, .int .i64 0]) ∧ InsIn w' ao (bodyL (downB t)).length cap (bodyL (downB t)) ∧ Touch W w' [])) := fun W => ⟨(ldown_any 0 t W).mono fun e w' h => by
    rw [blk_zero] at h; exact lk_ok (by unfold downE; rw [if_pos (may_zero t0 t1 (by omega) (by omega))]; unfold blkE; rw [down_body]; rfl) h⟩
  have C3 : Hid (∀ W, HidC Try.prog 15 #[.int .i64 0, .int .i64 t] W (fun e w' => ∃ ao cap, e = .returned (.tuple #[.slice ao (bodyL (upB t)).length cap, .int .i64 0]) ∧ InsIn w' ao (bodyL (upB t)).length cap (bodyL (upB t)) ∧ Touch W w' [])) := fun W => ⟨(lup_any 0 t W).mono fun e w' h => by
    rw [blk_zero] at h; exact lk_ok (by unfold upE; rw [if_pos (may_zero t0 t1 (by omega) (by omega))]; unfold blkE; rw [up_body]; rfl) h⟩
  have HQ : Hid (OneP w (k % 4) t u = OneP w (k % 4) t u) := rfl
  obtain ⟨j, hj⟩ : ∃ j, j = k % 4 := ⟨_, rfl⟩
  have hj4 : j = 0 ∨ j = 1 ∨ j = 2 ∨ j = 3 := by omega
  have hrem : k.tmod 4 = j := by rw [hj, Int.tmod_eq_emod_of_nonneg k0]
  have hwj : IntKind.u8.wrap j = j := by rw [IntKind.wrap_u8]; omega
  rw [← hj]
  have HTA : Hid (∀ q, Touch w ((w.alloc (.cells #[.int .u8 0, .int .i64 0, .int .u64 0] 35)).alloc (.cells #[.int .u8 q, .int .i64 u, .int .u64 0] 35)) []) := fun q => ((Touch.refl w []).alloc _).alloc _
  have HA : Hid (∀ q, BoxC ((w.alloc (.cells #[.int .u8 0, .int .i64 0, .int .u64 0] 35)).alloc (.cells #[.int .u8 q, .int .i64 u, .int .u64 0] 35)) w.heap.size 0 0 0) := fun q => (BoxC.new w 0 0 0).touch ((Touch.refl _ []).alloc _) (by simp)
  have HB : Hid (∀ q, BoxC ((w.alloc (.cells #[.int .u8 0, .int .i64 0, .int .u64 0] 35)).alloc (.cells #[.int .u8 q, .int .i64 u, .int .u64 0] 35)) (w.heap.size + 1) q u 0) := fun q => by
    have := BoxC.new (w.alloc (.cells #[.int .u8 0, .int .i64 0, .int .u64 0] 35)) q u 0
    simpa using this
  clear hj HQ
  go_enter Try.func17, Try.ntmps17
  rcases hj4 with rfl | rfl | rfl | rfl
  · go_wp2_with fail
    have ta := HTA.out 1
    have ba := HA.out 1
    have bb := HB.out 1
    generalize ((w.alloc (.cells #[.int .u8 0, .int .i64 0, .int .u64 0] 35)).alloc (.cells #[.int .u8 1, .int .i64 u, .int .u64 0] 35)) = Q at *
    have HTA' : Hid _ := ta
    have HA' : Hid _ := ba
    have HB' : Hid _ := bb
    clear ta ba bb HTA HA HB
    refine (C0.out _).out.mono ?_
    rintro e w1 ⟨ao, cap, rfl, hin, s1⟩
    have HT1 : Hid (Touch w w1 []) := HTA'.out.trans s1 (by simp)
    obtain ⟨a0, a1, a2⟩ := (HA'.out.touch s1 (by simp)).cells
    obtain ⟨b0, b1, b2⟩ := (HB'.out.touch s1 (by simp)).cells
    have f0 := (HA'.out.touch s1 (by simp)).fr 0
    have f1 := (HA'.out.touch s1 (by simp)).fr 1
    have f2 := (HA'.out.touch s1 (by simp)).fr 2
    have HA1 : Hid _ := HA'.out.touch s1 (by simp)
    have HL : Hid (oneL 0 t u = bodyL (lockB t u)) := by show _ = _; unfold oneL; simp
    have HIN : Hid (∀ W', Touch w1 W' [w.heap.size] → InsIn W' ao (bodyL (lockB t u)).length cap (bodyL (lockB t u))) := by
      have h1 := one_first 0 t u
      rw [HL.out] at h1
      exact fun W' t => box_apart HA1.out hin h1.1 (h1.2 h1.1) t
    clear hin s1 C0 C1 C2 C3
    generalize bodyL (lockB t u) = L at *
    obtain ⟨n9, hn9⟩ : ∃ n9, n9 = L.length := ⟨_, rfl⟩
    have HN9 : Hid _ := hn9
    rw [← hn9]
    clear hn9
    go_wp2_with fail
    go_region
    all_goals
      go_wp2
      have hb2 := ((HA1.out.set0 1).set1 u).set2 0
      obtain ⟨k0', k1', k2'⟩ := hb2.cells
      refine bodyPost_ret (v := .tuple #[.slice ao n9 cap, .agg #[.int .u8 1, .int .i64 u, .int .u64 0], .int .i64 0]) (by simp [results, Try.results17, go_sem, k0', k1', k2']) rfl ?_
      have ht : Touch w1 (((w1.setCell ⟨w.heap.size, 0, none⟩ (.int .u8 1)).setCell ⟨w.heap.size, 1, none⟩ (.int .i64 u)).setCell ⟨w.heap.size, 2, none⟩ (.int .u64 0)) [w.heap.size] := (((Touch.refl _ _).setCell (.inl (by simp)) _).setCell (.inl (by simp)) _).setCell (.inl (by simp)) _
      unfold OneP
      rw [HL.out]
      exact ⟨ao, cap, by rw [HN9.out]; rfl, HIN.out _ ht.drew, (HT1.out.trans ht (fun x hx => .inr (by simp at hx; omega))).drew⟩
  · go_wp2_with fail
    have ta := HTA.out 2
    have ba := HA.out 2
    have bb := HB.out 2
    generalize ((w.alloc (.cells #[.int .u8 0, .int .i64 0, .int .u64 0] 35)).alloc (.cells #[.int .u8 2, .int .i64 u, .int .u64 0] 35)) = Q at *
    have HTA' : Hid _ := ta
    have HA' : Hid _ := ba
    have HB' : Hid _ := bb
    clear ta ba bb HTA HA HB
    refine (C1.out _).out.mono ?_
    rintro e w1 ⟨ao, cap, rfl, hin, s1⟩
    have HT1 : Hid (Touch w w1 []) := HTA'.out.trans s1 (by simp)
    obtain ⟨a0, a1, a2⟩ := (HA'.out.touch s1 (by simp)).cells
    obtain ⟨b0, b1, b2⟩ := (HB'.out.touch s1 (by simp)).cells
    have f0 := (HA'.out.touch s1 (by simp)).fr 0
    have f1 := (HA'.out.touch s1 (by simp)).fr 1
    have f2 := (HA'.out.touch s1 (by simp)).fr 2
    have HA1 : Hid _ := HA'.out.touch s1 (by simp)
    have HL : Hid (oneL 1 t u = bodyL (unlockB t u)) := by show _ = _; unfold oneL; simp
    have HIN : Hid (∀ W', Touch w1 W' [w.heap.size] → InsIn W' ao (bodyL (unlockB t u)).length cap (bodyL (unlockB t u))) := by
      have h1 := one_first 1 t u
      rw [HL.out] at h1
      exact fun W' t => box_apart HA1.out hin h1.1 (h1.2 h1.1) t
    clear hin s1 C0 C1 C2 C3
    generalize bodyL (unlockB t u) = L at *
    obtain ⟨n9, hn9⟩ : ∃ n9, n9 = L.length := ⟨_, rfl⟩
    have HN9 : Hid _ := hn9
    rw [← hn9]
    clear hn9
    go_wp2_with fail
    go_region
    all_goals
      go_wp2
      have hb2 := ((HA1.out.set0 2).set1 u).set2 0
      obtain ⟨k0', k1', k2'⟩ := hb2.cells
      refine bodyPost_ret (v := .tuple #[.slice ao n9 cap, .agg #[.int .u8 2, .int .i64 u, .int .u64 0], .int .i64 0]) (by simp [results, Try.results17, go_sem, k0', k1', k2']) rfl ?_
      have ht : Touch w1 (((w1.setCell ⟨w.heap.size, 0, none⟩ (.int .u8 2)).setCell ⟨w.heap.size, 1, none⟩ (.int .i64 u)).setCell ⟨w.heap.size, 2, none⟩ (.int .u64 0)) [w.heap.size] := (((Touch.refl _ _).setCell (.inl (by simp)) _).setCell (.inl (by simp)) _).setCell (.inl (by simp)) _
      unfold OneP
      rw [HL.out]
      exact ⟨ao, cap, by rw [HN9.out]; rfl, HIN.out _ ht.drew, (HT1.out.trans ht (fun x hx => .inr (by simp at hx; omega))).drew⟩
  · go_wp2_with fail
    have ta := HTA.out 3
    have ba := HA.out 3
    have bb := HB.out 3
    generalize ((w.alloc (.cells #[.int .u8 0, .int .i64 0, .int .u64 0] 35)).alloc (.cells #[.int .u8 3, .int .i64 u, .int .u64 0] 35)) = Q at *
    have HTA' : Hid _ := ta
    have HA' : Hid _ := ba
    have HB' : Hid _ := bb
    clear ta ba bb HTA HA HB
    refine (C2.out _).out.mono ?_
    rintro e w1 ⟨ao, cap, rfl, hin, s1⟩
    have HT1 : Hid (Touch w w1 []) := HTA'.out.trans s1 (by simp)
    obtain ⟨a0, a1, a2⟩ := (HA'.out.touch s1 (by simp)).cells
    obtain ⟨b0, b1, b2⟩ := (HB'.out.touch s1 (by simp)).cells
    have f0 := (HA'.out.touch s1 (by simp)).fr 0
    have f1 := (HA'.out.touch s1 (by simp)).fr 1
    have f2 := (HA'.out.touch s1 (by simp)).fr 2
    have HA1 : Hid _ := HA'.out.touch s1 (by simp)
    have HL : Hid (oneL 2 t u = bodyL (downB t)) := by show _ = _; unfold oneL; simp
    have HIN : Hid (∀ W', Touch w1 W' [w.heap.size] → InsIn W' ao (bodyL (downB t)).length cap (bodyL (downB t))) := by
      have h1 := one_first 2 t u
      rw [HL.out] at h1
      exact fun W' t => box_apart HA1.out hin h1.1 (h1.2 h1.1) t
    clear hin s1 C0 C1 C2 C3
    generalize bodyL (downB t) = L at *
    obtain ⟨n9, hn9⟩ : ∃ n9, n9 = L.length := ⟨_, rfl⟩
    have HN9 : Hid _ := hn9
    rw [← hn9]
    clear hn9
    go_wp2_with fail
    go_region
    all_goals
      go_wp2
      have hb2 := ((HA1.out.set0 3).set1 u).set2 0
      obtain ⟨k0', k1', k2'⟩ := hb2.cells
      refine bodyPost_ret (v := .tuple #[.slice ao n9 cap, .agg #[.int .u8 3, .int .i64 u, .int .u64 0], .int .i64 0]) (by simp [results, Try.results17, go_sem, k0', k1', k2']) rfl ?_
      have ht : Touch w1 (((w1.setCell ⟨w.heap.size, 0, none⟩ (.int .u8 3)).setCell ⟨w.heap.size, 1, none⟩ (.int .i64 u)).setCell ⟨w.heap.size, 2, none⟩ (.int .u64 0)) [w.heap.size] := (((Touch.refl _ _).setCell (.inl (by simp)) _).setCell (.inl (by simp)) _).setCell (.inl (by simp)) _
      unfold OneP
      rw [HL.out]
      exact ⟨ao, cap, by rw [HN9.out]; rfl, HIN.out _ ht.drew, (HT1.out.trans ht (fun x hx => .inr (by simp at hx; omega))).drew⟩
  · go_wp2_with fail
    have ta := HTA.out 4
    have ba := HA.out 4
    have bb := HB.out 4
    generalize ((w.alloc (.cells #[.int .u8 0, .int .i64 0, .int .u64 0] 35)).alloc (.cells #[.int .u8 4, .int .i64 u, .int .u64 0] 35)) = Q at *
    have HTA' : Hid _ := ta
    have HA' : Hid _ := ba
    have HB' : Hid _ := bb
    clear ta ba bb HTA HA HB
    refine (C3.out _).out.mono ?_
    rintro e w1 ⟨ao, cap, rfl, hin, s1⟩
    have HT1 : Hid (Touch w w1 []) := HTA'.out.trans s1 (by simp)
    obtain ⟨a0, a1, a2⟩ := (HA'.out.touch s1 (by simp)).cells
    obtain ⟨b0, b1, b2⟩ := (HB'.out.touch s1 (by simp)).cells
    have f0 := (HA'.out.touch s1 (by simp)).fr 0
    have f1 := (HA'.out.touch s1 (by simp)).fr 1
    have f2 := (HA'.out.touch s1 (by simp)).fr 2
    have HA1 : Hid _ := HA'.out.touch s1 (by simp)
    have HL : Hid (oneL 3 t u = bodyL (upB t)) := by show _ = _; unfold oneL; simp
    have HIN : Hid (∀ W', Touch w1 W' [w.heap.size] → InsIn W' ao (bodyL (upB t)).length cap (bodyL (upB t))) := by
      have h1 := one_first 3 t u
      rw [HL.out] at h1
      exact fun W' t => box_apart HA1.out hin h1.1 (h1.2 h1.1) t
    clear hin s1 C0 C1 C2 C3
    generalize bodyL (upB t) = L at *
    obtain ⟨n9, hn9⟩ : ∃ n9, n9 = L.length := ⟨_, rfl⟩
    have HN9 : Hid _ := hn9
    rw [← hn9]
    clear hn9
    go_wp2_with fail
    go_region
    all_goals
      go_wp2
      have hb2 := ((HA1.out.set0 4).set1 u).set2 0
      obtain ⟨k0', k1', k2'⟩ := hb2.cells
      refine bodyPost_ret (v := .tuple #[.slice ao n9 cap, .agg #[.int .u8 4, .int .i64 u, .int .u64 0], .int .i64 0]) (by simp [results, Try.results17, go_sem, k0', k1', k2']) rfl ?_
      have ht : Touch w1 (((w1.setCell ⟨w.heap.size, 0, none⟩ (.int .u8 4)).setCell ⟨w.heap.size, 1, none⟩ (.int .i64 u)).setCell ⟨w.heap.size, 2, none⟩ (.int .u64 0)) [w.heap.size] := (((Touch.refl _ _).setCell (.inl (by simp)) _).setCell (.inl (by simp)) _).setCell (.inl (by simp)) _
      unfold OneP
      rw [HL.out]
      exact ⟨ao, cap, by rw [HN9.out]; rfl, HIN.out _ ht.drew, (HT1.out.trans ht (fun x hx => .inr (by simp at hx; omega))).drew⟩

end Go.Proofs.Ytphjaekcfbalkaa

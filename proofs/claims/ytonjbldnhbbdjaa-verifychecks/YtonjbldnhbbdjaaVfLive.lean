/-
  package verify: Blocks BY ITS CONTRACT; few, live OF THE LAWS.
-/
import Derived.Test.YtonjbldnhbbdjaaVfCheck
namespace Go.Proofs.Ytonjbldnhbbdjaa
set_option linter.unusedVariables false
set_option linter.unusedSimpArgs false
open Go.RowKit
attribute [local go_sem] Oper.semAt_some

/-- One number more. -/
theorem int_pushV {w : World} {B : Nat} {v : Value} {xs : List Int} (h : intOwnV w B v xs) (hl : xs.length ≤ 1000) (hB : B ≤ w.heap.size) (x : Int) (ty : TypeId) :
    ∃ ao' cap' w', (Builtin.append_ #[29, 29] ty #[v, .slice (some ⟨w.heap.size, 0, none⟩) 1 1]).run Try.prog (w.alloc (.cells #[.int .i64 x] 3)) = .ok (.slice ao' (xs.length + 1) cap') w' ∧ intOwnV w' B (.slice ao' (xs.length + 1) cap') (xs ++ [x]) ∧ Touch w w' v.ownBlock.toList := by
  obtain ⟨i0, hi, hz0, hz1, hz2⟩ := info_partsV Try.info_intV
  obtain ⟨v', w', h1, h2, h3, h4, h5⟩ := run_append_own_at (P := Try.prog) (w.alloc (.cells #[.int .i64 x] 3)) B 29 ty 3 i0 _ 1 8 Try.underlying29 hi hz0 hz1 hz2 rfl (by decide) v xs.length _ (h.alloc _) ⟨w.heap.size, 0, none⟩ 1 1 [.int .i64 x] rfl (World.news_of_block (cs := #[.int .i64 x]) (t := 3) (fr := (0, 0)) (heap_alloc_new w _)) (by simp [Value.oneCell']) (by unfold maxLen; omega) (by omega) (by simp; omega)
  have h2' : intOwnV w' B v' (xs ++ [x]) := by
    show w'.ownsRow _ _ _ _ _ _
    rw [List.length_append, List.map_append]
    exact h2
  obtain ⟨ao', cap', rfl⟩ := owns_slice h2
  exact ⟨ao', cap', w', h1, h2', ((Touch.refl w _).alloc _).grown h3 (fun k hk => .inl (by simp [hk]))⟩

def blkV (l : List InsD) (k : Nat) : List Int := ((List.range k).filter fun j => decide (opAt l j = 21)).map Int.ofNat
theorem blk_succ (l : List InsD) (k : Nat) : blkV l (k + 1) = if opAt l k = 21 then blkV l k ++ [(k : Int)] else blkV l k := by
  unfold blkV
  rw [List.range_succ, List.filter_append, List.map_append]
  by_cases h : opAt l k = 21 <;> simp [h]
theorem blk_len (l : List InsD) (k : Nat) : (blkV l k).length ≤ k := by
  unfold blkV
  rw [List.length_map]
  exact Nat.le_trans (List.length_filter_le _ _) (by simp)

set_option maxRecDepth 100000 in
set_option maxHeartbeats 1000000 in
theorem blocks_any {w : World} {ao : Option Addr} {N cap : Nat} {l : List InsD} (hN : N = l.length) (hn : N ≤ 900) (hr : InsV w (.slice ao N cap) l) :
    Calls Try.prog 16 #[.slice ao N cap] w fun e w' => ∃ v, e = .returned v ∧ intOwnV w' w.heap.size v (blkV l l.length) ∧ Touch w w' [] := by
  have HR : Hid _ := hr
  have HN : Hid _ := hN
  rw [← hN]
  clear hr hN
  go_enter Try.func16, Try.ntmps16
  go_wp2_with fail
  go_loopw [3, 8] (fun v i wr => ∃ k : Nat, i = .int .i64 k ∧ k ≤ N ∧ intOwnV wr w.heap.size v (blkV l k) ∧ Touch w wr []) (fun _ i _ => N - (intOf i).toNat)
  case atStart => exact ⟨0, rfl, Nat.zero_le _, World.ownsRow_nil _ _ _ _, Touch.refl _ _⟩
  case round =>
    obtain ⟨k, rfl, hk, hrow, hT⟩ := hrel
    obtain ⟨av, cv, rfl⟩ := owns_slice hrow
    have HT : Hid _ := hT
    have HROW : Hid _ := hrow
    have hll := blk_len l k
    have hsz := hT.size
    by_cases hlt : k < N
    · have hr0 := SRow.keep HR.out hT (by simp)
      rw [HN.out] at hr0
      have hkl : k < l.length := by rw [← HN.out]; exact hlt
      obtain ⟨g, off, rfl, hg, c0, c1, c2⟩ := insv_at hr0 k hkl
      have hkN : (k : Int) < N := by omega
      have hk0 : (0 : Int) ≤ k := by omega
      have hkw : IntKind.i64.wrap ((k : Int) + 1) = (k : Int) + 1 := by rw [IntKind.wrap_i64]; omega
      have HS : Hid _ := blk_succ l k
      generalize hvl : l[k].val = vl at *
      generalize hop : opAt l k = o at *
      generalize argAt l k = a at *
      have tB : Touch wr (wr.alloc (.cells #[.int .u8 o, .int .i64 a, .int .u64 vl] 42)) [] := (Touch.refl wr []).alloc _
      have eB : (wr.alloc (.cells #[.int .u8 o, .int .i64 a, .int .u64 vl] 42)).heap[wr.heap.size]? = some (.cells #[.int .u8 o, .int .i64 a, .int .u64 vl] 42 (0, 0)) := heap_alloc_new wr _
      have q0 : (wr.alloc (.cells #[.int .u8 o, .int .i64 a, .int .u64 vl] 42)).cell? ⟨wr.heap.size, 0, none⟩ = some (.int .u8 o) := by unfold World.cell?; rw [eB]; rfl
      have hrB : intOwnV (wr.alloc (.cells #[.int .u8 o, .int .i64 a, .int .u64 vl] 42)) w.heap.size (.slice av (blkV l k).length cv) (blkV l k) := ownsRow_touch hrow tB (by simp)
      have hlo : ∀ x, (Value.slice av (blkV l k).length cv).ownBlock = some x → w.heap.size ≤ x := fun x hx => (World.ownsRow.lt hrow x hx).1
      generalize hM : (blkV l k).length = M at *
      have hQs : w.heap.size ≤ (wr.alloc (.cells #[.int .u8 o, .int .i64 a, .int .u64 vl] 42)).heap.size := by simp; omega
      generalize hQ : wr.alloc (.cells #[.int .u8 o, .int .i64 a, .int .u64 vl] 42) = Q at *
      have HTB : Hid _ := tB
      by_cases ho : o = 21
      · obtain ⟨ao', cap', w', hrun, hown, ht⟩ := int_pushV hrB (by omega) hQs (k : Int) 29
        rw [hM] at hrun hown
        have HO : Hid _ := hown
        have HT2 : Hid (Touch w w' []) := (HT.out.trans tB (by simp)).trans ht (fun x hx => .inr (hlo x (by simpa using hx)))
        have HS2 : Hid (blkV l (k + 1) = blkV l k ++ [(k : Int)]) := by show _ = _; rw [HS.out, if_pos ho]
        subst ho
        clear hr0 hT hrow tB eB hrB hown ht hvl hop HS hlo hQs
        go_wp2_with (at_builtin; refine Lib.wpList_append_run _ rfl _ _ _ _ rfl _ _ rfl rfl _ _ hrun ?_)
        go_wp2
        go_roundw
        case rel => exact ⟨k + 1, rfl, by omega, by rw [HS2.out]; exact HO.out, HT2.out⟩
        case measure => simp [intOf]; omega
      · have ho' : (o == 21) = false := by simpa using ho
        have HS2 : Hid (blkV l (k + 1) = blkV l k) := by show _ = _; rw [HS.out, if_neg ho]
        have HRB : Hid _ := hrB
        clear hr0 hT hrow tB eB hrB hvl hop HS hlo hQs
        go_wp2
        go_roundw
        case rel => exact ⟨k + 1, rfl, by omega, by rw [HS2.out]; exact HRB.out, HT.out.trans HTB.out (by simp)⟩
        case measure => simp [intOf]; omega
    · obtain rfl : k = N := by omega
      clear hT hrow
      go_wp2
      go_ret
      exact ⟨_, rfl, HROW.out, HT.out⟩

/-- The first ones of instructions that can be read. -/
theorem insv_take {w : World} {ao : Option Addr} {cap : Nat} {l : List InsD} (h : InsV w (.slice ao l.length cap) l) (n c : Nat) (hn : n ≤ l.length) : InsV w (.slice ao n c) (l.take n) := by
  refine ⟨ao, c, by rw [List.length_take, Nat.min_eq_left hn], fun hne => ?_⟩
  have hpos : 0 < n := by
    rcases Nat.eq_zero_or_pos n with h0 | h0
    · subst h0; simp at hne
    · exact h0
  obtain ⟨g, off, e, hg, _⟩ := SRow.at h 0 (by omega)
  refine ⟨g, off, e, hg, fun k hk j hj => ?_⟩
  rw [List.length_take] at hk
  obtain ⟨g', off', e', _, hc⟩ := SRow.at h k (by omega)
  rw [e] at e'
  simp only [Option.some.injEq, Addr.mk.injEq] at e'
  obtain ⟨rfl, rfl, _⟩ := e'
  rw [hc j hj, List.getElem_take]

set_option maxRecDepth 100000 in
theorem vfew_any {w : World} {ao : Option Addr} {cap : Nat} {l : List InsD} (hr : InsV w (.slice ao l.length cap) l) (hc : l.length ≤ cap) (hcm : cap ≤ 9223372036854775807) :
    Calls Try.prog 8 #[.slice ao l.length cap] w fun e w' => e = .returned (.slice ao (l.take 65).length cap) ∧ w = w' := by
  by_cases h : 65 < l.length
  · have e : (l.take 65).length = 65 := by rw [List.length_take]; omega
    have h1 : (65 : Int) < l.length := by omega
    have h2 : (65 : Int) ≤ cap := by omega
    rw [e]
    generalize l.length = n at *
    clear hr e
    go_enter Try.func8, Try.ntmps8
    go_wp2
    go_ret
    exact ⟨rfl, rfl⟩
  · have e : (l.take 65).length = l.length := by rw [List.length_take]; omega
    have h1 : ¬ (65 : Int) < l.length := by omega
    rw [e]
    generalize l.length = n at *
    clear hr e
    go_enter Try.func8, Try.ntmps8
    go_wp2
    go_ret
    exact ⟨rfl, rfl⟩

end Go.Proofs.Ytonjbldnhbbdjaa

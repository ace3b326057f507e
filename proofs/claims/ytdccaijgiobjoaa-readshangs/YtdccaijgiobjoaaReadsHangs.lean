/-
  ReadsHangs, WALKED.
-/
import Derived.Test.YtdccaijgiobjoaaReadsLaws
namespace Go.Proofs.Ytdccaijgiobjoaa
set_option linter.unusedVariables false
set_option linter.unusedSimpArgs false
open Go.RowKit Go.Maps

/-- A heap, with another one's values where nothing was read. -/
def mixV (L : List EntD) (h o : List Int) (t : Nat) : Int := if hasT L t = false ∧ t < o.length then o.getD t 0 else h.getD t 0
def mixP (L : List EntD) (h o : List Int) (n : Nat) : List Int := (List.range n).map (mixV L h o)

theorem mixP_snoc (L : List EntD) (h o : List Int) (n : Nat) : mixP L h o (n + 1) = mixP L h o n ++ [mixV L h o n] := by
  unfold mixP
  rw [List.range_succ, List.map_append]; rfl

theorem broken_any_eq (h : List Int) (L : List EntD) : (brokenE h L).2 = L.any (badE h) := by
  unfold brokenE
  induction L with
  | nil => rfl
  | cons e l ih =>
    cases hb : badE h e
    · simp only [List.find?, hb, List.any_cons, Bool.false_or]; exact ih
    · simp [List.find?, hb]

theorem mix_same {L : List EntD} (hL : SetL L) (h o : List Int) : (brokenE (mixP L h o (min h.length 12)) L).2 = (brokenE h L).2 := by
  rw [broken_any_eq, broken_any_eq]
  have key : ∀ e ∈ L, badE (mixP L h o (min h.length 12)) e = badE h e := fun e he => by
    have hr := (hL.ok e he).range
    have hh : hasT L e.tvar = true := by
      unfold hasT
      rw [List.any_eq_true]
      exact ⟨e, he, by simp⟩
    unfold badE
    have hlen : (mixP L h o (min h.length 12)).length = min h.length 12 := by simp [mixP]
    rw [hlen]
    by_cases hlt : e.tvar < h.length
    · have h1 : e.tvar.toNat < min h.length 12 := by omega
      have h2 : e.tvar.toNat < h.length := by omega
      rw [decide_eq_false (by omega), decide_eq_false (by omega)]
      congr 3
      have hg : (mixP L h o (min h.length 12)).getD e.tvar.toNat 0 = mixV L h o e.tvar.toNat := by
        simp only [List.getD, mixP, List.getElem?_map, List.getElem?_range h1, Option.map_some, Option.getD_some]
      rw [hg]
      unfold mixV
      rw [if_neg]
      rw [Int.toNat_of_nonneg hr.1, hh]
      simp
    · rw [decide_eq_true (by omega), decide_eq_true (by omega)]
      rfl
  rw [Bool.eq_iff_iff, List.any_eq_true, List.any_eq_true]
  constructor
  · rintro ⟨x, hx, hb⟩; exact ⟨x, hx, by rw [← key x hx]; exact hb⟩
  · rintro ⟨x, hx, hb⟩; exact ⟨x, hx, by rw [key x hx]; exact hb⟩

theorem ValRow.of_owns {w : World} {B n : Nat} {v : Value} {l : List Int} (hn : n = l.length) (h : w.ownsRow B 34 1 v n (l.map (Value.int .u64))) : ValRow w v l := by
  subst hn
  rcases h.2 with ⟨rfl, h0⟩ | ⟨g, cap, cur, rfl, hB, hg, rest⟩
  · exact ⟨none, 0, by rw [h0], fun hn => absurd (List.eq_nil_of_length_eq_zero h0) hn⟩
  · refine ⟨some ⟨g, 0, none⟩, cap, rfl, fun _ => ⟨g, 0, rfl, lt_of_heap hg, fun k hk j hj => ?_⟩⟩
    have hj0 : j = 0 := by omega
    subst hj0
    have hc := h.cells (g := g) rfl k (.int .u64 l[k]) (by simp [hk])
    rw [Addr.add_lit] at hc
    simpa using hc

theorem Try.info_val : (Try.prog.info? 34).map (fun i => (i.zero, i.size, i.bytes)) = some (some (.int .u64 0), 1, 8) := by kernel_rfl

set_option maxRecDepth 100000 in
set_option maxHeartbeats 1600000 in
theorem ehangs_any (ao : Option Addr) (cap : Nat) (l : List EntD) (bo : Option Addr) (cap2 : Nat) (hp' : List Int) (co : Option Addr) (cap3 : Nat) (ot : List Int) (w : World) (hr : EntRow w (.slice ao l.length cap) l) (hl : l.length ≤ maxLen) (hwf : ∀ e ∈ l, e.Wf)
    (hr2 : ValRow w (.slice bo hp'.length cap2) hp') (hl2 : hp'.length ≤ maxLen) (hr3 : ValRow w (.slice co ot.length cap3) ot) (hl3 : ot.length ≤ maxLen) :
    Calls Try.prog 5 #[.slice ao l.length cap, .slice bo hp'.length cap2, .slice co ot.length cap3] w (TrueIn w) := by
  have hp := eplay_any ao cap l w hr hl hwf
  unfold EPlayed at hp
  generalize runE [] (l.take 30) = L at *
  clear hr hl hwf
  go_enter Try.func5, Try.ntmps5
  go_wp2_with fail
  refine hp.mono ?_
  rintro e w1 ⟨b, m, vl, rb, vr, rfl, hP, t1⟩
  clear hp
  go_wp2_with fail
  refine (elive_any _).mono ?_
  rintro e w2 ⟨rfl, t2⟩
  have T2 := t1.trans t2 (by simp)
  have P2 := hP.keep t2
  clear t1 t2 hP
  obtain ⟨i0, hi, hz0, hz1, hz2⟩ := info_parts Try.info_val
  unfold maxLen at hl2 hl3
  obtain ⟨M, hM⟩ : ∃ M, M = hp'.length := ⟨_, rfl⟩
  obtain ⟨N, hN⟩ : ∃ N, N = ot.length := ⟨_, rfl⟩
  have HM : Hid (M = hp'.length) := hM
  have HN : Hid (N = ot.length) := hN
  have hlM : M ≤ 2 ^ 63 - 1 := by omega
  have hlN : N ≤ 2 ^ 63 - 1 := by omega
  rw [← hM, ← hN]
  have hr2' := SRow.keep hr2 T2 (by simp)
  have hr3' := SRow.keep hr3 T2 (by simp)
  have HP : Hid _ := P2
  have HT2 : Hid _ := T2
  clear hM hN hr2 hr3 P2 T2
  go_wp2_with fail
  go_loopw [10, 11] (fun v i wr => ∃ k : Nat, i = .int .i64 k ∧ k ≤ M ∧ k ≤ 12 ∧ wr.ownsRow w2.heap.size 34 1 v k ((mixP L hp' ot k).map (Value.int .u64)) ∧ Touch w2 wr []) (fun _ i _ => 12 - (intOf i).toNat)
  case atStart => exact ⟨0, rfl, Nat.zero_le _, by omega, World.ownsRow_nil _ _ _ _, Touch.refl _ _⟩
  case round =>
    obtain ⟨k, rfl, hk, hk12, hrow, hT⟩ := hrel
    have HT : Hid _ := hT
    by_cases hlt : k < M ∧ k < 12
    · obtain ⟨hlt, hlt6⟩ := hlt
      have hlt' : (k : Int) < M := by omega
      have hlt6' : (k : Int) < 12 := by omega
      have hkl : k < hp'.length := by rw [← HM.out]; exact hlt
      obtain ⟨g, off, rfl, hg, V0⟩ := ValRow.one hr2' k hkl
      have v0 := (hT.cell (p := ⟨g, off + k, none⟩) hg (by simp)).trans V0
      have hsn := mixP_snoc L hp' ot k
      have hgt := get_any ((HP.out.keep hT).s) k (by omega)
      obtain ⟨z, hz⟩ : ∃ z, z = (getT L k).getD ⟨0, 0, 0⟩ := ⟨_, rfl⟩
      rw [show entO (getT L k) = .agg #[.int .i64 z.tvar, .int .u64 z.val, .int .u64 z.ver] by rw [hz]; rfl] at hgt
      have hx : hp'.getD k 0 = hp'[k] := by simp [List.getD, hkl]
      obtain ⟨x, hxe⟩ : ∃ x, x = hp'[k] := ⟨_, rfl⟩
      rw [← hxe] at v0 hx
      have hts := hT.size
      clear hz hT V0 hxe
      by_cases hc : hasT L k = false ∧ k < N
      · obtain ⟨hc1, hc2⟩ := hc
        have hc2' : (k : Int) < N := by omega
        have hko : k < ot.length := by rw [← HN.out]; exact hc2
        obtain ⟨g3, off3, rfl, hg3, V3⟩ := ValRow.one hr3' k hko
        have v3 := (HT.out.cell (p := ⟨g3, off3 + k, none⟩) hg3 (by simp)).trans V3
        have hmv : mixV L hp' ot k = ot[k] := by unfold mixV; rw [if_pos ⟨hc1, hko⟩]; simp [List.getD, hko]
        obtain ⟨y, hye⟩ : ∃ y, y = ot[k] := ⟨_, rfl⟩
        rw [← hye] at v3 hmv
        rw [hmv] at hsn
        rw [hc1] at hgt
        have HSN : Hid _ := hsn
        clear hsn hmv hye V3 hc1
        go_wp2_with fail
        refine hgt.mono ?_
        rintro e w3 ⟨rfl, t3⟩
        clear hgt
        have T3 := HT.out.trans t3 (by simp)
        have hrow3 : (w3.alloc (.cells #[.int .i64 z.tvar, .int .u64 z.val, .int .u64 z.ver] 36)).ownsRow w2.heap.size 34 1 _ k _ := (ownsRow_touch hrow t3 (by simp)).alloc _
        have v3' : (w3.alloc (.cells #[.int .i64 z.tvar, .int .u64 z.val, .int .u64 z.ver] 36)).cell? ⟨g3, off3 + k, none⟩ = some (.int .u64 y) := cell_alloc ((t3.cell (p := ⟨g3, off3 + k, none⟩) (Nat.lt_of_lt_of_le hg3 hts) (by simp)).trans v3) _
        have hs3 := T3.size
        clear hrow v0 v3
        go_wp2_with (at_builtin; refine wpList_append_own_at _ rfl _ _ 23 rfl w2.heap.size 34 i0 (.int .u64 0) 1 8 Try.underlying23 hi hz0 hz1 hz2 rfl (by decide) _ _ _ rfl (hrow3.alloc _) ⟨w3.heap.size + 1, 0, none⟩ 1 1 [.int .u64 y] rfl rfl (by have := cell_one_new (w3.alloc (.cells #[.int .i64 z.tvar, .int .u64 z.val, .int .u64 z.ver] 36)) (.int .u64 y) 34; simpa using this) (by simp [Value.oneCell']) (by unfold maxLen; omega) (by omega) (by simp; omega) ?_)
        intro v' w4 hown' hgrow _ _
        have t4 : Touch w2 w4 [] := ((T3.alloc _).alloc _).grown hgrow (fun q hq => .inr (hrow3.lt q hq).1)
        have HR : Hid (w4.ownsRow w2.heap.size 34 1 _ _ _) := hown'
        clear hown' hgrow hrow3 v3'
        go_wp2
        go_roundw
        case rel => exact ⟨k + 1, by go_num, by omega, by omega, by rw [HSN.out, List.map_append]; exact HR.out, t4⟩
        case measure => simp [intOf]; omega
      · have hmv : mixV L hp' ot k = x := by unfold mixV; rw [if_neg (by rw [← HN.out]; exact hc), hx]
        rw [hmv] at hsn
        have HSN : Hid _ := hsn
        clear hsn hmv
        cases hh : hasT L k
        · have hc2' : ¬ (k : Int) < N := fun h => hc ⟨hh, by omega⟩
          rw [hh] at hgt
          clear hc hh
          go_wp2_with fail
          refine hgt.mono ?_
          rintro e w3 ⟨rfl, t3⟩
          clear hgt
          have T3 := HT.out.trans t3 (by simp)
          have hrow3 : (w3.alloc (.cells #[.int .i64 z.tvar, .int .u64 z.val, .int .u64 z.ver] 36)).ownsRow w2.heap.size 34 1 _ k _ := (ownsRow_touch hrow t3 (by simp)).alloc _
          have hs3 := T3.size
          clear hrow v0
          go_wp2_with (at_builtin; refine wpList_append_own_at _ rfl _ _ 23 rfl w2.heap.size 34 i0 (.int .u64 0) 1 8 Try.underlying23 hi hz0 hz1 hz2 rfl (by decide) _ _ _ rfl (hrow3.alloc _) ⟨w3.heap.size + 1, 0, none⟩ 1 1 [.int .u64 x] rfl rfl (by have := cell_one_new (w3.alloc (.cells #[.int .i64 z.tvar, .int .u64 z.val, .int .u64 z.ver] 36)) (.int .u64 x) 34; simpa using this) (by simp [Value.oneCell']) (by unfold maxLen; omega) (by omega) (by simp; omega) ?_)
          intro v' w4 hown' hgrow _ _
          have t4 : Touch w2 w4 [] := ((T3.alloc _).alloc _).grown hgrow (fun q hq => .inr (hrow3.lt q hq).1)
          have HR : Hid (w4.ownsRow w2.heap.size 34 1 _ _ _) := hown'
          clear hown' hgrow hrow3
          go_wp2
          go_roundw
          case rel => exact ⟨k + 1, by go_num, by omega, by omega, by rw [HSN.out, List.map_append]; exact HR.out, t4⟩
          case measure => simp [intOf]; omega
        · rw [hh] at hgt
          clear hc hh
          go_wp2_with fail
          refine hgt.mono ?_
          rintro e w3 ⟨rfl, t3⟩
          clear hgt
          have T3 := HT.out.trans t3 (by simp)
          have hrow3 : (w3.alloc (.cells #[.int .i64 z.tvar, .int .u64 z.val, .int .u64 z.ver] 36)).ownsRow w2.heap.size 34 1 _ k _ := (ownsRow_touch hrow t3 (by simp)).alloc _
          have hs3 := T3.size
          clear hrow v0
          go_wp2_with (at_builtin; refine wpList_append_own_at _ rfl _ _ 23 rfl w2.heap.size 34 i0 (.int .u64 0) 1 8 Try.underlying23 hi hz0 hz1 hz2 rfl (by decide) _ _ _ rfl (hrow3.alloc _) ⟨w3.heap.size + 1, 0, none⟩ 1 1 [.int .u64 x] rfl rfl (by have := cell_one_new (w3.alloc (.cells #[.int .i64 z.tvar, .int .u64 z.val, .int .u64 z.ver] 36)) (.int .u64 x) 34; simpa using this) (by simp [Value.oneCell']) (by unfold maxLen; omega) (by omega) (by simp; omega) ?_)
          intro v' w4 hown' hgrow _ _
          have t4 : Touch w2 w4 [] := ((T3.alloc _).alloc _).grown hgrow (fun q hq => .inr (hrow3.lt q hq).1)
          have HR : Hid (w4.ownsRow w2.heap.size 34 1 _ _ _) := hown'
          clear hown' hgrow hrow3
          go_wp2
          go_roundw
          case rel => exact ⟨k + 1, by go_num, by omega, by omega, by rw [HSN.out, List.map_append]; exact HR.out, t4⟩
          case measure => simp [intOf]; omega
    · have hkm : k = min M 12 := by omega
      have hmix := mix_same HP.out.s.sl hp' ot
      rw [← HM.out, ← hkm] at hmix
      have hv1 := valid_any ((HP.out.keep hT).s)
      have hlm : (mixP L hp' ot k).length = k := by simp [mixP]
      have hvr := ValRow.of_owns hlm.symm hrow
      obtain ⟨ao', cp', rfl⟩ := RdSet.owns_form hrow
      have h1 := hv1 ao' cp' (mixP L hp' ot k) (by rw [hlm]; exact hvr) (by rw [hlm]; unfold maxLen; omega)
      rw [hmix, hlm] at h1
      have h2 := fun (X : World) (tX : Touch w2 X []) => valid_any ((HP.out.keep tX).s) bo cap2 hp' (SRow.keep hr2' tX (by simp)) hl2
      rw [← HM.out] at h2
      generalize brokenE hp' L = R at *
      have H2 : Hid _ := h2
      clear hrow hvr hv1 hlm hmix h2 hr2' hr3'
      by_cases hlt1 : (k : Int) < M
      · have hlt2 : ¬ (k : Int) < 12 := by omega
        clear hlt hkm
        go_wp2_with fail
        refine h1.mono ?_
        rintro e w3 ⟨rfl, t3⟩
        clear h1
        have T3 := HT.out.trans t3 (by simp)
        go_wp2_with fail
        refine (H2.out w3 T3).mono ?_
        rintro e w4 ⟨rfl, t4⟩
        go_wp2
        go_ret
        exact ⟨by simp, (HT2.out.trans T3 (by simp)).trans t4 (by simp)⟩
      · clear hlt hkm
        go_wp2_with fail
        refine h1.mono ?_
        rintro e w3 ⟨rfl, t3⟩
        clear h1
        have T3 := HT.out.trans t3 (by simp)
        go_wp2_with fail
        refine (H2.out w3 T3).mono ?_
        rintro e w4 ⟨rfl, t4⟩
        go_wp2
        go_ret
        exact ⟨by simp, (HT2.out.trans T3 (by simp)).trans t4 (by simp)⟩

end Go.Proofs.Ytdccaijgiobjoaa

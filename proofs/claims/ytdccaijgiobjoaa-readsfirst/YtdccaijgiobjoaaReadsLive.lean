/-
  live OF THE STATEMENTS OF PACKAGE reads, AND WHAT THE DOCUMENT CALLS BROKEN.
-/
import Derived.Test.YtdccaijgiobjoaaReadsPlay
namespace Go.Proofs.Ytdccaijgiobjoaa
set_option linter.unusedVariables false
set_option linter.unusedSimpArgs false
open Go.RowKit Go.Maps

def ent1 : EntD := ⟨2, 4607182418800017408, 7⟩
theorem wf_ent1 : ent1.Wf := ⟨by decide, ⟨by decide, by decide⟩, ⟨by decide, by decide⟩⟩
theorem wf_ent2 : EntD.Wf ⟨2, 0, 0⟩ := ⟨by decide, ⟨by decide, by decide⟩, ⟨by decide, by decide⟩⟩
theorem add_ent1 : addE [] ent1 = (0, [ent1]) := by kernel_rfl
theorem add_ent2 : addE [ent1] ⟨2, 0, 0⟩ = (0, [ent1]) := by kernel_rfl
theorem broken_ent1 : brokenE [0, 0, 4607182418800017408] [ent1] = (0, false) := by decide +kernel
theorem broken_ent2 : brokenE [] [ent1] = (2, true) := by decide +kernel

theorem valRow_nil (w : World) : ValRow w (.slice none ([] : List Int).length 0) [] := ⟨none, 0, rfl, fun h => absurd rfl h⟩

set_option maxRecDepth 100000 in
set_option maxHeartbeats 1600000 in
theorem elive_any (w : World) : Calls Try.prog 7 #[] w fun x w' => x = .returned (.bool true) ∧ Touch w w' [] := by
  have hg1 : getT [ent1] 2 = some ent1 := by kernel_rfl
  have hh1 : hasT [ent1] 2 = true := by decide +kernel
  have hn1 : newE [ent1] = 7 := by decide +kernel
  go_enter Try.func7, Try.ntmps7
  go_wp2_with fail
  refine (rdnew_any w).mono ?_
  rintro e w1 ⟨b, m, rfl, s1, t1⟩
  have ha := add_any s1 t1.size ent1 wf_ent1
  rw [add_ent1] at ha
  go_wp2_with fail
  refine ha.mono ?_
  rintro e w2 ⟨vl2, rfl, s2, t2, f2⟩
  have ht2 : Touch w w2 [] := t1.trans t2 (fun q hq => .inr (s1.foot_lt q hq).1)
  clear ha
  have hb := add_any s2 ht2.size ⟨2, 0, 0⟩ wf_ent2
  simp only at hb
  rw [add_ent2] at hb
  go_wp2_with fail
  refine hb.mono ?_
  rintro e w3 ⟨vl3, rfl, s3, t3, f3⟩
  have ht3 : Touch w w3 [] := ht2.trans t3 (fun q hq => .inr (s2.foot_lt q hq).1)
  clear hb t1 t2 t3 f2 f3 s1 s2 ht2
  simp only at s3
  have hc := get_any s3 2 (by decide)
  rw [hg1, hh1] at hc
  change Calls _ _ _ w3 fun x w' => x = .returned (.tuple #[.agg #[.int .i64 2, .int .u64 4607182418800017408, .int .u64 7], .bool true]) ∧ Touch w3 w' [] at hc
  go_wp2_with fail
  refine hc.mono ?_
  rintro e w4 ⟨rfl, t4⟩
  clear hc
  have s4 := s3.keep t4 (by simp)
  have ht4 := ht3.trans t4 (by simp)
  clear t4 s3 ht3
  go_wp2_with fail
  have ta : Touch w4 (w4.alloc (.cells #[.int .i64 2, .int .u64 4607182418800017408, .int .u64 7] 36)) [] := (Touch.refl w4 []).alloc _
  have hd := newest_any (s4.keep ta (by simp))
  rw [hn1] at hd
  refine hd.mono ?_
  rintro e w5 ⟨rfl, t5⟩
  clear hd
  have s5 := (s4.keep ta (by simp)).keep t5 (by simp)
  have ht5 := (ht4.trans ta (by simp)).trans t5 (by simp)
  clear t5 ta s4 ht4
  go_wp2_with fail
  have tb : Touch w5 (w5.alloc (.cells #[.int .u64 0, .int .u64 0, .int .u64 4607182418800017408] 34)) [] := (Touch.refl w5 []).alloc _
  have hv := valid_any (s5.keep tb (by simp)) (some ⟨w5.heap.size, 0, none⟩) 3 [0, 0, 4607182418800017408] (by
    refine ⟨_, 3, rfl, fun _ => ⟨w5.heap.size, 0, rfl, by simp, fun k hk j hj => ?_⟩⟩
    have hj0 : j = 0 := by omega
    subst hj0
    simp only [World.cell?, heap_alloc_new]
    have h3 : k = 0 ∨ k = 1 ∨ k = 2 := by simp at hk; omega
    rcases h3 with rfl | rfl | rfl <;> rfl) (by decide)
  rw [broken_ent1] at hv
  refine hv.mono ?_
  rintro e w6 ⟨rfl, t6⟩
  clear hv
  have s6 := (s5.keep tb (by simp)).keep t6 (by simp)
  have ht6 := (ht5.trans tb (by simp)).trans t6 (by simp)
  clear t6 tb s5 ht5
  have hv2 := valid_any s6 none 0 [] (valRow_nil w6) (by decide)
  rw [broken_ent2] at hv2
  go_wp2_with fail
  refine hv2.mono ?_
  rintro e w7 ⟨rfl, t7⟩
  clear hv2
  go_wp2
  go_ret
  exact ⟨rfl, ht6.trans t7 (by simp)⟩

set_option maxRecDepth 100000 in
set_option maxHeartbeats 1600000 in
theorem rbroken_any {B : Nat} {w : World} {b : Nat} {vl : Value} {L : List EntD} (h : RfSet B w b vl L) (ao : Option Addr) (cap : Nat) (l : List Int) (hl : ValRow w (.slice ao l.length cap) l) (hn : l.length ≤ maxLen) (hlw : ∀ y ∈ l, Wf64 y) :
    Calls Try.prog 9 #[.pointer (some ⟨b, 0, none⟩), .slice ao l.length cap] w fun x w' => x = .returned (.tuple #[.int .i64 (brokenE l L).1, .bool (brokenE l L).2]) ∧ Touch w w' [] := by
  obtain ⟨al, cl, rfl⟩ := RdSet.owns_form h.own
  obtain ⟨N, hN⟩ : ∃ N, N = L.length := ⟨_, rfl⟩
  obtain ⟨M, hM⟩ : ∃ M, M = l.length := ⟨_, rfl⟩
  have HN : Hid (N = L.length) := hN
  have HM : Hid (M = l.length) := hM
  have HS : Hid _ := h
  rw [← hM] at hn ⊢
  have h8 := h.sl.len
  rw [← hN] at h8
  unfold maxLen at hn
  clear h hN hM
  go_enter Try.func9, Try.ntmps9
  go_wp2_with fail
  go_loopw [6] (fun i wr => ∃ k : Nat, i = .int .i64 k ∧ k ≤ N ∧ (∀ e ∈ L.take k, badE l e = false) ∧ Touch w wr []) (fun i _ => N - (intOf i).toNat)
  case atStart => exact ⟨0, rfl, Nat.zero_le _, by simp, Touch.refl _ _⟩
  case round =>
    obtain ⟨k, rfl, hk, hno, hT⟩ := hrel
    have HNO : Hid _ := hno
    have HT : Hid _ := hT
    have hS := HS.out.keep hT (by simp)
    obtain ⟨c0, f0⟩ := hS.cells
    rw [← HN.out] at c0
    by_cases hlt : k < N
    · have hlt' : (k : Int) < N := by omega
      have hkl : k < L.length := by rw [← HN.out]; exact hlt
      have hOk := HS.out.sl.ok L[k] (List.getElem_mem hkl)
      have hrow := EntRow.of_owns hS.own
      obtain ⟨g, off, rfl, hg, m0, m1, m2⟩ := EntRow.three hrow k hkl
      have hit : badE l L[k] = true → brokenE l L = (L[k].tvar, true) := fun hb => brokenE_hit hkl HNO.out hb
      have hsn : badE l L[k] = false → ∀ e ∈ L.take (k + 1), badE l e = false := fun hb e he => by
        rw [List.take_succ_eq_append_getElem hkl, List.mem_append] at he
        rcases he with he | he
        · exact HNO.out e he
        · simp at he; rw [he]; exact hb
      obtain ⟨e, he⟩ : ∃ e, e = L[k] := ⟨_, rfl⟩
      rw [← he] at m0 m1 m2 hit hsn hOk
      have hrg := hOk.range
      have hxw := hOk.wf.v
      obtain ⟨t, x, r⟩ := e
      simp only at m0 m1 m2 hrg hit hxw
      have HHI : Hid _ := hit
      have HSN : Hid _ := hsn
      clear hno hT hS hrow hit hsn he hOk
      by_cases hin : (M : Int) ≤ t
      · have hbad : badE l ⟨t, x, r⟩ = true := by unfold badE; simp only; rw [← HM.out, decide_eq_true hin]; rfl
        have HB : Hid _ := HHI.out hbad
        clear hbad
        go_wp2_with fail
        go_quiet (fail)
        go_wp2
        go_ret2
        exact ⟨by rw [HB.out] <;> rfl, HT.out.drewN nq⟩
      · obtain ⟨n, rfl⟩ := Int.eq_ofNat_of_zero_le hrg.1
        have hnM : n < M := by omega
        have hnM' : (n : Int) < M := by omega
        have hnl : n < l.length := by rw [← HM.out]; exact hnM
        obtain ⟨g2, off2, rfl, hg2, V0⟩ := ValRow.one hl n hnl
        have v0 := (HT.out.cell (p := ⟨g2, off2 + n, none⟩) hg2 (by simp)).trans V0
        have hyw := hlw l[n] (List.getElem_mem hnl)
        obtain ⟨y, hy⟩ : ∃ y, y = l[n] := ⟨_, rfl⟩
        rw [← hy] at v0 hyw
        have hbe : badE l ⟨n, x, r⟩ = !sameV y x := by
          unfold badE
          simp only [Int.toNat_natCast]
          rw [← HM.out, decide_eq_false hin, Bool.false_or, hy]
          simp [List.getD, hnl]
        have hsm := fun W => rsame_any y x hyw hxw W
        change ∀ W, Calls _ _ _ W fun e w' => e = .returned (.bool (sameV y x)) ∧ W = w' at hsm
        cases hs : sameV y x
        · rw [hs] at hsm hbe
          have HB : Hid _ := HHI.out (by rw [hbe]; rfl)
          clear hbe V0 hy
          go_wp2_with fail
          go_quiet (first | (go_at_call 20; exact Calls.quiet_of_same ((hsm _).mono fun _ _ h => ⟨h.1, h.2.symm⟩)))
          go_wp2
          go_ret2
          exact ⟨by rw [HB.out] <;> rfl, HT.out.drewN nq⟩
        · rw [hs] at hsm hbe
          have HB : Hid _ := HSN.out (by rw [hbe]; rfl)
          clear hbe V0 hy
          go_wp2_with fail
          go_quiet (first | (go_at_call 20; exact Calls.quiet_of_same ((hsm _).mono fun _ _ h => ⟨h.1, h.2.symm⟩)))
          clear hsm v0
          go_wp2
          go_roundw
          case rel => exact ⟨k + 1, by go_num, by omega, HB.out, HT.out.drewN nq⟩
          case measure => simp [intOf]; omega
    · obtain rfl : k = N := by omega
      have he : L.take k = L := List.take_of_length_le (by rw [← HN.out]; exact Nat.le_refl _)
      have HB : Hid (brokenE l L = (0, false)) := brokenE_none (by rw [he] at hno; exact hno)
      clear hno he hS
      go_wp2
      go_ret2
      exact ⟨by rw [HB.out] <;> rfl, HT.out⟩

set_option maxRecDepth 100000 in
theorem rvalid_any {B : Nat} {w : World} {b : Nat} {vl : Value} {L : List EntD} (h : RfSet B w b vl L) (ao : Option Addr) (cap : Nat) (l : List Int) (hl : ValRow w (.slice ao l.length cap) l) (hn : l.length ≤ maxLen) (hlw : ∀ y ∈ l, Wf64 y) :
    Calls Try.prog 11 #[.pointer (some ⟨b, 0, none⟩), .slice ao l.length cap] w fun x w' => x = .returned (.bool (!(brokenE l L).2)) ∧ Touch w w' [] := by
  have hb := rbroken_any h ao cap l hl hn hlw
  generalize brokenE l L = R at *
  clear hl hn h
  go_enter Try.func11, Try.ntmps11
  go_wp2_with fail
  refine hb.mono ?_
  rintro x w1 ⟨rfl, t1⟩
  clear hb
  go_wp2
  go_ret
  exact ⟨by simp, t1⟩

end Go.Proofs.Ytdccaijgiobjoaa

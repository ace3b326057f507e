/-
  TraceCounts, WALKED.
-/
import Derived.Test.YtmiaibpdeofokaaGreatDoorTrLaws
import Derived.Test.YtmiaibpdeofokaaGreatDoorTrRConf
import Derived.Test.YtmiaibpdeofokaaGreatDoorTrRChain
import Derived.Test.YtmiaibpdeofokaaGreatDoorTrRCount
import Derived.Test.YtmiaibpdeofokaaGreatDoorTrRBusy
import Derived.BigQuiet
namespace Go.Proofs.YtmiaibpdeofokaaGreatDoor
set_option linter.unusedVariables false
set_option linter.unusedSimpArgs false
open Go.RowKit Go.Maps
attribute [local go_sem] Oper.semAt_some

theorem Tryz.und_two : Tryz.prog.underlying 36 = some (.array 2 3) := by kernel_rfl
theorem Tryz.und_int : Tryz.prog.underlying 3 = some (.int .i64) := by kernel_rfl
set_option maxRecDepth 100000 in
theorem eq2 (a b : Int) (w : World) : (Op.equalIn 10000 36 (.agg #[.int .i64 a, .int .i64 b]) (.agg #[.int .i64 a, .int .i64 b])).run Tryz.prog w = .ok true w := by
  obtain ⟨i0, hi, hz0, hz1, hz2⟩ := info_parts Tryz.info_int
  have hq : ∀ x : Int, ∀ w : World, (Op.equalIn 9999 3 (.int .i64 x) (.int .i64 x)).run Tryz.prog w = .ok true w := fun x w => by
    have := run_equalIn_int (P := Tryz.prog) w 9998 3 .i64 .i64 x x Tryz.und_int
    simpa using this
  show (Op.equalIn (9999 + 1) _ _ _).run _ _ = _
  rw [Op.equalIn]
  simp only [Sem.run_bind, run_underlying Tryz.und_two, Result.andThen_ok, sizeOf, typeInfo, hi, run_program, hz1, Sem.run_pure]
  have hr : List.range' 0 2 = [0, 1] := rfl
  simp [go_sem, part, hi, hz1, sizeOf, typeInfo, hq, hr, isAgg, run_underlying Tryz.und_int]
theorem pair_form {w : World} {B : Nat} {v : Value} {Z : List (Int × Int)} (h : pairOwn w B v Z) : ∃ aa ca, v = .slice aa Z.length ca ∧ ∀ k (hk : k < Z.length), ∃ g, aa = some ⟨g, 0, none⟩ ∧ g < w.heap.size ∧ w.cell? ⟨g, k * 2, none⟩ = some (.int .i64 Z[k].1) ∧ w.cell? ⟨g, k * 2 + 1, none⟩ = some (.int .i64 Z[k].2) := by
  rcases h.2 with ⟨e, h0⟩ | ⟨g, cap, cur, e, hb, hg, _⟩
  · exact ⟨none, 0, by rw [e, h0], fun k hk => by omega⟩
  · refine ⟨_, _, e, fun k hk => ⟨g, rfl, lt_of_heap hg, ?_, ?_⟩⟩
    · subst e
      have h0 := flat_at (cells := pairI) (n := 2) (fun _ => rfl) Z k hk 0 (by omega)
      have := h.cells (g := g) rfl (k * 2) (.int .i64 Z[k].1) (by simpa [pairI] using h0)
      rw [Addr.add_lit] at this
      simpa using this
    · subst e
      have h0 := flat_at (cells := pairI) (n := 2) (fun _ => rfl) Z k hk 1 (by omega)
      have := h.cells (g := g) rfl (k * 2 + 1) (.int .i64 Z[k].2) (by simpa [pairI] using h0)
      rw [Addr.add_lit] at this
      simpa using this
theorem PairP.touch {w w' : World} {g k : Nat} {p : Int × Int} (t : Touch w w' []) (hg : g < w.heap.size) (h : w.cell? ⟨g, k * 2, none⟩ = some (.int .i64 p.1) ∧ w.cell? ⟨g, k * 2 + 1, none⟩ = some (.int .i64 p.2)) : w'.cell? ⟨g, k * 2, none⟩ = some (.int .i64 p.1) ∧ w'.cell? ⟨g, k * 2 + 1, none⟩ = some (.int .i64 p.2) :=
  ⟨(t.cell (p := ⟨g, k * 2, none⟩) hg (by simp)).trans h.1, (t.cell (p := ⟨g, k * 2 + 1, none⟩) hg (by simp)).trans h.2⟩

set_option maxRecDepth 100000 in
set_option maxHeartbeats 2000000 in
theorem tracecounts_cut {w : World} (hw : Wdt w) (hz : Tz w) {ao : Option Addr} {na ca : Nat} {a : List EvD}
    (fa : ∀ W, Calls Tryz.prog 7 #[.slice ao na ca] W fun e w' => e = .returned (.slice ao a.length ca) ∧ w' = W)
    (ra : EvRow w (.slice ao a.length ca) a) (la : a.length ≤ 60) (wa : ∀ e ∈ a, e.Wf) :
    Calls Tryz.prog 4 #[.slice ao na ca] w fun e w' => e = .returned (.bool true) ∧ Touch w w' [] := by
  have hl : a.length ≤ 1000 := by omega
  have FA : Hid (∀ W, HidC _ _ _ _ _) := fun W => ⟨fa W⟩
  have HB1 : Hid (∀ W, Touch w W [] → HidC Tryz.prog 13 #[.slice ao a.length ca] W fun e w' => e = .returned (.tuple #[.int .i64 (busyS a).1, .bool (busyS a).2]) ∧ Touch W w' []) := fun W t => ⟨busiest_any (SRow.keep ra t (by simp)) hl⟩
  have HB2 : Hid (∀ W, Touch w W [] → HidC Tryz.prog 14 #[.slice ao a.length ca] W fun e w' => e = .returned (.tuple #[.int .i64 (busyS a).1, .bool (busyS a).2]) ∧ w' = W) := fun W t => ⟨rbusiest_any (SRow.keep ra t (by simp)) hl⟩
  obtain ⟨Z, hZ⟩ : ∃ Z, Z = confO (fun i j => (!befC a i j && (!befC a j i && meetS a (attG a i) (attG a j)))) (attG a) (attS a).length (attS a).length := ⟨_, rfl⟩
  have HC1 : Hid (∀ W, Touch w W [] → HidC Tryz.prog 15 #[.slice ao a.length ca] W (ConfP W Z)) := fun W t => ⟨by rw [hZ]; exact conf_any (SRow.keep ra t (by simp)) hl wa (mm := fun i j => meetS a (attG a i) (attG a j)) (fun _ _ => rfl) (fun i j _ _ => meetS_iff wa _ _)⟩
  have HC2 : Hid (∀ W, Touch w W [] → HidC Tryz.prog 16 #[.slice ao a.length ca] W (ConfP W Z)) := fun W t => ⟨by rw [hZ]; exact rconf_any (SRow.keep ra t (by simp)) hl (fun _ _ => rfl)⟩
  have HN1 : Hid (∀ W, Touch w W [] → HidC Tryz.prog 17 #[.slice ao a.length ca] W fun e w' => e = .returned (.agg (cntV a)) ∧ Touch W w' []) := fun W t => ⟨counts_any (SRow.keep ra t (by simp)) hl wa⟩
  have HN2 : Hid (∀ W, Touch w W [] → HidC Tryz.prog 18 #[.slice ao a.length ca] W fun e w' => e = .returned (.agg (cntV a)) ∧ Touch W w' []) := fun W t => ⟨rcounts_any (SRow.keep ra t (by simp)) hl⟩
  have HH1 : Hid (∀ W, Touch w W [] → HidC Tryz.prog 19 #[.slice ao a.length ca] W fun e w' => e = .returned (.int .i64 (chainS a)) ∧ Touch W w' []) := fun W t => ⟨chains_any (SRow.keep ra t (by simp)) hl wa⟩
  have HH2 : Hid (∀ W, Touch w W [] → HidC Tryz.prog 20 #[.slice ao a.length ca] W fun e w' => e = .returned (.int .i64 (chainS a)) ∧ Touch W w' []) := fun W t => ⟨rchains_any (SRow.keep ra t (by simp)) hl wa⟩
  have HLV : Hid (∀ W, Touch w W [] → HidC Tryz.prog 11 #[] W fun e w' => e = .returned (.bool true) ∧ Touch W w' []) := fun W t => ⟨trlive_any W (hw.touch t (by simp)) (hz.touch t)⟩
  have HZL : Hid (Z.length ≤ 1000000) := by
    show _ ≤ _
    rw [hZ]
    have h1 := confO_len (fun i j => (!befC a i j && (!befC a j i && meetS a (attG a i) (attG a j)))) (attG a) (attS a).length (attS a).length
    have h2 := attS_le a
    have h3 : (attS a).length * (attS a).length ≤ 1000 * 1000 := Nat.mul_le_mul (by omega) (by omega)
    omega
  obtain ⟨c0, c1, c2, c3, c4, c5, hcn⟩ : ∃ c0 c1 c2 c3 c4 c5, cntV a = cntA c0 c1 c2 c3 c4 c5 := ⟨_, _, _, _, _, _, rfl⟩
  rw [hcn] at HN1 HN2
  clear hcn fa ra la wa hw hz hZ hl
  generalize a.length = La at *
  generalize chainS a = cs at *
  generalize busyS a = bs at *
  obtain ⟨b1, b2⟩ := bs
  simp only at HB1 HB2
  have T0 : Hid (Touch w w []) := Touch.refl _ _
  go_enter Tryz.func4, Tryz.ntmps4
  go_wp2_with fail
  refine (FA.out _).out.mono ?_
  rintro e wx ⟨rfl, hwx⟩
  have hwx' := hwx.symm
  subst hwx'
  go_wp2_with fail
  refine (HB1.out _ T0.out).out.mono ?_
  rintro e w1 ⟨rfl, t1⟩
  have T1 : Hid (Touch _ w1 []) := t1
  clear t1 HB1 T0
  go_wp2_with fail
  refine (HB2.out _ T1.out).out.mono ?_
  rintro e wy ⟨rfl, hwy⟩
  subst hwy
  clear HB2
  go_wp2_with fail
  refine (HC1.out _ T1.out).out.mono ?_
  rintro e w2 ⟨v1, rfl, p1, t2⟩
  have T2 : Hid (Touch _ w2 []) := T1.out.trans t2 (by simp)
  have P1 : Hid _ := p1
  clear t2 p1 HC1 T1
  go_wp2_with fail
  refine (HC2.out _ T2.out).out.mono ?_
  rintro e w3 ⟨v2, rfl, p2, t3⟩
  have T3 : Hid (Touch _ w3 []) := T2.out.trans t3 (by simp)
  obtain ⟨aa1, ca1, rfl, q1⟩ := pair_form P1.out
  obtain ⟨aa2, ca2, rfl, q2⟩ := pair_form p2
  have Q1 : Hid (∀ k (hk : k < Z.length), ∃ g, aa1 = some ⟨g, 0, none⟩ ∧ g < w3.heap.size ∧ w3.cell? ⟨g, k * 2, none⟩ = some (.int .i64 Z[k].1) ∧ w3.cell? ⟨g, k * 2 + 1, none⟩ = some (.int .i64 Z[k].2)) := fun k hk => by
    obtain ⟨g, h1, h2, h3⟩ := q1 k hk
    exact ⟨g, h1, Nat.lt_of_lt_of_le h2 t3.size, PairP.touch t3 h2 h3⟩
  have Q2 : Hid (∀ k (hk : k < Z.length), ∃ g, aa2 = some ⟨g, 0, none⟩ ∧ g < w3.heap.size ∧ w3.cell? ⟨g, k * 2, none⟩ = some (.int .i64 Z[k].1) ∧ w3.cell? ⟨g, k * 2 + 1, none⟩ = some (.int .i64 Z[k].2)) := q2
  clear t3 q1 q2 p2 P1 HC2 T2
  have hzl := HZL.out
  have HZN : Hid (∀ k, k < Z.length → ∃ p q, (∃ g, aa1 = some ⟨g, 0, none⟩ ∧ g < w3.heap.size ∧ w3.cell? ⟨g, k * 2, none⟩ = some (.int .i64 p) ∧ w3.cell? ⟨g, k * 2 + 1, none⟩ = some (.int .i64 q)) ∧ (∃ g, aa2 = some ⟨g, 0, none⟩ ∧ g < w3.heap.size ∧ w3.cell? ⟨g, k * 2, none⟩ = some (.int .i64 p) ∧ w3.cell? ⟨g, k * 2 + 1, none⟩ = some (.int .i64 q))) := fun k hk => ⟨Z[k].1, Z[k].2, Q1.out k hk, Q2.out k hk⟩
  clear Q1 Q2 HZL
  generalize Z.length = M at *
  go_wp2_with fail
  go_loopw [9] (fun i wr => ∃ k : Nat, i = .int .i64 k ∧ k ≤ M ∧ Touch w3 wr []) (fun i _ => M - (intOf i).toNat)
  case atStart => exact ⟨0, rfl, Nat.zero_le _, Touch.refl _ _⟩
  case round =>
    obtain ⟨k, rfl, hk, hT⟩ := hrel
    have HT : Hid (Touch w3 wr []) := hT
    by_cases hlt : k < M
    · have h1 : (k : Int) < M := by omega
      have h0 : (0 : Int) ≤ k := by omega
      obtain ⟨p, q, ⟨g1, rfl, hg1, x1⟩, ⟨g2, rfl, hg2, x2⟩⟩ := HZN.out k hlt
      obtain ⟨y1, y2⟩ := PairP.touch (p := (p, q)) hT hg1 x1
      obtain ⟨y3, y4⟩ := PairP.touch (p := (p, q)) hT hg2 x2
      simp only at y1 y2 y3 y4
      have heq := eq2 p q
      clear hT x1 x2
      go_wp2_with fail
      go_quiet (fail)
      go_wp2
      go_roundw
      case rel => exact ⟨k + 1, by go_num, by omega, HT.out.drewN _⟩
      case measure => simp [intOf]; omega
    · have T4 : Hid (Touch w wr []) := T3.out.trans HT.out (by simp)
      clear hT HZN HT T3
      go_wp2_with fail
      refine (HLV.out _ T4.out).out.mono ?_
      rintro e w5 ⟨rfl, t5⟩
      have T5 : Hid (Touch w w5 []) := T4.out.trans t5 (by simp)
      clear t5 T4 HLV
      go_wp2_with fail
      refine (HN1.out _ T5.out).out.mono ?_
      rintro e w6 ⟨rfl, t6⟩
      have T6 : Hid (Touch w w6 []) := T5.out.trans t6 (by simp)
      clear t6 T5 HN1
      go_wp2_with fail
      refine (HN2.out _ T6.out).out.mono ?_
      rintro e w7 ⟨rfl, t7⟩
      have T7 : Hid (Touch w w7 []) := T6.out.trans t7 (by simp)
      clear t7 T6 HN2
      go_wp2_with fail
      refine (HH1.out _ T7.out).out.mono ?_
      rintro e w8 ⟨rfl, t8⟩
      have T8 : Hid (Touch w w8 []) := T7.out.trans t8 (by simp)
      clear t8 T7 HH1
      go_wp2_with fail
      refine (HH2.out _ T8.out).out.mono ?_
      rintro e w9 ⟨rfl, t9⟩
      have T9 : Hid (Touch w w9 []) := T8.out.trans t9 (by simp)
      clear t9 T8 HH2
      go_wp2
      go_ret
      exact ⟨rfl, T9.out⟩
theorem tracecounts_any {w : World} (hw : Wdt w) (hz : Tz w) {ao : Option Addr} {ca : Nat} {a : List EvD} (ra : EvRow w (.slice ao a.length ca) a) (wa : ∀ e ∈ a, e.Wf) (ha : a.length ≤ ca ∧ ca ≤ maxLen) :
    Calls Tryz.prog 4 #[.slice ao a.length ca] w fun e w' => e = .returned (.bool true) ∧ Touch w w' [] := by
  unfold maxLen at ha
  exact tracecounts_cut hw hz (a := a.take 60) (fun W => by rw [cut60_len]; exact trfew_any ao a.length ca ha.1 (by omega) W) (row60 ra) (by rw [List.length_take]; omega) (fun e he => wa e (List.mem_of_mem_take he))

end Go.Proofs.YtmiaibpdeofokaaGreatDoor

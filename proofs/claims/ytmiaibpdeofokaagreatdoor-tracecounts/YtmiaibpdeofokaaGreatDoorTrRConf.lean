/-
  package trace, the document's: Conflicts BY ITS CONTRACT.
-/
import Derived.Test.YtmiaibpdeofokaaGreatDoorTrRMeet
import Derived.Test.YtmiaibpdeofokaaGreatDoorTrCntPl
import Derived.Test.YtmiaibpdeofokaaGreatDoorHistRefRt
import Derived.Test.YtmiaibpdeofokaaGreatDoorHistRefAtt
import Derived.BigQuiet
namespace Go.Proofs.YtmiaibpdeofokaaGreatDoor
set_option linter.unusedVariables false
set_option linter.unusedSimpArgs false
open Go.RowKit Go.Maps
attribute [local go_sem] Oper.semAt_some

set_option maxRecDepth 100000 in
set_option maxHeartbeats 4000000 in
theorem rconf_any {w : World} {ao : Option Addr} {cap : Nat} {l : List EvD} (hr : EvRow w (.slice ao l.length cap) l) (hl : l.length ≤ 1000) {met : Nat → Nat → Bool} (hmt : ∀ i j, met i j = (!befC l i j && (!befC l j i && meetS l (attG l i) (attG l j)))) :
    Calls Tryz.prog 16 #[.slice ao l.length cap] w (ConfP w (confO met (attG l) (attS l).length (attS l).length)) := by
  obtain ⟨Z, hZ⟩ : ∃ Z, Z = confO met (attG l) (attS l).length (attS l).length := ⟨_, rfl⟩
  have HZ : Hid (Z = confO met (attG l) (attS l).length (attS l).length) := hZ
  rw [← hZ]
  clear hZ
  have HAT : Hid (∀ W, Touch w W [] → HidC Tryz.prog 37 #[.slice ao l.length cap] W fun y w' => ∃ v, y = .returned v ∧ intOwn w' W.heap.size v (attS l) ∧ Touch W w' []) := fun W t => ⟨rattempts_any (SRow.keep hr t (by simp)) hl⟩
  have HBF : Hid (∀ W, Touch w W [] → ∀ i j, j < (attS l).length → HidC Tryz.prog 38 #[.slice ao l.length cap, .int .i64 (attG l i), .int .i64 (attG l j)] W fun x w' => x = .returned (.bool (befC l i j)) ∧ W = w') := fun W t i j hj => ⟨by rw [befC_eq hj]; exact rbefore_any (SRow.keep hr t (by simp)) hl _ _⟩
  obtain ⟨mm, hmm⟩ : ∃ mm : Nat → Nat → Bool, mm = fun i j => meetS l (attG l i) (attG l j) := ⟨_, rfl⟩
  have HME : Hid (∀ W, Touch w W [] → ∀ i j, HidC Tryz.prog 39 #[.slice ao l.length cap, .int .i64 (attG l i), .int .i64 (attG l j)] W fun x w' => x = .returned (.bool (mm i j)) ∧ Touch W w' []) := fun W t i j => ⟨by rw [hmm]; exact rmeet_any (SRow.keep hr t (by simp)) hl _ _⟩
  have HMT : Hid (∀ i j, met i j = (!befC l i j && (!befC l j i && mm i j))) := fun i j => by rw [hmm]; exact hmt i j
  have hal : (attS l).length ≤ l.length := attS_le l
  obtain ⟨i0, hi0, hz0, hz1, hz2⟩ := info_parts Tryz.info_two
  generalize l.length = L at *
  clear hr hmt hmm
  have T0 : Hid (Touch w w []) := Touch.refl _ _
  go_enter Tryz.func16, Tryz.ntmps16
  go_wp2_with fail
  refine (HAT.out _ T0.out).out.mono ?_
  rintro y w2 ⟨v, rfl, hown, t2⟩
  obtain ⟨aa, ca, rfl, hce⟩ := int_form hown
  have T2 : Hid (Touch w w2 []) := t2
  have HCE : Hid (∀ k, k < (attS l).length → ∃ g, aa = some ⟨g, 0, none⟩ ∧ g < w2.heap.size ∧ w2.cell? ⟨g, k, none⟩ = some (.int .i64 (attG l k))) := fun k hk => by
    obtain ⟨g, h1, h2, h3⟩ := hce k hk
    have e : attG l k = (attS l)[k] := by unfold attG; rw [List.getD_eq_getElem?_getD, List.getElem?_eq_getElem hk]; rfl
    exact ⟨g, h1, h2, by rw [e]; exact h3⟩
  clear hce hown t2 HAT T0
  generalize befC l = bef at *
  generalize attG l = fa at *
  generalize (attS l).length = N at *
  have hwB := T2.out.size
  go_wp2_with fail
  go_loopw [3, 5] (fun v i wr => ∃ k : Nat, i = .int .i64 k ∧ k ≤ N ∧ pairOwn wr w2.heap.size v (confO met fa N k) ∧ Touch w2 wr []) (fun _ i _ => N - (intOf i).toNat)
  case atStart => exact ⟨0, rfl, Nat.zero_le _, World.ownsRow_nil _ _ _ _, Touch.refl _ _⟩
  case round =>
    obtain ⟨W1, rfl⟩ : ∃ W, W = wr := ⟨_, rfl⟩
    obtain ⟨i, rfl, hi, hrow, hT⟩ := hrel
    have HT : Hid (Touch w2 W1 []) := hT
    have HRW : Hid (pairOwn W1 w2.heap.size u3 (confO met fa N i)) := hrow
    clear hrow hT
    by_cases hlt : i < N
    · have h1 : (i : Int) < N := by omega
      have h0 : (0 : Int) ≤ i := by omega
      obtain ⟨g, rfl, hg, m0⟩ := HCE.out i hlt
      have HMI : Hid (w2.cell? ⟨g, i, none⟩ = some (.int .i64 (fa i))) := m0
      have HXR : Hid (pairOwn W1 w2.heap.size u3 (confO met fa N i ++ confI met fa i 0)) := by
        show World.ownsRow _ _ _ _ _ _ _
        rw [show confI met fa i 0 = [] from rfl, List.append_nil]
        exact HRW.out
      have HLN : Hid (∀ j, i + 1 + j ≤ N → (confO met fa N i ++ confI met fa i j).length ≤ 2000000) := fun j hj => by
        have k1 := confO_len met fa N i
        have k2 := confI_len met fa i j
        have k3 : i * N ≤ 1000 * 1000 := Nat.mul_le_mul (by omega) (by omega)
        show _ ≤ _
        rw [List.length_append]
        omega
      have HON : Hid (confO met fa N (i + 1) = confO met fa N i ++ confI met fa i (N - (i + 1))) := rfl
      have HI4 : Hid (∀ j, confI met fa i (j + 1) = confI met fa i j ++ (if met i (i + 1 + j) then [(fa i, fa (i + 1 + j))] else [])) := fun j => rfl
      have hw1 : IntKind.i64.wrap ((i : Int) + 1) = ((i + 1 : Nat) : Int) := by rw [IntKind.wrap_i64]; omega
      have hiN : i + 1 ≤ N := by omega
      clear HRW m0
      generalize confO met fa N i = A at *
      go_wp2_with fail
      go_loopw [3, 6] (fun v kv wv => ∃ j : Nat, kv = .int .i64 ((i + 1 + j : Nat) : Int) ∧ i + 1 + j ≤ N ∧ pairOwn wv w2.heap.size v (A ++ confI met fa i j) ∧ Touch w2 wv []) (fun _ kv _ => N - (intOf kv).toNat)
      case atStart => exact ⟨0, by simp, hiN, HXR.out, HT.out⟩
      case round =>
        obtain ⟨j, rfl, hj, hro, hT⟩ := hrel
        clear HT HXR
        have HT : Hid (Touch w2 wr []) := hT
        have HROWP : Hid (pairOwn wr w2.heap.size u3 (A ++ confI met fa i j)) := hro
        have hln := HLN.out j hj
        have HI5 := HI4.out j
        have HMT2 := HMT.out i (i + 1 + j)
        clear hro hT
        obtain ⟨k, hk⟩ : ∃ k, k = i + 1 + j := ⟨_, rfl⟩
        have HK : Hid (k = i + 1 + j) := hk
        have HON2 : Hid (k = N → confO met fa N (i + 1) = A ++ confI met fa i j) := fun e => by rw [HON.out, show N - (i + 1) = j by omega]
        rw [← hk] at hj HI5 HMT2
        rw [← hk]
        have HCN : Hid (confI met fa i (j + 1) = confI met fa i j ++ (if met i k then [(fa i, fa k)] else [])) := HI5
        have HMT3 : Hid (met i k = (!bef i k && (!bef k i && mm i k))) := HMT2
        clear hk HI5 HMT2 HON HLN
        by_cases hjl : k < N
        · have h1j : (k : Int) < N := by omega
          have h0j : (0 : Int) ≤ k := by omega
          obtain ⟨g1, e1, hg1, m1⟩ := HCE.out k hjl
          obtain rfl : g1 = g := by simpa [eq_comm] using e1
          have dk := (HT.out.cell (p := ⟨g1, k, none⟩) hg1 (by simp)).trans m1
          have di := (HT.out.cell (p := ⟨g1, i, none⟩) hg1 (by simp)).trans HMI.out
          have HB1 : Hid (∀ W, Touch w W [] → HidC Tryz.prog 38 #[.slice ao L cap, .int .i64 (fa i), .int .i64 (fa k)] W fun x w' => x = .returned (.bool (bef i k)) ∧ W = w') := fun W t => HBF.out W t i k hjl
          have HB2 : Hid (∀ W, Touch w W [] → HidC Tryz.prog 38 #[.slice ao L cap, .int .i64 (fa k), .int .i64 (fa i)] W fun x w' => x = .returned (.bool (bef k i)) ∧ W = w') := fun W t => HBF.out W t k i hlt
          have HM1 : Hid (∀ W, Touch w W [] → HidC Tryz.prog 39 #[.slice ao L cap, .int .i64 (fa i), .int .i64 (fa k)] W fun x w' => x = .returned (.bool (mm i k)) ∧ Touch W w' []) := fun W t => HME.out W t i k
          have HTT : Hid (Touch w wr []) := T2.out.trans HT.out (by simp)
          clear e1 m1
          generalize fa i = qa at *
          generalize fa k = ra at *
          generalize bef i k = c1 at *
          generalize bef k i = c2 at *
          generalize mm i k = mv at *
          generalize met i k = mt at *
          go_wp2_with fail
          go_quiet (fail)
          have HTX : Hid (Touch wr (wr.drewN nq) []) := (Touch.refl wr []).drewN _
          generalize wr.drewN nq = w4 at *
          clear dk di
          have T4 : Hid (Touch w w4 []) := HTT.out.trans HTX.out (by simp)
          go_wp2_with fail
          refine (HB1.out _ T4.out).out.mono ?_
          rintro y w5 ⟨rfl, rfl⟩
          cases c1 with
          | true =>
            have HSK : Hid (A ++ confI met fa i (j + 1) = A ++ confI met fa i j) := by show _ = _; rw [HCN.out, HMT3.out]; simp
            clear HCN HMT3 HB1 HB2 HM1
            go_wp2
            go_roundw
            case rel => exact ⟨j + 1, by rw [show i + 1 + (j + 1) = k + 1 by have := HK.out; omega]; go_num, by have := HK.out; omega, by rw [HSK.out]; exact ownsRow_touch HROWP.out HTX.out (by simp), HT.out.trans HTX.out (by simp)⟩
            case measure => simp [intOf]; omega
          | false =>
            go_wp2_with fail
            refine (HB2.out _ T4.out).out.mono ?_
            rintro y w5 ⟨rfl, rfl⟩
            cases c2 with
            | true =>
              have HSK : Hid (A ++ confI met fa i (j + 1) = A ++ confI met fa i j) := by show _ = _; rw [HCN.out, HMT3.out]; simp
              clear HCN HMT3 HB1 HB2 HM1
              go_wp2
              go_roundw
              case rel => exact ⟨j + 1, by rw [show i + 1 + (j + 1) = k + 1 by have := HK.out; omega]; go_num, by have := HK.out; omega, by rw [HSK.out]; exact ownsRow_touch HROWP.out HTX.out (by simp), HT.out.trans HTX.out (by simp)⟩
              case measure => simp [intOf]; omega
            | false =>
              go_wp2_with fail
              refine (HM1.out _ T4.out).out.mono ?_
              rintro y w6 ⟨rfl, t6⟩
              have TX : Hid (Touch wr w6 []) := HTX.out.trans t6 (by simp)
              clear t6 T4 HTX HB1 HB2 HM1
              cases mv with
              | false =>
                have HSK : Hid (A ++ confI met fa i (j + 1) = A ++ confI met fa i j) := by show _ = _; rw [HCN.out, HMT3.out]; simp
                clear HCN HMT3
                go_wp2
                go_roundw
                case rel => exact ⟨j + 1, by rw [show i + 1 + (j + 1) = k + 1 by have := HK.out; omega]; go_num, by have := HK.out; omega, by rw [HSK.out]; exact ownsRow_touch HROWP.out TX.out (by simp), HT.out.trans TX.out (by simp)⟩
                case measure => simp [intOf]; omega
              | true =>
                have HSK : Hid (A ++ confI met fa i (j + 1) = (A ++ confI met fa i j) ++ [(qa, ra)]) := by show _ = _; rw [HCN.out, HMT3.out]; simp
                have hro7 : (w6.alloc (.cells #[.int .i64 qa, .int .i64 ra] 36)).ownsRow w2.heap.size 36 2 u3 (A ++ confI met fa i j).length ((A ++ confI met fa i j).flatMap pairI) := (ownsRow_touch HROWP.out TX.out (by simp)).alloc _
                have HGE : Hid (∀ g, u3.ownBlock = some g → w2.heap.size ≤ g) := fun g hg => (World.ownsRow.lt HROWP.out g hg).1
                have HT7 : Hid (Touch w2 (w6.alloc (.cells #[.int .i64 qa, .int .i64 ra] 36)) []) := (HT.out.trans TX.out (by simp)).alloc _
                have hnew : ∀ j u, [Value.int .i64 qa, .int .i64 ra][j]? = some u → (w6.alloc (.cells #[.int .i64 qa, .int .i64 ra] 36)).cell? (Addr.add ⟨w6.heap.size, 0, none⟩ j) = some u := World.news_of_block (cs := #[.int .i64 qa, .int .i64 ra]) (t := 36) (fr := (0, 0)) (heap_alloc_new w6 _)
                have hsz7 : w2.heap.size ≤ (w6.alloc (.cells #[.int .i64 qa, .int .i64 ra] 36)).heap.size := HT7.out.size
                have hone : ∀ u ∈ [Value.int .i64 qa, .int .i64 ra], u.oneCell' = true := by intro u hu; simp at hu; rcases hu with rfl | rfl <;> rfl
                have HEND : Hid (∀ v' w8, w8.ownsRow w2.heap.size 36 2 v' ((A ++ confI met fa i j).length + 1) ((A ++ confI met fa i j).flatMap pairI ++ [.int .i64 qa, .int .i64 ra]) → (w6.alloc (.cells #[.int .i64 qa, .int .i64 ra] 36)).grownBy w8 u3.ownBlock → pairOwn w8 w2.heap.size v' (A ++ confI met fa i (j + 1)) ∧ Touch w2 w8 []) := fun v' w8 h1 h2 => by
                  refine ⟨?_, HT7.out.grown h2 (fun q hq => .inr (HGE.out q hq))⟩
                  show w8.ownsRow _ _ _ _ _ _
                  rw [HSK.out, List.length_append, List.flatMap_append]
                  simpa [pairI] using h1
                clear HCN HMT3 HGE HT7
                generalize hWW : (A ++ confI met fa i j).length = nn at *
                generalize hXX : (A ++ confI met fa i j).flatMap pairI = xx at *
                clear hWW hXX
                go_wp2_with (at_builtin; refine wpList_append_own _ rfl _ _ 34 rfl w2.heap.size 36 i0 _ 2 16 Tryz.underlying34 hi0 hz0 hz1 hz2 rfl (by decide) _ _ _ rfl hro7 ⟨w6.heap.size, 0, none⟩ 1 1 [.int .i64 qa, .int .i64 ra] rfl rfl hnew hone (by unfold maxLen; omega) (by omega) hsz7 ?_)
                intro v' w8 hown' hgrow _
                have HE : Hid _ := HEND.out v' w8 hown' hgrow
                clear hown' hgrow hro7 hnew hsz7 hone HEND
                go_wp2
                go_roundw
                case rel => exact ⟨j + 1, by rw [show i + 1 + (j + 1) = k + 1 by have := HK.out; omega]; go_num, by have := HK.out; omega, HE.out.1, HE.out.2⟩
                case measure => simp [intOf]; omega
        · have hkN : k = N := by omega
          rw [← HON2.out hkN] at HROWP
          go_wp2
          go_roundw
          case rel => exact ⟨i + 1, by go_num, by omega, HROWP.out, HT.out⟩
          case measure => simp [intOf]; omega
    · have hkN : i = N := by omega
      rw [hkN, ← HZ.out] at HRW
      have T : Hid (Touch w W1 []) := T2.out.trans HT.out (by simp)
      go_wp2
      go_ret
      exact ⟨_, rfl, own_base2 HRW.out hwB, T.out⟩

end Go.Proofs.YtmiaibpdeofokaaGreatDoor

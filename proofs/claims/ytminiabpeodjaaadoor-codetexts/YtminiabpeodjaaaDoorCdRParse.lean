/-
  THE DOCUMENT's Parse BY ITS CONTRACT.
-/
import Derived.Test.YtminiabpeodjaaaDoorCdTextQ
import Derived.Test.YtminiabpeodjaaaDoorCdRPrint
import Derived.Deep.QuietTactic
import Derived.BigQuiet
namespace Go.Proofs.YtminiabpeodjaaaDoor
set_option linter.unusedVariables false
set_option linter.unusedSimpArgs false
open Go.RowKit
attribute [local go_sem] Oper.semAt_some

/-- How far the first blank is looked for. -/
def Looked (s : ByteArray) (k : Nat) (wd rest : ByteArray) : Prop := (wd = s ∧ rest = ⟨#[]⟩ ∧ k ≤ s.size ∧ ∀ j < k, (s.get! j).toNat ≠ 32) ∨ (rest.size ≠ 0 ∧ wd = cutW s ∧ rest = restB s)

theorem parse_noop {s : ByteArray} (h : opOf (cutW s).data.toList = none) : parseP s = none := by
  unfold parseP saidP
  rw [h]
  rfl
theorem restB_cut {s : ByteArray} (h : (restB s).size = 17) : (restB s).extract 1 (restB s).size = cutR s ∧ (restB s).size ≠ 0 := by
  refine ⟨?_, by omega⟩
  unfold restB at h ⊢
  cases hb : blankAt s with
  | none => rw [hb] at h; cases h
  | some p =>
    rw [hb] at h
    simp only at h ⊢
    rw [(split_of hb).2.2.2]
    apply ba_ext
    have : ((ByteArray.mk #[32]) ++ cutR s).data.toList = [32] ++ (cutR s).data.toList := by simp
    rw [extract_list, this]
    simp only [List.singleton_append, List.drop_succ_cons, List.drop_zero]
    rw [List.take_of_length_le (by rw [len_size, ByteArray.size_append]; show _ ≤ 1 + _ - 1; omega)]
/-- What the document answers of what it tries. -/
theorem ref_answer {s : ByteArray} {o : Int} (ho : opOf (cutW s).data.toList = some o) : (rightI (refX s o) = true → printP (refX s o) = s → parseP s = some (refX s o)) ∧ (rightI (refX s o) = false → parseP s = none) ∧ (¬ printP (refX s o) = s → parseP s = none) := by
  have h := ref_parse ho
  refine ⟨fun h1 h2 => ?_, fun h1 => ?_, fun h1 => ?_⟩
  · rw [← h, if_pos ⟨h1, h2⟩]
  · rw [← h, if_neg (fun q => by rw [h1] at q; cases q.1)]
  · rw [← h, if_neg (fun q => h1 q.2)]

set_option maxRecDepth 100000 in
set_option maxHeartbeats 3000000 in
theorem rparseI_any (w : World) (s : ByteArray) (hs : s.size ≤ 100000) :
    Calls Tryd.prog 30 #[.string s] w fun e w' => e = .returned (parseA (parseP s)) ∧ Touch w w' [] := by
  obtain ⟨R, hR⟩ : ∃ R, R = parseP s := ⟨_, rfl⟩
  rw [← hR]
  have HR : Hid _ := hR
  have HB0 : Hid (BoxI (w.alloc (.cells #[.int .u8 0, .int .i64 0, .int .u64 0] 26)) w.heap.size 0 0 0) := BoxI.new w 0 0 0
  have HT0 : Hid (Touch w (w.alloc (.cells #[.int .u8 0, .int .i64 0, .int .u64 0] 26)) []) := (Touch.refl w []).alloc _
  clear hR
  go_enter Tryd.func30, Tryd.ntmps30
  go_wp2_with fail
  generalize w.alloc (.cells #[.int .u8 0, .int .i64 0, .int .u64 0] 26) = Q at *
  go_loopw [4, 5, 6] (fun vw vr vk wr => ∃ (k : Nat) (wd rest : ByteArray), vk = .int .i64 k ∧ vw = .string wd ∧ vr = .string rest ∧ k ≤ s.size ∧ Hid (Looked s k wd rest) ∧ BoxI wr w.heap.size 0 0 0 ∧ Touch w wr []) (fun _ _ vk _ => s.size - (intOf vk).toNat)
  case atStart => exact ⟨0, s, ⟨#[]⟩, rfl, rfl, rfl, Nat.zero_le _, (.inl ⟨rfl, rfl, Nat.zero_le _, fun j hj => by omega⟩ : Looked s 0 s ⟨#[]⟩), HB0.out, HT0.out⟩
  case round =>
    obtain ⟨k, wd, rest, rfl, rfl, rfl, hks, hlk, hB, hT⟩ := hrel
    have HB : Hid _ := hB
    have HT : Hid _ := hT
    clear hB hT
    rcases hlk.out with ⟨e1, e2, hk, hno⟩ | ⟨hne, hwd, hre⟩
    · by_cases hlt : k < s.size
      · obtain rfl : s = wd := e1.symm
        subst e2
        have h1 : (k : Int) < s.size := by omega
        have h0 : (0 : Int) ≤ k := by omega
        have hle1 : (k : Int) ≤ s.size := by omega
        have hgt : s.get! k = s[k]'hlt := get_at s k hlt
        obtain ⟨cn, hcn⟩ : ∃ cn, cn = (s.get! k).toNat := ⟨_, rfl⟩
        have hci2 : ∀ hx, (s[k]'hx).toNat = cn := fun hx => by rw [hcn, hgt]
        have HCN : Hid _ := hcn
        have HNO : Hid _ := hno
        by_cases h32 : cn = 32
        · subst h32
          have hb : blankAt s = some k := blank_some hlt HCN.out.symm HNO.out
          have HF : Hid (Looked s (k + 1) (s.extract 0 k) (s.extract k s.size)) := .inr ⟨by rw [ByteArray.size_extract]; omega, by unfold cutW; rw [hb], by unfold restB; rw [hb]⟩
          clear hno hcn hgt hlk hb
          go_wp2_with fail
          go_quiet (fail)
          go_wp2
          go_roundw
          case rel => exact ⟨k + 1, _, _, by go_num, rfl, rfl, by omega, HF, HB.out.touch ((Touch.refl _ []).drewN _) (by simp), HT.out.drewN _⟩
          case measure => simp [intOf]; omega
        · have h32' : ((cn : Int) == 32) = false := by simp; omega
          have HF : Hid (Looked s (k + 1) s ⟨#[]⟩) := .inl ⟨rfl, rfl, by omega, fun j hj => by
            by_cases hjk : j = k
            · subst hjk; rw [← HCN.out]; exact h32
            · exact HNO.out j (by omega)⟩
          clear hno hcn hgt hlk
          go_wp2
          go_roundw
          case rel => exact ⟨k + 1, _, _, by go_num, rfl, rfl, by omega, HF, HB.out, HT.out⟩
          case measure => simp [intOf]; omega
      · have h1 : ¬ (k : Int) < s.size := by omega
        have hb : blankAt s = none := blank_none (fun j hj => hno j (by omega))
        have HWD : Hid (wd = cutW s) := by show _ = _; rw [e1]; unfold cutW; rw [hb]
        have HRE : Hid (rest = restB s) := by show _ = _; rw [e2]; unfold restB; rw [hb]
        have hrs : rest.size ≤ 100000 := by rw [e2]; show 0 ≤ _; omega
        clear hb hno hlk hk e1 e2
        have hrw : HidC _ _ _ _ _ := ⟨rreadWord_any wd wr⟩
        rw [byK_op] at hrw
        cases hop : opOf wd.data.toList with
        | none =>
          rw [hop] at hrw
          simp only [Option.map_none, Option.getD_none, Option.isSome_none] at hrw
          have HN : Hid (R = none) := by show _ = _; rw [HR.out]; exact parse_noop (by rw [← HWD.out]; exact hop)
          clear hop
          go_wp2_with fail
          refine hrw.out.mono ?_
          rintro e w1 ⟨rfl, t1⟩
          have HT1 : Hid _ := HT.out.trans t1 (by simp)
          have HB1 : Hid (BoxI w1 w.heap.size 0 0 0) := HB.out.touch t1 (by simp)
          have c := HB1.out.cells
          obtain ⟨c0, c1, c2⟩ := c
          have f0 := HB1.out.fr 0
          have f1 := HB1.out.fr 1
          have f2 := HB1.out.fr 2
          have HFIN : Hid (BoxI (((w1.setCell ⟨w.heap.size, 0, none⟩ (.int .u8 0)).setCell ⟨w.heap.size, 1, none⟩ (.int .i64 0)).setCell ⟨w.heap.size, 2, none⟩ (.int .u64 0)) w.heap.size 0 0 0) := ((HB1.out.set0 0).set1 0).set2 0
          have hfin := HFIN.out.cells
          obtain ⟨k0, k1, k2⟩ := hfin
          clear hrw t1
          go_wp2
          refine bodyPost_ret (v := .tuple #[.agg #[.int .u8 0, .int .i64 0, .int .u64 0], .int .i64 3]) (by simp [results, Tryd.results30, go_sem, k0, k1, k2]) rfl ?_
          rw [HN.out]
          refine ⟨rfl, ?_⟩
          repeat (first | exact HT1.out | refine Touch.setCell ?_ (.inr (Nat.le_refl _)) _)
        | some o =>
          rw [hop] at hrw
          simp only [Option.map_some, Option.getD_some, Option.isSome_some] at hrw
          have hop2 : opOf (cutW s).data.toList = some o := by rw [← HWD.out]; exact hop
          obtain ⟨_, ho0, ho1⟩ := opOf_inv hop2
          have HANS : Hid _ := ref_answer hop2
          have HXW : Hid _ := refX_wf s ho0 ho1
          have HX : Hid (refX s o = ⟨o, if argP o then argF rest 64 else 0, if valP o && decide (rest.size = 17) then ((parseV (cutR s)).getD 0 : Nat) else 0⟩) := by show _ = _; rw [HRE.out]; rfl
          have hex := arg_not_val (o := o)
          have HCR : Hid (rest.size = 17 → rest.extract 1 rest.size = cutR s) := fun h => by rw [HRE.out] at h ⊢; exact (restB_cut h).1
          generalize refX s o = X at *
          clear hop hop2
          go_wp2_with fail
          refine hrw.out.mono ?_
          rintro e w1 ⟨rfl, t1⟩
          clear hrw
          have HB1 : Hid (BoxI w1 w.heap.size 0 0 0) := HB.out.touch t1 (by simp)
          have tX : Touch w1 (w1.alloc (.cells #[.int .u8 o, .int .i64 0, .int .u64 0] 26)) [] := (Touch.refl w1 []).alloc _
          have HBX : Hid (BoxI (w1.alloc (.cells #[.int .u8 o, .int .i64 0, .int .u64 0] 26)) w1.heap.size o 0 0) := BoxI.new w1 o 0 0
          have HBW : Hid (BoxI (w1.alloc (.cells #[.int .u8 o, .int .i64 0, .int .u64 0] 26)) w.heap.size 0 0 0) := HB1.out.touch tX (by simp)
          have HTX : Hid (Touch w (w1.alloc (.cells #[.int .u8 o, .int .i64 0, .int .u64 0] 26)) []) := (HT.out.trans t1 (by simp)).trans tX (by simp)
          have hus : HidC _ _ _ _ _ := ⟨ruses_any o (w1.alloc (.cells #[.int .u8 o, .int .i64 0, .int .u64 0] 26))⟩
          have hne : w1.heap.size ≠ w.heap.size := by have := HB1.out.lt; omega
          have hlw : w.heap.size ≤ w1.heap.size := by have := HB1.out.lt; omega
          clear t1 tX HB HT HB1 HWD
          go_wp2_with fail
          refine hus.out.mono ?_
          rintro e _ ⟨rfl, rfl⟩
          clear hus
          generalize argP o = ap at *
          generalize valP o = vp at *
          generalize w1.alloc (.cells #[.int .u8 o, .int .i64 0, .int .u64 0] 26) = W1 at *
          generalize w1.heap.size = b1 at *
          cases ap with
          | true =>
            obtain rfl : vp = false := hex rfl
            have HX2 : Hid (X = ⟨o, argF rest 64, 0⟩) := HX.out
            clear hex HX HCR
            go_wp2_with fail
            go_loopw [12] (fun vn W => ∃ n : Nat, vn = .int .i64 n ∧ n ≤ 64 ∧ BoxI W b1 o (argF rest n) 0 ∧ BoxI W w.heap.size 0 0 0 ∧ Touch w W []) (fun vn _ => 64 - (intOf vn).toNat)
            case atStart => exact ⟨0, rfl, by omega, HBX.out, HBW.out, HTX.out⟩
            case round =>
              clear HBX HBW HTX
              obtain ⟨n, rfl, hn, hbx, hbw, htx⟩ := hrel
              have HBX : Hid _ := hbx
              have HBW : Hid _ := hbw
              have HTX : Hid _ := htx
              by_cases hlt2 : n < 64
              · have hn1 : (n : Int) < 64 := by omega
                have hdg : HidC _ _ _ _ _ := ⟨rdigits_any (n : Int) (by omega) (by omega) wr⟩
                have hs2 := argT_size (n : Int) (by omega) (by omega)
                have HAF : Hid (argF rest (n + 1) = if rest = ⟨#[32]⟩ ++ argT (n : Nat) then (n : Int) else argF rest n) := rfl
                generalize argT (n : Nat) = at' at *
                have hsz1 : (ByteArray.mk #[32]).size + at'.size ≤ 9223372036854775807 := by show 1 + at'.size ≤ _; omega
                have hsm1 := fun W : World => run_string_add_sum (P := Tryd.prog) (w := W) ⟨#[32]⟩ at' hsz1
                generalize (ByteArray.mk #[32]) ++ at' = c1 at *
                have x := hbx.cells
                obtain ⟨x0, x1, x2⟩ := x
                have g1 := hbx.fr 1
                clear hbx hbw htx hsz1
                by_cases he : rest = c1
                · subst he
                  have HAF2 : Hid (argF rest (n + 1) = n) := by show _ = _; rw [HAF.out, if_pos rfl]
                  clear HAF
                  go_wp2_with fail
                  refine hdg.out.mono ?_
                  rintro e _ ⟨rfl, rfl⟩
                  clear hdg
                  go_wp2
                  go_roundw
                  case rel => exact ⟨n + 1, by go_num, by omega, by rw [HAF2.out]; exact HBX.out.set1 n, HBW.out.touch ((Touch.refl wr [b1]).setCell (.inl (by simp)) _) (by simp; omega), HTX.out.setCell (.inr hlw) _⟩
                  case measure => simp [intOf]; omega
                · have HAF2 : Hid (argF rest (n + 1) = argF rest n) := by show _ = _; rw [HAF.out, if_neg he]
                  obtain ⟨m1, m2⟩ := str_ne' he
                  clear HAF
                  go_wp2_with fail
                  refine hdg.out.mono ?_
                  rintro e _ ⟨rfl, rfl⟩
                  clear hdg
                  go_wp2
                  go_roundw
                  case rel => exact ⟨n + 1, by go_num, by omega, by rw [HAF2.out]; exact HBX.out, HBW.out, HTX.out⟩
                  case measure => simp [intOf]; omega
              · obtain rfl : n = 64 := by omega
                clear hbx hbw htx
                generalize argF rest 64 = xa at *
                have x := HBX.out.cells
                obtain ⟨x0, x1, x2⟩ := x
                have hpr : HidC _ _ _ _ _ := ⟨rprint_any wr X HXW.out⟩
                have HAN1 : Hid _ := HANS.out
                rw [HX2.out] at hpr
                simp only [InsD.v] at hpr
                generalize hri : rightI X = rI at *
                generalize hpp : printP X = pX at *
                have hpA : printA X = if rI then .tuple #[.string pX, .int .i64 0] else .tuple #[.string ⟨#[]⟩, .int .i64 3] := by unfold printA; rw [hri, hpp]
                rw [HX2.out] at hpA
                rw [hpA] at hpr
                clear hpA hri hpp
                go_wp2_with fail
                refine hpr.out.mono ?_
                rintro e w5 ⟨rfl, t5⟩
                have HB5 : Hid _ := HBX.out.touch t5 (by simp)
                have HW5 : Hid _ := HBW.out.touch t5 (by simp)
                have HT5 : Hid _ := HTX.out.trans t5 (by simp)
                clear x0 x1 x2 hpr t5
                have x := HB5.out.cells
                obtain ⟨x0, x1, x2⟩ := x
                have c := HW5.out.cells
                obtain ⟨c0, c1, c2⟩ := c
                have f0 := HW5.out.fr 0
                have f1 := HW5.out.fr 1
                have f2 := HW5.out.fr 2
                have HFZ : Hid (BoxI (((w5.setCell ⟨w.heap.size, 0, none⟩ (.int .u8 0)).setCell ⟨w.heap.size, 1, none⟩ (.int .i64 0)).setCell ⟨w.heap.size, 2, none⟩ (.int .u64 0)) w.heap.size 0 0 0) := ((HW5.out.set0 0).set1 0).set2 0
                have HFX : Hid (BoxI (((w5.setCell ⟨w.heap.size, 0, none⟩ (.int .u8 o)).setCell ⟨w.heap.size, 1, none⟩ (.int .i64 xa)).setCell ⟨w.heap.size, 2, none⟩ (.int .u64 0)) w.heap.size o xa 0) := ((HW5.out.set0 o).set1 xa).set2 0
                cases rI with
                | false =>
                  have HN : Hid (R = none) := by show _ = _; rw [HR.out]; exact HAN1.out.2.1 (by simp)
                  have hfin := HFZ.out.cells
                  obtain ⟨k0, k1, k2⟩ := hfin
                  simp only [Bool.false_eq_true, if_false]
                  go_wp2
                  refine bodyPost_ret (v := .tuple #[.agg #[.int .u8 0, .int .i64 0, .int .u64 0], .int .i64 3]) (by simp [results, Tryd.results30, go_sem, k0, k1, k2]) rfl ?_
                  rw [HN.out]
                  refine ⟨rfl, ?_⟩
                  repeat (first | exact HT5.out | refine Touch.setCell ?_ (.inr (Nat.le_refl _)) _)
                | true =>
                  simp only [if_true]
                  by_cases hps : pX = s
                  · have HN : Hid (R = some ⟨o, xa, 0⟩) := by show _ = _; rw [HR.out, ← HX2.out]; exact HAN1.out.1 (by simp) hps
                    have hfin := HFX.out.cells
                    obtain ⟨k0, k1, k2⟩ := hfin
                    subst hps
                    go_wp2
                    refine bodyPost_ret (v := .tuple #[.agg #[.int .u8 o, .int .i64 xa, .int .u64 0], .int .i64 0]) (by simp [results, Tryd.results30, go_sem, k0, k1, k2]) rfl ?_
                    rw [HN.out]
                    refine ⟨rfl, ?_⟩
                    repeat (first | exact HT5.out | refine Touch.setCell ?_ (.inr (Nat.le_refl _)) _)
                  · have HN : Hid (R = none) := by show _ = _; rw [HR.out]; exact HAN1.out.2.2 hps
                    obtain ⟨m1, m2⟩ := str_ne' hps
                    have hfin := HFZ.out.cells
                    obtain ⟨k0, k1, k2⟩ := hfin
                    go_wp2
                    refine bodyPost_ret (v := .tuple #[.agg #[.int .u8 0, .int .i64 0, .int .u64 0], .int .i64 3]) (by simp [results, Tryd.results30, go_sem, k0, k1, k2]) rfl ?_
                    rw [HN.out]
                    refine ⟨rfl, ?_⟩
                    repeat (first | exact HT5.out | refine Touch.setCell ?_ (.inr (Nat.le_refl _)) _)
          | false =>
            cases vp with
            | false =>
              have HX2 : Hid (X = ⟨o, 0, 0⟩) := HX.out
              clear hex HX HCR
              go_wp2_with fail
              go_loopw [12] (fun vn W => ∃ n : Nat, vn = .int .i64 n ∧ n = 0 ∧ BoxI W b1 o 0 0 ∧ BoxI W w.heap.size 0 0 0 ∧ Touch w W []) (fun vn _ => 64 - (intOf vn).toNat)
              case atStart => exact ⟨0, rfl, rfl, HBX.out, HBW.out, HTX.out⟩
              case round =>
                clear HBX HBW HTX
                obtain ⟨n, rfl, rfl, hbx, hbw, htx⟩ := hrel
                have HBX : Hid _ := hbx
                have HBW : Hid _ := hbw
                have HTX : Hid _ := htx
                clear hbx hbw htx
                have x := HBX.out.cells
                obtain ⟨x0, x1, x2⟩ := x
                have hpr : HidC _ _ _ _ _ := ⟨rprint_any wr X HXW.out⟩
                have HAN1 : Hid _ := HANS.out
                rw [HX2.out] at hpr
                simp only [InsD.v] at hpr
                generalize hri : rightI X = rI at *
                generalize hpp : printP X = pX at *
                have hpA : printA X = if rI then .tuple #[.string pX, .int .i64 0] else .tuple #[.string ⟨#[]⟩, .int .i64 3] := by unfold printA; rw [hri, hpp]
                rw [HX2.out] at hpA
                rw [hpA] at hpr
                clear hpA hri hpp
                go_wp2_with fail
                refine hpr.out.mono ?_
                rintro e w5 ⟨rfl, t5⟩
                have HB5 : Hid _ := HBX.out.touch t5 (by simp)
                have HW5 : Hid _ := HBW.out.touch t5 (by simp)
                have HT5 : Hid _ := HTX.out.trans t5 (by simp)
                clear x0 x1 x2 hpr t5
                have x := HB5.out.cells
                obtain ⟨x0, x1, x2⟩ := x
                have c := HW5.out.cells
                obtain ⟨c0, c1, c2⟩ := c
                have f0 := HW5.out.fr 0
                have f1 := HW5.out.fr 1
                have f2 := HW5.out.fr 2
                have HFZ : Hid (BoxI (((w5.setCell ⟨w.heap.size, 0, none⟩ (.int .u8 0)).setCell ⟨w.heap.size, 1, none⟩ (.int .i64 0)).setCell ⟨w.heap.size, 2, none⟩ (.int .u64 0)) w.heap.size 0 0 0) := ((HW5.out.set0 0).set1 0).set2 0
                have HFX : Hid (BoxI (((w5.setCell ⟨w.heap.size, 0, none⟩ (.int .u8 o)).setCell ⟨w.heap.size, 1, none⟩ (.int .i64 0)).setCell ⟨w.heap.size, 2, none⟩ (.int .u64 0)) w.heap.size o 0 0) := ((HW5.out.set0 o).set1 0).set2 0
                cases rI with
                | false =>
                  have HN : Hid (R = none) := by show _ = _; rw [HR.out]; exact HAN1.out.2.1 (by simp)
                  have hfin := HFZ.out.cells
                  obtain ⟨k0, k1, k2⟩ := hfin
                  simp only [Bool.false_eq_true, if_false]
                  go_wp2
                  refine bodyPost_ret (v := .tuple #[.agg #[.int .u8 0, .int .i64 0, .int .u64 0], .int .i64 3]) (by simp [results, Tryd.results30, go_sem, k0, k1, k2]) rfl ?_
                  rw [HN.out]
                  refine ⟨rfl, ?_⟩
                  repeat (first | exact HT5.out | refine Touch.setCell ?_ (.inr (Nat.le_refl _)) _)
                | true =>
                  simp only [if_true]
                  by_cases hps : pX = s
                  · have HN : Hid (R = some ⟨o, 0, 0⟩) := by show _ = _; rw [HR.out, ← HX2.out]; exact HAN1.out.1 (by simp) hps
                    have hfin := HFX.out.cells
                    obtain ⟨k0, k1, k2⟩ := hfin
                    subst hps
                    go_wp2
                    refine bodyPost_ret (v := .tuple #[.agg #[.int .u8 o, .int .i64 0, .int .u64 0], .int .i64 0]) (by simp [results, Tryd.results30, go_sem, k0, k1, k2]) rfl ?_
                    rw [HN.out]
                    refine ⟨rfl, ?_⟩
                    repeat (first | exact HT5.out | refine Touch.setCell ?_ (.inr (Nat.le_refl _)) _)
                  · have HN : Hid (R = none) := by show _ = _; rw [HR.out]; exact HAN1.out.2.2 hps
                    obtain ⟨m1, m2⟩ := str_ne' hps
                    have hfin := HFZ.out.cells
                    obtain ⟨k0, k1, k2⟩ := hfin
                    go_wp2
                    refine bodyPost_ret (v := .tuple #[.agg #[.int .u8 0, .int .i64 0, .int .u64 0], .int .i64 3]) (by simp [results, Tryd.results30, go_sem, k0, k1, k2]) rfl ?_
                    rw [HN.out]
                    refine ⟨rfl, ?_⟩
                    repeat (first | exact HT5.out | refine Touch.setCell ?_ (.inr (Nat.le_refl _)) _)
            | true =>
              by_cases h17 : rest.size = 17
              · have h17' : (rest.size : Int) = 17 := by omega
                have h17b : ((rest.size : Int) == 17) = true := by simp; omega
                have h17c : (1 : Int) ≤ rest.size := by omega
                have HCR2 : Hid _ := HCR.out h17
                have hpa : HidC _ _ _ _ _ := ⟨rparse_any (cutR s) (by have := cutR_size s; omega) W1⟩
                have hpe : ∃ (x : Nat) (er : Int), parseE (parseV (cutR s)) = .tuple #[.int .u64 x, .int .i64 er] ∧ (parseV (cutR s)).getD 0 = x := by
                  cases parseV (cutR s) with
                  | none => exact ⟨0, 3, rfl, rfl⟩
                  | some n => exact ⟨n, 0, rfl, rfl⟩
                obtain ⟨xv, er, q1, q2⟩ := hpe
                have HX2 : Hid (X = ⟨o, 0, (xv : Int)⟩) := by show _ = _; rw [HX.out, ← q2]; simp [h17]
                rw [q1, ← HCR2.out] at hpa
                clear hex HX HCR q1 q2 HCR2 h17 h17'
                go_wp2_with fail
                refine hpa.out.mono ?_
                rintro e w2 ⟨rfl, t2⟩
                have B2 := HBX.out.touch t2 (by simp)
                have x := B2.cells
                obtain ⟨x0, x1, x2⟩ := x
                have g2 := B2.fr 2
                have HB2 : Hid _ := B2.set2 xv
                have HW2 : Hid (BoxI (w2.setCell ⟨b1, 2, none⟩ (.int .u64 (xv : Int))) w.heap.size 0 0 0) := (HBW.out.touch t2 (by simp)).touch ((Touch.refl w2 [b1]).setCell (.inl (by simp)) _) (by simp; omega)
                have HT2 : Hid (Touch w (w2.setCell ⟨b1, 2, none⟩ (.int .u64 (xv : Int))) []) := (HTX.out.trans t2 (by simp)).setCell (.inr hlw) _
                clear hpa t2 B2 HBX HBW HTX
                go_wp2_with fail
                go_loopw [12] (fun vn W => ∃ n : Nat, vn = .int .i64 n ∧ n = 0 ∧ BoxI W b1 o 0 xv ∧ BoxI W w.heap.size 0 0 0 ∧ Touch w W []) (fun vn _ => 64 - (intOf vn).toNat)
                case atStart => exact ⟨0, rfl, rfl, HB2.out, HW2.out, HT2.out⟩
                case round =>
                  obtain ⟨n, rfl, rfl, hbx, hbw, htx⟩ := hrel
                  have HBX : Hid _ := hbx
                  have HBW : Hid _ := hbw
                  have HTX : Hid _ := htx
                  clear hbx hbw htx x0 x1 x2 g2
                  have x := HBX.out.cells
                  obtain ⟨x0, x1, x2⟩ := x
                  have hpr : HidC _ _ _ _ _ := ⟨rprint_any wr X HXW.out⟩
                  have HAN1 : Hid _ := HANS.out
                  rw [HX2.out] at hpr
                  simp only [InsD.v] at hpr
                  generalize hri : rightI X = rI at *
                  generalize hpp : printP X = pX at *
                  have hpA : printA X = if rI then .tuple #[.string pX, .int .i64 0] else .tuple #[.string ⟨#[]⟩, .int .i64 3] := by unfold printA; rw [hri, hpp]
                  rw [HX2.out] at hpA
                  rw [hpA] at hpr
                  clear hpA hri hpp
                  go_wp2_with fail
                  refine hpr.out.mono ?_
                  rintro e w5 ⟨rfl, t5⟩
                  have HB5 : Hid _ := HBX.out.touch t5 (by simp)
                  have HW5 : Hid _ := HBW.out.touch t5 (by simp)
                  have HT5 : Hid _ := HTX.out.trans t5 (by simp)
                  clear x0 x1 x2 hpr t5
                  have x := HB5.out.cells
                  obtain ⟨x0, x1, x2⟩ := x
                  have c := HW5.out.cells
                  obtain ⟨c0, c1, c2⟩ := c
                  have f0 := HW5.out.fr 0
                  have f1 := HW5.out.fr 1
                  have f2 := HW5.out.fr 2
                  have HFZ : Hid (BoxI (((w5.setCell ⟨w.heap.size, 0, none⟩ (.int .u8 0)).setCell ⟨w.heap.size, 1, none⟩ (.int .i64 0)).setCell ⟨w.heap.size, 2, none⟩ (.int .u64 0)) w.heap.size 0 0 0) := ((HW5.out.set0 0).set1 0).set2 0
                  have HFX : Hid (BoxI (((w5.setCell ⟨w.heap.size, 0, none⟩ (.int .u8 o)).setCell ⟨w.heap.size, 1, none⟩ (.int .i64 0)).setCell ⟨w.heap.size, 2, none⟩ (.int .u64 xv)) w.heap.size o 0 xv) := ((HW5.out.set0 o).set1 0).set2 xv
                  cases rI with
                  | false =>
                    have HN : Hid (R = none) := by show _ = _; rw [HR.out]; exact HAN1.out.2.1 (by simp)
                    have hfin := HFZ.out.cells
                    obtain ⟨k0, k1, k2⟩ := hfin
                    simp only [Bool.false_eq_true, if_false]
                    go_wp2
                    refine bodyPost_ret (v := .tuple #[.agg #[.int .u8 0, .int .i64 0, .int .u64 0], .int .i64 3]) (by simp [results, Tryd.results30, go_sem, k0, k1, k2]) rfl ?_
                    rw [HN.out]
                    refine ⟨rfl, ?_⟩
                    repeat (first | exact HT5.out | refine Touch.setCell ?_ (.inr (Nat.le_refl _)) _)
                  | true =>
                    simp only [if_true]
                    by_cases hps : pX = s
                    · have HN : Hid (R = some ⟨o, 0, xv⟩) := by show _ = _; rw [HR.out, ← HX2.out]; exact HAN1.out.1 (by simp) hps
                      have hfin := HFX.out.cells
                      obtain ⟨k0, k1, k2⟩ := hfin
                      subst hps
                      go_wp2
                      refine bodyPost_ret (v := .tuple #[.agg #[.int .u8 o, .int .i64 0, .int .u64 xv], .int .i64 0]) (by simp [results, Tryd.results30, go_sem, k0, k1, k2]) rfl ?_
                      rw [HN.out]
                      refine ⟨rfl, ?_⟩
                      repeat (first | exact HT5.out | refine Touch.setCell ?_ (.inr (Nat.le_refl _)) _)
                    · have HN : Hid (R = none) := by show _ = _; rw [HR.out]; exact HAN1.out.2.2 hps
                      obtain ⟨m1, m2⟩ := str_ne' hps
                      have hfin := HFZ.out.cells
                      obtain ⟨k0, k1, k2⟩ := hfin
                      go_wp2
                      refine bodyPost_ret (v := .tuple #[.agg #[.int .u8 0, .int .i64 0, .int .u64 0], .int .i64 3]) (by simp [results, Tryd.results30, go_sem, k0, k1, k2]) rfl ?_
                      rw [HN.out]
                      refine ⟨rfl, ?_⟩
                      repeat (first | exact HT5.out | refine Touch.setCell ?_ (.inr (Nat.le_refl _)) _)
              · have h17' : ¬ (rest.size : Int) = 17 := by omega
                have h17b : ((rest.size : Int) == 17) = false := by simp; omega
                have HX2 : Hid (X = ⟨o, 0, 0⟩) := by show _ = _; rw [HX.out]; simp [h17]
                clear hex HX HCR
                go_wp2_with fail
                go_loopw [12] (fun vn W => ∃ n : Nat, vn = .int .i64 n ∧ n = 0 ∧ BoxI W b1 o 0 0 ∧ BoxI W w.heap.size 0 0 0 ∧ Touch w W []) (fun vn _ => 64 - (intOf vn).toNat)
                case atStart => exact ⟨0, rfl, rfl, HBX.out, HBW.out, HTX.out⟩
                case round =>
                  clear HBX HBW HTX
                  obtain ⟨n, rfl, rfl, hbx, hbw, htx⟩ := hrel
                  have HBX : Hid _ := hbx
                  have HBW : Hid _ := hbw
                  have HTX : Hid _ := htx
                  clear hbx hbw htx
                  have x := HBX.out.cells
                  obtain ⟨x0, x1, x2⟩ := x
                  have hpr : HidC _ _ _ _ _ := ⟨rprint_any wr X HXW.out⟩
                  have HAN1 : Hid _ := HANS.out
                  rw [HX2.out] at hpr
                  simp only [InsD.v] at hpr
                  generalize hri : rightI X = rI at *
                  generalize hpp : printP X = pX at *
                  have hpA : printA X = if rI then .tuple #[.string pX, .int .i64 0] else .tuple #[.string ⟨#[]⟩, .int .i64 3] := by unfold printA; rw [hri, hpp]
                  rw [HX2.out] at hpA
                  rw [hpA] at hpr
                  clear hpA hri hpp
                  go_wp2_with fail
                  refine hpr.out.mono ?_
                  rintro e w5 ⟨rfl, t5⟩
                  have HB5 : Hid _ := HBX.out.touch t5 (by simp)
                  have HW5 : Hid _ := HBW.out.touch t5 (by simp)
                  have HT5 : Hid _ := HTX.out.trans t5 (by simp)
                  clear x0 x1 x2 hpr t5
                  have x := HB5.out.cells
                  obtain ⟨x0, x1, x2⟩ := x
                  have c := HW5.out.cells
                  obtain ⟨c0, c1, c2⟩ := c
                  have f0 := HW5.out.fr 0
                  have f1 := HW5.out.fr 1
                  have f2 := HW5.out.fr 2
                  have HFZ : Hid (BoxI (((w5.setCell ⟨w.heap.size, 0, none⟩ (.int .u8 0)).setCell ⟨w.heap.size, 1, none⟩ (.int .i64 0)).setCell ⟨w.heap.size, 2, none⟩ (.int .u64 0)) w.heap.size 0 0 0) := ((HW5.out.set0 0).set1 0).set2 0
                  have HFX : Hid (BoxI (((w5.setCell ⟨w.heap.size, 0, none⟩ (.int .u8 o)).setCell ⟨w.heap.size, 1, none⟩ (.int .i64 0)).setCell ⟨w.heap.size, 2, none⟩ (.int .u64 0)) w.heap.size o 0 0) := ((HW5.out.set0 o).set1 0).set2 0
                  cases rI with
                  | false =>
                    have HN : Hid (R = none) := by show _ = _; rw [HR.out]; exact HAN1.out.2.1 (by simp)
                    have hfin := HFZ.out.cells
                    obtain ⟨k0, k1, k2⟩ := hfin
                    simp only [Bool.false_eq_true, if_false]
                    go_wp2
                    refine bodyPost_ret (v := .tuple #[.agg #[.int .u8 0, .int .i64 0, .int .u64 0], .int .i64 3]) (by simp [results, Tryd.results30, go_sem, k0, k1, k2]) rfl ?_
                    rw [HN.out]
                    refine ⟨rfl, ?_⟩
                    repeat (first | exact HT5.out | refine Touch.setCell ?_ (.inr (Nat.le_refl _)) _)
                  | true =>
                    simp only [if_true]
                    by_cases hps : pX = s
                    · have HN : Hid (R = some ⟨o, 0, 0⟩) := by show _ = _; rw [HR.out, ← HX2.out]; exact HAN1.out.1 (by simp) hps
                      have hfin := HFX.out.cells
                      obtain ⟨k0, k1, k2⟩ := hfin
                      subst hps
                      go_wp2
                      refine bodyPost_ret (v := .tuple #[.agg #[.int .u8 o, .int .i64 0, .int .u64 0], .int .i64 0]) (by simp [results, Tryd.results30, go_sem, k0, k1, k2]) rfl ?_
                      rw [HN.out]
                      refine ⟨rfl, ?_⟩
                      repeat (first | exact HT5.out | refine Touch.setCell ?_ (.inr (Nat.le_refl _)) _)
                    · have HN : Hid (R = none) := by show _ = _; rw [HR.out]; exact HAN1.out.2.2 hps
                      obtain ⟨m1, m2⟩ := str_ne' hps
                      have hfin := HFZ.out.cells
                      obtain ⟨k0, k1, k2⟩ := hfin
                      go_wp2
                      refine bodyPost_ret (v := .tuple #[.agg #[.int .u8 0, .int .i64 0, .int .u64 0], .int .i64 3]) (by simp [results, Tryd.results30, go_sem, k0, k1, k2]) rfl ?_
                      rw [HN.out]
                      refine ⟨rfl, ?_⟩
                      repeat (first | exact HT5.out | refine Touch.setCell ?_ (.inr (Nat.le_refl _)) _)
    · have HWD : Hid (wd = cutW s) := hwd
      have HRE : Hid (rest = restB s) := hre
      have hrs : rest.size ≤ 100000 := by
        rw [hre]; unfold restB; split
        · rw [ByteArray.size_extract]; omega
        · show 0 ≤ _; omega
      obtain ⟨n1, n2, n3, n4⟩ := not_empty hne
      clear hlk hwd hre hne
      by_cases hlt : k < s.size
      · have h1 : (k : Int) < s.size := by omega
        have hrw : HidC _ _ _ _ _ := ⟨rreadWord_any wd wr⟩
        rw [byK_op] at hrw
        cases hop : opOf wd.data.toList with
        | none =>
          rw [hop] at hrw
          simp only [Option.map_none, Option.getD_none, Option.isSome_none] at hrw
          have HN : Hid (R = none) := by show _ = _; rw [HR.out]; exact parse_noop (by rw [← HWD.out]; exact hop)
          clear hop
          go_wp2_with fail
          refine hrw.out.mono ?_
          rintro e w1 ⟨rfl, t1⟩
          have HT1 : Hid _ := HT.out.trans t1 (by simp)
          have HB1 : Hid (BoxI w1 w.heap.size 0 0 0) := HB.out.touch t1 (by simp)
          have c := HB1.out.cells
          obtain ⟨c0, c1, c2⟩ := c
          have f0 := HB1.out.fr 0
          have f1 := HB1.out.fr 1
          have f2 := HB1.out.fr 2
          have HFIN : Hid (BoxI (((w1.setCell ⟨w.heap.size, 0, none⟩ (.int .u8 0)).setCell ⟨w.heap.size, 1, none⟩ (.int .i64 0)).setCell ⟨w.heap.size, 2, none⟩ (.int .u64 0)) w.heap.size 0 0 0) := ((HB1.out.set0 0).set1 0).set2 0
          have hfin := HFIN.out.cells
          obtain ⟨k0, k1, k2⟩ := hfin
          clear hrw t1
          go_wp2
          refine bodyPost_ret (v := .tuple #[.agg #[.int .u8 0, .int .i64 0, .int .u64 0], .int .i64 3]) (by simp [results, Tryd.results30, go_sem, k0, k1, k2]) rfl ?_
          rw [HN.out]
          refine ⟨rfl, ?_⟩
          repeat (first | exact HT1.out | refine Touch.setCell ?_ (.inr (Nat.le_refl _)) _)
        | some o =>
          rw [hop] at hrw
          simp only [Option.map_some, Option.getD_some, Option.isSome_some] at hrw
          have hop2 : opOf (cutW s).data.toList = some o := by rw [← HWD.out]; exact hop
          obtain ⟨_, ho0, ho1⟩ := opOf_inv hop2
          have HANS : Hid _ := ref_answer hop2
          have HXW : Hid _ := refX_wf s ho0 ho1
          have HX : Hid (refX s o = ⟨o, if argP o then argF rest 64 else 0, if valP o && decide (rest.size = 17) then ((parseV (cutR s)).getD 0 : Nat) else 0⟩) := by show _ = _; rw [HRE.out]; rfl
          have hex := arg_not_val (o := o)
          have HCR : Hid (rest.size = 17 → rest.extract 1 rest.size = cutR s) := fun h => by rw [HRE.out] at h ⊢; exact (restB_cut h).1
          generalize refX s o = X at *
          clear hop hop2
          go_wp2_with fail
          refine hrw.out.mono ?_
          rintro e w1 ⟨rfl, t1⟩
          clear hrw
          have HB1 : Hid (BoxI w1 w.heap.size 0 0 0) := HB.out.touch t1 (by simp)
          have tX : Touch w1 (w1.alloc (.cells #[.int .u8 o, .int .i64 0, .int .u64 0] 26)) [] := (Touch.refl w1 []).alloc _
          have HBX : Hid (BoxI (w1.alloc (.cells #[.int .u8 o, .int .i64 0, .int .u64 0] 26)) w1.heap.size o 0 0) := BoxI.new w1 o 0 0
          have HBW : Hid (BoxI (w1.alloc (.cells #[.int .u8 o, .int .i64 0, .int .u64 0] 26)) w.heap.size 0 0 0) := HB1.out.touch tX (by simp)
          have HTX : Hid (Touch w (w1.alloc (.cells #[.int .u8 o, .int .i64 0, .int .u64 0] 26)) []) := (HT.out.trans t1 (by simp)).trans tX (by simp)
          have hus : HidC _ _ _ _ _ := ⟨ruses_any o (w1.alloc (.cells #[.int .u8 o, .int .i64 0, .int .u64 0] 26))⟩
          have hne : w1.heap.size ≠ w.heap.size := by have := HB1.out.lt; omega
          have hlw : w.heap.size ≤ w1.heap.size := by have := HB1.out.lt; omega
          clear t1 tX HB HT HB1 HWD
          go_wp2_with fail
          refine hus.out.mono ?_
          rintro e _ ⟨rfl, rfl⟩
          clear hus
          generalize argP o = ap at *
          generalize valP o = vp at *
          generalize w1.alloc (.cells #[.int .u8 o, .int .i64 0, .int .u64 0] 26) = W1 at *
          generalize w1.heap.size = b1 at *
          cases ap with
          | true =>
            obtain rfl : vp = false := hex rfl
            have HX2 : Hid (X = ⟨o, argF rest 64, 0⟩) := HX.out
            clear hex HX HCR
            go_wp2_with fail
            go_loopw [12] (fun vn W => ∃ n : Nat, vn = .int .i64 n ∧ n ≤ 64 ∧ BoxI W b1 o (argF rest n) 0 ∧ BoxI W w.heap.size 0 0 0 ∧ Touch w W []) (fun vn _ => 64 - (intOf vn).toNat)
            case atStart => exact ⟨0, rfl, by omega, HBX.out, HBW.out, HTX.out⟩
            case round =>
              clear HBX HBW HTX
              obtain ⟨n, rfl, hn, hbx, hbw, htx⟩ := hrel
              have HBX : Hid _ := hbx
              have HBW : Hid _ := hbw
              have HTX : Hid _ := htx
              by_cases hlt2 : n < 64
              · have hn1 : (n : Int) < 64 := by omega
                have hdg : HidC _ _ _ _ _ := ⟨rdigits_any (n : Int) (by omega) (by omega) wr⟩
                have hs2 := argT_size (n : Int) (by omega) (by omega)
                have HAF : Hid (argF rest (n + 1) = if rest = ⟨#[32]⟩ ++ argT (n : Nat) then (n : Int) else argF rest n) := rfl
                generalize argT (n : Nat) = at' at *
                have hsz1 : (ByteArray.mk #[32]).size + at'.size ≤ 9223372036854775807 := by show 1 + at'.size ≤ _; omega
                have hsm1 := fun W : World => run_string_add_sum (P := Tryd.prog) (w := W) ⟨#[32]⟩ at' hsz1
                generalize (ByteArray.mk #[32]) ++ at' = c1 at *
                have x := hbx.cells
                obtain ⟨x0, x1, x2⟩ := x
                have g1 := hbx.fr 1
                clear hbx hbw htx hsz1
                by_cases he : rest = c1
                · subst he
                  have HAF2 : Hid (argF rest (n + 1) = n) := by show _ = _; rw [HAF.out, if_pos rfl]
                  clear HAF
                  go_wp2_with fail
                  refine hdg.out.mono ?_
                  rintro e _ ⟨rfl, rfl⟩
                  clear hdg
                  go_wp2
                  go_roundw
                  case rel => exact ⟨n + 1, by go_num, by omega, by rw [HAF2.out]; exact HBX.out.set1 n, HBW.out.touch ((Touch.refl wr [b1]).setCell (.inl (by simp)) _) (by simp; omega), HTX.out.setCell (.inr hlw) _⟩
                  case measure => simp [intOf]; omega
                · have HAF2 : Hid (argF rest (n + 1) = argF rest n) := by show _ = _; rw [HAF.out, if_neg he]
                  obtain ⟨m1, m2⟩ := str_ne' he
                  clear HAF
                  go_wp2_with fail
                  refine hdg.out.mono ?_
                  rintro e _ ⟨rfl, rfl⟩
                  clear hdg
                  go_wp2
                  go_roundw
                  case rel => exact ⟨n + 1, by go_num, by omega, by rw [HAF2.out]; exact HBX.out, HBW.out, HTX.out⟩
                  case measure => simp [intOf]; omega
              · obtain rfl : n = 64 := by omega
                clear hbx hbw htx
                generalize argF rest 64 = xa at *
                have x := HBX.out.cells
                obtain ⟨x0, x1, x2⟩ := x
                have hpr : HidC _ _ _ _ _ := ⟨rprint_any wr X HXW.out⟩
                have HAN1 : Hid _ := HANS.out
                rw [HX2.out] at hpr
                simp only [InsD.v] at hpr
                generalize hri : rightI X = rI at *
                generalize hpp : printP X = pX at *
                have hpA : printA X = if rI then .tuple #[.string pX, .int .i64 0] else .tuple #[.string ⟨#[]⟩, .int .i64 3] := by unfold printA; rw [hri, hpp]
                rw [HX2.out] at hpA
                rw [hpA] at hpr
                clear hpA hri hpp
                go_wp2_with fail
                refine hpr.out.mono ?_
                rintro e w5 ⟨rfl, t5⟩
                have HB5 : Hid _ := HBX.out.touch t5 (by simp)
                have HW5 : Hid _ := HBW.out.touch t5 (by simp)
                have HT5 : Hid _ := HTX.out.trans t5 (by simp)
                clear x0 x1 x2 hpr t5
                have x := HB5.out.cells
                obtain ⟨x0, x1, x2⟩ := x
                have c := HW5.out.cells
                obtain ⟨c0, c1, c2⟩ := c
                have f0 := HW5.out.fr 0
                have f1 := HW5.out.fr 1
                have f2 := HW5.out.fr 2
                have HFZ : Hid (BoxI (((w5.setCell ⟨w.heap.size, 0, none⟩ (.int .u8 0)).setCell ⟨w.heap.size, 1, none⟩ (.int .i64 0)).setCell ⟨w.heap.size, 2, none⟩ (.int .u64 0)) w.heap.size 0 0 0) := ((HW5.out.set0 0).set1 0).set2 0
                have HFX : Hid (BoxI (((w5.setCell ⟨w.heap.size, 0, none⟩ (.int .u8 o)).setCell ⟨w.heap.size, 1, none⟩ (.int .i64 xa)).setCell ⟨w.heap.size, 2, none⟩ (.int .u64 0)) w.heap.size o xa 0) := ((HW5.out.set0 o).set1 xa).set2 0
                cases rI with
                | false =>
                  have HN : Hid (R = none) := by show _ = _; rw [HR.out]; exact HAN1.out.2.1 (by simp)
                  have hfin := HFZ.out.cells
                  obtain ⟨k0, k1, k2⟩ := hfin
                  simp only [Bool.false_eq_true, if_false]
                  go_wp2
                  refine bodyPost_ret (v := .tuple #[.agg #[.int .u8 0, .int .i64 0, .int .u64 0], .int .i64 3]) (by simp [results, Tryd.results30, go_sem, k0, k1, k2]) rfl ?_
                  rw [HN.out]
                  refine ⟨rfl, ?_⟩
                  repeat (first | exact HT5.out | refine Touch.setCell ?_ (.inr (Nat.le_refl _)) _)
                | true =>
                  simp only [if_true]
                  by_cases hps : pX = s
                  · have HN : Hid (R = some ⟨o, xa, 0⟩) := by show _ = _; rw [HR.out, ← HX2.out]; exact HAN1.out.1 (by simp) hps
                    have hfin := HFX.out.cells
                    obtain ⟨k0, k1, k2⟩ := hfin
                    subst hps
                    go_wp2
                    refine bodyPost_ret (v := .tuple #[.agg #[.int .u8 o, .int .i64 xa, .int .u64 0], .int .i64 0]) (by simp [results, Tryd.results30, go_sem, k0, k1, k2]) rfl ?_
                    rw [HN.out]
                    refine ⟨rfl, ?_⟩
                    repeat (first | exact HT5.out | refine Touch.setCell ?_ (.inr (Nat.le_refl _)) _)
                  · have HN : Hid (R = none) := by show _ = _; rw [HR.out]; exact HAN1.out.2.2 hps
                    obtain ⟨m1, m2⟩ := str_ne' hps
                    have hfin := HFZ.out.cells
                    obtain ⟨k0, k1, k2⟩ := hfin
                    go_wp2
                    refine bodyPost_ret (v := .tuple #[.agg #[.int .u8 0, .int .i64 0, .int .u64 0], .int .i64 3]) (by simp [results, Tryd.results30, go_sem, k0, k1, k2]) rfl ?_
                    rw [HN.out]
                    refine ⟨rfl, ?_⟩
                    repeat (first | exact HT5.out | refine Touch.setCell ?_ (.inr (Nat.le_refl _)) _)
          | false =>
            cases vp with
            | false =>
              have HX2 : Hid (X = ⟨o, 0, 0⟩) := HX.out
              clear hex HX HCR
              go_wp2_with fail
              go_loopw [12] (fun vn W => ∃ n : Nat, vn = .int .i64 n ∧ n = 0 ∧ BoxI W b1 o 0 0 ∧ BoxI W w.heap.size 0 0 0 ∧ Touch w W []) (fun vn _ => 64 - (intOf vn).toNat)
              case atStart => exact ⟨0, rfl, rfl, HBX.out, HBW.out, HTX.out⟩
              case round =>
                clear HBX HBW HTX
                obtain ⟨n, rfl, rfl, hbx, hbw, htx⟩ := hrel
                have HBX : Hid _ := hbx
                have HBW : Hid _ := hbw
                have HTX : Hid _ := htx
                clear hbx hbw htx
                have x := HBX.out.cells
                obtain ⟨x0, x1, x2⟩ := x
                have hpr : HidC _ _ _ _ _ := ⟨rprint_any wr X HXW.out⟩
                have HAN1 : Hid _ := HANS.out
                rw [HX2.out] at hpr
                simp only [InsD.v] at hpr
                generalize hri : rightI X = rI at *
                generalize hpp : printP X = pX at *
                have hpA : printA X = if rI then .tuple #[.string pX, .int .i64 0] else .tuple #[.string ⟨#[]⟩, .int .i64 3] := by unfold printA; rw [hri, hpp]
                rw [HX2.out] at hpA
                rw [hpA] at hpr
                clear hpA hri hpp
                go_wp2_with fail
                refine hpr.out.mono ?_
                rintro e w5 ⟨rfl, t5⟩
                have HB5 : Hid _ := HBX.out.touch t5 (by simp)
                have HW5 : Hid _ := HBW.out.touch t5 (by simp)
                have HT5 : Hid _ := HTX.out.trans t5 (by simp)
                clear x0 x1 x2 hpr t5
                have x := HB5.out.cells
                obtain ⟨x0, x1, x2⟩ := x
                have c := HW5.out.cells
                obtain ⟨c0, c1, c2⟩ := c
                have f0 := HW5.out.fr 0
                have f1 := HW5.out.fr 1
                have f2 := HW5.out.fr 2
                have HFZ : Hid (BoxI (((w5.setCell ⟨w.heap.size, 0, none⟩ (.int .u8 0)).setCell ⟨w.heap.size, 1, none⟩ (.int .i64 0)).setCell ⟨w.heap.size, 2, none⟩ (.int .u64 0)) w.heap.size 0 0 0) := ((HW5.out.set0 0).set1 0).set2 0
                have HFX : Hid (BoxI (((w5.setCell ⟨w.heap.size, 0, none⟩ (.int .u8 o)).setCell ⟨w.heap.size, 1, none⟩ (.int .i64 0)).setCell ⟨w.heap.size, 2, none⟩ (.int .u64 0)) w.heap.size o 0 0) := ((HW5.out.set0 o).set1 0).set2 0
                cases rI with
                | false =>
                  have HN : Hid (R = none) := by show _ = _; rw [HR.out]; exact HAN1.out.2.1 (by simp)
                  have hfin := HFZ.out.cells
                  obtain ⟨k0, k1, k2⟩ := hfin
                  simp only [Bool.false_eq_true, if_false]
                  go_wp2
                  refine bodyPost_ret (v := .tuple #[.agg #[.int .u8 0, .int .i64 0, .int .u64 0], .int .i64 3]) (by simp [results, Tryd.results30, go_sem, k0, k1, k2]) rfl ?_
                  rw [HN.out]
                  refine ⟨rfl, ?_⟩
                  repeat (first | exact HT5.out | refine Touch.setCell ?_ (.inr (Nat.le_refl _)) _)
                | true =>
                  simp only [if_true]
                  by_cases hps : pX = s
                  · have HN : Hid (R = some ⟨o, 0, 0⟩) := by show _ = _; rw [HR.out, ← HX2.out]; exact HAN1.out.1 (by simp) hps
                    have hfin := HFX.out.cells
                    obtain ⟨k0, k1, k2⟩ := hfin
                    subst hps
                    go_wp2
                    refine bodyPost_ret (v := .tuple #[.agg #[.int .u8 o, .int .i64 0, .int .u64 0], .int .i64 0]) (by simp [results, Tryd.results30, go_sem, k0, k1, k2]) rfl ?_
                    rw [HN.out]
                    refine ⟨rfl, ?_⟩
                    repeat (first | exact HT5.out | refine Touch.setCell ?_ (.inr (Nat.le_refl _)) _)
                  · have HN : Hid (R = none) := by show _ = _; rw [HR.out]; exact HAN1.out.2.2 hps
                    obtain ⟨m1, m2⟩ := str_ne' hps
                    have hfin := HFZ.out.cells
                    obtain ⟨k0, k1, k2⟩ := hfin
                    go_wp2
                    refine bodyPost_ret (v := .tuple #[.agg #[.int .u8 0, .int .i64 0, .int .u64 0], .int .i64 3]) (by simp [results, Tryd.results30, go_sem, k0, k1, k2]) rfl ?_
                    rw [HN.out]
                    refine ⟨rfl, ?_⟩
                    repeat (first | exact HT5.out | refine Touch.setCell ?_ (.inr (Nat.le_refl _)) _)
            | true =>
              by_cases h17 : rest.size = 17
              · have h17' : (rest.size : Int) = 17 := by omega
                have h17b : ((rest.size : Int) == 17) = true := by simp; omega
                have h17c : (1 : Int) ≤ rest.size := by omega
                have HCR2 : Hid _ := HCR.out h17
                have hpa : HidC _ _ _ _ _ := ⟨rparse_any (cutR s) (by have := cutR_size s; omega) W1⟩
                have hpe : ∃ (x : Nat) (er : Int), parseE (parseV (cutR s)) = .tuple #[.int .u64 x, .int .i64 er] ∧ (parseV (cutR s)).getD 0 = x := by
                  cases parseV (cutR s) with
                  | none => exact ⟨0, 3, rfl, rfl⟩
                  | some n => exact ⟨n, 0, rfl, rfl⟩
                obtain ⟨xv, er, q1, q2⟩ := hpe
                have HX2 : Hid (X = ⟨o, 0, (xv : Int)⟩) := by show _ = _; rw [HX.out, ← q2]; simp [h17]
                rw [q1, ← HCR2.out] at hpa
                clear hex HX HCR q1 q2 HCR2 h17 h17'
                go_wp2_with fail
                refine hpa.out.mono ?_
                rintro e w2 ⟨rfl, t2⟩
                have B2 := HBX.out.touch t2 (by simp)
                have x := B2.cells
                obtain ⟨x0, x1, x2⟩ := x
                have g2 := B2.fr 2
                have HB2 : Hid _ := B2.set2 xv
                have HW2 : Hid (BoxI (w2.setCell ⟨b1, 2, none⟩ (.int .u64 (xv : Int))) w.heap.size 0 0 0) := (HBW.out.touch t2 (by simp)).touch ((Touch.refl w2 [b1]).setCell (.inl (by simp)) _) (by simp; omega)
                have HT2 : Hid (Touch w (w2.setCell ⟨b1, 2, none⟩ (.int .u64 (xv : Int))) []) := (HTX.out.trans t2 (by simp)).setCell (.inr hlw) _
                clear hpa t2 B2 HBX HBW HTX
                go_wp2_with fail
                go_loopw [12] (fun vn W => ∃ n : Nat, vn = .int .i64 n ∧ n = 0 ∧ BoxI W b1 o 0 xv ∧ BoxI W w.heap.size 0 0 0 ∧ Touch w W []) (fun vn _ => 64 - (intOf vn).toNat)
                case atStart => exact ⟨0, rfl, rfl, HB2.out, HW2.out, HT2.out⟩
                case round =>
                  obtain ⟨n, rfl, rfl, hbx, hbw, htx⟩ := hrel
                  have HBX : Hid _ := hbx
                  have HBW : Hid _ := hbw
                  have HTX : Hid _ := htx
                  clear hbx hbw htx x0 x1 x2 g2
                  have x := HBX.out.cells
                  obtain ⟨x0, x1, x2⟩ := x
                  have hpr : HidC _ _ _ _ _ := ⟨rprint_any wr X HXW.out⟩
                  have HAN1 : Hid _ := HANS.out
                  rw [HX2.out] at hpr
                  simp only [InsD.v] at hpr
                  generalize hri : rightI X = rI at *
                  generalize hpp : printP X = pX at *
                  have hpA : printA X = if rI then .tuple #[.string pX, .int .i64 0] else .tuple #[.string ⟨#[]⟩, .int .i64 3] := by unfold printA; rw [hri, hpp]
                  rw [HX2.out] at hpA
                  rw [hpA] at hpr
                  clear hpA hri hpp
                  go_wp2_with fail
                  refine hpr.out.mono ?_
                  rintro e w5 ⟨rfl, t5⟩
                  have HB5 : Hid _ := HBX.out.touch t5 (by simp)
                  have HW5 : Hid _ := HBW.out.touch t5 (by simp)
                  have HT5 : Hid _ := HTX.out.trans t5 (by simp)
                  clear x0 x1 x2 hpr t5
                  have x := HB5.out.cells
                  obtain ⟨x0, x1, x2⟩ := x
                  have c := HW5.out.cells
                  obtain ⟨c0, c1, c2⟩ := c
                  have f0 := HW5.out.fr 0
                  have f1 := HW5.out.fr 1
                  have f2 := HW5.out.fr 2
                  have HFZ : Hid (BoxI (((w5.setCell ⟨w.heap.size, 0, none⟩ (.int .u8 0)).setCell ⟨w.heap.size, 1, none⟩ (.int .i64 0)).setCell ⟨w.heap.size, 2, none⟩ (.int .u64 0)) w.heap.size 0 0 0) := ((HW5.out.set0 0).set1 0).set2 0
                  have HFX : Hid (BoxI (((w5.setCell ⟨w.heap.size, 0, none⟩ (.int .u8 o)).setCell ⟨w.heap.size, 1, none⟩ (.int .i64 0)).setCell ⟨w.heap.size, 2, none⟩ (.int .u64 xv)) w.heap.size o 0 xv) := ((HW5.out.set0 o).set1 0).set2 xv
                  cases rI with
                  | false =>
                    have HN : Hid (R = none) := by show _ = _; rw [HR.out]; exact HAN1.out.2.1 (by simp)
                    have hfin := HFZ.out.cells
                    obtain ⟨k0, k1, k2⟩ := hfin
                    simp only [Bool.false_eq_true, if_false]
                    go_wp2
                    refine bodyPost_ret (v := .tuple #[.agg #[.int .u8 0, .int .i64 0, .int .u64 0], .int .i64 3]) (by simp [results, Tryd.results30, go_sem, k0, k1, k2]) rfl ?_
                    rw [HN.out]
                    refine ⟨rfl, ?_⟩
                    repeat (first | exact HT5.out | refine Touch.setCell ?_ (.inr (Nat.le_refl _)) _)
                  | true =>
                    simp only [if_true]
                    by_cases hps : pX = s
                    · have HN : Hid (R = some ⟨o, 0, xv⟩) := by show _ = _; rw [HR.out, ← HX2.out]; exact HAN1.out.1 (by simp) hps
                      have hfin := HFX.out.cells
                      obtain ⟨k0, k1, k2⟩ := hfin
                      subst hps
                      go_wp2
                      refine bodyPost_ret (v := .tuple #[.agg #[.int .u8 o, .int .i64 0, .int .u64 xv], .int .i64 0]) (by simp [results, Tryd.results30, go_sem, k0, k1, k2]) rfl ?_
                      rw [HN.out]
                      refine ⟨rfl, ?_⟩
                      repeat (first | exact HT5.out | refine Touch.setCell ?_ (.inr (Nat.le_refl _)) _)
                    · have HN : Hid (R = none) := by show _ = _; rw [HR.out]; exact HAN1.out.2.2 hps
                      obtain ⟨m1, m2⟩ := str_ne' hps
                      have hfin := HFZ.out.cells
                      obtain ⟨k0, k1, k2⟩ := hfin
                      go_wp2
                      refine bodyPost_ret (v := .tuple #[.agg #[.int .u8 0, .int .i64 0, .int .u64 0], .int .i64 3]) (by simp [results, Tryd.results30, go_sem, k0, k1, k2]) rfl ?_
                      rw [HN.out]
                      refine ⟨rfl, ?_⟩
                      repeat (first | exact HT5.out | refine Touch.setCell ?_ (.inr (Nat.le_refl _)) _)
              · have h17' : ¬ (rest.size : Int) = 17 := by omega
                have h17b : ((rest.size : Int) == 17) = false := by simp; omega
                have HX2 : Hid (X = ⟨o, 0, 0⟩) := by show _ = _; rw [HX.out]; simp [h17]
                clear hex HX HCR
                go_wp2_with fail
                go_loopw [12] (fun vn W => ∃ n : Nat, vn = .int .i64 n ∧ n = 0 ∧ BoxI W b1 o 0 0 ∧ BoxI W w.heap.size 0 0 0 ∧ Touch w W []) (fun vn _ => 64 - (intOf vn).toNat)
                case atStart => exact ⟨0, rfl, rfl, HBX.out, HBW.out, HTX.out⟩
                case round =>
                  clear HBX HBW HTX
                  obtain ⟨n, rfl, rfl, hbx, hbw, htx⟩ := hrel
                  have HBX : Hid _ := hbx
                  have HBW : Hid _ := hbw
                  have HTX : Hid _ := htx
                  clear hbx hbw htx
                  have x := HBX.out.cells
                  obtain ⟨x0, x1, x2⟩ := x
                  have hpr : HidC _ _ _ _ _ := ⟨rprint_any wr X HXW.out⟩
                  have HAN1 : Hid _ := HANS.out
                  rw [HX2.out] at hpr
                  simp only [InsD.v] at hpr
                  generalize hri : rightI X = rI at *
                  generalize hpp : printP X = pX at *
                  have hpA : printA X = if rI then .tuple #[.string pX, .int .i64 0] else .tuple #[.string ⟨#[]⟩, .int .i64 3] := by unfold printA; rw [hri, hpp]
                  rw [HX2.out] at hpA
                  rw [hpA] at hpr
                  clear hpA hri hpp
                  go_wp2_with fail
                  refine hpr.out.mono ?_
                  rintro e w5 ⟨rfl, t5⟩
                  have HB5 : Hid _ := HBX.out.touch t5 (by simp)
                  have HW5 : Hid _ := HBW.out.touch t5 (by simp)
                  have HT5 : Hid _ := HTX.out.trans t5 (by simp)
                  clear x0 x1 x2 hpr t5
                  have x := HB5.out.cells
                  obtain ⟨x0, x1, x2⟩ := x
                  have c := HW5.out.cells
                  obtain ⟨c0, c1, c2⟩ := c
                  have f0 := HW5.out.fr 0
                  have f1 := HW5.out.fr 1
                  have f2 := HW5.out.fr 2
                  have HFZ : Hid (BoxI (((w5.setCell ⟨w.heap.size, 0, none⟩ (.int .u8 0)).setCell ⟨w.heap.size, 1, none⟩ (.int .i64 0)).setCell ⟨w.heap.size, 2, none⟩ (.int .u64 0)) w.heap.size 0 0 0) := ((HW5.out.set0 0).set1 0).set2 0
                  have HFX : Hid (BoxI (((w5.setCell ⟨w.heap.size, 0, none⟩ (.int .u8 o)).setCell ⟨w.heap.size, 1, none⟩ (.int .i64 0)).setCell ⟨w.heap.size, 2, none⟩ (.int .u64 0)) w.heap.size o 0 0) := ((HW5.out.set0 o).set1 0).set2 0
                  cases rI with
                  | false =>
                    have HN : Hid (R = none) := by show _ = _; rw [HR.out]; exact HAN1.out.2.1 (by simp)
                    have hfin := HFZ.out.cells
                    obtain ⟨k0, k1, k2⟩ := hfin
                    simp only [Bool.false_eq_true, if_false]
                    go_wp2
                    refine bodyPost_ret (v := .tuple #[.agg #[.int .u8 0, .int .i64 0, .int .u64 0], .int .i64 3]) (by simp [results, Tryd.results30, go_sem, k0, k1, k2]) rfl ?_
                    rw [HN.out]
                    refine ⟨rfl, ?_⟩
                    repeat (first | exact HT5.out | refine Touch.setCell ?_ (.inr (Nat.le_refl _)) _)
                  | true =>
                    simp only [if_true]
                    by_cases hps : pX = s
                    · have HN : Hid (R = some ⟨o, 0, 0⟩) := by show _ = _; rw [HR.out, ← HX2.out]; exact HAN1.out.1 (by simp) hps
                      have hfin := HFX.out.cells
                      obtain ⟨k0, k1, k2⟩ := hfin
                      subst hps
                      go_wp2
                      refine bodyPost_ret (v := .tuple #[.agg #[.int .u8 o, .int .i64 0, .int .u64 0], .int .i64 0]) (by simp [results, Tryd.results30, go_sem, k0, k1, k2]) rfl ?_
                      rw [HN.out]
                      refine ⟨rfl, ?_⟩
                      repeat (first | exact HT5.out | refine Touch.setCell ?_ (.inr (Nat.le_refl _)) _)
                    · have HN : Hid (R = none) := by show _ = _; rw [HR.out]; exact HAN1.out.2.2 hps
                      obtain ⟨m1, m2⟩ := str_ne' hps
                      have hfin := HFZ.out.cells
                      obtain ⟨k0, k1, k2⟩ := hfin
                      go_wp2
                      refine bodyPost_ret (v := .tuple #[.agg #[.int .u8 0, .int .i64 0, .int .u64 0], .int .i64 3]) (by simp [results, Tryd.results30, go_sem, k0, k1, k2]) rfl ?_
                      rw [HN.out]
                      refine ⟨rfl, ?_⟩
                      repeat (first | exact HT5.out | refine Touch.setCell ?_ (.inr (Nat.le_refl _)) _)
      · have h1 : ¬ (k : Int) < s.size := by omega
        have hrw : HidC _ _ _ _ _ := ⟨rreadWord_any wd wr⟩
        rw [byK_op] at hrw
        cases hop : opOf wd.data.toList with
        | none =>
          rw [hop] at hrw
          simp only [Option.map_none, Option.getD_none, Option.isSome_none] at hrw
          have HN : Hid (R = none) := by show _ = _; rw [HR.out]; exact parse_noop (by rw [← HWD.out]; exact hop)
          clear hop
          go_wp2_with fail
          refine hrw.out.mono ?_
          rintro e w1 ⟨rfl, t1⟩
          have HT1 : Hid _ := HT.out.trans t1 (by simp)
          have HB1 : Hid (BoxI w1 w.heap.size 0 0 0) := HB.out.touch t1 (by simp)
          have c := HB1.out.cells
          obtain ⟨c0, c1, c2⟩ := c
          have f0 := HB1.out.fr 0
          have f1 := HB1.out.fr 1
          have f2 := HB1.out.fr 2
          have HFIN : Hid (BoxI (((w1.setCell ⟨w.heap.size, 0, none⟩ (.int .u8 0)).setCell ⟨w.heap.size, 1, none⟩ (.int .i64 0)).setCell ⟨w.heap.size, 2, none⟩ (.int .u64 0)) w.heap.size 0 0 0) := ((HB1.out.set0 0).set1 0).set2 0
          have hfin := HFIN.out.cells
          obtain ⟨k0, k1, k2⟩ := hfin
          clear hrw t1
          go_wp2
          refine bodyPost_ret (v := .tuple #[.agg #[.int .u8 0, .int .i64 0, .int .u64 0], .int .i64 3]) (by simp [results, Tryd.results30, go_sem, k0, k1, k2]) rfl ?_
          rw [HN.out]
          refine ⟨rfl, ?_⟩
          repeat (first | exact HT1.out | refine Touch.setCell ?_ (.inr (Nat.le_refl _)) _)
        | some o =>
          rw [hop] at hrw
          simp only [Option.map_some, Option.getD_some, Option.isSome_some] at hrw
          have hop2 : opOf (cutW s).data.toList = some o := by rw [← HWD.out]; exact hop
          obtain ⟨_, ho0, ho1⟩ := opOf_inv hop2
          have HANS : Hid _ := ref_answer hop2
          have HXW : Hid _ := refX_wf s ho0 ho1
          have HX : Hid (refX s o = ⟨o, if argP o then argF rest 64 else 0, if valP o && decide (rest.size = 17) then ((parseV (cutR s)).getD 0 : Nat) else 0⟩) := by show _ = _; rw [HRE.out]; rfl
          have hex := arg_not_val (o := o)
          have HCR : Hid (rest.size = 17 → rest.extract 1 rest.size = cutR s) := fun h => by rw [HRE.out] at h ⊢; exact (restB_cut h).1
          generalize refX s o = X at *
          clear hop hop2
          go_wp2_with fail
          refine hrw.out.mono ?_
          rintro e w1 ⟨rfl, t1⟩
          clear hrw
          have HB1 : Hid (BoxI w1 w.heap.size 0 0 0) := HB.out.touch t1 (by simp)
          have tX : Touch w1 (w1.alloc (.cells #[.int .u8 o, .int .i64 0, .int .u64 0] 26)) [] := (Touch.refl w1 []).alloc _
          have HBX : Hid (BoxI (w1.alloc (.cells #[.int .u8 o, .int .i64 0, .int .u64 0] 26)) w1.heap.size o 0 0) := BoxI.new w1 o 0 0
          have HBW : Hid (BoxI (w1.alloc (.cells #[.int .u8 o, .int .i64 0, .int .u64 0] 26)) w.heap.size 0 0 0) := HB1.out.touch tX (by simp)
          have HTX : Hid (Touch w (w1.alloc (.cells #[.int .u8 o, .int .i64 0, .int .u64 0] 26)) []) := (HT.out.trans t1 (by simp)).trans tX (by simp)
          have hus : HidC _ _ _ _ _ := ⟨ruses_any o (w1.alloc (.cells #[.int .u8 o, .int .i64 0, .int .u64 0] 26))⟩
          have hne : w1.heap.size ≠ w.heap.size := by have := HB1.out.lt; omega
          have hlw : w.heap.size ≤ w1.heap.size := by have := HB1.out.lt; omega
          clear t1 tX HB HT HB1 HWD
          go_wp2_with fail
          refine hus.out.mono ?_
          rintro e _ ⟨rfl, rfl⟩
          clear hus
          generalize argP o = ap at *
          generalize valP o = vp at *
          generalize w1.alloc (.cells #[.int .u8 o, .int .i64 0, .int .u64 0] 26) = W1 at *
          generalize w1.heap.size = b1 at *
          cases ap with
          | true =>
            obtain rfl : vp = false := hex rfl
            have HX2 : Hid (X = ⟨o, argF rest 64, 0⟩) := HX.out
            clear hex HX HCR
            go_wp2_with fail
            go_loopw [12] (fun vn W => ∃ n : Nat, vn = .int .i64 n ∧ n ≤ 64 ∧ BoxI W b1 o (argF rest n) 0 ∧ BoxI W w.heap.size 0 0 0 ∧ Touch w W []) (fun vn _ => 64 - (intOf vn).toNat)
            case atStart => exact ⟨0, rfl, by omega, HBX.out, HBW.out, HTX.out⟩
            case round =>
              clear HBX HBW HTX
              obtain ⟨n, rfl, hn, hbx, hbw, htx⟩ := hrel
              have HBX : Hid _ := hbx
              have HBW : Hid _ := hbw
              have HTX : Hid _ := htx
              by_cases hlt2 : n < 64
              · have hn1 : (n : Int) < 64 := by omega
                have hdg : HidC _ _ _ _ _ := ⟨rdigits_any (n : Int) (by omega) (by omega) wr⟩
                have hs2 := argT_size (n : Int) (by omega) (by omega)
                have HAF : Hid (argF rest (n + 1) = if rest = ⟨#[32]⟩ ++ argT (n : Nat) then (n : Int) else argF rest n) := rfl
                generalize argT (n : Nat) = at' at *
                have hsz1 : (ByteArray.mk #[32]).size + at'.size ≤ 9223372036854775807 := by show 1 + at'.size ≤ _; omega
                have hsm1 := fun W : World => run_string_add_sum (P := Tryd.prog) (w := W) ⟨#[32]⟩ at' hsz1
                generalize (ByteArray.mk #[32]) ++ at' = c1 at *
                have x := hbx.cells
                obtain ⟨x0, x1, x2⟩ := x
                have g1 := hbx.fr 1
                clear hbx hbw htx hsz1
                by_cases he : rest = c1
                · subst he
                  have HAF2 : Hid (argF rest (n + 1) = n) := by show _ = _; rw [HAF.out, if_pos rfl]
                  clear HAF
                  go_wp2_with fail
                  refine hdg.out.mono ?_
                  rintro e _ ⟨rfl, rfl⟩
                  clear hdg
                  go_wp2
                  go_roundw
                  case rel => exact ⟨n + 1, by go_num, by omega, by rw [HAF2.out]; exact HBX.out.set1 n, HBW.out.touch ((Touch.refl wr [b1]).setCell (.inl (by simp)) _) (by simp; omega), HTX.out.setCell (.inr hlw) _⟩
                  case measure => simp [intOf]; omega
                · have HAF2 : Hid (argF rest (n + 1) = argF rest n) := by show _ = _; rw [HAF.out, if_neg he]
                  obtain ⟨m1, m2⟩ := str_ne' he
                  clear HAF
                  go_wp2_with fail
                  refine hdg.out.mono ?_
                  rintro e _ ⟨rfl, rfl⟩
                  clear hdg
                  go_wp2
                  go_roundw
                  case rel => exact ⟨n + 1, by go_num, by omega, by rw [HAF2.out]; exact HBX.out, HBW.out, HTX.out⟩
                  case measure => simp [intOf]; omega
              · obtain rfl : n = 64 := by omega
                clear hbx hbw htx
                generalize argF rest 64 = xa at *
                have x := HBX.out.cells
                obtain ⟨x0, x1, x2⟩ := x
                have hpr : HidC _ _ _ _ _ := ⟨rprint_any wr X HXW.out⟩
                have HAN1 : Hid _ := HANS.out
                rw [HX2.out] at hpr
                simp only [InsD.v] at hpr
                generalize hri : rightI X = rI at *
                generalize hpp : printP X = pX at *
                have hpA : printA X = if rI then .tuple #[.string pX, .int .i64 0] else .tuple #[.string ⟨#[]⟩, .int .i64 3] := by unfold printA; rw [hri, hpp]
                rw [HX2.out] at hpA
                rw [hpA] at hpr
                clear hpA hri hpp
                go_wp2_with fail
                refine hpr.out.mono ?_
                rintro e w5 ⟨rfl, t5⟩
                have HB5 : Hid _ := HBX.out.touch t5 (by simp)
                have HW5 : Hid _ := HBW.out.touch t5 (by simp)
                have HT5 : Hid _ := HTX.out.trans t5 (by simp)
                clear x0 x1 x2 hpr t5
                have x := HB5.out.cells
                obtain ⟨x0, x1, x2⟩ := x
                have c := HW5.out.cells
                obtain ⟨c0, c1, c2⟩ := c
                have f0 := HW5.out.fr 0
                have f1 := HW5.out.fr 1
                have f2 := HW5.out.fr 2
                have HFZ : Hid (BoxI (((w5.setCell ⟨w.heap.size, 0, none⟩ (.int .u8 0)).setCell ⟨w.heap.size, 1, none⟩ (.int .i64 0)).setCell ⟨w.heap.size, 2, none⟩ (.int .u64 0)) w.heap.size 0 0 0) := ((HW5.out.set0 0).set1 0).set2 0
                have HFX : Hid (BoxI (((w5.setCell ⟨w.heap.size, 0, none⟩ (.int .u8 o)).setCell ⟨w.heap.size, 1, none⟩ (.int .i64 xa)).setCell ⟨w.heap.size, 2, none⟩ (.int .u64 0)) w.heap.size o xa 0) := ((HW5.out.set0 o).set1 xa).set2 0
                cases rI with
                | false =>
                  have HN : Hid (R = none) := by show _ = _; rw [HR.out]; exact HAN1.out.2.1 (by simp)
                  have hfin := HFZ.out.cells
                  obtain ⟨k0, k1, k2⟩ := hfin
                  simp only [Bool.false_eq_true, if_false]
                  go_wp2
                  refine bodyPost_ret (v := .tuple #[.agg #[.int .u8 0, .int .i64 0, .int .u64 0], .int .i64 3]) (by simp [results, Tryd.results30, go_sem, k0, k1, k2]) rfl ?_
                  rw [HN.out]
                  refine ⟨rfl, ?_⟩
                  repeat (first | exact HT5.out | refine Touch.setCell ?_ (.inr (Nat.le_refl _)) _)
                | true =>
                  simp only [if_true]
                  by_cases hps : pX = s
                  · have HN : Hid (R = some ⟨o, xa, 0⟩) := by show _ = _; rw [HR.out, ← HX2.out]; exact HAN1.out.1 (by simp) hps
                    have hfin := HFX.out.cells
                    obtain ⟨k0, k1, k2⟩ := hfin
                    subst hps
                    go_wp2
                    refine bodyPost_ret (v := .tuple #[.agg #[.int .u8 o, .int .i64 xa, .int .u64 0], .int .i64 0]) (by simp [results, Tryd.results30, go_sem, k0, k1, k2]) rfl ?_
                    rw [HN.out]
                    refine ⟨rfl, ?_⟩
                    repeat (first | exact HT5.out | refine Touch.setCell ?_ (.inr (Nat.le_refl _)) _)
                  · have HN : Hid (R = none) := by show _ = _; rw [HR.out]; exact HAN1.out.2.2 hps
                    obtain ⟨m1, m2⟩ := str_ne' hps
                    have hfin := HFZ.out.cells
                    obtain ⟨k0, k1, k2⟩ := hfin
                    go_wp2
                    refine bodyPost_ret (v := .tuple #[.agg #[.int .u8 0, .int .i64 0, .int .u64 0], .int .i64 3]) (by simp [results, Tryd.results30, go_sem, k0, k1, k2]) rfl ?_
                    rw [HN.out]
                    refine ⟨rfl, ?_⟩
                    repeat (first | exact HT5.out | refine Touch.setCell ?_ (.inr (Nat.le_refl _)) _)
          | false =>
            cases vp with
            | false =>
              have HX2 : Hid (X = ⟨o, 0, 0⟩) := HX.out
              clear hex HX HCR
              go_wp2_with fail
              go_loopw [12] (fun vn W => ∃ n : Nat, vn = .int .i64 n ∧ n = 0 ∧ BoxI W b1 o 0 0 ∧ BoxI W w.heap.size 0 0 0 ∧ Touch w W []) (fun vn _ => 64 - (intOf vn).toNat)
              case atStart => exact ⟨0, rfl, rfl, HBX.out, HBW.out, HTX.out⟩
              case round =>
                clear HBX HBW HTX
                obtain ⟨n, rfl, rfl, hbx, hbw, htx⟩ := hrel
                have HBX : Hid _ := hbx
                have HBW : Hid _ := hbw
                have HTX : Hid _ := htx
                clear hbx hbw htx
                have x := HBX.out.cells
                obtain ⟨x0, x1, x2⟩ := x
                have hpr : HidC _ _ _ _ _ := ⟨rprint_any wr X HXW.out⟩
                have HAN1 : Hid _ := HANS.out
                rw [HX2.out] at hpr
                simp only [InsD.v] at hpr
                generalize hri : rightI X = rI at *
                generalize hpp : printP X = pX at *
                have hpA : printA X = if rI then .tuple #[.string pX, .int .i64 0] else .tuple #[.string ⟨#[]⟩, .int .i64 3] := by unfold printA; rw [hri, hpp]
                rw [HX2.out] at hpA
                rw [hpA] at hpr
                clear hpA hri hpp
                go_wp2_with fail
                refine hpr.out.mono ?_
                rintro e w5 ⟨rfl, t5⟩
                have HB5 : Hid _ := HBX.out.touch t5 (by simp)
                have HW5 : Hid _ := HBW.out.touch t5 (by simp)
                have HT5 : Hid _ := HTX.out.trans t5 (by simp)
                clear x0 x1 x2 hpr t5
                have x := HB5.out.cells
                obtain ⟨x0, x1, x2⟩ := x
                have c := HW5.out.cells
                obtain ⟨c0, c1, c2⟩ := c
                have f0 := HW5.out.fr 0
                have f1 := HW5.out.fr 1
                have f2 := HW5.out.fr 2
                have HFZ : Hid (BoxI (((w5.setCell ⟨w.heap.size, 0, none⟩ (.int .u8 0)).setCell ⟨w.heap.size, 1, none⟩ (.int .i64 0)).setCell ⟨w.heap.size, 2, none⟩ (.int .u64 0)) w.heap.size 0 0 0) := ((HW5.out.set0 0).set1 0).set2 0
                have HFX : Hid (BoxI (((w5.setCell ⟨w.heap.size, 0, none⟩ (.int .u8 o)).setCell ⟨w.heap.size, 1, none⟩ (.int .i64 0)).setCell ⟨w.heap.size, 2, none⟩ (.int .u64 0)) w.heap.size o 0 0) := ((HW5.out.set0 o).set1 0).set2 0
                cases rI with
                | false =>
                  have HN : Hid (R = none) := by show _ = _; rw [HR.out]; exact HAN1.out.2.1 (by simp)
                  have hfin := HFZ.out.cells
                  obtain ⟨k0, k1, k2⟩ := hfin
                  simp only [Bool.false_eq_true, if_false]
                  go_wp2
                  refine bodyPost_ret (v := .tuple #[.agg #[.int .u8 0, .int .i64 0, .int .u64 0], .int .i64 3]) (by simp [results, Tryd.results30, go_sem, k0, k1, k2]) rfl ?_
                  rw [HN.out]
                  refine ⟨rfl, ?_⟩
                  repeat (first | exact HT5.out | refine Touch.setCell ?_ (.inr (Nat.le_refl _)) _)
                | true =>
                  simp only [if_true]
                  by_cases hps : pX = s
                  · have HN : Hid (R = some ⟨o, 0, 0⟩) := by show _ = _; rw [HR.out, ← HX2.out]; exact HAN1.out.1 (by simp) hps
                    have hfin := HFX.out.cells
                    obtain ⟨k0, k1, k2⟩ := hfin
                    subst hps
                    go_wp2
                    refine bodyPost_ret (v := .tuple #[.agg #[.int .u8 o, .int .i64 0, .int .u64 0], .int .i64 0]) (by simp [results, Tryd.results30, go_sem, k0, k1, k2]) rfl ?_
                    rw [HN.out]
                    refine ⟨rfl, ?_⟩
                    repeat (first | exact HT5.out | refine Touch.setCell ?_ (.inr (Nat.le_refl _)) _)
                  · have HN : Hid (R = none) := by show _ = _; rw [HR.out]; exact HAN1.out.2.2 hps
                    obtain ⟨m1, m2⟩ := str_ne' hps
                    have hfin := HFZ.out.cells
                    obtain ⟨k0, k1, k2⟩ := hfin
                    go_wp2
                    refine bodyPost_ret (v := .tuple #[.agg #[.int .u8 0, .int .i64 0, .int .u64 0], .int .i64 3]) (by simp [results, Tryd.results30, go_sem, k0, k1, k2]) rfl ?_
                    rw [HN.out]
                    refine ⟨rfl, ?_⟩
                    repeat (first | exact HT5.out | refine Touch.setCell ?_ (.inr (Nat.le_refl _)) _)
            | true =>
              by_cases h17 : rest.size = 17
              · have h17' : (rest.size : Int) = 17 := by omega
                have h17b : ((rest.size : Int) == 17) = true := by simp; omega
                have h17c : (1 : Int) ≤ rest.size := by omega
                have HCR2 : Hid _ := HCR.out h17
                have hpa : HidC _ _ _ _ _ := ⟨rparse_any (cutR s) (by have := cutR_size s; omega) W1⟩
                have hpe : ∃ (x : Nat) (er : Int), parseE (parseV (cutR s)) = .tuple #[.int .u64 x, .int .i64 er] ∧ (parseV (cutR s)).getD 0 = x := by
                  cases parseV (cutR s) with
                  | none => exact ⟨0, 3, rfl, rfl⟩
                  | some n => exact ⟨n, 0, rfl, rfl⟩
                obtain ⟨xv, er, q1, q2⟩ := hpe
                have HX2 : Hid (X = ⟨o, 0, (xv : Int)⟩) := by show _ = _; rw [HX.out, ← q2]; simp [h17]
                rw [q1, ← HCR2.out] at hpa
                clear hex HX HCR q1 q2 HCR2 h17 h17'
                go_wp2_with fail
                refine hpa.out.mono ?_
                rintro e w2 ⟨rfl, t2⟩
                have B2 := HBX.out.touch t2 (by simp)
                have x := B2.cells
                obtain ⟨x0, x1, x2⟩ := x
                have g2 := B2.fr 2
                have HB2 : Hid _ := B2.set2 xv
                have HW2 : Hid (BoxI (w2.setCell ⟨b1, 2, none⟩ (.int .u64 (xv : Int))) w.heap.size 0 0 0) := (HBW.out.touch t2 (by simp)).touch ((Touch.refl w2 [b1]).setCell (.inl (by simp)) _) (by simp; omega)
                have HT2 : Hid (Touch w (w2.setCell ⟨b1, 2, none⟩ (.int .u64 (xv : Int))) []) := (HTX.out.trans t2 (by simp)).setCell (.inr hlw) _
                clear hpa t2 B2 HBX HBW HTX
                go_wp2_with fail
                go_loopw [12] (fun vn W => ∃ n : Nat, vn = .int .i64 n ∧ n = 0 ∧ BoxI W b1 o 0 xv ∧ BoxI W w.heap.size 0 0 0 ∧ Touch w W []) (fun vn _ => 64 - (intOf vn).toNat)
                case atStart => exact ⟨0, rfl, rfl, HB2.out, HW2.out, HT2.out⟩
                case round =>
                  obtain ⟨n, rfl, rfl, hbx, hbw, htx⟩ := hrel
                  have HBX : Hid _ := hbx
                  have HBW : Hid _ := hbw
                  have HTX : Hid _ := htx
                  clear hbx hbw htx x0 x1 x2 g2
                  have x := HBX.out.cells
                  obtain ⟨x0, x1, x2⟩ := x
                  have hpr : HidC _ _ _ _ _ := ⟨rprint_any wr X HXW.out⟩
                  have HAN1 : Hid _ := HANS.out
                  rw [HX2.out] at hpr
                  simp only [InsD.v] at hpr
                  generalize hri : rightI X = rI at *
                  generalize hpp : printP X = pX at *
                  have hpA : printA X = if rI then .tuple #[.string pX, .int .i64 0] else .tuple #[.string ⟨#[]⟩, .int .i64 3] := by unfold printA; rw [hri, hpp]
                  rw [HX2.out] at hpA
                  rw [hpA] at hpr
                  clear hpA hri hpp
                  go_wp2_with fail
                  refine hpr.out.mono ?_
                  rintro e w5 ⟨rfl, t5⟩
                  have HB5 : Hid _ := HBX.out.touch t5 (by simp)
                  have HW5 : Hid _ := HBW.out.touch t5 (by simp)
                  have HT5 : Hid _ := HTX.out.trans t5 (by simp)
                  clear x0 x1 x2 hpr t5
                  have x := HB5.out.cells
                  obtain ⟨x0, x1, x2⟩ := x
                  have c := HW5.out.cells
                  obtain ⟨c0, c1, c2⟩ := c
                  have f0 := HW5.out.fr 0
                  have f1 := HW5.out.fr 1
                  have f2 := HW5.out.fr 2
                  have HFZ : Hid (BoxI (((w5.setCell ⟨w.heap.size, 0, none⟩ (.int .u8 0)).setCell ⟨w.heap.size, 1, none⟩ (.int .i64 0)).setCell ⟨w.heap.size, 2, none⟩ (.int .u64 0)) w.heap.size 0 0 0) := ((HW5.out.set0 0).set1 0).set2 0
                  have HFX : Hid (BoxI (((w5.setCell ⟨w.heap.size, 0, none⟩ (.int .u8 o)).setCell ⟨w.heap.size, 1, none⟩ (.int .i64 0)).setCell ⟨w.heap.size, 2, none⟩ (.int .u64 xv)) w.heap.size o 0 xv) := ((HW5.out.set0 o).set1 0).set2 xv
                  cases rI with
                  | false =>
                    have HN : Hid (R = none) := by show _ = _; rw [HR.out]; exact HAN1.out.2.1 (by simp)
                    have hfin := HFZ.out.cells
                    obtain ⟨k0, k1, k2⟩ := hfin
                    simp only [Bool.false_eq_true, if_false]
                    go_wp2
                    refine bodyPost_ret (v := .tuple #[.agg #[.int .u8 0, .int .i64 0, .int .u64 0], .int .i64 3]) (by simp [results, Tryd.results30, go_sem, k0, k1, k2]) rfl ?_
                    rw [HN.out]
                    refine ⟨rfl, ?_⟩
                    repeat (first | exact HT5.out | refine Touch.setCell ?_ (.inr (Nat.le_refl _)) _)
                  | true =>
                    simp only [if_true]
                    by_cases hps : pX = s
                    · have HN : Hid (R = some ⟨o, 0, xv⟩) := by show _ = _; rw [HR.out, ← HX2.out]; exact HAN1.out.1 (by simp) hps
                      have hfin := HFX.out.cells
                      obtain ⟨k0, k1, k2⟩ := hfin
                      subst hps
                      go_wp2
                      refine bodyPost_ret (v := .tuple #[.agg #[.int .u8 o, .int .i64 0, .int .u64 xv], .int .i64 0]) (by simp [results, Tryd.results30, go_sem, k0, k1, k2]) rfl ?_
                      rw [HN.out]
                      refine ⟨rfl, ?_⟩
                      repeat (first | exact HT5.out | refine Touch.setCell ?_ (.inr (Nat.le_refl _)) _)
                    · have HN : Hid (R = none) := by show _ = _; rw [HR.out]; exact HAN1.out.2.2 hps
                      obtain ⟨m1, m2⟩ := str_ne' hps
                      have hfin := HFZ.out.cells
                      obtain ⟨k0, k1, k2⟩ := hfin
                      go_wp2
                      refine bodyPost_ret (v := .tuple #[.agg #[.int .u8 0, .int .i64 0, .int .u64 0], .int .i64 3]) (by simp [results, Tryd.results30, go_sem, k0, k1, k2]) rfl ?_
                      rw [HN.out]
                      refine ⟨rfl, ?_⟩
                      repeat (first | exact HT5.out | refine Touch.setCell ?_ (.inr (Nat.le_refl _)) _)
              · have h17' : ¬ (rest.size : Int) = 17 := by omega
                have h17b : ((rest.size : Int) == 17) = false := by simp; omega
                have HX2 : Hid (X = ⟨o, 0, 0⟩) := by show _ = _; rw [HX.out]; simp [h17]
                clear hex HX HCR
                go_wp2_with fail
                go_loopw [12] (fun vn W => ∃ n : Nat, vn = .int .i64 n ∧ n = 0 ∧ BoxI W b1 o 0 0 ∧ BoxI W w.heap.size 0 0 0 ∧ Touch w W []) (fun vn _ => 64 - (intOf vn).toNat)
                case atStart => exact ⟨0, rfl, rfl, HBX.out, HBW.out, HTX.out⟩
                case round =>
                  clear HBX HBW HTX
                  obtain ⟨n, rfl, rfl, hbx, hbw, htx⟩ := hrel
                  have HBX : Hid _ := hbx
                  have HBW : Hid _ := hbw
                  have HTX : Hid _ := htx
                  clear hbx hbw htx
                  have x := HBX.out.cells
                  obtain ⟨x0, x1, x2⟩ := x
                  have hpr : HidC _ _ _ _ _ := ⟨rprint_any wr X HXW.out⟩
                  have HAN1 : Hid _ := HANS.out
                  rw [HX2.out] at hpr
                  simp only [InsD.v] at hpr
                  generalize hri : rightI X = rI at *
                  generalize hpp : printP X = pX at *
                  have hpA : printA X = if rI then .tuple #[.string pX, .int .i64 0] else .tuple #[.string ⟨#[]⟩, .int .i64 3] := by unfold printA; rw [hri, hpp]
                  rw [HX2.out] at hpA
                  rw [hpA] at hpr
                  clear hpA hri hpp
                  go_wp2_with fail
                  refine hpr.out.mono ?_
                  rintro e w5 ⟨rfl, t5⟩
                  have HB5 : Hid _ := HBX.out.touch t5 (by simp)
                  have HW5 : Hid _ := HBW.out.touch t5 (by simp)
                  have HT5 : Hid _ := HTX.out.trans t5 (by simp)
                  clear x0 x1 x2 hpr t5
                  have x := HB5.out.cells
                  obtain ⟨x0, x1, x2⟩ := x
                  have c := HW5.out.cells
                  obtain ⟨c0, c1, c2⟩ := c
                  have f0 := HW5.out.fr 0
                  have f1 := HW5.out.fr 1
                  have f2 := HW5.out.fr 2
                  have HFZ : Hid (BoxI (((w5.setCell ⟨w.heap.size, 0, none⟩ (.int .u8 0)).setCell ⟨w.heap.size, 1, none⟩ (.int .i64 0)).setCell ⟨w.heap.size, 2, none⟩ (.int .u64 0)) w.heap.size 0 0 0) := ((HW5.out.set0 0).set1 0).set2 0
                  have HFX : Hid (BoxI (((w5.setCell ⟨w.heap.size, 0, none⟩ (.int .u8 o)).setCell ⟨w.heap.size, 1, none⟩ (.int .i64 0)).setCell ⟨w.heap.size, 2, none⟩ (.int .u64 0)) w.heap.size o 0 0) := ((HW5.out.set0 o).set1 0).set2 0
                  cases rI with
                  | false =>
                    have HN : Hid (R = none) := by show _ = _; rw [HR.out]; exact HAN1.out.2.1 (by simp)
                    have hfin := HFZ.out.cells
                    obtain ⟨k0, k1, k2⟩ := hfin
                    simp only [Bool.false_eq_true, if_false]
                    go_wp2
                    refine bodyPost_ret (v := .tuple #[.agg #[.int .u8 0, .int .i64 0, .int .u64 0], .int .i64 3]) (by simp [results, Tryd.results30, go_sem, k0, k1, k2]) rfl ?_
                    rw [HN.out]
                    refine ⟨rfl, ?_⟩
                    repeat (first | exact HT5.out | refine Touch.setCell ?_ (.inr (Nat.le_refl _)) _)
                  | true =>
                    simp only [if_true]
                    by_cases hps : pX = s
                    · have HN : Hid (R = some ⟨o, 0, 0⟩) := by show _ = _; rw [HR.out, ← HX2.out]; exact HAN1.out.1 (by simp) hps
                      have hfin := HFX.out.cells
                      obtain ⟨k0, k1, k2⟩ := hfin
                      subst hps
                      go_wp2
                      refine bodyPost_ret (v := .tuple #[.agg #[.int .u8 o, .int .i64 0, .int .u64 0], .int .i64 0]) (by simp [results, Tryd.results30, go_sem, k0, k1, k2]) rfl ?_
                      rw [HN.out]
                      refine ⟨rfl, ?_⟩
                      repeat (first | exact HT5.out | refine Touch.setCell ?_ (.inr (Nat.le_refl _)) _)
                    · have HN : Hid (R = none) := by show _ = _; rw [HR.out]; exact HAN1.out.2.2 hps
                      obtain ⟨m1, m2⟩ := str_ne' hps
                      have hfin := HFZ.out.cells
                      obtain ⟨k0, k1, k2⟩ := hfin
                      go_wp2
                      refine bodyPost_ret (v := .tuple #[.agg #[.int .u8 0, .int .i64 0, .int .u64 0], .int .i64 3]) (by simp [results, Tryd.results30, go_sem, k0, k1, k2]) rfl ?_
                      rw [HN.out]
                      refine ⟨rfl, ?_⟩
                      repeat (first | exact HT5.out | refine Touch.setCell ?_ (.inr (Nat.le_refl _)) _)

end Go.Proofs.YtminiabpeodjaaaDoor

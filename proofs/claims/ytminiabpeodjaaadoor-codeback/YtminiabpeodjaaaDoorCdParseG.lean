/-
  package code: Parse BY ITS CONTRACT.
-/
import Derived.Test.YtminiabpeodjaaaDoorCdSaidG
import Derived.Test.YtminiabpeodjaaaDoorCdCut
import Derived.Test.YtminiabpeodjaaaDoorAllA
namespace Go.Proofs.YtminiabpeodjaaaDoor
set_option linter.unusedVariables false
set_option linter.unusedSimpArgs false
open Go.RowKit
attribute [local go_sem] Oper.semAt_some

/-- The instruction that a text says. -/
def parseP (s : ByteArray) : Option InsD := if (saidP (cutW s) (cutR s) (blankAt s).isSome).2 && rightI (saidP (cutW s) (cutR s) (blankAt s).isSome).1 then some (saidP (cutW s) (cutR s) (blankAt s).isSome).1 else none
/-- What Parse answers. -/
def parseA (r : Option InsD) : Value := match r with | some i => .tuple #[i.v, .int .i64 0] | none => .tuple #[.agg #[.int .u8 0, .int .i64 0, .int .u64 0], .int .i64 3]
theorem cutW_size (s : ByteArray) : (cutW s).size ≤ s.size := by
  unfold cutW; split
  · rw [ByteArray.size_extract]; omega
  · exact Nat.le_refl _
theorem cutR_size (s : ByteArray) : (cutR s).size ≤ s.size := by
  unfold cutR; split
  · rw [ByteArray.size_extract]; omega
  · exact Nat.zero_le _

set_option maxRecDepth 100000 in
set_option maxHeartbeats 1000000 in
theorem parse_gen {w : World} (h : Wds w) (E : Ev w) (s : ByteArray) (hs : s.size ≤ 100000) :
    Calls Tryd.prog 29 #[.string s] w fun e w' => e = .returned (parseA (parseP s)) ∧ Touch w w' [] := by
  have tA : Touch w (w.alloc (.cells #[.int .u8 0, .int .i64 0, .int .u64 0] 26)) [] := (Touch.refl w []).alloc _
  have hct : HidC _ _ _ _ _ := ⟨cut_any s hs (w.alloc (.cells #[.int .u8 0, .int .i64 0, .int .u64 0] 26))⟩
  have hcw := cutW_size s
  have hcr := cutR_size s
  have HSD : Hid (∀ W, Touch w W [] → HidC Tryd.prog 43 #[.string (cutW s), .string (cutR s), .bool (blankAt s).isSome] W (fun e w' => e = .returned (.tuple #[(saidP (cutW s) (cutR s) (blankAt s).isSome).1.v, .bool (saidP (cutW s) (cutR s) (blankAt s).isSome).2]) ∧ Touch W w' [])) := fun W t => ⟨said_any (h.touch t (by simp)) (E.touch t) _ _ _ (by unfold maxLen; omega) (by omega)⟩
  have HRI : Hid (∀ W, HidC Tryd.prog 17 #[(saidP (cutW s) (cutR s) (blankAt s).isSome).1.v] W (fun e w' => e = .returned (.bool (rightI (saidP (cutW s) (cutR s) (blankAt s).isSome).1)) ∧ Touch W w' [])) := fun W => ⟨cright_any _ W⟩
  unfold parseP
  generalize saidP (cutW s) (cutR s) (blankAt s).isSome = sp at *
  obtain ⟨i, ok⟩ := sp
  simp only at HSD HRI ⊢
  generalize rightI i = ri at *
  obtain ⟨o, a, v⟩ := i
  simp only [InsD.v] at HSD HRI
  have HTA : Hid _ := tA
  clear h E hcw hcr tA
  generalize cutW s = cw at *
  generalize cutR s = cr at *
  generalize (blankAt s).isSome = mo at *
  go_enter Tryd.func29, Tryd.ntmps29
  go_wp2_with fail
  refine hct.out.mono ?_
  rintro e w1 ⟨rfl, t1⟩
  have hT1 : Touch w w1 [] := HTA.out.trans t1 (by simp)
  have HB1 : Hid _ := (BoxI.new w 0 0 0).touch t1 (by simp)
  have hsd := HSD.out w1 hT1
  have T1 : Hid _ := hT1
  clear hct HSD t1 hT1
  go_wp2_with fail
  refine hsd.out.mono ?_
  rintro e w2 ⟨rfl, t2⟩
  have HB2 : Hid (BoxI w2 w.heap.size 0 0 0) := HB1.out.touch t2 (by simp)
  have tB : Touch w2 (w2.alloc (.cells #[.int .u8 o, .int .i64 a, .int .u64 v] 26)) [] := (Touch.refl w2 []).alloc _
  have HBQ : Hid (BoxI (w2.alloc (.cells #[.int .u8 o, .int .i64 a, .int .u64 v] 26)) w2.heap.size o a v) := BoxI.new w2 o a v
  have HBW : Hid (BoxI (w2.alloc (.cells #[.int .u8 o, .int .i64 a, .int .u64 v] 26)) w.heap.size 0 0 0) := HB2.out.touch tB (by simp)
  have T2 : Hid (Touch w (w2.alloc (.cells #[.int .u8 o, .int .i64 a, .int .u64 v] 26)) []) := (T1.out.trans t2 (by simp)).trans tB (by simp)
  have hne : w2.heap.size ≠ w.heap.size := by have := HB2.out.lt; omega
  have b := HBQ.out.cells
  obtain ⟨b0, b1, b2⟩ := b
  have c := HBW.out.cells
  obtain ⟨c0, c1, c2⟩ := c
  have f0 := HBW.out.fr 0
  have f1 := HBW.out.fr 1
  have f2 := HBW.out.fr 2
  clear hsd t2 tB
  cases ok with
  | false =>
    clear b0 b1 b2
    have HFIN : Hid (BoxI ((((w2.alloc (.cells #[.int .u8 o, .int .i64 a, .int .u64 v] 26)).setCell ⟨w.heap.size, 0, none⟩ (.int .u8 0)).setCell ⟨w.heap.size, 1, none⟩ (.int .i64 0)).setCell ⟨w.heap.size, 2, none⟩ (.int .u64 0)) w.heap.size 0 0 0) := ((HBW.out.set0 0).set1 0).set2 0
    have hfin := HFIN.out.cells
    obtain ⟨k0, k1, k2⟩ := hfin
    go_wp2
    refine bodyPost_ret (v := .tuple #[.agg #[.int .u8 0, .int .i64 0, .int .u64 0], .int .i64 3]) (by simp [results, Tryd.results29, go_sem, k0, k1, k2]) rfl ?_
    refine ⟨rfl, ?_⟩
    repeat (first | exact T2.out | refine Touch.setCell ?_ (.inr (Nat.le_refl _)) _)
  | true =>
    have hri := HRI.out (w2.alloc (.cells #[.int .u8 o, .int .i64 a, .int .u64 v] 26))
    go_wp2_with fail
    refine hri.out.mono ?_
    rintro e w3 ⟨rfl, t3⟩
    have HB3 : Hid (BoxI w3 w2.heap.size o a v) := HBQ.out.touch t3 (by simp)
    have HW3 : Hid (BoxI w3 w.heap.size 0 0 0) := HBW.out.touch t3 (by simp)
    have T3 : Hid (Touch w w3 []) := T2.out.trans t3 (by simp)
    clear b0 b1 b2 c0 c1 c2 f0 f1 f2 hri t3
    have b := HB3.out.cells
    obtain ⟨b0, b1, b2⟩ := b
    have c := HW3.out.cells
    obtain ⟨c0, c1, c2⟩ := c
    have f0 := HW3.out.fr 0
    have f1 := HW3.out.fr 1
    have f2 := HW3.out.fr 2
    cases ri with
    | false =>
      have HFIN : Hid (BoxI (((w3.setCell ⟨w.heap.size, 0, none⟩ (.int .u8 0)).setCell ⟨w.heap.size, 1, none⟩ (.int .i64 0)).setCell ⟨w.heap.size, 2, none⟩ (.int .u64 0)) w.heap.size 0 0 0) := ((HW3.out.set0 0).set1 0).set2 0
      have hfin := HFIN.out.cells
      obtain ⟨k0, k1, k2⟩ := hfin
      go_wp2
      refine bodyPost_ret (v := .tuple #[.agg #[.int .u8 0, .int .i64 0, .int .u64 0], .int .i64 3]) (by simp [results, Tryd.results29, go_sem, k0, k1, k2]) rfl ?_
      refine ⟨rfl, ?_⟩
      repeat (first | exact T3.out | refine Touch.setCell ?_ (.inr (Nat.le_refl _)) _)
    | true =>
      have HFIN : Hid (BoxI (((w3.setCell ⟨w.heap.size, 0, none⟩ (.int .u8 o)).setCell ⟨w.heap.size, 1, none⟩ (.int .i64 a)).setCell ⟨w.heap.size, 2, none⟩ (.int .u64 v)) w.heap.size o a v) := ((HW3.out.set0 o).set1 a).set2 v
      have hfin := HFIN.out.cells
      obtain ⟨k0, k1, k2⟩ := hfin
      go_wp2
      refine bodyPost_ret (v := .tuple #[.agg #[.int .u8 o, .int .i64 a, .int .u64 v], .int .i64 0]) (by simp [results, Tryd.results29, go_sem, k0, k1, k2]) rfl ?_
      refine ⟨rfl, ?_⟩
      repeat (first | exact T3.out | refine Touch.setCell ?_ (.inr (Nat.le_refl _)) _)

end Go.Proofs.YtminiabpeodjaaaDoor

/-
  package code: said BY ITS CONTRACT.
-/
import Derived.Test.YtminiabpeodjaaaDoorCdSaid
import Derived.Test.YtminiabpeodjaaaDoorCdBox
import Derived.Test.YtminiabpeodjaaaDoorValueParse3
namespace Go.Proofs.YtminiabpeodjaaaDoor
set_option linter.unusedVariables false
set_option linter.unusedSimpArgs false
open Go.RowKit
attribute [local go_sem] Oper.semAt_some

/-- The operation of a word. -/
def opOf (x : List UInt8) : Option Int := (byK 29 x).map fun v => match v with | .int _ k => k | _ => 0
theorem byK_op (x : List UInt8) : byK 29 x = (opOf x).map (fun o => Value.int .u8 o) := by
  have key : ∀ n, n ≤ 29 → ∀ v, byK n x = some v → ∃ k : Int, v = .int .u8 k := by
    intro n
    induction n with
    | zero => intro _ v hv; simp [byK] at hv
    | succ n ih =>
      intro hn v hv
      rw [byK_succ] at hv
      unfold updS at hv
      split at hv
      · simp at hv; exact ⟨n, hv.symm⟩
      · exact ih (by omega) v hv
  unfold opOf
  cases h : byK 29 x with
  | none => rfl
  | some v => obtain ⟨k, rfl⟩ := key 29 (Nat.le_refl _) v h; rfl
theorem opOf_lt {x : List UInt8} {o : Int} (h : opOf x = some o) : 0 ≤ o ∧ o < 29 := by
  have key : ∀ n, n ≤ 29 → ∀ v, byK n x = some v → ∃ k : Nat, v = .int .u8 (k : Int) ∧ k < n := by
    intro n
    induction n with
    | zero => intro _ v hv; simp [byK] at hv
    | succ n ih =>
      intro hn v hv
      rw [byK_succ] at hv
      unfold updS at hv
      split at hv
      · simp at hv; exact ⟨n, hv.symm, by omega⟩
      · obtain ⟨k, e, hk⟩ := ih (by omega) v hv; exact ⟨k, e, by omega⟩
  have hb := byK_op x
  rw [h] at hb
  obtain ⟨k, e, hk⟩ := key 29 (Nat.le_refl _) _ hb
  simp at e
  omega

/-- What a word says with what stands behind it. -/
def saidP (wd rest : ByteArray) (more : Bool) : InsD × Bool :=
  match opOf wd.data.toList with
  | none => (⟨0, 0, 0⟩, false)
  | some o => if more != (argP o || valP o) then (⟨0, 0, 0⟩, false) else if argP o then (⟨o, numN rest, 0⟩, numOk rest) else if valP o then (⟨o, 0, ((parseV rest).getD 0 : Nat)⟩, (parseV rest).isSome) else (⟨o, 0, 0⟩, true)

set_option maxRecDepth 100000 in
set_option maxHeartbeats 1000000 in
theorem said_bad {w : World} (h : Wds w) (wd rest : ByteArray) (more : Bool) (hw : wd.size ≤ maxLen) (o : Int) (ok : Bool) (hrd : (byK 29 wd.data.toList).getD (.int .u8 0) = .int .u8 o ∧ (byK 29 wd.data.toList).isSome = ok) (hb : ok = true → more ≠ (argP o || valP o)) :
    Calls Tryd.prog 43 #[.string wd, .string rest, .bool more] w fun e w' => e = .returned (.tuple #[.agg #[.int .u8 0, .int .i64 0, .int .u64 0], .bool false]) ∧ Touch w w' [] := by
  have tA : Touch w (w.alloc (.cells #[.int .u8 0, .int .i64 0, .int .u64 0] 26)) [] := (Touch.refl w []).alloc _
  have hrw : HidC _ _ _ _ _ := ⟨readWord_any (h.touch tA (by simp)) wd hw⟩
  rw [hrd.1, hrd.2] at hrw
  have HTA : Hid _ := tA
  clear h hrd tA
  go_enter Tryd.func43, Tryd.ntmps43
  go_wp2_with fail
  refine hrw.out.mono ?_
  rintro e w1 ⟨rfl, t1⟩
  have B1 : BoxI w1 w.heap.size 0 0 0 := (BoxI.new w 0 0 0).touch t1 (by simp)
  obtain ⟨c0, c1, c2⟩ := B1.cells
  have f0 := B1.fr 0
  have f1 := B1.fr 1
  have f2 := B1.fr 2
  have HB1 : Hid _ := B1
  have HT2 : Hid (Touch w (w1.setCell ⟨w.heap.size, 0, none⟩ (.int .u8 o)) []) := (HTA.out.trans t1 (by simp)).setCell (.inr (Nat.le_refl _)) _
  have hus : HidC _ _ _ _ _ := ⟨uses_any o (w1.setCell ⟨w.heap.size, 0, none⟩ (.int .u8 o))⟩
  have HFIN : Hid (BoxI ((((w1.setCell ⟨w.heap.size, 0, none⟩ (.int .u8 o)).setCell ⟨w.heap.size, 0, none⟩ (.int .u8 0)).setCell ⟨w.heap.size, 1, none⟩ (.int .i64 0)).setCell ⟨w.heap.size, 2, none⟩ (.int .u64 0)) w.heap.size 0 0 0) := (((B1.set0 o).set0 0).set1 0).set2 0
  have hfin := HFIN.out.cells
  obtain ⟨k0, k1, k2⟩ := hfin
  generalize argP o = ap at *
  generalize valP o = vp at *
  clear hrw t1 B1
  go_wp2_with fail
  refine hus.out.mono ?_
  rintro e _ ⟨rfl, rfl⟩
  clear hus
  cases ok <;> cases more <;> cases ap <;> cases vp <;> first
    | (exfalso; simp at hb; done)
    | (go_wp2
       refine bodyPost_ret (v := .tuple #[.agg #[.int .u8 0, .int .i64 0, .int .u64 0], .bool false]) (by simp [results, Tryd.results43, go_sem, k0, k1, k2]) rfl ?_
       refine ⟨rfl, ?_⟩
       repeat (first | exact HT2.out | refine Touch.setCell ?_ (.inr (Nat.le_refl _)) _))

set_option maxRecDepth 100000 in
set_option maxHeartbeats 1000000 in
theorem said_none {w : World} (h : Wds w) (wd rest : ByteArray) (hw : wd.size ≤ maxLen) (o : Int) (hrd : byK 29 wd.data.toList = some (.int .u8 o)) (ha : argP o = false) (hv : valP o = false) :
    Calls Tryd.prog 43 #[.string wd, .string rest, .bool false] w fun e w' => e = .returned (.tuple #[.agg #[.int .u8 o, .int .i64 0, .int .u64 0], .bool true]) ∧ Touch w w' [] := by
  have tA : Touch w (w.alloc (.cells #[.int .u8 0, .int .i64 0, .int .u64 0] 26)) [] := (Touch.refl w []).alloc _
  have hrw : HidC _ _ _ _ _ := ⟨readWord_any (h.touch tA (by simp)) wd hw⟩
  rw [hrd] at hrw
  simp only [Option.getD_some, Option.isSome_some] at hrw
  have HTA : Hid _ := tA
  clear h hrd tA
  go_enter Tryd.func43, Tryd.ntmps43
  go_wp2_with fail
  refine hrw.out.mono ?_
  rintro e w1 ⟨rfl, t1⟩
  have B1 : BoxI w1 w.heap.size 0 0 0 := (BoxI.new w 0 0 0).touch t1 (by simp)
  obtain ⟨c0, c1, c2⟩ := B1.cells
  have f0 := B1.fr 0
  have f1 := B1.fr 1
  have f2 := B1.fr 2
  have HT2 : Hid (Touch w (w1.setCell ⟨w.heap.size, 0, none⟩ (.int .u8 o)) []) := (HTA.out.trans t1 (by simp)).setCell (.inr (Nat.le_refl _)) _
  have hus : HidC _ _ _ _ _ := ⟨uses_any o (w1.setCell ⟨w.heap.size, 0, none⟩ (.int .u8 o))⟩
  rw [ha, hv] at hus
  have HFIN : Hid (BoxI ((((w1.setCell ⟨w.heap.size, 0, none⟩ (.int .u8 o)).setCell ⟨w.heap.size, 0, none⟩ (.int .u8 o)).setCell ⟨w.heap.size, 1, none⟩ (.int .i64 0)).setCell ⟨w.heap.size, 2, none⟩ (.int .u64 0)) w.heap.size o 0 0) := (((B1.set0 o).set0 o).set1 0).set2 0
  have hfin := HFIN.out.cells
  obtain ⟨k0, k1, k2⟩ := hfin
  clear hrw t1 B1
  go_wp2_with fail
  refine hus.out.mono ?_
  rintro e _ ⟨rfl, rfl⟩
  clear hus
  go_wp2
  refine bodyPost_ret (v := .tuple #[.agg #[.int .u8 o, .int .i64 0, .int .u64 0], .bool true]) (by simp [results, Tryd.results43, go_sem, k0, k1, k2]) rfl ?_
  refine ⟨rfl, ?_⟩
  repeat (first | exact HT2.out | refine Touch.setCell ?_ (.inr (Nat.le_refl _)) _)

set_option maxRecDepth 100000 in
set_option maxHeartbeats 1000000 in
theorem said_val {w : World} (h : Wds w) (E : Ev w) (wd rest : ByteArray) (hw : wd.size ≤ maxLen) (hr : rest.size ≤ 100000) (o : Int) (hrd : byK 29 wd.data.toList = some (.int .u8 o)) (ha : argP o = false) (hv : valP o = true) :
    Calls Tryd.prog 43 #[.string wd, .string rest, .bool true] w fun e w' => e = .returned (.tuple #[.agg #[.int .u8 o, .int .i64 0, .int .u64 ((parseV rest).getD 0 : Nat)], .bool (parseV rest).isSome]) ∧ Touch w w' [] := by
  have tA : Touch w (w.alloc (.cells #[.int .u8 0, .int .i64 0, .int .u64 0] 26)) [] := (Touch.refl w []).alloc _
  have hrw : HidC _ _ _ _ _ := ⟨readWord_any (h.touch tA (by simp)) wd hw⟩
  rw [hrd] at hrw
  simp only [Option.getD_some, Option.isSome_some] at hrw
  have HTA : Hid _ := tA
  have HEV : Hid _ := E
  have hpe : ∃ (x : Nat) (er : Int), parseE (parseV rest) = .tuple #[.int .u64 x, .int .i64 er] ∧ (parseV rest).getD 0 = x ∧ (parseV rest).isSome = (er == 0) := by
    cases parseV rest with
    | none => exact ⟨0, 3, rfl, rfl, rfl⟩
    | some n => exact ⟨n, 0, rfl, rfl, rfl⟩
  obtain ⟨x, er, e1, e2, e3⟩ := hpe
  rw [e2, e3]
  have HPE : Hid _ := e1
  clear h hrd tA E e1 e2 e3
  go_enter Tryd.func43, Tryd.ntmps43
  go_wp2_with fail
  refine hrw.out.mono ?_
  rintro e w1 ⟨rfl, t1⟩
  have B1 : BoxI w1 w.heap.size 0 0 0 := (BoxI.new w 0 0 0).touch t1 (by simp)
  obtain ⟨c0, c1, c2⟩ := B1.cells
  have f0 := B1.fr 0
  have f1 := B1.fr 1
  have f2 := B1.fr 2
  have HT2 : Hid (Touch w (w1.setCell ⟨w.heap.size, 0, none⟩ (.int .u8 o)) []) := (HTA.out.trans t1 (by simp)).setCell (.inr (Nat.le_refl _)) _
  have hus : HidC _ _ _ _ _ := ⟨uses_any o (w1.setCell ⟨w.heap.size, 0, none⟩ (.int .u8 o))⟩
  rw [ha, hv] at hus
  have hpa : HidC _ _ _ _ _ := ⟨parse_all rest (by omega) (w1.setCell ⟨w.heap.size, 0, none⟩ (.int .u8 o)) (HEV.out.touch HT2.out)⟩
  rw [HPE.out] at hpa
  have HB2 : Hid _ := B1.set0 o
  clear hrw t1 B1
  go_wp2_with fail
  refine hus.out.mono ?_
  rintro e _ ⟨rfl, rfl⟩
  clear hus
  go_wp2_with fail
  refine hpa.out.mono ?_
  rintro e w4 ⟨rfl, t4⟩
  have B4 : BoxI w4 w.heap.size o 0 0 := HB2.out.touch t4 (by simp)
  obtain ⟨d0, d1, d2⟩ := B4.cells
  have g0 := B4.fr 0
  have g1 := B4.fr 1
  have g2 := B4.fr 2
  have T4 : Hid (Touch w w4 []) := HT2.out.trans t4 (by simp)
  have HFIN : Hid (BoxI ((((w4.setCell ⟨w.heap.size, 2, none⟩ (.int .u64 x)).setCell ⟨w.heap.size, 0, none⟩ (.int .u8 o)).setCell ⟨w.heap.size, 1, none⟩ (.int .i64 0)).setCell ⟨w.heap.size, 2, none⟩ (.int .u64 x)) w.heap.size o 0 x) := (((B4.set2 x).set0 o).set1 0).set2 x
  have hfin := HFIN.out.cells
  obtain ⟨k0, k1, k2⟩ := hfin
  clear hpa t4 B4 c0 c1 c2 f0 f1 f2
  go_wp2
  refine bodyPost_ret (v := .tuple #[.agg #[.int .u8 o, .int .i64 0, .int .u64 x], .bool (er == 0)]) (by simp [results, Tryd.results43, go_sem, k0, k1, k2]) rfl ?_
  refine ⟨rfl, ?_⟩
  repeat (first | exact T4.out | refine Touch.setCell ?_ (.inr (Nat.le_refl _)) _)

theorem said_any {w : World} (h : Wds w) (E : Ev w) (wd rest : ByteArray) (more : Bool) (hw : wd.size ≤ maxLen) (hr : rest.size ≤ 100000) :
    Calls Tryd.prog 43 #[.string wd, .string rest, .bool more] w fun e w' => e = .returned (.tuple #[(saidP wd rest more).1.v, .bool (saidP wd rest more).2]) ∧ Touch w w' [] := by
  have hb := byK_op wd.data.toList
  unfold saidP
  cases ho : opOf wd.data.toList with
  | none =>
    rw [ho] at hb
    simp only [Option.map_none] at hb
    exact said_bad h wd rest more hw 0 false ⟨by rw [hb]; rfl, by rw [hb]; rfl⟩ (fun h => by cases h)
  | some o =>
    rw [ho] at hb
    simp only [Option.map_some] at hb
    simp only
    by_cases hm : more = (argP o || valP o)
    · rw [if_neg (by simp [hm])]
      cases ha : argP o with
      | true =>
        rw [ha] at hm
        simp only [Bool.true_or] at hm
        subst hm
        rw [if_pos rfl]
        exact said_arg h wd rest hw hr o hb ha
      | false =>
        rw [ha] at hm
        simp only [Bool.false_or] at hm
        rw [if_neg (by simp)]
        cases hv : valP o with
        | true => rw [hv] at hm; subst hm; rw [if_pos rfl]; exact said_val h E wd rest hw hr o hb ha hv
        | false => rw [hv] at hm; subst hm; rw [if_neg (by simp)]; exact said_none h wd rest hw o hb ha hv
    · rw [if_pos (by simpa using hm)]
      exact said_bad h wd rest more hw o true ⟨by rw [hb]; rfl, by rw [hb]; rfl⟩ (fun _ => hm)

end Go.Proofs.YtminiabpeodjaaaDoor

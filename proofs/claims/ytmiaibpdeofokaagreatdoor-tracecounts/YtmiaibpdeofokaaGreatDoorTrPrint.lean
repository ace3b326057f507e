/-
  package trace: Print BY ITS CONTRACT.
-/
import Derived.Test.YtmiaibpdeofokaaGreatDoorTrLine
import Derived.Test.YtmiaibpdeofokaaGreatDoorAllB
namespace Go.Proofs.YtmiaibpdeofokaaGreatDoor
set_option linter.unusedVariables false
set_option linter.unusedSimpArgs false
open Go.RowKit Go.Maps Go.Shelf
attribute [local go_sem] Oper.semAt_some

/-- Events as lines. -/
def printL (l : List EvD) : List UInt8 := l.flatMap fun e => (lineT e).data.toList ++ [10]
def printT (l : List EvD) : ByteArray := ⟨(printL l).toArray⟩
def prtV (l : List EvD) : Value := if rightS l then .tuple #[.string (printT l), .int .i64 0] else .tuple #[.string ⟨#[]⟩, .int .i64 3]
theorem printL_snoc {l : List EvD} {k : Nat} (hk : k < l.length) : printL (l.take (k + 1)) = printL (l.take k) ++ ((lineT l[k]).data.toList ++ [10]) := by
  unfold printL
  rw [List.take_succ_eq_append_getElem hk, List.flatMap_append]
  simp
theorem line_size {e : EvD} (h : LineOk e) : (lineT e).size ≤ 40 := by
  have s1 := wordT_size e.k.toNat (by have := h.k; omega)
  have s2 := argT_size e.a h.a.1 h.a.2
  have s3 := argT_size e.t h.t.1 (by have := h.t; omega)
  have s4 := hexT_size e.v
  have s5 : (⟨#[32]⟩ : ByteArray).size = 1 := rfl
  unfold lineT
  split
  · simp only [ByteArray.size_append]; omega
  · simp only [ByteArray.size_append]; omega
theorem printL_len (l : List EvD) (h : ∀ e ∈ l, LineOk e) : (printL l).length ≤ l.length * 41 := by
  induction l with
  | nil => simp [printL]
  | cons e l ih =>
    have h1 := line_size (h e (by simp))
    have h2 := ih (fun x hx => h x (List.mem_cons_of_mem _ hx))
    have h3 : (lineT e).data.toList.length = (lineT e).size := (Array.length_toList).trans rfl
    simp only [printL, List.flatMap_cons, List.length_append, List.length_cons, List.length_nil] at *
    omega
theorem ok_behind {st : Int} {Fs : List Fr} {e : EvD} {r : Int × List Fr} (h : behindS st Fs e = some r) : (1 ≤ e.k ∧ e.k ≤ 9) ∧ namedS e = true := by
  unfold behindS at h
  split at h
  · cases h
  · rename_i hn
    refine ⟨?_, by simpa using hn⟩
    split at h
    · omega
    · split at h
      · omega
      · split at h
        · omega
        · split at h
          · omega
          · split at h
            · omega
            · cases h
theorem ok_step {M M' : CM} {e : EvD} (h : stepC M e = some M') (hw : e.Wf) : LineOk e := by
  unfold stepC at h
  split at h
  · rename_i ha
    cases hb : behindS (stC M e.a) (fsC M e.a) e with
    | none => rw [hb] at h; cases h
    | some r =>
      obtain ⟨hk, hn⟩ := ok_behind hb
      unfold namedS at hn
      simp at hn
      exact ⟨hk, by omega, by omega, hw.v, hn.2.2⟩
  · cases h
theorem ok_run (l : List EvD) : ∀ (M : CM), (∀ e ∈ l, e.Wf) → (runC M l).isSome = true → ∀ e ∈ l, LineOk e := by
  induction l with
  | nil => intro M _ _ e he; cases he
  | cons x l ih =>
    intro M hw h
    have h1 : (runC M (x :: l)) = (stepC M x).bind fun M' => runC M' l := rfl
    rw [h1] at h
    cases hs : stepC M x with
    | none => rw [hs] at h; simp at h
    | some M' =>
      rw [hs] at h
      intro e he
      rcases List.mem_cons.1 he with rfl | he
      · exact ok_step hs (hw _ (by simp))
      · exact ih M' (fun y hy => hw y (List.mem_cons_of_mem _ hy)) (by simpa using h) e he
theorem ok_right {l : List EvD} (h : rightS l = true) (hw : ∀ e ∈ l, e.Wf) : ∀ e ∈ l, LineOk e := by
  unfold rightS at h
  exact ok_run l _ hw (by simp at h; exact h.2)
theorem right_400 {l : List EvD} (h : rightS l = true) : l.length ≤ 400 := by
  unfold rightS at h
  simp at h
  exact h.1
/-- The builder, where others' blocks are touched. -/
theorem bld_touch {T e : TypeId} {B b : Nat} {bs : List Value} {w w' : World} (h : Lib.IsBuilder T e B b bs w) (t : Touch w w' []) : Lib.IsBuilder T e B b bs w' := by
  rcases h with ⟨hB, v, hb, ho, hn⟩ | ⟨hB, v, hb, ho, hn⟩
  · exact .inl ⟨hB, v, (t.block _ (lt_of_heap hb) (by simp)).trans hb, ownsRow_touch ho t (by simp), hn⟩
  · exact .inr ⟨hB, v, (t.block _ (lt_of_heap hb) (by simp)).trans hb, ownsRow_touch ho t (by simp), hn⟩
theorem bld_new (w : World) (B : Nat) (hB : B ≤ w.heap.size) : Lib.IsBuilder 45 5 B w.heap.size (Lib.byteCells []) (w.alloc (.cells #[.pointer none, .slice none 0 0] 45)) :=
  .inl ⟨hB, .slice none 0 0, heap_alloc_new w _, World.ownsRow_nil _ _ _ _, by simp [Value.ownBlock]⟩

set_option maxRecDepth 100000 in
set_option maxHeartbeats 2000000 in
theorem tprint_any {w : World} (h : Wdt w) (Z : Tz w) {ao : Option Addr} {cap : Nat} {l : List EvD} (hr : EvRow w (.slice ao l.length cap) l) (hl : l.length ≤ 1000) (hwf : ∀ e ∈ l, e.Wf) :
    Calls Tryz.prog 6 #[.slice ao l.length cap] w fun e w' => e = .returned (prtV l) ∧ Touch w w' [] := by
  have HRT : Hid (HidC Tryz.prog 21 #[.slice ao l.length cap] w fun e w' => e = .returned (.bool (rightS l)) ∧ Touch w w' []) := ⟨right_of hr hl hwf⟩
  obtain ⟨N, hN⟩ : ∃ N, N = l.length := ⟨_, rfl⟩
  have HN : Hid (N = l.length) := hN
  have HR : Hid (EvRow w (.slice ao l.length cap) l) := hr
  obtain ⟨V, hV⟩ : ∃ V, V = prtV l := ⟨_, rfl⟩
  have HV : Hid (V = prtV l) := hV
  have HOK : Hid (rightS l = true → ∀ e ∈ l, LineOk e) := fun h => ok_right h hwf
  have HWT : Hid (Wdt w ∧ Tz w) := ⟨h, Z⟩
  rw [← hV]
  rw [← hN] at hl HRT ⊢
  clear hN hr hV hwf h Z
  go_enter Tryz.func6, Tryz.ntmps6
  go_wp2_with fail
  refine HRT.out.out.mono ?_
  rintro e w1 ⟨rfl, t1⟩
  have T1 : Hid (Touch w w1 []) := t1
  clear t1 HRT
  cases hq : rightS l with
  | false =>
    have HV2 : Hid (V = .tuple #[.string ⟨#[]⟩, .int .i64 3]) := by show _ = _; rw [HV.out]; unfold prtV; rw [hq]; rfl
    clear hq
    go_wp2
    go_ret2
    rw [HV2.out]
    exact ⟨rfl, T1.out⟩
  | true =>
    have HV2 : Hid (V = .tuple #[.string (printT l), .int .i64 0]) := by show _ = _; rw [HV.out]; unfold prtV; rw [hq]; rfl
    have HK : Hid (∀ e ∈ l, LineOk e) := HOK.out hq
    have hl4 : N ≤ 400 := by rw [HN.out]; exact right_400 hq
    have HB0 : Hid (Lib.IsBuilder 45 5 w.heap.size w1.heap.size (Lib.byteCells []) (w1.alloc (.cells #[.pointer none, .slice none 0 0] 45))) := bld_new w1 w.heap.size T1.out.size
    have T2 : Hid (Touch w (w1.alloc (.cells #[.pointer none, .slice none 0 0] 45)) []) := T1.out.alloc _
    clear hq HV HOK
    go_wp2_with fail
    generalize (w1.alloc (.cells #[.pointer none, .slice none 0 0] 45)) = Q at *
    generalize w1.heap.size = b at *
    clear T1
    go_loopw [12] (fun i wr => ∃ k : Nat, i = .int .i64 k ∧ k ≤ N ∧ Lib.IsBuilder 45 5 w.heap.size b (Lib.byteCells (printL (l.take k))) wr ∧ Touch w wr []) (fun i _ => N - (intOf i).toNat)
    case atStart => exact ⟨0, rfl, Nat.zero_le _, HB0.out, T2.out⟩
    case round =>
      obtain ⟨k, rfl, hk, hbl, hT⟩ := hrel
      have HT : Hid _ := hT
      have HBL : Hid _ := hbl
      by_cases hlt : k < N
      ·
        have h1 : (k : Int) < N := by omega
        have h0 : (0 : Int) ≤ k := by omega
        have hkl : k < l.length := by rw [← HN.out]; exact hlt
        obtain ⟨g, off, rfl, hg, m0, m1, m2, m3⟩ := HR.out.one k hkl
        have d0 := (hT.cell (p := ⟨g, off + k * 4, none⟩) hg (by simp)).trans m0
        have d1 := (hT.cell (p := ⟨g, off + k * 4 + 1, none⟩) hg (by simp)).trans m1
        have d2 := (hT.cell (p := ⟨g, off + k * 4 + 2, none⟩) hg (by simp)).trans m2
        have d3 := (hT.cell (p := ⟨g, off + k * 4 + 3, none⟩) hg (by simp)).trans m3
        have hok := HK.out _ (List.getElem_mem hkl)
        have hsn := printL_snoc hkl
        have hls := line_size hok
        have hpl := printL_len (l.take k) (fun e he => HK.out e (List.mem_of_mem_take he))
        rw [List.length_take] at hpl
        obtain ⟨e, he⟩ : ∃ e, e = l[k] := ⟨_, rfl⟩
        rw [← he] at d0 d1 d2 d3 hok hsn hls
        have HSN : Hid _ := hsn
        have HTA : Hid (Touch w (wr.alloc e.obj) []) := HT.out.alloc _
        have HLN : Hid (HidC Tryz.prog 23 #[e.val] (wr.alloc e.obj) fun x w' => x = .returned (.string (lineT e)) ∧ Touch (wr.alloc e.obj) w' []) := ⟨line_any (HWT.out.1.touch HTA.out (by simp)) (HWT.out.2.touch HTA.out) e hok⟩
        have HB1 : Hid _ := bld_touch HBL.out ((Touch.refl wr []).alloc e.obj)
        have hpl2 : (printL (l.take k)).length ≤ 20000 := by omega
        have hsum := fun W : World => run_string_add_sum (P := Tryz.prog) (w := W) (lineT e) ⟨#[10]⟩ (by show (lineT e).size + 1 ≤ _; omega)
        have hsz : (lineT e ++ ⟨#[10]⟩).size ≤ 41 := by rw [ByteArray.size_append]; show (lineT e).size + 1 ≤ 41; omega
        have hdl : (lineT e ++ ⟨#[10]⟩).data.toList = (lineT e).data.toList ++ [10] := by simp
        generalize lineT e = L at *
        rw [← hdl] at HSN
        generalize L ++ ⟨#[10]⟩ = M at *
        clear m0 m1 m2 m3 he hT hsn hok hls hpl hbl HBL hdl
        go_wp2_with fail
        refine HLN.out.out.mono ?_
        rintro x w2 ⟨rfl, t2⟩
        have HB2 : Hid _ := bld_touch HB1.out t2
        have T3 : Hid (Touch w w2 []) := HTA.out.trans t2 (by simp)
        clear t2 HB1 HTA HLN d0 d1 d2 d3
        have HWS : Hid (HidC Tryz.prog 22 #[.pointer (some ⟨b, 0, none⟩), .string M] w2 _) := ⟨Any.Builder_WriteString { Tryz.Lays_n105 with } Tryz.extra105 w.heap.size b _ M w2 HB2.out (by simp [Lib.byteCells]; omega) T3.out.size⟩
        go_wp2_with fail
        refine HWS.out.out.mono ?_
        rintro x w3 ⟨rfl, hb3, bel⟩
        have T4 : Hid (Touch w w3 []) := Touch.of_below ((T3.out.below (Nat.le_refl _) (by simp)).trans bel) []
        have HB4 : Hid (Lib.IsBuilder 45 5 w.heap.size b (Lib.byteCells (printL (l.take (k + 1)))) w3) := by
          rw [HSN.out]
          refine .inr ?_
          have hx : Lib.BuilderAt 45 5 w.heap.size b (.pointer (some ⟨b, 0, none⟩)) (Lib.byteCells (printL (l.take k)) ++ Lib.strCells M) w3 := hb3
          have hy : Lib.byteCells (printL (l.take k) ++ M.data.toList) = Lib.byteCells (printL (l.take k)) ++ Lib.strCells M := by simp [Lib.byteCells, Lib.strCells]
          rw [hy]
          exact hx
        clear hb3 bel HWS HB2 T3
        go_wp2
        go_roundw
        case rel => exact ⟨k + 1, by go_num, by omega, HB4.out, T4.out⟩
        case measure => simp [intOf]; omega
      · obtain rfl : k = N := by omega
        have hall : l.take k = l := by rw [HN.out, List.take_length]
        rw [hall] at hbl
        have HST : Hid (HidC Tryz.prog 24 #[.pointer (some ⟨b, 0, none⟩)] wr _) := ⟨Any.Builder_String_any { Tryz.Lays_n105 with } Tryz.extra105 w.heap.size b (printL l) wr hbl HT.out.size⟩
        clear hT hall hbl
        go_wp2_with fail
        refine HST.out.out.mono ?_
        rintro x w3 ⟨rfl, bel⟩
        have T4 : Hid (Touch w w3 []) := Touch.of_below ((HT.out.below (Nat.le_refl _) (by simp)).trans bel) []
        go_wp2
        go_ret2
        rw [HV2.out]
        exact ⟨rfl, T4.out⟩

end Go.Proofs.YtmiaibpdeofokaaGreatDoor

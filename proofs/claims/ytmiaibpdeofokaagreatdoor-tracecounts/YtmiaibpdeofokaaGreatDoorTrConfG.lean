/-
  package trace: Conflicts BY ITS CONTRACT.
-/
import Derived.Test.YtmiaibpdeofokaaGreatDoorTrChain
import Derived.Test.YtmiaibpdeofokaaGreatDoorTrMeet
namespace Go.Proofs.YtmiaibpdeofokaaGreatDoor
set_option linter.unusedVariables false
set_option linter.unusedSimpArgs false
open Go.RowKit Go.Maps
attribute [local go_sem] Oper.semAt_some

theorem Tryz.info_two : (Tryz.prog.info? 36).map (fun i => (i.zero, i.size, i.bytes)) = some (some (.agg #[.int .i64 0, .int .i64 0]), 2, 16) := by kernel_rfl
def pairI (p : Int × Int) : List Value := [.int .i64 p.1, .int .i64 p.2]
/-- The pairs that met: with one, those behind it; of all. -/
def confI (met : Nat → Nat → Bool) (fa : Nat → Int) (i : Nat) : Nat → List (Int × Int)
  | 0 => []
  | j + 1 => confI met fa i j ++ (if met i (i + 1 + j) then [(fa i, fa (i + 1 + j))] else [])
def confO (met : Nat → Nat → Bool) (fa : Nat → Int) (N : Nat) : Nat → List (Int × Int)
  | 0 => []
  | i + 1 => confO met fa N i ++ confI met fa i (N - (i + 1))
theorem confI_len (met : Nat → Nat → Bool) (fa : Nat → Int) (i : Nat) : ∀ j, (confI met fa i j).length ≤ j
  | 0 => Nat.le_refl _
  | j + 1 => by
    have := confI_len met fa i j
    unfold confI
    rw [List.length_append]
    split <;> simp <;> omega
theorem confO_len (met : Nat → Nat → Bool) (fa : Nat → Int) (N : Nat) : ∀ i, (confO met fa N i).length ≤ i * N
  | 0 => by simp [confO]
  | i + 1 => by
    have h1 := confO_len met fa N i
    have h2 := confI_len met fa i (N - (i + 1))
    unfold confO
    rw [List.length_append, Nat.add_mul]
    omega
/-- Which attempts met, by their places. -/
def attG (l : List EvD) (i : Nat) : Int := (attS l).getD i 0
abbrev pairOwn (w : World) (B : Nat) (v : Value) (l : List (Int × Int)) : Prop := w.ownsRow B 36 2 v l.length (l.flatMap pairI)
theorem own_base2 {w : World} {B B' : Nat} {e : TypeId} {size : Nat} {v : Value} {n : Nat} {xs : List Value} (h : w.ownsRow B e size v n xs) (hB : B' ≤ B) : w.ownsRow B' e size v n xs := by
  refine ⟨h.1, ?_⟩
  rcases h.2 with hn | ⟨g', cap', cur, e, hb, r⟩
  · exact .inl hn
  · exact .inr ⟨g', cap', cur, e, Nat.le_trans hB hb, r⟩
def ConfP (w : World) (Z : List (Int × Int)) (y : Ending) (w' : World) : Prop := ∃ v, y = .returned v ∧ pairOwn w' w.heap.size v Z ∧ Touch w w' []
theorem box_not_own {w : World} {B bx : Nat} {q : Q4} {v : Value} {l : List (Int × Int)} (h : BxQ w bx q) (ho : pairOwn w B v l) : ∀ g, v.ownBlock = some g → g ≠ bx := by
  intro g hg e
  subst e
  rcases ho.2 with ⟨e, _⟩ | ⟨g', cap, cur, e, _, hh, _⟩
  · rw [e] at hg; simp [Value.ownBlock] at hg
  · rw [e] at hg
    simp [Value.ownBlock] at hg
    subst hg
    rw [h.st] at hh
    simp at hh

set_option maxRecDepth 100000 in
set_option maxHeartbeats 4000000 in
theorem conf_any {w : World} {ao : Option Addr} {cap : Nat} {l : List EvD} (hr : EvRow w (.slice ao l.length cap) l) (hl : l.length ≤ 1000) (hwf : ∀ e ∈ l, e.Wf) {met mm : Nat → Nat → Bool} (hmt : ∀ i j, met i j = (!befC l i j && (!befC l j i && mm i j))) (hmm : ∀ i j, i < (attS l).length → j < (attS l).length → (mm i j = true ↔ Meets (tchN l (attG l i) l.length) (tchN l (attG l j) l.length))) :
    Calls Tryz.prog 15 #[.slice ao l.length cap] w (ConfP w (confO met (attG l) (attS l).length (attS l).length)) := by
  obtain ⟨Z, hZ⟩ : ∃ Z, Z = confO met (attG l) (attS l).length (attS l).length := ⟨_, rfl⟩
  have HZ : Hid (Z = confO met (attG l) (attS l).length (attS l).length) := hZ
  rw [← hZ]
  clear hZ
  have HCR : Hid (HidC Tryz.prog 34 #[.slice ao l.length cap] w fun y w' => ∃ g ms, y = .returned (.slice (some ⟨g, 0, none⟩) (attS l).length (attS l).length) ∧ CrsAt w' w.heap.size g l l.length (attS l) ms ∧ Touch w w' []) := ⟨courses_any hr hl hwf⟩
  have hal : (attS l).length ≤ l.length := attS_le l
  generalize hLL : l.length = L at *
  have HLL : Hid (l.length = L) := hLL
  have HMT : Hid (∀ i j, met i j = (!befC l i j && (!befC l j i && mm i j))) := hmt
  have HMM : Hid (∀ i j, i < (attS l).length → j < (attS l).length → (mm i j = true ↔ Meets (tchN l (attG l i) L) (tchN l (attG l j) L))) := hmm
  clear hr hwf hLL hmt hmm
  obtain ⟨i0, hi0, hz0, hz1, hz2⟩ := info_parts Tryz.info_two
  go_enter Tryz.func15, Tryz.ntmps15
  go_wp2_with fail
  refine HCR.out.out.mono ?_
  rintro y w2 ⟨g, ms, rfl, hC, t2⟩
  obtain ⟨fb, fx, fm, HFF⟩ : ∃ (fb fx : Nat → Int) (fm : Nat → Nat), Hid ((∀ i, i < (attS l).length → (rowQ l L (attS l) ms)[i]? = some ⟨.int .i64 (attG l i), .int .i64 (fb i), .int .i64 (fx i), .map (some (fm i))⟩ ∧ MapF w2 (fm i) L (liftK (tchN l (attG l i) L))) ∧ ∀ i j, befC l i j = decide (fx i < fb j)) := by
    refine ⟨fun i => begN l ((attS l).getD i 0) L, fun i => endN l ((attS l).getD i 0) L, fun i => ms.getD i 0, fun i hi => ?_, fun i j => by unfold befC; rw [HLL.out]⟩
    have hm : i < ms.length := by rw [hC.len]; exact hi
    have e : (attS l).getD i 0 = (attS l)[i] := by rw [List.getD_eq_getElem?_getD, List.getElem?_eq_getElem hi]; rfl
    have e2 : ms.getD i 0 = ms[i] := by rw [List.getD_eq_getElem?_getD, List.getElem?_eq_getElem hm]; rfl
    have e3 : attG l i = (attS l)[i] := e
    rw [rowQ_at hi hm]
    simp only [e, e2, e3]
    exact ⟨rfl, hC.mp i hi hm⟩
  have HROW : Hid (R4 w2 g (rowQ l L (attS l) ms)) := hC.row
  have T2 : Hid (Touch w w2 []) := t2
  have HF1 : Hid (∀ i, i < (attS l).length → (rowQ l L (attS l) ms)[i]? = some ⟨.int .i64 (attG l i), .int .i64 (fb i), .int .i64 (fx i), .map (some (fm i))⟩) := fun i hi => (HFF.out.1 i hi).1
  have HF2 : Hid (∀ i j, i < (attS l).length → j < (attS l).length → ∀ W, Touch w2 W [] → ∀ a b c a' b' c', HidC Tryz.prog 36 #[.agg #[.int .i64 a, .int .i64 b, .int .i64 c, .map (some (fm i))], .agg #[.int .i64 a', .int .i64 b', .int .i64 c', .map (some (fm j))]] W fun e w' => e = .returned (.bool (mm i j)) ∧ Touch W w' []) := fun i j hi hj W t a b c a' b' c' => ⟨(meets_any ((HFF.out.1 i hi).2.touch t (by simp)) ((HFF.out.1 j hj).2.touch t (by simp)) a b c a' b' c').mono (by
    rintro e w' ⟨r, rfl, hr, tt⟩
    have : r = mm i j := by
      cases hq : mm i j with
      | true => exact hr.2 ((HMM.out i j hi hj).1 hq)
      | false =>
        cases hr' : r with
        | false => rfl
        | true => rw [hr'] at hr; have := (HMM.out i j hi hj).2 (hr.1 rfl); rw [hq] at this; cases this
    rw [this]
    exact ⟨rfl, tt⟩)⟩
  have HF3 : Hid (∀ i j, met i j = (!decide (fx i < fb j) && (!decide (fx j < fb i) && mm i j))) := fun i j => by rw [HMT.out, HFF.out.2, HFF.out.2]
  clear hC t2 HCR HFF HMT HMM
  generalize rowQ l L (attS l) ms = X at *
  generalize attG l = fa at *
  generalize (attS l).length = N at *
  have hwB := T2.out.size
  go_wp2_with fail
  go_loopw [3, 13] (fun v i wr => ∃ k : Nat, i = .int .i64 k ∧ k ≤ N ∧ pairOwn wr w2.heap.size v (confO met fa N k) ∧ Touch w2 wr []) (fun _ i _ => N - (intOf i).toNat)
  case atStart => exact ⟨0, rfl, Nat.zero_le _, World.ownsRow_nil _ _ _ _, Touch.refl _ _⟩
  case round =>
    obtain ⟨i, rfl, hi, hrow, hT⟩ := hrel
    have HT : Hid (Touch w2 wr []) := hT
    have HRW : Hid (pairOwn wr w2.heap.size u3 (confO met fa N i)) := hrow
    clear hrow
    by_cases hlt : i < N
    · have h1 : (i : Int) < N := by omega
      have h0 : (0 : Int) ≤ i := by omega
      have hq := HF1.out i hlt
      have hR4 := HROW.out.touch hT (by simp)
      obtain ⟨qa, hqa⟩ : ∃ q, q = fa i := ⟨_, rfl⟩
      obtain ⟨qb, hqb⟩ : ∃ q, q = fb i := ⟨_, rfl⟩
      obtain ⟨qx, hqx⟩ : ∃ q, q = fx i := ⟨_, rfl⟩
      obtain ⟨qm, hqm⟩ : ∃ q, q = some (fm i) := ⟨_, rfl⟩
      rw [← hqa, ← hqb, ← hqx, ← hqm] at hq
      have HI2 : Hid (∀ j, j < N → ∀ W, Touch w2 W [] → ∀ a' b' c', HidC Tryz.prog 36 #[.agg #[.int .i64 qa, .int .i64 qb, .int .i64 qx, .map qm], .agg #[.int .i64 a', .int .i64 b', .int .i64 c', .map (some (fm j))]] W fun e w' => e = .returned (.bool (mm i j)) ∧ Touch W w' []) := fun j hj W t a' b' c' => by rw [hqm]; exact HF2.out i j hlt hj W t qa qb qx a' b' c'
      have HI3 : Hid (∀ j, met i j = (!decide (qx < fb j) && (!decide (fx j < qb) && mm i j))) := fun j => by rw [hqx, hqb]; exact HF3.out i j
      have HI4 : Hid (∀ j, confI met fa i (j + 1) = confI met fa i j ++ (if met i (i + 1 + j) then [(qa, fa (i + 1 + j))] else [])) := fun j => by rw [hqa]; rfl
      have d0 := hR4.cell hq 0 (by omega)
      have d1 := hR4.cell hq 1 (by omega)
      have d2 := hR4.cell hq 2 (by omega)
      have d3 := hR4.cell hq 3 (by omega)
      simp only [Q4.cells, List.getElem?_cons_succ, List.getElem?_cons_zero, Nat.add_zero] at d0 d1 d2 d3
      have TA : Touch wr (wr.alloc (.cells #[.int .i64 qa, .int .i64 qb, .int .i64 qx, .map qm] 74)) [] := (Touch.refl wr []).alloc _
      have HXB : Hid (BxQ (wr.alloc (.cells #[.int .i64 qa, .int .i64 qb, .int .i64 qx, .map qm] 74)) wr.heap.size ⟨.int .i64 qa, .int .i64 qb, .int .i64 qx, .map qm⟩) := ⟨heap_alloc_new wr _⟩
      have HXT : Hid (Touch w2 (wr.alloc (.cells #[.int .i64 qa, .int .i64 qb, .int .i64 qx, .map qm] 74)) []) := HT.out.alloc _
      have HXR : Hid (pairOwn (wr.alloc (.cells #[.int .i64 qa, .int .i64 qb, .int .i64 qx, .map qm] 74)) w2.heap.size u3 (confO met fa N i ++ confI met fa i 0)) := by
        have h := ownsRow_touch HRW.out TA (by simp)
        show World.ownsRow _ _ _ _ _ _ _
        rw [show confI met fa i 0 = [] from rfl, List.append_nil]
        exact h
      have HLN : Hid (∀ j, j ≤ N - (i + 1) → (confO met fa N i ++ confI met fa i j).length ≤ 2000000) := fun j hj => by
        have k1 := confO_len met fa N i
        have k2 := confI_len met fa i j
        have k3 : i * N ≤ 1000 * 1000 := Nat.mul_le_mul (by omega) (by omega)
        show _ ≤ _
        rw [List.length_append]
        omega
      have HON : Hid (confO met fa N (i + 1) = confO met fa N i ++ confI met fa i (N - (i + 1))) := rfl
      have hw1 : IntKind.i64.wrap ((i : Int) + 1) = ((i + 1 : Nat) : Int) := by rw [IntKind.wrap_i64]; omega
      have hi1 : ((i + 1 : Nat) : Int) ≤ N := by omega
      have hi0' : (0 : Int) ≤ ((i + 1 : Nat) : Int) := by omega
      have hle1 : i + 1 ≤ N := by omega
      clear hR4 TA hT hqa hqb hqx hqm
      generalize confO met fa N i = A at *
      by_cases hN1 : N = i + 1
      · subst hN1
        have HE1 : Hid (pairOwn (wr.alloc (.cells #[.int .i64 qa, .int .i64 qb, .int .i64 qx, .map qm] 74)) w2.heap.size u3 (confO met fa (i + 1) (i + 1))) := by
          rw [HON.out, Nat.sub_self]
          exact HXR.out
        clear HON HLN HXR
        go_wp2_with fail
        generalize (wr.alloc (.cells #[.int .i64 qa, .int .i64 qb, .int .i64 qx, .map qm] 74)) = Q1 at *
        go_loopw [3, 23] (fun v jv wv => v = u3 ∧ jv = .int .i64 0 ∧ wv = Q1) (fun _ _ _ => 0)
        case atStart => exact ⟨rfl, rfl, rfl⟩
        case round =>
          obtain ⟨hv, rfl, hww⟩ := hrel
          subst hww
          subst hv
          go_wp2
          go_roundw
          case rel => exact ⟨i + 1, by go_num, by omega, HE1.out, HXT.out⟩
          case measure => simp [intOf]
      · obtain ⟨M, hM⟩ : ∃ M, M = N - (i + 1) := ⟨_, rfl⟩
        have HM : Hid (M = N - (i + 1)) := hM
        rw [← hM] at HLN HON
        go_wp2_with fail
        rw [← hM]
        clear hM d0 d1 d2 d3
        generalize (wr.alloc (.cells #[.int .i64 qa, .int .i64 qb, .int .i64 qx, .map qm] 74)) = Q1 at *
        generalize wr.heap.size = bx at *
        go_loopw [3, 23] (fun v jv wv => ∃ j : Nat, jv = .int .i64 j ∧ j ≤ M ∧ pairOwn wv w2.heap.size v (A ++ confI met fa i j) ∧ BxQ wv bx ⟨.int .i64 qa, .int .i64 qb, .int .i64 qx, .map qm⟩ ∧ Touch w2 wv []) (fun _ jv _ => M - (intOf jv).toNat)
        case atStart => exact ⟨0, rfl, Nat.zero_le _, HXR.out, HXB.out, HXT.out⟩
        case round =>
          obtain ⟨j, rfl, hj, hro, hBx, hT⟩ := hrel
          clear HT HXR HXB HXT HRW
          have HT : Hid (Touch w2 wr []) := hT
          have HROWP : Hid (pairOwn wr w2.heap.size u3 (A ++ confI met fa i j)) := hro
          have HBX : Hid (BxQ wr bx ⟨.int .i64 qa, .int .i64 qb, .int .i64 qx, .map qm⟩) := hBx
          by_cases hjl : j < M
          · have h1j : (j : Int) < M := by omega
            have h0j : (0 : Int) ≤ j := by omega
            have hjN : i + 1 + j < N := by have := HM.out; omega
            have hr := HF1.out (i + 1 + j) hjN
            have HMB : Hid (∀ W, Touch w2 W [] → ∀ a' b' c', HidC Tryz.prog 36 #[.agg #[.int .i64 qa, .int .i64 qb, .int .i64 qx, .map qm], .agg #[.int .i64 a', .int .i64 b', .int .i64 c', .map (some (fm (i + 1 + j)))]] W fun e w' => e = .returned (.bool (mm i (i + 1 + j))) ∧ Touch W w' []) := fun W t a' b' c' => HI2.out (i + 1 + j) hjN W t a' b' c'
            have hmt := HI3.out (i + 1 + j)
            have hcn := HI4.out j
            have hln := HLN.out j hj
            generalize fa (i + 1 + j) = ra at *
            generalize fb (i + 1 + j) = rb at *
            generalize fx (i + 1 + j) = rx at *
            generalize fm (i + 1 + j) = rm at *
            generalize mm i (i + 1 + j) = mv at *
            generalize met i (i + 1 + j) = mt at *
            have HCN : Hid (confI met fa i (j + 1) = confI met fa i j ++ (if mt then [(qa, ra)] else [])) := hcn
            have HMT : Hid (mt = (!decide (qx < rb) && (!decide (rx < qb) && mv))) := hmt
            have eo : (i + 1 + j) * 4 = (i + 1) * 4 + j * 4 := by omega
            have hR4 := HROW.out.touch hT (by simp)
            have d0 := hR4.cell hr 0 (by omega)
            have d1 := hR4.cell hr 1 (by omega)
            have d2 := hR4.cell hr 2 (by omega)
            have d3 := hR4.cell hr 3 (by omega)
            rw [eo] at d0 d1 d2 d3
            simp only [Q4.cells, List.getElem?_cons_succ, List.getElem?_cons_zero, Nat.add_zero] at d0 d1 d2 d3
            have TA : Touch wr (wr.alloc (.cells #[.int .i64 ra, .int .i64 rb, .int .i64 rx, .map (some rm)] 74)) [] := (Touch.refl wr []).alloc _
            have hbA := hBx.touch TA (by simp)
            obtain ⟨y0, y1, y2, y3⟩ := hbA.cells
            have HBA : Hid (BxQ (wr.alloc (.cells #[.int .i64 ra, .int .i64 rb, .int .i64 rx, .map (some rm)] 74)) bx ⟨.int .i64 qa, .int .i64 qb, .int .i64 qx, .map qm⟩) := hbA
            have HBRA : Hid (BxQ (wr.alloc (.cells #[.int .i64 ra, .int .i64 rb, .int .i64 rx, .map (some rm)] 74)) wr.heap.size ⟨.int .i64 ra, .int .i64 rb, .int .i64 rx, .map (some rm)⟩) := ⟨heap_alloc_new wr _⟩
            have HBF : Hid (∀ W, HidC Tryz.prog 35 #[.agg #[.int .i64 qa, .int .i64 qb, .int .i64 qx, .map qm], .agg #[.int .i64 ra, .int .i64 rb, .int .i64 rx, .map (some rm)]] W fun e w' => e = .returned (.bool (decide (qx < rb))) ∧ Touch W w' []) := fun W => ⟨before_crs ⟨.int .i64 qa, .int .i64 qb, .int .i64 qx, .map qm⟩ ⟨.int .i64 ra, .int .i64 rb, .int .i64 rx, .map (some rm)⟩ qx rb rfl rfl W⟩
            have HBG : Hid (∀ W, HidC Tryz.prog 35 #[.agg #[.int .i64 ra, .int .i64 rb, .int .i64 rx, .map (some rm)], .agg #[.int .i64 qa, .int .i64 qb, .int .i64 qx, .map qm]] W fun e w' => e = .returned (.bool (decide (rx < qb))) ∧ Touch W w' []) := fun W => ⟨before_crs ⟨.int .i64 ra, .int .i64 rb, .int .i64 rx, .map (some rm)⟩ ⟨.int .i64 qa, .int .i64 qb, .int .i64 qx, .map qm⟩ rx qb rfl rfl W⟩
            have HTA : Hid (Touch wr (wr.alloc (.cells #[.int .i64 ra, .int .i64 rb, .int .i64 rx, .map (some rm)] 74)) []) := TA
            have hbr : wr.heap.size < (wr.alloc (.cells #[.int .i64 ra, .int .i64 rb, .int .i64 rx, .map (some rm)] 74)).heap.size := by simp
            clear hro hBx hT TA hbA hR4 hr eo hcn hmt
            generalize decide (qx < rb) = c1 at *
            generalize decide (rx < qb) = c2 at *
            go_wp2_with fail
            generalize (wr.alloc (.cells #[.int .i64 ra, .int .i64 rb, .int .i64 rx, .map (some rm)] 74)) = Q2 at *
            generalize hrx : wr.heap.size = rxb at *
            clear hrx
            refine (HBF.out _).out.mono ?_
            rintro y w5 ⟨rfl, t5⟩
            have T5 : Hid (Touch Q2 w5 []) := t5
            clear t5 HBF d0 d1 d2 d3 y0 y1 y2 y3
            cases c1 with
            | true =>
              have TX : Hid (Touch wr w5 []) := HTA.out.trans T5.out (by simp)
              have HSK : Hid (A ++ confI met fa i (j + 1) = A ++ confI met fa i j) := by show _ = _; rw [HCN.out, HMT.out]; simp
              clear HMB HBG HCN HMT
              go_wp2
              go_roundw
              case rel => exact ⟨j + 1, by go_num, by omega, by rw [HSK.out]; exact ownsRow_touch HROWP.out TX.out (by simp), HBX.out.touch TX.out (by simp), HT.out.trans TX.out (by simp)⟩
              case measure => simp [intOf]; omega
            | false =>
              obtain ⟨y0, y1, y2, y3⟩ := (HBA.out.touch T5.out (by simp)).cells
              obtain ⟨z0, z1, z2, z3⟩ := (HBRA.out.touch T5.out (by simp)).cells
              go_wp2_with fail
              refine (HBG.out _).out.mono ?_
              rintro y w6 ⟨rfl, t6⟩
              have T6 : Hid (Touch Q2 w6 []) := T5.out.trans t6 (by simp)
              clear t6 T5 HBG y0 y1 y2 y3 z0 z1 z2 z3
              cases c2 with
              | true =>
                have TX : Hid (Touch wr w6 []) := HTA.out.trans T6.out (by simp)
                have HSK : Hid (A ++ confI met fa i (j + 1) = A ++ confI met fa i j) := by show _ = _; rw [HCN.out, HMT.out]; simp
                clear HMB HCN HMT
                go_wp2
                go_roundw
                case rel => exact ⟨j + 1, by go_num, by omega, by rw [HSK.out]; exact ownsRow_touch HROWP.out TX.out (by simp), HBX.out.touch TX.out (by simp), HT.out.trans TX.out (by simp)⟩
                case measure => simp [intOf]; omega
              | false =>
                obtain ⟨y0, y1, y2, y3⟩ := (HBA.out.touch T6.out (by simp)).cells
                obtain ⟨z0, z1, z2, z3⟩ := (HBRA.out.touch T6.out (by simp)).cells
                have HMB2 := HMB.out w6 ((HT.out.trans HTA.out (by simp)).trans T6.out (by simp)) ra rb rx
                go_wp2_with fail
                refine HMB2.out.mono ?_
                rintro y w7 ⟨rfl, t7⟩
                have T7 : Hid (Touch Q2 w7 []) := T6.out.trans t7 (by simp)
                have TX : Hid (Touch wr w7 []) := HTA.out.trans T7.out (by simp)
                clear t7 T6 HMB HMB2 y0 y1 y2 y3 z0 z1 z2 z3
                cases mv with
                | false =>
                  have HSK : Hid (A ++ confI met fa i (j + 1) = A ++ confI met fa i j) := by show _ = _; rw [HCN.out, HMT.out]; simp
                  clear HCN HMT
                  go_wp2
                  go_roundw
                  case rel => exact ⟨j + 1, by go_num, by omega, by rw [HSK.out]; exact ownsRow_touch HROWP.out TX.out (by simp), HBX.out.touch TX.out (by simp), HT.out.trans TX.out (by simp)⟩
                  case measure => simp [intOf]; omega
                | true =>
                  obtain ⟨y0, y1, y2, y3⟩ := (HBA.out.touch T7.out (by simp)).cells
                  obtain ⟨z0, z1, z2, z3⟩ := (HBRA.out.touch T7.out (by simp)).cells
                  have HSK : Hid (A ++ confI met fa i (j + 1) = (A ++ confI met fa i j) ++ [(qa, ra)]) := by show _ = _; rw [HCN.out, HMT.out]; simp
                  have hro7 : (w7.alloc (.cells #[.int .i64 qa, .int .i64 ra] 36)).ownsRow w2.heap.size 36 2 u3 (A ++ confI met fa i j).length ((A ++ confI met fa i j).flatMap pairI) := (ownsRow_touch HROWP.out TX.out (by simp)).alloc _
                  have HB7 : Hid (BxQ (w7.alloc (.cells #[.int .i64 qa, .int .i64 ra] 36)) bx ⟨.int .i64 qa, .int .i64 qb, .int .i64 qx, .map qm⟩) := (HBX.out.touch TX.out (by simp)).touch ((Touch.refl _ []).alloc _) (by simp)
                  have HNB : Hid (∀ g, u3.ownBlock = some g → g ≠ bx) := box_not_own (l := A ++ confI met fa i j) HB7.out hro7
                  have HGE : Hid (∀ g, u3.ownBlock = some g → w2.heap.size ≤ g) := fun g hg => (World.ownsRow.lt HROWP.out g hg).1
                  have HT7 : Hid (Touch w2 (w7.alloc (.cells #[.int .i64 qa, .int .i64 ra] 36)) []) := (HT.out.trans TX.out (by simp)).alloc _
                  have hnew : ∀ j u, [Value.int .i64 qa, .int .i64 ra][j]? = some u → (w7.alloc (.cells #[.int .i64 qa, .int .i64 ra] 36)).cell? (Addr.add ⟨w7.heap.size, 0, none⟩ j) = some u := World.news_of_block (cs := #[.int .i64 qa, .int .i64 ra]) (t := 36) (fr := (0, 0)) (heap_alloc_new w7 _)
                  have hsz7 : w2.heap.size ≤ (w7.alloc (.cells #[.int .i64 qa, .int .i64 ra] 36)).heap.size := HT7.out.size
                  have hone : ∀ u ∈ [Value.int .i64 qa, .int .i64 ra], u.oneCell' = true := by intro u hu; simp at hu; rcases hu with rfl | rfl <;> rfl
                  have HEND : Hid (∀ v' w8, w8.ownsRow w2.heap.size 36 2 v' ((A ++ confI met fa i j).length + 1) ((A ++ confI met fa i j).flatMap pairI ++ [.int .i64 qa, .int .i64 ra]) → (w7.alloc (.cells #[.int .i64 qa, .int .i64 ra] 36)).grownBy w8 u3.ownBlock → pairOwn w8 w2.heap.size v' (A ++ confI met fa i (j + 1)) ∧ BxQ w8 bx ⟨.int .i64 qa, .int .i64 qb, .int .i64 qx, .map qm⟩ ∧ Touch w2 w8 []) := fun v' w8 h1 h2 => by
                    refine ⟨?_, ?_, HT7.out.grown h2 (fun q hq => .inr (HGE.out q hq))⟩
                    · show w8.ownsRow _ _ _ _ _ _
                      rw [HSK.out, List.length_append, List.flatMap_append]
                      simpa [pairI] using h1
                    · have t8 : Touch (w7.alloc (.cells #[.int .i64 qa, .int .i64 ra] 36)) w8 u3.ownBlock.toList := (Touch.refl _ _).grown h2 (fun q hq => .inl (by simp [hq]))
                      exact HB7.out.touch t8 (fun hm => HNB.out bx (by simpa using hm) rfl)
                  clear HCN HMT HB7 HNB HGE HT7
                  generalize hWW : (A ++ confI met fa i j).length = nn at *
                  generalize hXX : (A ++ confI met fa i j).flatMap pairI = xx at *
                  clear hWW hXX
                  go_wp2_with (at_builtin; refine wpList_append_own _ rfl _ _ 34 rfl w2.heap.size 36 i0 _ 2 16 Tryz.underlying34 hi0 hz0 hz1 hz2 rfl (by decide) _ _ _ rfl hro7 ⟨w7.heap.size, 0, none⟩ 1 1 [.int .i64 qa, .int .i64 ra] rfl rfl hnew hone (by unfold maxLen; omega) (by omega) hsz7 ?_)
                  intro v' w8 hown' hgrow _
                  have HE : Hid _ := HEND.out v' w8 hown' hgrow
                  clear hown' hgrow hro7 hnew hsz7 hone HEND y0 y1 y2 y3 z0 z1 z2 z3
                  go_wp2
                  go_roundw
                  case rel => exact ⟨j + 1, by go_num, by omega, HE.out.1, HE.out.2.1, HE.out.2.2⟩
                  case measure => simp [intOf]; omega
          · have hjM : j = M := by omega
            rw [hjM, ← HON.out] at HROWP
            clear hro hBx hT
            go_wp2
            go_roundw
            case rel => exact ⟨i + 1, by go_num, by omega, HROWP.out, HT.out⟩
            case measure => simp [intOf]; omega
    · have hkN : i = N := by omega
      rw [hkN, ← HZ.out] at HRW
      have T : Hid (Touch w wr []) := T2.out.trans HT.out (by simp)
      clear hT
      go_wp2
      go_ret
      exact ⟨_, rfl, own_base2 HRW.out hwB, T.out⟩

end Go.Proofs.YtmiaibpdeofokaaGreatDoor

/-
  package trace: Chains BY ITS CONTRACT.
-/
import Derived.Test.YtmiaibpdeofokaaGreatDoorTrCourse
namespace Go.Proofs.YtmiaibpdeofokaaGreatDoor
set_option linter.unusedVariables false
set_option linter.unusedSimpArgs false
open Go.RowKit Go.Maps
attribute [local go_sem] Oper.semAt_some

/-- The longest row that ends with a place, by those ahead; all of them; the longest. -/
def chI (bef : Nat → Nat → Bool) (D : List Int) (i : Nat) : Nat → Int
  | 0 => 1
  | j + 1 => if bef j i then max (chI bef D i j) (D.getD j 0 + 1) else chI bef D i j
def lens (bef : Nat → Nat → Bool) : Nat → List Int
  | 0 => []
  | i + 1 => lens bef i ++ [chI bef (lens bef i) i i]
def lgN (bef : Nat → Nat → Bool) : Nat → Int
  | 0 => 0
  | i + 1 => max (lgN bef i) (chI bef (lens bef i) i i)
theorem lens_len (bef : Nat → Nat → Bool) : ∀ i, (lens bef i).length = i
  | 0 => rfl
  | i + 1 => by rw [lens, List.length_append, lens_len bef i]; rfl
theorem chI_range {bef : Nat → Nat → Bool} {D : List Int} {i : Nat} (hD : ∀ j, 0 ≤ D.getD j 0 ∧ D.getD j 0 ≤ (j : Int) + 1) : ∀ j : Nat, 1 ≤ chI bef D i j ∧ chI bef D i j ≤ (j : Int) + 1
  | 0 => by unfold chI; omega
  | j + 1 => by
    have h1 := chI_range (bef := bef) (i := i) hD j
    have h2 := hD j
    unfold chI
    split <;> omega
theorem lens_range (bef : Nat → Nat → Bool) : ∀ i j, 0 ≤ (lens bef i).getD j 0 ∧ (lens bef i).getD j 0 ≤ (j : Int) + 1
  | 0, j => by unfold lens; simp; omega
  | i + 1, j => by
    unfold lens
    rw [List.getD_eq_getElem?_getD]
    by_cases h : j < i
    · rw [List.getElem?_append_left (by rw [lens_len]; exact h), ← List.getD_eq_getElem?_getD]
      exact lens_range bef i j
    · rw [List.getElem?_append_right (by rw [lens_len]; omega), lens_len]
      by_cases e : j = i
      · subst e
        have := chI_range (bef := bef) (i := j) (lens_range bef j) j
        simp
        omega
      · rw [List.getElem?_eq_none (by simp; omega)]
        simp
        omega
theorem lgN_range (bef : Nat → Nat → Bool) : ∀ i, 0 ≤ lgN bef i ∧ lgN bef i ≤ i
  | 0 => by unfold lgN; omega
  | i + 1 => by
    have h1 := lgN_range bef i
    have h2 := chI_range (bef := bef) (i := i) (lens_range bef i) i
    unfold lgN
    omega
/-- Which attempts were before which, by their places. -/
def befC (l : List EvD) (i j : Nat) : Bool := decide (endN l ((attS l).getD i 0) l.length < begN l ((attS l).getD j 0) l.length)
def chainS (l : List EvD) : Int := if rightS l then lgN (befC l) (attS l).length else 0
theorem Tryz.info_int2 : (Tryz.prog.info? 3).map (fun i => (i.zero, i.size, i.bytes)) = some (some (.int .i64 0), 1, 8) := by kernel_rfl
theorem make_ints (n : Nat) (hn : n ≤ 1000) (w : World) : (Instr.makeSlice 76 (.int .i64 n) (.int .i64 n)).run Tryz.prog w = .ok (.slice (some ⟨w.heap.size, 0, none⟩) n n) (w.alloc (.cells (Array.replicate n (.int .i64 0)) 3)) := by
  obtain ⟨i, hi, hz, hs, hb⟩ := info_parts Tryz.info_int2
  have e := run_make (P := Tryz.prog) w 76 3 i _ Tryz.underlying76 hi hz .i64 .i64 n n (by omega) (by omega) (by rw [hb]; omega) (by omega)
  rw [hs, Int.toNat_natCast] at e
  have e2 : madeCells (Value.int .i64 0).cells (n * 1) = Array.replicate n (.int .i64 0) := by
    apply Array.ext_getElem?
    intro k
    rw [made_at, Array.getElem?_replicate, Nat.mul_one]
    split
    · have : k % (Value.int .i64 0).cells.size = 0 := by show k % 1 = 0; omega
      rw [this]; rfl
    · rfl
  rw [e, e2]
/-- Numbers in a block of their own. -/
structure R1 (w : World) (h : Nat) (X : List Int) : Prop where
  st : w.heap[h]? = some (.cells (X.map (Value.int .i64)).toArray 3 (0, 0))
theorem R1.touch {w w' : World} {h : Nat} {X : List Int} {S : List Nat} (k : R1 w h X) (t : Touch w w' S) (hS : h ∉ S) : R1 w' h X := ⟨(t.block h (lt_of_heap k.st) hS).trans k.st⟩
theorem R1.cell {w : World} {h : Nat} {X : List Int} (k : R1 w h X) {i : Nat} {x : Int} (hi : X[i]? = some x) : w.cell? ⟨h, i, none⟩ = some (.int .i64 x) := by unfold World.cell?; rw [k.st]; simp [hi]
theorem R1.fr {w : World} {h : Nat} {X : List Int} (k : R1 w h X) (j : Nat) : w.frozen? ⟨h, j, none⟩ = false := by unfold World.frozen?; rw [k.st]; simp
theorem R1.put {w : World} {h : Nat} {X : List Int} (k : R1 w h X) (i : Nat) (x : Int) : R1 (w.setCell ⟨h, i, none⟩ (.int .i64 x)) h (X.set i x) := ⟨by rw [heap_setCell_same _ _ _ _ _ _ k.st]; simp [List.map_set]⟩
theorem cell_set_ne (w : World) (h i j : Nat) (v : Value) (hne : j ≠ i) : (w.setCell ⟨h, i, none⟩ v).cell? ⟨h, j, none⟩ = w.cell? ⟨h, j, none⟩ := by
  have hne' : i ≠ j := fun e => hne e.symm
  simp [go_sem, hne, hne']
/-- A course in a block of its own. -/
structure BxQ (w : World) (b : Nat) (q : Q4) : Prop where
  st : w.heap[b]? = some (.cells #[q.v0, q.v1, q.v2, q.v3] 74 (0, 0))
theorem BxQ.touch {w w' : World} {b : Nat} {q : Q4} {S : List Nat} (k : BxQ w b q) (t : Touch w w' S) (hS : b ∉ S) : BxQ w' b q := ⟨(t.block b (lt_of_heap k.st) hS).trans k.st⟩
theorem BxQ.cells {w : World} {b : Nat} {q : Q4} (k : BxQ w b q) : w.cell? ⟨b, 0, none⟩ = some q.v0 ∧ w.cell? ⟨b, 1, none⟩ = some q.v1 ∧ w.cell? ⟨b, 2, none⟩ = some q.v2 ∧ w.cell? ⟨b, 3, none⟩ = some q.v3 := by
  refine ⟨?_, ?_, ?_, ?_⟩ <;> (unfold World.cell?; rw [k.st]; rfl)
/-- The row of lengths while it is filled: the first ones, the one that is reckoned, noughts. -/
def lenX (bef : Nat → Nat → Bool) (N i : Nat) (x : Int) : List Int := lens bef i ++ (x :: List.replicate (N - (i + 1)) 0)
def lenY (bef : Nat → Nat → Bool) (N i : Nat) : List Int := lens bef i ++ List.replicate (N - i) 0
theorem lenY_X {bef : Nat → Nat → Bool} {N i : Nat} (h : i < N) (x : Int) : (lenY bef N i).set i x = lenX bef N i x := by
  unfold lenY lenX
  rw [List.set_append_right _ _ (by rw [lens_len]; omega), lens_len, Nat.sub_self]
  have e : N - i = (N - (i + 1)) + 1 := by omega
  rw [e, List.replicate_succ, List.set_cons_zero]
theorem lenX_set {bef : Nat → Nat → Bool} {N i : Nat} (x y : Int) : (lenX bef N i x).set i y = lenX bef N i y := by
  unfold lenX
  rw [List.set_append_right _ _ (by rw [lens_len]; omega), lens_len, Nat.sub_self, List.set_cons_zero]
theorem lenX_at {bef : Nat → Nat → Bool} {N i : Nat} (x : Int) : (lenX bef N i x)[i]? = some x := by
  unfold lenX
  rw [List.getElem?_append_right (by rw [lens_len]; omega), lens_len, Nat.sub_self]
  rfl
theorem lenX_low {bef : Nat → Nat → Bool} {N i j : Nat} (h : j < i) (x : Int) : (lenX bef N i x)[j]? = some ((lens bef i).getD j 0) := by
  unfold lenX
  rw [List.getElem?_append_left (by rw [lens_len]; exact h), List.getD_eq_getElem?_getD, List.getElem?_eq_getElem (by rw [lens_len]; exact h)]
  rfl
theorem lenX_Y {bef : Nat → Nat → Bool} {N i : Nat} : lenX bef N i (chI bef (lens bef i) i i) = lenY bef N (i + 1) := by
  unfold lenX lenY
  have e : lens bef (i + 1) = lens bef i ++ [chI bef (lens bef i) i i] := rfl
  rw [e, List.append_assoc]
  rfl

set_option maxRecDepth 100000 in
set_option maxHeartbeats 4000000 in
theorem chains_any {w : World} {ao : Option Addr} {cap : Nat} {l : List EvD} (hr : EvRow w (.slice ao l.length cap) l) (hl : l.length ≤ 1000) (hwf : ∀ e ∈ l, e.Wf) :
    Calls Tryz.prog 19 #[.slice ao l.length cap] w fun y w' => y = .returned (.int .i64 (chainS l)) ∧ Touch w w' [] := by
  have HRT : Hid (HidC Tryz.prog 21 #[.slice ao l.length cap] w fun e w' => e = .returned (.bool (rightS l)) ∧ Touch w w' []) := ⟨right_of hr hl hwf⟩
  have HCR : Hid (∀ W, Touch w W [] → HidC Tryz.prog 34 #[.slice ao l.length cap] W fun y w' => ∃ g ms, y = .returned (.slice (some ⟨g, 0, none⟩) (attS l).length (attS l).length) ∧ CrsAt w' W.heap.size g l l.length (attS l) ms ∧ Touch W w' []) := fun W t => ⟨courses_any (SRow.keep hr t (by simp)) hl hwf⟩
  have hal : (attS l).length ≤ l.length := attS_le l
  obtain ⟨V, hV⟩ : ∃ V, V = chainS l := ⟨_, rfl⟩
  have HV : Hid (V = chainS l) := hV
  rw [← hV]
  generalize hLL : l.length = L at *
  have HLL : Hid (l.length = L) := hLL
  clear hr hwf hV hLL
  go_enter Tryz.func19, Tryz.ntmps19
  go_wp2_with fail
  refine HRT.out.out.mono ?_
  rintro y w1 ⟨rfl, t1⟩
  have T1 : Hid (Touch w w1 []) := t1
  clear t1 HRT
  cases hq : rightS l with
  | false =>
    have HV2 : Hid (V = 0) := by show _ = _; rw [HV.out]; unfold chainS; rw [hq]; rfl
    clear hq
    go_wp2
    go_ret
    rw [HV2.out]
    exact ⟨rfl, T1.out⟩
  | true =>
    have HV2 : Hid (V = lgN (befC l) (attS l).length) := by show _ = _; rw [HV.out]; unfold chainS; rw [hq]; rfl
    clear hq HV
    go_wp2_with fail
    refine (HCR.out _ T1.out).out.mono ?_
    rintro y w2 ⟨g, ms, rfl, hC, t2⟩
    obtain ⟨fa, fb, fx, fm, HFF⟩ : ∃ (fa fb fx : Nat → Int) (fm : Nat → Option Nat), Hid ((∀ i, i < (attS l).length → (rowQ l L (attS l) ms)[i]? = some ⟨.int .i64 (fa i), .int .i64 (fb i), .int .i64 (fx i), .map (fm i)⟩) ∧ ∀ i j, befC l i j = decide (fx i < fb j)) := by
      refine ⟨fun i => (attS l).getD i 0, fun i => begN l ((attS l).getD i 0) L, fun i => endN l ((attS l).getD i 0) L, fun i => some (ms.getD i 0), fun i hi => ?_, fun i j => by unfold befC; rw [HLL.out]⟩
      have hm : i < ms.length := by rw [hC.len]; exact hi
      have e : (attS l).getD i 0 = (attS l)[i] := by rw [List.getD_eq_getElem?_getD, List.getElem?_eq_getElem hi]; rfl
      have e2 : ms.getD i 0 = ms[i] := by rw [List.getD_eq_getElem?_getD, List.getElem?_eq_getElem hm]; rfl
      rw [rowQ_at hi hm]
      simp only [e, e2]
      rfl
    have T2 : Hid (Touch w w2 []) := T1.out.trans t2 (by simp)
    have HROW : Hid (R4 w2 g (rowQ l L (attS l) ms)) := hC.row
    clear hC t2 HCR T1
    generalize rowQ l L (attS l) ms = X at *
    generalize befC l = bef at *
    generalize (attS l).length = N at *
    have hmk := make_ints N (by omega)
    have HR1 : Hid (R1 (w2.alloc (.cells (Array.replicate N (.int .i64 0)) 3)) w2.heap.size (lenY bef N 0)) := ⟨(heap_alloc_new w2 _).trans (by simp [lenY, lens])⟩
    have T3 : Hid (Touch w (w2.alloc (.cells (Array.replicate N (.int .i64 0)) 3)) []) := T2.out.alloc _
    have HR4 : Hid (R4 (w2.alloc (.cells (Array.replicate N (.int .i64 0)) 3)) g X) := HROW.out.touch ((Touch.refl w2 []).alloc _) (by simp)
    have HGH : Hid (g ≠ w2.heap.size ∧ w.heap.size ≤ w2.heap.size) := ⟨by have := lt_of_heap HROW.out.st; omega, T2.out.size⟩
    go_wp2_with fail
    clear hmk
    generalize (w2.alloc (.cells (Array.replicate N (.int .i64 0)) 3)) = Q at *
    generalize w2.heap.size = h at *
    clear T2 HROW
    go_loopw [3, 20] (fun v i wr => ∃ k : Nat, i = .int .i64 k ∧ k ≤ N ∧ v = .int .i64 (lgN bef k) ∧ R1 wr h (lenY bef N k) ∧ R4 wr g X ∧ Touch w wr []) (fun _ i _ => N - (intOf i).toNat)
    case atStart => exact ⟨0, rfl, Nat.zero_le _, rfl, HR1.out, HR4.out, T3.out⟩
    case round =>
      obtain ⟨i, rfl, hi, rfl, hR1, hR4, hT⟩ := hrel
      have HT : Hid _ := hT
      clear HR1 HR4 T3
      by_cases hlt : i < N
      · have h1 : (i : Int) < N := by omega
        have h0 : (0 : Int) ≤ i := by omega
        have hq := HFF.out.1 i hlt
        have HBI : Hid (∀ j, bef j i = decide (fx j < fb i)) := fun j => HFF.out.2 j i
        generalize fa i = qa at *
        generalize fb i = qb at *
        generalize fx i = qx at *
        generalize fm i = qm at *
        have d0 := hR4.cell hq 0 (by omega)
        have d1 := hR4.cell hq 1 (by omega)
        have d2 := hR4.cell hq 2 (by omega)
        have d3 := hR4.cell hq 3 (by omega)
        simp only [Q4.cells, List.getElem?_cons_succ, List.getElem?_cons_zero, Nat.add_zero] at d0 d1 d2 d3
        have TA : Touch wr (wr.alloc (.cells #[.int .i64 qa, .int .i64 qb, .int .i64 qx, .map qm] 74)) [] := (Touch.refl wr []).alloc _
        have hR1a := hR1.touch TA (by simp)
        have hlh := lt_of_heap hR1.st
        have fi := hR1a.fr i
        have ci : (wr.alloc (.cells #[.int .i64 qa, .int .i64 qb, .int .i64 qx, .map qm] 74)).cell? ⟨h, i, none⟩ = some (.int .i64 0) := hR1a.cell (by unfold lenY; rw [List.getElem?_append_right (by rw [lens_len]; omega), lens_len, Nat.sub_self, List.getElem?_replicate, if_pos (by omega)])
        have TS : Touch wr ((wr.setCell ⟨h, i, none⟩ (.int .i64 1)).alloc (.cells #[.int .i64 qa, .int .i64 qb, .int .i64 qx, .map qm] 74)) [h] := ((Touch.refl wr [h]).setCell (.inl (by simp)) _).alloc _
        have HX1 : Hid (R1 ((wr.setCell ⟨h, i, none⟩ (.int .i64 1)).alloc (.cells #[.int .i64 qa, .int .i64 qb, .int .i64 qx, .map qm] 74)) h (lenX bef N i (chI bef (lens bef i) i 0))) := by
          have := (hR1.put i 1).touch ((Touch.refl _ []).alloc (.cells #[.int .i64 qa, .int .i64 qb, .int .i64 qx, .map qm] 74)) (by simp)
          rw [lenY_X hlt] at this
          exact this
        have HX4 : Hid (R4 ((wr.setCell ⟨h, i, none⟩ (.int .i64 1)).alloc (.cells #[.int .i64 qa, .int .i64 qb, .int .i64 qx, .map qm] 74)) g X) := hR4.touch TS (by simpa using HGH.out.1)
        have HXB : Hid (BxQ ((wr.setCell ⟨h, i, none⟩ (.int .i64 1)).alloc (.cells #[.int .i64 qa, .int .i64 qb, .int .i64 qx, .map qm] 74)) wr.heap.size ⟨.int .i64 qa, .int .i64 qb, .int .i64 qx, .map qm⟩) := ⟨by have := heap_alloc_new (wr.setCell ⟨h, i, none⟩ (.int .i64 1)) (.cells #[.int .i64 qa, .int .i64 qb, .int .i64 qx, .map qm] 74); simpa using this⟩
        have HXT : Hid (Touch w ((wr.setCell ⟨h, i, none⟩ (.int .i64 1)).alloc (.cells #[.int .i64 qa, .int .i64 qb, .int .i64 qx, .map qm] 74)) []) := HT.out.trans TS (fun z hz => .inr (by simp at hz; have := HGH.out.2; omega))
        have HBH : Hid (wr.heap.size ≠ h ∧ w.heap.size ≤ wr.heap.size) := ⟨by omega, HT.out.size⟩
        have hiN : i ≤ N := by omega
        have hiN' : (i : Int) ≤ N := by omega
        clear hR1 hR4 TA hR1a TS hT
        go_wp2_with fail
        clear d0 d1 d2 d3 fi ci
        generalize ((wr.setCell ⟨h, i, none⟩ (.int .i64 1)).alloc (.cells #[.int .i64 qa, .int .i64 qb, .int .i64 qx, .map qm] 74)) = Q1 at *
        generalize wr.heap.size = bx at *
        go_loopw [32] (fun jv wv => ∃ j : Nat, jv = .int .i64 j ∧ j ≤ i ∧ R1 wv h (lenX bef N i (chI bef (lens bef i) i j)) ∧ R4 wv g X ∧ BxQ wv bx ⟨.int .i64 qa, .int .i64 qb, .int .i64 qx, .map qm⟩ ∧ Touch w wv []) (fun jv _ => i - (intOf jv).toNat)
        case atStart => exact ⟨0, rfl, Nat.zero_le _, HX1.out, HX4.out, HXB.out, HXT.out⟩
        case round =>
          obtain ⟨j, rfl, hj, hR1, hR4, hBx, hT⟩ := hrel
          clear HT HX1 HX4 HXB HXT
          have HT : Hid _ := hT
          have HR1 : Hid _ := hR1
          have HR4 : Hid _ := hR4
          have HBX : Hid _ := hBx
          have hrgi := chI_range (bef := bef) (i := i) (lens_range bef i) j
          by_cases hjl : j < i
          · have h1j : (j : Int) < i := by omega
            have h0j : (0 : Int) ≤ j := by omega
            have hjN : (j : Int) < N := by omega
            have hr := HFF.out.1 j (by omega)
            have hdc : decide (fx j < qb) = bef j i := (HBI.out j).symm
            generalize fa j = ra at *
            generalize fb j = rb at *
            generalize fx j = rx at *
            generalize fm j = rm at *
            have d0 := hR4.cell hr 0 (by omega)
            have d1 := hR4.cell hr 1 (by omega)
            have d2 := hR4.cell hr 2 (by omega)
            have d3 := hR4.cell hr 3 (by omega)
            simp only [Q4.cells, List.getElem?_cons_succ, List.getElem?_cons_zero, Nat.add_zero] at d0 d1 d2 d3
            have TA : Touch wr (wr.alloc (.cells #[.int .i64 ra, .int .i64 rb, .int .i64 rx, .map rm] 74)) [] := (Touch.refl wr []).alloc _
            obtain ⟨y0, y1, y2, y3⟩ := (hBx.touch TA (by simp)).cells
            have HBF : Hid (HidC Tryz.prog 35 #[.agg #[.int .i64 ra, .int .i64 rb, .int .i64 rx, .map rm], .agg #[.int .i64 qa, .int .i64 qb, .int .i64 qx, .map qm]] (wr.alloc (.cells #[.int .i64 ra, .int .i64 rb, .int .i64 rx, .map rm] 74)) fun e w' => e = .returned (.bool (bef j i)) ∧ Touch (wr.alloc (.cells #[.int .i64 ra, .int .i64 rb, .int .i64 rx, .map rm] 74)) w' []) := ⟨by rw [← hdc]; exact before_crs ⟨.int .i64 ra, .int .i64 rb, .int .i64 rx, .map rm⟩ ⟨.int .i64 qa, .int .i64 qb, .int .i64 qx, .map qm⟩ rx qb rfl rfl _⟩
            have TAH : Hid (Touch wr (wr.alloc (.cells #[.int .i64 ra, .int .i64 rb, .int .i64 rx, .map rm] 74)) []) := TA
            have hch : chI bef (lens bef i) i (j + 1) = if bef j i then max (chI bef (lens bef i) i j) ((lens bef i).getD j 0 + 1) else chI bef (lens bef i) i j := rfl
            have HCH : Hid _ := hch
            clear hR1 hR4 hBx hT TA hr hdc hch
            go_wp2_with fail
            refine HBF.out.out.mono ?_
            rintro y w5 ⟨rfl, t5⟩
            have T5 : Hid (Touch wr w5 []) := TAH.out.trans t5 (by simp)
            clear t5 TAH HBF d0 d1 d2 d3 y0 y1 y2 y3
            cases hbf : bef j i with
            | false =>
              have HC2 : Hid (chI bef (lens bef i) i (j + 1) = chI bef (lens bef i) i j) := by show _ = _; rw [HCH.out, hbf]; rfl
              clear hbf HCH
              go_wp2
              go_roundw
              case rel => exact ⟨j + 1, by go_num, by omega, by rw [HC2.out]; exact HR1.out.touch T5.out (by simp), HR4.out.touch T5.out (by simp), HBX.out.touch T5.out (by simp), HT.out.trans T5.out (by simp)⟩
              case measure => simp [intOf]; omega
            | true =>
              have HC2 : Hid (chI bef (lens bef i) i (j + 1) = max (chI bef (lens bef i) i j) ((lens bef i).getD j 0 + 1)) := by show _ = _; rw [HCH.out, hbf]; rfl
              have hdr := lens_range bef i j
              have k1 := HR1.out.touch T5.out (by simp)
              have cj := k1.cell (lenX_low (N := N) hjl (chI bef (lens bef i) i j))
              have ci := k1.cell (lenX_at (N := N) (chI bef (lens bef i) i j))
              have fi := k1.fr i
              have HK1 : Hid _ := k1
              clear hbf HCH k1
              generalize hdj : (lens bef i).getD j 0 = dj at *
              generalize hdi : chI bef (lens bef i) i j = di at *
              have hwd : IntKind.i64.wrap (dj + 1) = dj + 1 := by rw [IntKind.wrap_i64]; omega
              have HKJ : Hid ((w5.setCell ⟨h, i, none⟩ (.int .i64 (max di (dj + 1)))).cell? ⟨h, j, none⟩ = some (.int .i64 dj)) := by
                show _ = _
                rw [← cj]
                exact cell_set_ne w5 h i j (.int .i64 (max di (dj + 1))) (by omega)
              have TS : Touch w5 (w5.setCell ⟨h, i, none⟩ (.int .i64 (max di (dj + 1)))) [h] := (Touch.refl w5 [h]).setCell (.inl (by simp)) _
              have HFN : Hid (R1 (w5.setCell ⟨h, i, none⟩ (.int .i64 (max di (dj + 1)))) h (lenX bef N i (chI bef (lens bef i) i (j + 1))) ∧ R4 (w5.setCell ⟨h, i, none⟩ (.int .i64 (max di (dj + 1)))) g X ∧ BxQ (w5.setCell ⟨h, i, none⟩ (.int .i64 (max di (dj + 1)))) bx ⟨.int .i64 qa, .int .i64 qb, .int .i64 qx, .map qm⟩ ∧ Touch w (w5.setCell ⟨h, i, none⟩ (.int .i64 (max di (dj + 1)))) []) := by
                refine ⟨?_, (HR4.out.touch T5.out (by simp)).touch TS (by simpa using HGH.out.1), (HBX.out.touch T5.out (by simp)).touch TS (by simpa using HBH.out.1), (HT.out.trans T5.out (by simp)).trans TS (fun z hz => .inr (by simp at hz; have := HGH.out.2; omega))⟩
                have := HK1.out.put i (max di (dj + 1))
                rw [lenX_set] at this
                rw [HC2.out]
                exact this
              clear hdj hdi hdr hrgi TS
              go_wp2_with fail
              refine wp_region_held_drew (S := (fun W : World => W.cell? ⟨h, j, none⟩ = some (.int .i64 dj))) (by kernel_rfl) (by simpa using cj) (fun hHeld => ?_)
              try simp only [Act.put, List.getElem_toArray, List.getElem_cons_succ, List.getElem_cons_zero, List.setIfInBounds_toArray, List.set_cons_zero, List.set_cons_succ]
              refine wpAnyH_take (i := 0) (v := (.slice (some ⟨h, 0, none⟩) N N)) rfl (by kernel_rfl) (by kernel_rfl) (by kernel_rfl) (fun _ _ _ h => h) (Or.inl ⟨by rfl, ?_⟩) hHeld ?_
              · intro w' hSw
                try simp only [Act.put, List.getElem_toArray, List.getElem_cons_succ, List.getElem_cons_zero, List.setIfInBounds_toArray, List.set_cons_zero, List.set_cons_succ]
                go_simp
              try simp only [Act.put, List.getElem_toArray, List.getElem_cons_succ, List.getElem_cons_zero, List.setIfInBounds_toArray, List.set_cons_zero, List.set_cons_succ]
              refine wpAnyH_take (i := 1) (v := (.int .i64 (i : Nat))) rfl (by kernel_rfl) (by kernel_rfl) (by kernel_rfl) (fun _ _ _ h => h) (Or.inl ⟨by rfl, ?_⟩) hHeld ?_
              · intro w' hSw
                try simp only [Act.put, List.getElem_toArray, List.getElem_cons_succ, List.getElem_cons_zero, List.setIfInBounds_toArray, List.set_cons_zero, List.set_cons_succ]
                go_simp
              try simp only [Act.put, List.getElem_toArray, List.getElem_cons_succ, List.getElem_cons_zero, List.setIfInBounds_toArray, List.set_cons_zero, List.set_cons_succ]
              refine wpAnyH_take (i := 2) (v := (.slice (some ⟨h, 0, none⟩) N N)) rfl (by kernel_rfl) (by kernel_rfl) (by kernel_rfl) (fun _ _ _ h => h) (Or.inl ⟨by rfl, ?_⟩) hHeld ?_
              · intro w' hSw
                try simp only [Act.put, List.getElem_toArray, List.getElem_cons_succ, List.getElem_cons_zero, List.setIfInBounds_toArray, List.set_cons_zero, List.set_cons_succ]
                go_simp
              try simp only [Act.put, List.getElem_toArray, List.getElem_cons_succ, List.getElem_cons_zero, List.setIfInBounds_toArray, List.set_cons_zero, List.set_cons_succ]
              refine wpAnyH_take (i := 3) (v := (.int .i64 (i : Nat))) rfl (by kernel_rfl) (by kernel_rfl) (by kernel_rfl) (fun _ _ _ h => h) (Or.inl ⟨by rfl, ?_⟩) hHeld ?_
              · intro w' hSw
                try simp only [Act.put, List.getElem_toArray, List.getElem_cons_succ, List.getElem_cons_zero, List.setIfInBounds_toArray, List.set_cons_zero, List.set_cons_succ]
                go_simp
              try simp only [Act.put, List.getElem_toArray, List.getElem_cons_succ, List.getElem_cons_zero, List.setIfInBounds_toArray, List.set_cons_zero, List.set_cons_succ]
              refine wpAnyH_take (i := 4) (v := (.pointer (some ⟨h, i, none⟩))) rfl (by kernel_rfl) (by kernel_rfl) (by kernel_rfl) (fun _ _ _ h => h) (Or.inl ⟨by rfl, ?_⟩) hHeld ?_
              · intro w' hSw
                try simp only [Act.put, List.getElem_toArray, List.getElem_cons_succ, List.getElem_cons_zero, List.setIfInBounds_toArray, List.set_cons_zero, List.set_cons_succ]
                go_simp
              try simp only [Act.put, List.getElem_toArray, List.getElem_cons_succ, List.getElem_cons_zero, List.setIfInBounds_toArray, List.set_cons_zero, List.set_cons_succ]
              refine wpAnyH_take (i := 6) (v := (.slice (some ⟨h, 0, none⟩) N N)) rfl (by kernel_rfl) (by kernel_rfl) (by kernel_rfl) (fun _ _ _ h => h) (Or.inl ⟨by rfl, ?_⟩) hHeld ?_
              · intro w' hSw
                try simp only [Act.put, List.getElem_toArray, List.getElem_cons_succ, List.getElem_cons_zero, List.setIfInBounds_toArray, List.set_cons_zero, List.set_cons_succ]
                go_simp
              try simp only [Act.put, List.getElem_toArray, List.getElem_cons_succ, List.getElem_cons_zero, List.setIfInBounds_toArray, List.set_cons_zero, List.set_cons_succ]
              refine wpAnyH_take (i := 7) (v := (.int .i64 (j : Nat))) rfl (by kernel_rfl) (by kernel_rfl) (by kernel_rfl) (fun _ _ _ h => h) (Or.inl ⟨by rfl, ?_⟩) hHeld ?_
              · intro w' hSw
                try simp only [Act.put, List.getElem_toArray, List.getElem_cons_succ, List.getElem_cons_zero, List.setIfInBounds_toArray, List.set_cons_zero, List.set_cons_succ]
                go_simp
              try simp only [Act.put, List.getElem_toArray, List.getElem_cons_succ, List.getElem_cons_zero, List.setIfInBounds_toArray, List.set_cons_zero, List.set_cons_succ]
              refine wpAnyH_take (i := 8) (v := (.pointer (some ⟨h, j, none⟩))) rfl (by kernel_rfl) (by kernel_rfl) (by kernel_rfl) (fun _ _ _ h => h) (Or.inl ⟨by rfl, ?_⟩) hHeld ?_
              · intro w' hSw
                try simp only [Act.put, List.getElem_toArray, List.getElem_cons_succ, List.getElem_cons_zero, List.setIfInBounds_toArray, List.set_cons_zero, List.set_cons_succ]
                go_simp
              try simp only [Act.put, List.getElem_toArray, List.getElem_cons_succ, List.getElem_cons_zero, List.setIfInBounds_toArray, List.set_cons_zero, List.set_cons_succ]
              refine wpAnyH_take (i := 9) (v := (.int .i64 dj)) rfl (by kernel_rfl) (by kernel_rfl) (by kernel_rfl) (fun _ _ _ h => h) (Or.inl ⟨by rfl, ?_⟩) hHeld ?_
              · intro w' hSw
                try simp only [Act.put, List.getElem_toArray, List.getElem_cons_succ, List.getElem_cons_zero, List.setIfInBounds_toArray, List.set_cons_zero, List.set_cons_succ]
                go_simp
              try simp only [Act.put, List.getElem_toArray, List.getElem_cons_succ, List.getElem_cons_zero, List.setIfInBounds_toArray, List.set_cons_zero, List.set_cons_succ]
              refine wpAnyH_take (i := 10) (v := (.int .i64 (dj + 1))) rfl (by kernel_rfl) (by kernel_rfl) (by kernel_rfl) (fun _ _ _ h => h) (Or.inl ⟨by rfl, ?_⟩) hHeld ?_
              · intro w' hSw
                try simp only [Act.put, List.getElem_toArray, List.getElem_cons_succ, List.getElem_cons_zero, List.setIfInBounds_toArray, List.set_cons_zero, List.set_cons_succ]
                go_simp
              try simp only [Act.put, List.getElem_toArray, List.getElem_cons_succ, List.getElem_cons_zero, List.setIfInBounds_toArray, List.set_cons_zero, List.set_cons_succ]
              clear hHeld
              refine wpAnyH_ready (rs := [5]) (by kernel_rfl) (by simp) (AllReadyH.cons rfl (fun K hK => ?_) (AllReadyH.nil))
              rw [if_pos (by rfl)]
              go_simp
              refine hK.out _ _ (by simpa using cj) (fun hHeld => ?_)
              clear hK
              try simp only [Act.put, List.getElem_toArray, List.getElem_cons_succ, List.getElem_cons_zero, List.setIfInBounds_toArray, List.set_cons_zero, List.set_cons_succ]
              refine wpAnyH_take (i := 11) (v := (.int .i64 (max di (dj + 1)))) rfl (by kernel_rfl) (by kernel_rfl) (by kernel_rfl) (fun _ _ _ h => h) (Or.inl ⟨by rfl, ?_⟩) hHeld ?_
              · intro w' hSw
                try simp only [Act.put, List.getElem_toArray, List.getElem_cons_succ, List.getElem_cons_zero, List.setIfInBounds_toArray, List.set_cons_zero, List.set_cons_succ]
                (go_simp; split <;> omega)
              try simp only [Act.put, List.getElem_toArray, List.getElem_cons_succ, List.getElem_cons_zero, List.setIfInBounds_toArray, List.set_cons_zero, List.set_cons_succ]
              refine wpAnyH_take (i := 12) (v := (.pointer (some ⟨h, i, none⟩))) rfl (by kernel_rfl) (by kernel_rfl) (by kernel_rfl) (fun _ _ _ h => h) (Or.inl ⟨by rfl, ?_⟩) hHeld ?_
              · intro w' hSw
                try simp only [Act.put, List.getElem_toArray, List.getElem_cons_succ, List.getElem_cons_zero, List.setIfInBounds_toArray, List.set_cons_zero, List.set_cons_succ]
                go_simp
              try simp only [Act.put, List.getElem_toArray, List.getElem_cons_succ, List.getElem_cons_zero, List.setIfInBounds_toArray, List.set_cons_zero, List.set_cons_succ]
              clear hHeld
              refine wpAnyH_ready (rs := [13]) (by kernel_rfl) (by simp) (AllReadyH.cons rfl (fun K hK => ?_) (AllReadyH.nil))
              rw [if_pos (by rfl)]
              go_simp
              refine hK.out _ _ (by simpa using HKJ.out) (fun hHeld => ?_)
              clear hK
              try simp only [Act.put, List.getElem_toArray, List.getElem_cons_succ, List.getElem_cons_zero, List.setIfInBounds_toArray, List.set_cons_zero, List.set_cons_succ]
              clear hHeld
              refine wpAnyH_done (by kernel_rfl) ?_ _
              clear cj ci fi hwd HKJ
              go_wp2
              go_roundw
              case rel => exact ⟨j + 1, by go_num, by omega, HFN.out.1.touch ((Touch.refl _ []).drew) (by simp), HFN.out.2.1.touch ((Touch.refl _ []).drew) (by simp), HFN.out.2.2.1.touch ((Touch.refl _ []).drew) (by simp), HFN.out.2.2.2.drew⟩
              case measure => simp [intOf]; omega
          · obtain rfl : j = i := by omega
            have ci := hR1.cell (lenX_at (N := N) (chI bef (lens bef j) j j))
            have HC3 : Hid (lgN bef (j + 1) = max (lgN bef j) (chI bef (lens bef j) j j)) := rfl
            have HY : Hid (R1 wr h (lenY bef N (j + 1))) := by rw [← lenX_Y]; exact hR1
            have hlg := lgN_range bef j
            clear hR1 hR4 hBx hT
            generalize chI bef (lens bef j) j j = di at *
            generalize lgN bef j = lg at *
            have hm : ∃ x : Int, x = max lg di := ⟨_, rfl⟩
            clear hlg hrgi
            by_cases hcmp : lg < di
            · have HM : Hid (lgN bef (j + 1) = di) := by show _ = _; rw [HC3.out]; omega
              clear HC3
              go_wp2
              go_roundw
              case rel => exact ⟨j + 1, by go_num, by omega, by rw [HM.out], HY.out, HR4.out, HT.out⟩
              case measure => simp [intOf]; omega
            · have HM : Hid (lgN bef (j + 1) = lg) := by show _ = _; rw [HC3.out]; omega
              clear HC3
              go_wp2
              go_roundw
              case rel => exact ⟨j + 1, by go_num, by omega, by rw [HM.out], HY.out, HR4.out, HT.out⟩
              case measure => simp [intOf]; omega
      · obtain rfl : i = N := by omega
        clear hR1 hR4 hT
        go_wp2
        go_ret
        rw [HV2.out]
        exact ⟨rfl, HT.out⟩

end Go.Proofs.YtmiaibpdeofokaaGreatDoor

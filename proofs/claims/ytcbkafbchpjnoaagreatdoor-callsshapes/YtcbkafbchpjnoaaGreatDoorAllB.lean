/-
  package calls: allRight, round BY THEIR CONTRACTS; SameVals of equal rows.
-/
import Derived.Test.YtcbkafbchpjnoaaGreatDoorClNumb
import Derived.Test.YtcbkafbchpjnoaaGreatDoorLkRefs
import Derived.Test.YtcbkafbchpjnoaaGreatDoorClBegin
import Derived.Deep.RegionHeld3
namespace Go.Proofs.YtcbkafbchpjnoaaGreatDoor
set_option linter.unusedVariables false
set_option linter.unusedSimpArgs false
open Go.RowKit
attribute [local go_sem] Oper.semAt_some

/-- A row of values that can be read. -/
def clc (x : Int) : List Value := [.int .u64 x]
structure ClV (w : World) (ao : Option Addr) (n cap : Nat) (l : List Int) : Prop where
  len : n = l.length
  row : SRow 1 clc w (.slice ao l.length cap) l
  le : n ≤ cap
  wf : ∀ x ∈ l, Wf64 x
theorem ClV.keep {w w' : World} {ao : Option Addr} {n cap : Nat} {l : List Int} (h : ClV w ao n cap l) (t : Touch w w' []) : ClV w' ao n cap l := ⟨h.len, SRow.keep h.row t (by simp), h.le, h.wf⟩
theorem ClV.at {w : World} {ao : Option Addr} {n cap : Nat} {l : List Int} (h : ClV w ao n cap l) (k : Nat) (hk : k < l.length) : ∃ g off, ao = some ⟨g, off, none⟩ ∧ g < w.heap.size ∧ w.cell? ⟨g, off + k, none⟩ = some (.int .u64 l[k]) := by
  obtain ⟨g, off, e, hg, hc⟩ := SRow.at h.row k hk
  exact ⟨g, off, e, hg, by simpa [clc] using hc 0 (by omega)⟩

set_option maxRecDepth 100000 in
theorem allRight_any {w : World} {ao : Option Addr} {n cap : Nat} {l : List Int} (h : ClV w ao n cap l) (hn : n ≤ 1000000) :
    Calls Tryz.prog 69 #[.slice ao n cap] w fun e w' => e = .returned (.bool (l.all rightB)) ∧ Touch w w' [] := by
  have HL : Hid _ := h
  have HM : Hid _ := h.len
  clear h
  go_enter Tryz.func69, Tryz.ntmps69
  go_wp2_with fail
  go_loopw [7] (fun i wr => ∃ j : Nat, i = .int .i64 j ∧ j ≤ n ∧ l.all rightB = (l.drop j).all rightB ∧ Touch w wr []) (fun i _ => n - (intOf i).toNat)
  case atStart => exact ⟨0, rfl, Nat.zero_le _, rfl, Touch.refl _ _⟩
  case round =>
    obtain ⟨j, rfl, hj, hR, hT⟩ := hrel
    by_cases hlt : j < n
    · have h1 : (j : Int) < n := by omega
      have h0 : (0 : Int) ≤ j := by omega
      have hjl : j < l.length := by rw [← HM.out]; exact hlt
      have hjc : j < cap := Nat.lt_of_lt_of_le hlt HL.out.le
      obtain ⟨g, off, rfl, hg, x0⟩ := (HL.out.keep hT).at j hjl
      have hdrop : l.drop j = l[j] :: l.drop (j + 1) := List.drop_eq_getElem_cons hjl
      rw [hdrop, List.all_cons] at hR
      generalize l[j] = x at *
      have HRI : Hid (HidC Tryz.prog 85 #[.int .u64 x] wr fun e w' => e = .returned (.bool (rightB x)) ∧ wr = w') := ⟨right_any x wr⟩
      have HR : Hid _ := hR
      have HT : Hid _ := hT
      clear hR hT hdrop
      generalize rightB x = rb at *
      go_wp2_with fail
      refine HRI.out.out.mono ?_
      clear HRI
      rintro e w1 ⟨rfl, rfl⟩
      cases rb with
      | false =>
        have HR2 : Hid (l.all rightB = false) := by show _ = _; rw [show l.all rightB = _ from HR.out]; rfl
        clear HR
        go_wp2
        go_ret
        exact ⟨by rw [HR2.out]; rfl, HT.out⟩
      | true =>
        have HR2 : Hid (l.all rightB = (l.drop (j + 1)).all rightB) := by show _ = _; rw [show l.all rightB = _ from HR.out]; simp
        clear HR
        go_wp2
        go_roundw
        case rel => exact ⟨j + 1, by go_num, by omega, HR2.out, HT.out⟩
        case measure => simp [intOf]; omega
    · have h1 : ¬ (j : Int) < n := by omega
      have hjN : j = l.length := by rw [← HM.out]; omega
      rw [hjN, List.drop_length] at hR
      have HR2 : Hid (l.all rightB = true) := hR
      have HT : Hid _ := hT
      clear hR hT
      go_wp2
      go_ret
      exact ⟨by rw [HR2.out]; rfl, HT.out⟩

set_option maxRecDepth 100000 in
set_option maxHeartbeats 1600000 in
theorem clsame_any {ao bo : Option Addr} {n ca cb : Nat} {l : List Int} {w : World} (hn : n ≤ 1000) (ha : ClV w ao n ca l) (hb : ClV w bo n cb l) :
    Calls Tryz.prog 19 #[.slice ao n ca, .slice bo n cb] w fun e w' => e = .returned (.bool true) ∧ Touch w w' [] := by
  have HA : Hid _ := ha
  have HB : Hid _ := hb
  have HN : Hid _ := ha.len
  clear ha hb
  go_enter Tryz.func19, Tryz.ntmps19
  go_wp2_with fail
  go_loopw [5] (fun i wr => ∃ k : Nat, i = .int .i64 k ∧ k ≤ n ∧ Touch w wr []) (fun i _ => n - (intOf i).toNat)
  case atStart => exact ⟨0, rfl, Nat.zero_le _, Touch.refl _ _⟩
  case round =>
    obtain ⟨k, rfl, hk, t⟩ := hrel
    by_cases hlt : k < n
    · have h1 : (k : Int) < n := by omega
      have h0 : (0 : Int) ≤ k := by omega
      have hkl : k < l.length := by rw [← HN.out]; exact hlt
      obtain ⟨ga, oa, rfl, hga, c1⟩ := (HA.out.keep t).at k hkl
      obtain ⟨gb, ob, rfl, hgb, c2⟩ := (HB.out.keep t).at k hkl
      generalize l[k] = x at *
      go_wp2_with fail
      go_quiet (fail)
      go_wp2
      go_roundw
      case rel => exact ⟨k + 1, by go_num, by omega, t.drewN _⟩
      case measure => simp [intOf]; omega
    · go_wp2
      go_ret
      exact ⟨rfl, t⟩

/-- So many places, gone round. -/
def rndL (P : List Int) (f : Nat) (a : Nat) : List Int := (List.range a).map fun i => P.getD ((f + i) % P.length) 0
theorem rndL_succ (P : List Int) (f a : Nat) : rndL P f (a + 1) = rndL P f a ++ [P.getD ((f + a) % P.length) 0] := by
  unfold rndL; rw [List.range_succ, List.map_append]; rfl
theorem rndL_len (P : List Int) (f a : Nat) : (rndL P f a).length = a := by unfold rndL; simp
theorem rndL_wf {P : List Int} (h : ∀ x ∈ P, Wf64 x) (f a : Nat) : ∀ x ∈ rndL P f a, Wf64 x := by
  intro x hx
  unfold rndL at hx
  obtain ⟨i, _, rfl⟩ := List.mem_map.1 hx
  rw [List.getD_eq_getElem?_getD]
  cases hq : P[(f + i) % P.length]? with
  | none => exact ⟨by decide, by decide⟩
  | some y => exact h y (List.mem_of_getElem? hq)

/-- A row of values of one's own. -/
def clOwn (w : World) (B : Nat) (v : Value) (l : List Int) : Prop := w.ownsRow B 50 1 v l.length (l.flatMap clc)
theorem clOwn.v {w : World} {B : Nat} {a : Option Addr} {n c : Nat} {l : List Int} (h : clOwn w B (.slice a n c) l) (hn : n = l.length) (hw : ∀ x ∈ l, Wf64 x) : ClV w a n c l := by
  subst hn
  refine ⟨rfl, srow_of (cells := clc) (n := 1) (fun _ => rfl) h, ?_, hw⟩
  rcases h.2 with ⟨e, h0⟩ | ⟨g, cap, cur, e, _, _, hc, _⟩
  · simp only [Value.slice.injEq] at e; omega
  · simp only [Value.slice.injEq] at e; omega
theorem cl_app1 {w0 w : World} {v : Value} {xs : List Int} (ob : clOwn w w0.heap.size v xs) (t : Touch w0 w []) (x : Int) (n : Nat) (hn : xs.length = n) (h100 : n ≤ 100) :
    ∃ ao cap w', (Builtin.append_ #[33, 33] 33 #[v, .slice (some ⟨w.heap.size, 0, none⟩) 1 1]).run Tryz.prog (w.alloc (.cells #[.int .u64 x] 50)) = .ok (.slice ao (n + 1) cap) w' ∧ clOwn w' w0.heap.size (.slice ao (n + 1) cap) (xs ++ [x]) ∧ Touch w0 w' [] := by
  have ta : Touch w (w.alloc (.cells #[.int .u64 x] 50)) [] := (Touch.refl w []).alloc _
  have hlit : (w.alloc (.cells #[.int .u64 x] 50)).ownsRow w.heap.size 50 1 (.slice (some ⟨w.heap.size, 0, none⟩) 1 1) 1 [.int .u64 x] :=
    World.ownsRow_lit (base := w.heap.size) (e := 50) (size := 1) w #[.int .u64 x] 1 (Nat.le_refl _) (by unfold maxLen; omega) rfl
  obtain ⟨i0, hi, hz0, hz1, hz2⟩ := info_partsC Tryz.info_valC
  subst hn
  obtain ⟨v', w', h1, h2, h3, h4⟩ := run_app (P := Tryz.prog) (cells := clc) 33 33 50 i0 _ 1 8 Tryz.underlying33 hi hz0 hz1 hz2 rfl (by decide) (fun _ => rfl) (fun x u hu => by simp [clc] at hu; subst hu; rfl) (ownsRow_touch ob ta (by simp)) (l := [x]) (srow_of (cells := clc) (n := 1) (fun _ => rfl) hlit) (by simp; omega) (by decide) (Nat.le_trans t.size ta.size)
  have h2' : clOwn w' w0.heap.size v' (xs ++ [x]) := by
    show w'.ownsRow _ _ _ _ _ _
    rw [List.length_append, List.flatMap_append]
    exact h2
  obtain ⟨ao', cap', rfl⟩ := owns_slice h2
  refine ⟨ao', cap', w', h1, h2', (t.trans ta (by simp)).trans ((Touch.refl _ v.ownBlock.toList).grown h3 (fun k hk => .inl (by simp [hk]))) (fun x hx => .inr ?_)⟩
  exact (World.ownsRow.lt ob x (by simpa using hx)).1

set_option maxRecDepth 100000 in
set_option maxHeartbeats 1000000 in
theorem round_any {w : World} {g off p cap : Nat} {P : List Int} (h : ClV w (some ⟨g, off, none⟩) p cap P) (hp : 1 ≤ p ∧ p ≤ 100) (f a : Nat) (hf : f ≤ 100) (ha : a ≤ 100) :
    Calls Tryz.prog 71 #[.slice (some ⟨g, off, none⟩) p cap, .int .i64 f, .int .i64 a] w fun e w' => ∃ b c, e = .returned (.slice b a c) ∧ ClV w' b a c (rndL P f a) ∧ Touch w w' [] ∧ ∀ x, (Value.slice b a c).ownBlock = some x → w.heap.size ≤ x := by
  have HL : Hid _ := h
  have HM : Hid _ := h.len
  clear h
  go_enter Tryz.func71, Tryz.ntmps71
  go_wp2_with fail
  go_loopw [7, 10] (fun vv i wr => ∃ (j : Nat) (b : Option Addr) (c : Nat), i = .int .i64 j ∧ j ≤ a ∧ vv = .slice b j c ∧ clOwn wr w.heap.size (.slice b j c) (rndL P f j) ∧ Touch w wr []) (fun _ i _ => a - (intOf i).toNat)
  case atStart => exact ⟨0, none, 0, rfl, Nat.zero_le _, rfl, World.ownsRow_nil _ _ _ _, Touch.refl _ _⟩
  case round =>
    obtain ⟨j, b, c, rfl, hj, rfl, hown, hT⟩ := hrel
    by_cases hlt : j < a
    · have h1 : (j : Int) < a := by omega
      have h0 : (0 : Int) ≤ j := by omega
      have hlt2 : (f + j) % p < p := Nat.mod_lt _ (by omega)
      have hjl : (f + j) % p < P.length := by rw [← HM.out]; exact hlt2
      obtain ⟨g', off', e', hg, x0⟩ := (HL.out.keep hT).at ((f + j) % p) hjl
      simp only [Option.some.injEq, Addr.mk.injEq, and_true] at e'
      obtain ⟨rfl, rfl⟩ := e'
      have hx : P[(f + j) % p] = P.getD ((f + j) % P.length) 0 := by
        rw [← (show p = P.length from HM.out), List.getD_eq_getElem?_getD, List.getElem?_eq_getElem hjl]; rfl
      rw [hx] at x0
      have hs := rndL_succ P f j
      generalize P.getD ((f + j) % P.length) 0 = x at *
      obtain ⟨a1, c1, w1, r1, o1, t1⟩ := cl_app1 hown hT x j (rndL_len _ _ _) (by omega)
      rw [← hs] at o1
      have HO1 : Hid _ := o1
      have HT1 : Hid _ := t1
      obtain ⟨md, hmd⟩ : ∃ m : Nat, m = (f + j) % p := ⟨_, rfl⟩
      rw [← hmd] at x0 hlt2
      have hw1 : IntKind.i64.wrap ((f : Int) + j) = (f : Int) + j := by rw [IntKind.wrap_i64]; omega
      have hrem : ((f : Int) + j).tmod p = md := by rw [hmd]; rw [Int.natCast_emod, Int.natCast_add, Int.tmod_eq_emod_of_nonneg (by omega)]
      have hpz : ((p : Int) == 0) = false := by simp; omega
      have hm0 : (0 : Int) ≤ md := by omega
      have hm1 : (md : Int) < p := by omega
      have hm2 : md < cap := Nat.lt_of_lt_of_le hlt2 HL.out.le
      clear hown hT o1 t1 hx hs hjl hmd
      go_wp2_with (at_builtin; refine Lib.wpList_append_run _ rfl (.tmp 13) (.tmp 23) _ _ rfl _ _ rfl rfl _ _ r1 ?_)
      refine ⟨⟨j + 1, a1, c1, by go_num, by omega, rfl, HO1.out, HT1.out⟩, ?_⟩
      simp [intOf]; omega
    · have h1 : ¬ (j : Int) < a := by omega
      obtain rfl : j = a := by omega
      have HO : Hid _ := hown
      have HT : Hid _ := hT
      clear hown hT
      go_wp2
      go_ret
      exact ⟨b, c, rfl, clOwn.v HO.out (rndL_len _ _ _).symm (rndL_wf HL.out.wf _ _), HT.out, fun x hx => (World.ownsRow.lt HO.out x hx).1⟩

end Go.Proofs.YtcbkafbchpjnoaaGreatDoor
/-
  package calls: shape BY ITS CONTRACT.
-/
namespace Go.Proofs.YtcbkafbchpjnoaaGreatDoor
set_option linter.unusedVariables false
set_option linter.unusedSimpArgs false
open Go.RowKit
attribute [local go_sem] Oper.semAt_some

/-- How an object is. -/
structure ShD where
  o : Int
  c : Int
  g : Int
  l : List Int
def goodN (k n : Int) (h : List Int) : Bool := if k = 1 then (numR (h.getD 0 0) 4).2 else if k = 2 then (numR (h.getD 0 0) 99).2 else if k = 3 then (numR (h.getD 0 0) n).2 && (numR (h.getD 1 0) (n - 1)).2 else (numR (h.getD 0 0) (n - 1)).2 && (numR (h.getD 1 0) 9223372036854775807).2
def goodS (k n : Int) (h : List Int) : Bool := h.all rightB && goodN k n h
def datS (k n : Int) (h : List Int) : ShD := if k = 1 then ⟨(numR (h.getD 0 0) 4).1 - 1, 0, 0, []⟩ else if k = 2 then ⟨-1, (numR (h.getD 0 0) 99).1, 0, []⟩ else if k = 3 then ⟨-1, 0, 0, rndL (h.drop 2) (numR (h.getD 1 0) (n - 1)).1.toNat (numR (h.getD 0 0) n).1.toNat⟩ else ⟨-1, (numR (h.getD 0 0) (n - 1)).1, (numR (h.getD 1 0) 9223372036854775807).1, []⟩
def ShP (w : World) (k n : Int) (h : List Int) (e : Ending) (w' : World) : Prop :=
  ∃ (D : ShD) (m : Nat) (a : Option Addr) (cp : Nat), e = .returned (.tuple #[.agg #[.int .i64 D.o, .int .i64 D.c, .int .i64 D.g, .slice a m cp], .bool (goodS k n h)]) ∧ ClV w' a m cp D.l ∧ (goodS k n h = true → D = datS k n h) ∧ Touch w w' [] ∧ ∀ x, (Value.slice a m cp).ownBlock = some x → w.heap.size ≤ x
theorem clv_nil (w : World) : ClV w none 0 0 [] := ⟨rfl, ⟨none, 0, rfl, fun h => absurd rfl h⟩, Nat.le_refl _, fun x hx => by simp at hx⟩
theorem list1 {α : Type} {l : List α} (h : l.length = 1) : ∃ x, l = [x] := by
  match l, h with
  | [x], _ => exact ⟨x, rfl⟩
theorem list2 {α : Type} {l : List α} (h : l.length = 2) : ∃ x y, l = [x, y] := by
  match l, h with
  | [x, y], _ => exact ⟨x, y, rfl⟩
theorem list2' {α : Type} {l : List α} (h : 2 ≤ l.length) : ∃ x y t, l = x :: y :: t := by
  match l, h with
  | x :: y :: t, _ => exact ⟨x, y, t, rfl⟩

/-- The cell of a result that is a Shape. -/
structure ShW (w V : World) : Prop where
  st : V.heap[w.heap.size]? = some (.cells #[.int .i64 0, .int .i64 0, .int .i64 0, .slice none 0 0] 37 (0, 0))
  t : Touch w V []
theorem ShW.new (w : World) : ShW w (w.alloc (.cells #[.int .i64 0, .int .i64 0, .int .i64 0, .slice none 0 0] 37)) := ⟨heap_alloc_new w _, (Touch.refl _ _).alloc _⟩
theorem ShW.keep {w V V' : World} (h : ShW w V) (t : Touch V V' []) : ShW w V' := ⟨(t.block _ (lt_of_heap h.st) (by simp)).trans h.st, h.t.trans t (by simp)⟩
theorem shp4 {W : World} {p : Nat} {x y z u : Value} (h : W.heap[p]? = some (.cells #[x, y, z, u] 37 (0, 0))) : W.cell? ⟨p, 0, none⟩ = some x ∧ W.cell? ⟨p, 1, none⟩ = some y ∧ W.cell? ⟨p, 2, none⟩ = some z ∧ W.cell? ⟨p, 3, none⟩ = some u := ⟨by unfold World.cell?; rw [h]; rfl, by unfold World.cell?; rw [h]; rfl, by unfold World.cell?; rw [h]; rfl, by unfold World.cell?; rw [h]; rfl⟩
theorem ShW.fr {w V : World} (h : ShW w V) (j : Nat) : V.frozen? ⟨w.heap.size, j, none⟩ = false := by unfold World.frozen?; rw [h.st]; simp
theorem ShW.fin {w V : World} (h : ShW w V) (x y z u : Value) : Touch V ((((V.setCell ⟨w.heap.size, 0, none⟩ x).setCell ⟨w.heap.size, 1, none⟩ y).setCell ⟨w.heap.size, 2, none⟩ z).setCell ⟨w.heap.size, 3, none⟩ u) [w.heap.size] ∧ Touch w ((((V.setCell ⟨w.heap.size, 0, none⟩ x).setCell ⟨w.heap.size, 1, none⟩ y).setCell ⟨w.heap.size, 2, none⟩ z).setCell ⟨w.heap.size, 3, none⟩ u) [] ∧ ((((V.setCell ⟨w.heap.size, 0, none⟩ x).setCell ⟨w.heap.size, 1, none⟩ y).setCell ⟨w.heap.size, 2, none⟩ z).setCell ⟨w.heap.size, 3, none⟩ u).heap[w.heap.size]? = some (.cells #[x, y, z, u] 37 (0, 0)) := by
  have t0 : Touch V ((((V.setCell ⟨w.heap.size, 0, none⟩ x).setCell ⟨w.heap.size, 1, none⟩ y).setCell ⟨w.heap.size, 2, none⟩ z).setCell ⟨w.heap.size, 3, none⟩ u) [w.heap.size] := ((((Touch.refl V _).setCell (.inl (by simp)) _).setCell (.inl (by simp)) _).setCell (.inl (by simp)) _).setCell (.inl (by simp)) _
  refine ⟨t0, h.t.trans t0 (fun x hx => .inr (by simp at hx; omega)), ?_⟩
  rw [heap_setCell_same _ _ _ _ _ _ (heap_setCell_same _ _ _ _ _ _ (heap_setCell_same _ _ _ _ _ _ (heap_setCell_same _ _ _ _ _ _ h.st)))]
  rfl
theorem ClV.other {w w' : World} {ao : Option Addr} {n cap : Nat} {l : List Int} {S : List Nat} (h : ClV w ao n cap l) (t : Touch w w' S) (hS : l ≠ [] → ∀ x, (Value.slice ao l.length cap).ownBlock = some x → x ∉ S) : ClV w' ao n cap l := ⟨h.len, SRow.keepB h.row t hS, h.le, h.wf⟩
theorem ClV.drop2 {w : World} {g off n cap : Nat} {x y : Int} {t : List Int} (h : ClV w (some ⟨g, off, none⟩) n cap (x :: y :: t)) : ClV w (some ⟨g, off + 2, none⟩) (n - 2) (cap - 2) t := by
  have hl := h.len
  have hc := h.le
  simp only [List.length_cons] at hl
  refine ⟨by omega, ?_, by omega, fun z hz => h.wf z (by simp [hz])⟩
  obtain ⟨ao, cp, e, h1⟩ := h.row
  simp only [Value.slice.injEq, true_and] at e
  obtain ⟨rfl, rfl⟩ := e
  obtain ⟨g', off', e2, hlt, hcl⟩ := h1 (by simp)
  simp only [Option.some.injEq, Addr.mk.injEq, and_true] at e2
  obtain ⟨rfl, rfl⟩ := e2
  refine ⟨_, _, rfl, fun _ => ⟨g, off + 2, rfl, hlt, fun k hk j hj => ?_⟩⟩
  have := hcl (k + 2) (by simp; omega) j hj
  rw [show off + (k + 2) * 1 + j = off + 2 + k * 1 + j by omega] at this
  rw [this]
  rfl

set_option maxRecDepth 100000 in
set_option maxHeartbeats 1000000 in
theorem shape_no {w : World} (k n : Int) {ao : Option Addr} {p cap : Nat} {h : List Int} (hh : ClV w ao p cap h) (hp : p ≤ 10) (hr : h.all rightB = false) :
    Calls Tryz.prog 38 #[.int .u8 k, .int .i64 n, .slice ao p cap] w (ShP w k n h) := by
  have hc := allRight_any (hh.keep ((Touch.refl w []).alloc (.cells #[.int .i64 0, .int .i64 0, .int .i64 0, .slice none 0 0] 37))) (by omega)
  rw [hr] at hc
  have HC : HidC _ _ _ _ _ := ⟨hc⟩
  have HG : Hid (goodS k n h = false) := by show _ = _; unfold goodS; rw [hr]; rfl
  have HS0 : Hid _ := ShW.new w
  clear hc hh hr
  go_enter Tryz.func38, Tryz.ntmps38
  go_wp2_with fail
  refine HC.out.mono ?_
  clear HC
  rintro e w1 ⟨rfl, t⟩
  have hs := HS0.out.keep t
  have HS : Hid (ShW w w1) := hs
  obtain ⟨s0, s1, s2, s3⟩ := shp4 hs.st
  have f0 := hs.fr 0
  have f1 := hs.fr 1
  have f2 := hs.fr 2
  have f3 := hs.fr 3
  have HFIN : Hid _ := (show ShW w w1 from hs).fin (.int .i64 0) (.int .i64 0) (.int .i64 0) (.slice none 0 0)
  clear t hs HS0
  go_wp2
  obtain ⟨u0, u1, u2⟩ := HFIN.out
  obtain ⟨p0, p1, p2, p3⟩ := shp4 u2
  refine bodyPost_ret (v := .tuple #[.agg #[.int .i64 0, .int .i64 0, .int .i64 0, .slice none 0 0], .bool false]) ?_ rfl ⟨⟨0, 0, 0, []⟩, 0, none, 0, by rw [HG.out], clv_nil _, (fun hq => by rw [show goodS k n h = false from HG.out] at hq; cases hq), u1, fun x hx => by simp [Value.ownBlock] at hx⟩
  simp [results, Tryz.results38, go_sem, p0, p1, p2, p3]

set_option maxRecDepth 100000 in
set_option maxHeartbeats 1000000 in
theorem shape_1 {w : World} {ao : Option Addr} {cap : Nat} {x : Int} (hh : ClV w ao 1 cap [x]) (hr : [x].all rightB = true) :
    Calls Tryz.prog 38 #[.int .u8 1, .int .i64 0, .slice ao 1 cap] w (ShP w 1 0 [x]) := by
  have hc := allRight_any (hh.keep ((Touch.refl w []).alloc (.cells #[.int .i64 0, .int .i64 0, .int .i64 0, .slice none 0 0] 37))) (by omega)
  rw [hr] at hc
  have HC : HidC _ _ _ _ _ := ⟨hc⟩
  have HNU : Hid (∀ W, HidC Tryz.prog 70 #[.int .u64 x, .int .i64 4] W fun e w' => e = .returned (.tuple #[.int .i64 (numR x 4).1, .bool (numR x 4).2]) ∧ Touch W w' []) := fun W => ⟨clnumber_any x 4 (hh.wf x (by simp)) W⟩
  have hrg := numR_range (hh.wf x (by simp)) (show (0 : Int) ≤ 4 by omega)
  have HG : Hid (goodS 1 0 [x] = (numR x 4).2) := by show _ = _; unfold goodS; rw [hr]; rfl
  have HD : Hid (datS 1 0 [x] = ⟨(numR x 4).1 - 1, 0, 0, []⟩) := rfl
  have hw1 : IntKind.i64.wrap ((numR x 4).1 - 1) = (numR x 4).1 - 1 := by rw [IntKind.wrap_i64]; omega
  have HS0 : Hid _ := ShW.new w
  have hcap := hh.le
  obtain ⟨g, off, rfl, hg, c0⟩ := hh.at 0 (by simp)
  have HX : Hid (∀ W, Touch w W [] → W.cell? ⟨g, off, none⟩ = some (.int .u64 x)) := fun W tw => (tw.cell (p := ⟨g, off, none⟩) hg (by simp)).trans c0
  generalize numR x 4 = r at *
  obtain ⟨r1, r2⟩ := r
  simp only at HNU HG HD hw1
  clear hc hh hr hrg c0
  go_enter Tryz.func38, Tryz.ntmps38
  go_wp2_with fail
  refine HC.out.mono ?_
  clear HC
  rintro e w1 ⟨rfl, t⟩
  have HS1 : Hid (ShW w w1) := HS0.out.keep t
  have x0 := HX.out w1 (show ShW w w1 from HS1.out).t
  clear t HS0
  go_wp2_with fail
  refine (HNU.out _).out.mono ?_
  clear HNU
  rintro e w2 ⟨rfl, t⟩
  have hs : ShW w w2 := HS1.out.keep t
  obtain ⟨s0, s1, s2, s3⟩ := shp4 hs.st
  have f0 := hs.fr 0
  have f1 := hs.fr 1
  have f2 := hs.fr 2
  have f3 := hs.fr 3
  have HFIN : Hid _ := hs.fin (.int .i64 (r1 - 1)) (.int .i64 0) (.int .i64 0) (.slice none 0 0)
  clear t hs HS1 x0
  go_wp2
  obtain ⟨u0, u1, u2⟩ := HFIN.out
  obtain ⟨p0, p1, p2, p3⟩ := shp4 u2
  refine bodyPost_ret (v := .tuple #[.agg #[.int .i64 (r1 - 1), .int .i64 0, .int .i64 0, .slice none 0 0], .bool r2]) ?_ rfl ⟨⟨r1 - 1, 0, 0, []⟩, 0, none, 0, by rw [HG.out], clv_nil _, fun _ => HD.out.symm, u1, fun x hx => by simp [Value.ownBlock] at hx⟩
  simp [results, Tryz.results38, go_sem, p0, p1, p2, p3]

set_option maxRecDepth 100000 in
set_option maxHeartbeats 1000000 in
theorem shape_2 {w : World} {ao : Option Addr} {cap : Nat} {x : Int} (hh : ClV w ao 1 cap [x]) (hr : [x].all rightB = true) (n : Int) :
    Calls Tryz.prog 38 #[.int .u8 2, .int .i64 n, .slice ao 1 cap] w (ShP w 2 n [x]) := by
  have hc := allRight_any (hh.keep ((Touch.refl w []).alloc (.cells #[.int .i64 0, .int .i64 0, .int .i64 0, .slice none 0 0] 37))) (by omega)
  rw [hr] at hc
  have HC : HidC _ _ _ _ _ := ⟨hc⟩
  have HNU : Hid (∀ W, HidC Tryz.prog 70 #[.int .u64 x, .int .i64 99] W fun e w' => e = .returned (.tuple #[.int .i64 (numR x 99).1, .bool (numR x 99).2]) ∧ Touch W w' []) := fun W => ⟨clnumber_any x 99 (hh.wf x (by simp)) W⟩
  have hrg := numR_range (hh.wf x (by simp)) (show (0 : Int) ≤ 99 by omega)
  have HG : Hid (goodS 2 n [x] = (numR x 99).2) := by show _ = _; unfold goodS goodN; rw [hr, if_neg (by decide), if_pos rfl, Bool.true_and]; rfl
  have HD : Hid (datS 2 n [x] = ⟨-1, (numR x 99).1, 0, []⟩) := by show _ = _; unfold datS; rw [if_neg (by decide), if_pos rfl]; rfl
  have HS0 : Hid _ := ShW.new w
  have hcap := hh.le
  obtain ⟨g, off, rfl, hg, c0⟩ := hh.at 0 (by simp)
  have HX : Hid (∀ W, Touch w W [] → W.cell? ⟨g, off, none⟩ = some (.int .u64 x)) := fun W tw => (tw.cell (p := ⟨g, off, none⟩) hg (by simp)).trans c0
  generalize numR x 99 = r at *
  obtain ⟨r1, r2⟩ := r
  simp only at HNU HG HD
  clear hc hh hr hrg c0
  go_enter Tryz.func38, Tryz.ntmps38
  go_wp2_with fail
  refine HC.out.mono ?_
  clear HC
  rintro e w1 ⟨rfl, t⟩
  have HS1 : Hid (ShW w w1) := HS0.out.keep t
  have x0 := HX.out w1 (show ShW w w1 from HS1.out).t
  clear t HS0
  go_wp2_with fail
  refine (HNU.out _).out.mono ?_
  clear HNU
  rintro e w2 ⟨rfl, t⟩
  have hs : ShW w w2 := HS1.out.keep t
  obtain ⟨s0, s1, s2, s3⟩ := shp4 hs.st
  have f0 := hs.fr 0
  have f1 := hs.fr 1
  have f2 := hs.fr 2
  have f3 := hs.fr 3
  have HFIN : Hid _ := hs.fin (.int .i64 (-1)) (.int .i64 r1) (.int .i64 0) (.slice none 0 0)
  clear t hs HS1 x0
  go_wp2
  obtain ⟨u0, u1, u2⟩ := HFIN.out
  obtain ⟨p0, p1, p2, p3⟩ := shp4 u2
  refine bodyPost_ret (v := .tuple #[.agg #[.int .i64 (-1), .int .i64 r1, .int .i64 0, .slice none 0 0], .bool r2]) ?_ rfl ⟨⟨-1, r1, 0, []⟩, 0, none, 0, by rw [HG.out], clv_nil _, fun _ => HD.out.symm, u1, fun x hx => by simp [Value.ownBlock] at hx⟩
  simp [results, Tryz.results38, go_sem, p0, p1, p2, p3]

set_option maxRecDepth 100000 in
set_option maxHeartbeats 1000000 in
theorem shape_4 {w : World} {ao : Option Addr} {cap : Nat} {x y : Int} (hh : ClV w ao 2 cap [x, y]) (hr : [x, y].all rightB = true) (n : Int) (hn : 1 ≤ n ∧ n ≤ 4) :
    Calls Tryz.prog 38 #[.int .u8 4, .int .i64 n, .slice ao 2 cap] w (ShP w 4 n [x, y]) := by
  have hc := allRight_any (hh.keep ((Touch.refl w []).alloc (.cells #[.int .i64 0, .int .i64 0, .int .i64 0, .slice none 0 0] 37))) (by omega)
  rw [hr] at hc
  have HC : HidC _ _ _ _ _ := ⟨hc⟩
  have HNX : Hid (∀ W, HidC Tryz.prog 70 #[.int .u64 x, .int .i64 (n - 1)] W fun e w' => e = .returned (.tuple #[.int .i64 (numR x (n - 1)).1, .bool (numR x (n - 1)).2]) ∧ Touch W w' []) := fun W => ⟨clnumber_any x (n - 1) (hh.wf x (by simp)) W⟩
  have HNY : Hid (∀ W, HidC Tryz.prog 70 #[.int .u64 y, .int .i64 9223372036854775807] W fun e w' => e = .returned (.tuple #[.int .i64 (numR y 9223372036854775807).1, .bool (numR y 9223372036854775807).2]) ∧ Touch W w' []) := fun W => ⟨clnumber_any y 9223372036854775807 (hh.wf y (by simp)) W⟩
  have HG : Hid (goodS 4 n [x, y] = ((numR x (n - 1)).2 && (numR y 9223372036854775807).2)) := by show _ = _; unfold goodS; rw [hr]; rfl
  have HD : Hid (datS 4 n [x, y] = ⟨-1, (numR x (n - 1)).1, (numR y 9223372036854775807).1, []⟩) := rfl
  have hw1 : IntKind.i64.wrap (n - 1) = n - 1 := by rw [IntKind.wrap_i64]; omega
  have HS0 : Hid _ := ShW.new w
  have hcap := hh.le
  obtain ⟨g, off, rfl, hg, c0⟩ := hh.at 0 (by simp)
  obtain ⟨g', off', e', hg', c1⟩ := hh.at 1 (by simp)
  simp only [Option.some.injEq, Addr.mk.injEq, and_true] at e'
  obtain ⟨rfl, rfl⟩ := e'
  have HX : Hid (∀ W, Touch w W [] → W.cell? ⟨g, off, none⟩ = some (.int .u64 x) ∧ W.cell? ⟨g, off + 1, none⟩ = some (.int .u64 y)) := fun W tw => ⟨(tw.cell (p := ⟨g, off, none⟩) hg (by simp)).trans c0, (tw.cell (p := ⟨g, off + 1, none⟩) hg (by simp)).trans c1⟩
  generalize numR x (n - 1) = r at *
  generalize numR y 9223372036854775807 = q at *
  obtain ⟨r1, r2⟩ := r
  obtain ⟨q1, q2⟩ := q
  simp only at HNX HNY HG HD
  clear hc hh hr c0 c1
  go_enter Tryz.func38, Tryz.ntmps38
  go_wp2_with fail
  refine HC.out.mono ?_
  clear HC
  rintro e w1 ⟨rfl, t⟩
  have HS1 : Hid (ShW w w1) := HS0.out.keep t
  obtain ⟨x0, y0⟩ := HX.out w1 (show ShW w w1 from HS1.out).t
  clear t HS0
  go_wp2_with fail
  refine (HNX.out _).out.mono ?_
  clear HNX
  rintro e w2 ⟨rfl, t⟩
  have HS2 : Hid (ShW w w2) := HS1.out.keep t
  obtain ⟨x2, y2⟩ := HX.out w2 (show ShW w w2 from HS2.out).t
  clear t HS1 x0 y0
  go_wp2_with fail
  refine (HNY.out _).out.mono ?_
  clear HNY
  rintro e w3 ⟨rfl, t⟩
  have hs : ShW w w3 := HS2.out.keep t
  obtain ⟨s0, s1, s2, s3⟩ := shp4 hs.st
  have f0 := hs.fr 0
  have f1 := hs.fr 1
  have f2 := hs.fr 2
  have f3 := hs.fr 3
  have HFIN : Hid _ := hs.fin (.int .i64 (-1)) (.int .i64 r1) (.int .i64 q1) (.slice none 0 0)
  clear t hs HS2 x2 y2
  cases r2 with
  | true =>
    go_wp2
    obtain ⟨u0, u1, u2⟩ := HFIN.out
    obtain ⟨p0, p1, p2, p3⟩ := shp4 u2
    refine bodyPost_ret (v := .tuple #[.agg #[.int .i64 (-1), .int .i64 r1, .int .i64 q1, .slice none 0 0], .bool q2]) ?_ rfl ⟨⟨-1, r1, q1, []⟩, 0, none, 0, by rw [HG.out]; simp, clv_nil _, fun _ => HD.out.symm, u1, fun x hx => by simp [Value.ownBlock] at hx⟩
    simp [results, Tryz.results38, go_sem, p0, p1, p2, p3]
  | false =>
    go_wp2
    obtain ⟨u0, u1, u2⟩ := HFIN.out
    obtain ⟨p0, p1, p2, p3⟩ := shp4 u2
    refine bodyPost_ret (v := .tuple #[.agg #[.int .i64 (-1), .int .i64 r1, .int .i64 q1, .slice none 0 0], .bool false]) ?_ rfl ⟨⟨-1, r1, q1, []⟩, 0, none, 0, by rw [HG.out]; simp, clv_nil _, fun _ => HD.out.symm, u1, fun x hx => by simp [Value.ownBlock] at hx⟩
    simp [results, Tryz.results38, go_sem, p0, p1, p2, p3]

set_option maxRecDepth 100000 in
set_option maxHeartbeats 1000000 in
theorem shape_3 {w : World} {ao : Option Addr} {p cap : Nat} {x y : Int} {P : List Int} (hh : ClV w ao p cap (x :: y :: P)) (hr : (x :: y :: P).all rightB = true) (n : Int) (hn : 1 ≤ n ∧ n ≤ 4) (hp : (p : Int) = n + 2) :
    Calls Tryz.prog 38 #[.int .u8 3, .int .i64 n, .slice ao p cap] w (ShP w 3 n (x :: y :: P)) := by
  have hc := allRight_any (hh.keep ((Touch.refl w []).alloc (.cells #[.int .i64 0, .int .i64 0, .int .i64 0, .slice none 0 0] 37))) (by omega)
  rw [hr] at hc
  have HC : HidC _ _ _ _ _ := ⟨hc⟩
  have HNX : Hid (∀ W, HidC Tryz.prog 70 #[.int .u64 x, .int .i64 n] W fun e w' => e = .returned (.tuple #[.int .i64 (numR x n).1, .bool (numR x n).2]) ∧ Touch W w' []) := fun W => ⟨clnumber_any x n (hh.wf x (by simp)) W⟩
  have HNY : Hid (∀ W, HidC Tryz.prog 70 #[.int .u64 y, .int .i64 (n - 1)] W fun e w' => e = .returned (.tuple #[.int .i64 (numR y (n - 1)).1, .bool (numR y (n - 1)).2]) ∧ Touch W w' []) := fun W => ⟨clnumber_any y (n - 1) (hh.wf y (by simp)) W⟩
  have HG : Hid (goodS 3 n (x :: y :: P) = ((numR x n).2 && (numR y (n - 1)).2)) := by show _ = _; unfold goodS; rw [hr]; rfl
  have HD : Hid (datS 3 n (x :: y :: P) = ⟨-1, 0, 0, rndL P (numR y (n - 1)).1.toNat (numR x n).1.toNat⟩) := rfl
  have hw1 : IntKind.i64.wrap (n - 1) = n - 1 := by rw [IntKind.wrap_i64]; omega
  have hrx := numR_range (hh.wf x (by simp)) (show (0 : Int) ≤ n by omega)
  have hry := numR_range (hh.wf y (by simp)) (show (0 : Int) ≤ n - 1 by omega)
  have HS0 : Hid _ := ShW.new w
  have hcap := hh.le
  obtain ⟨g, off, rfl, hg, c0⟩ := hh.at 0 (by simp)
  obtain ⟨g', off', e', hg', c1⟩ := hh.at 1 (by simp)
  simp only [Option.some.injEq, Addr.mk.injEq, and_true] at e'
  obtain ⟨rfl, rfl⟩ := e'
  have HX : Hid (∀ W, Touch w W [] → W.cell? ⟨g, off, none⟩ = some (.int .u64 x) ∧ W.cell? ⟨g, off + 1, none⟩ = some (.int .u64 y)) := fun W tw => ⟨(tw.cell (p := ⟨g, off, none⟩) hg (by simp)).trans c0, (tw.cell (p := ⟨g, off + 1, none⟩) hg (by simp)).trans c1⟩
  have hd2 := hh.drop2
  obtain ⟨rx, hrxe⟩ : ∃ m : Nat, (m : Int) = (numR x n).1 := ⟨(numR x n).1.toNat, by omega⟩
  obtain ⟨ry, hrye⟩ : ∃ m : Nat, (m : Int) = (numR y (n - 1)).1 := ⟨(numR y (n - 1)).1.toNat, by omega⟩
  have HD2 : Hid (datS 3 n (x :: y :: P) = ⟨-1, 0, 0, rndL P ry rx⟩) := by show _ = _; rw [HD.out, ← hrxe, ← hrye]; simp
  have HRN : Hid (∀ W, Touch w W [] → HidC Tryz.prog 71 #[.slice (some ⟨g, off + 2, none⟩) (p - 2 : Nat) (cap - 2 : Nat), .int .i64 ry, .int .i64 rx] W fun e w' => ∃ b c, e = .returned (.slice b rx c) ∧ ClV w' b rx c (rndL P ry rx) ∧ Touch W w' [] ∧ ∀ x, (Value.slice b rx c).ownBlock = some x → W.heap.size ≤ x) := fun W tw => ⟨round_any (hd2.keep tw) (by omega) ry rx (by omega) (by omega)⟩
  have hr2 : (numR x n).2 = (numR x n).2 := rfl
  generalize hR : numR x n = r at *
  generalize hQ : numR y (n - 1) = q at *
  obtain ⟨r1, r2⟩ := r
  obtain ⟨q1, q2⟩ := q
  simp only at HNX HNY HG HD hrxe hrye
  subst hrxe hrye
  have hp2 : (2 : Int) ≤ p := by omega
  have hp3 : ((p : Int) - 2) = ((p - 2 : Nat) : Int) := by omega
  clear hc hh hr c0 c1 HD hd2 hR hQ hr2 hrx hry
  go_enter Tryz.func38, Tryz.ntmps38
  go_wp2_with fail
  refine HC.out.mono ?_
  clear HC
  rintro e w1 ⟨rfl, t⟩
  have HS1 : Hid (ShW w w1) := HS0.out.keep t
  obtain ⟨x0, y0⟩ := HX.out w1 (show ShW w w1 from HS1.out).t
  clear t HS0
  go_wp2_with fail
  refine (HNX.out _).out.mono ?_
  clear HNX
  rintro e w2 ⟨rfl, t⟩
  have HS2 : Hid (ShW w w2) := HS1.out.keep t
  obtain ⟨x2, y2⟩ := HX.out w2 (show ShW w w2 from HS2.out).t
  clear t HS1 x0 y0
  go_wp2_with fail
  refine (HNY.out _).out.mono ?_
  clear HNY
  rintro e w3 ⟨rfl, t⟩
  have HS3 : Hid (ShW w w3) := HS2.out.keep t
  clear t HS2 x2 y2
  have HRN3 := HRN.out w3 (show ShW w w3 from HS3.out).t
  clear HRN
  go_wp2_with fail
  refine HRN3.out.mono ?_
  clear HRN3
  rintro e w4 ⟨b, c, rfl, hv, t, hnew⟩
  have hs : ShW w w4 := HS3.out.keep t
  obtain ⟨s0, s1, s2, s3⟩ := shp4 hs.st
  have f0 := hs.fr 0
  have f1 := hs.fr 1
  have f2 := hs.fr 2
  have f3 := hs.fr 3
  have hfin := hs.fin (.int .i64 (-1)) (.int .i64 0) (.int .i64 0) (.slice b rx c)
  have HV : Hid (ClV ((((w4.setCell ⟨w.heap.size, 0, none⟩ (.int .i64 (-1))).setCell ⟨w.heap.size, 1, none⟩ (.int .i64 0)).setCell ⟨w.heap.size, 2, none⟩ (.int .i64 0)).setCell ⟨w.heap.size, 3, none⟩ (.slice b rx c)) b rx c (rndL P ry rx)) := by
    refine hv.other hfin.1 (fun _ x hx hm => ?_)
    have hq := lt_of_heap (show ShW w w3 from HS3.out).st
    rw [rndL_len] at hx
    have := hnew x hx
    simp at hm
    omega
  have HFIN : Hid _ := hfin
  have HNEW : Hid (∀ x, (Value.slice b rx c).ownBlock = some x → w.heap.size ≤ x) := fun x hx => Nat.le_trans (show ShW w w3 from HS3.out).t.size (hnew x hx)
  clear hs hv hfin t HS3 hnew
  cases r2 with
  | true =>
    go_wp2
    obtain ⟨u0, u1, u2⟩ := HFIN.out
    obtain ⟨p0, p1, p2, p3⟩ := shp4 u2
    refine bodyPost_ret (v := .tuple #[.agg #[.int .i64 (-1), .int .i64 0, .int .i64 0, .slice b rx c], .bool q2]) ?_ rfl ⟨⟨-1, 0, 0, rndL P ry rx⟩, rx, b, c, by rw [HG.out]; simp, HV.out, fun _ => HD2.out.symm, u1, HNEW.out⟩
    simp [results, Tryz.results38, go_sem, p0, p1, p2, p3]
  | false =>
    go_wp2
    obtain ⟨u0, u1, u2⟩ := HFIN.out
    obtain ⟨p0, p1, p2, p3⟩ := shp4 u2
    refine bodyPost_ret (v := .tuple #[.agg #[.int .i64 (-1), .int .i64 0, .int .i64 0, .slice b rx c], .bool false]) ?_ rfl ⟨⟨-1, 0, 0, rndL P ry rx⟩, rx, b, c, by rw [HG.out]; simp, HV.out, fun _ => HD2.out.symm, u1, HNEW.out⟩
    simp [results, Tryz.results38, go_sem, p0, p1, p2, p3]

end Go.Proofs.YtcbkafbchpjnoaaGreatDoor
/-
  package calls: ShapeOf BY ITS CONTRACT.
-/
namespace Go.Proofs.YtcbkafbchpjnoaaGreatDoor
set_option linter.unusedVariables false
set_option linter.unusedSimpArgs false
open Go.RowKit
attribute [local go_sem] Oper.semAt_some

theorem shape_any {w : World} (k n : Int) {ao : Option Addr} {p cap : Nat} {h : List Int} (ho : okO k n = true) (hh : ClV w ao p cap h) (hp : (p : Int) = tvN k n) :
    Calls Tryz.prog 38 #[.int .u8 k, .int .i64 n, .slice ao p cap] w (ShP w k n h) := by
  have hw := (okO_is k n).1 ho
  have htv := tv_le ho
  have htn : tvN k n = if k = 3 then n + 2 else if k = 4 then 2 else 1 := by unfold tvN; rw [ho]; rfl
  cases hr : h.all rightB with
  | false => exact shape_no k n hh (by omega) hr
  | true =>
    rw [htn] at hp
    have hl := hh.len
    rcases hw with ⟨rfl, rfl⟩ | ⟨rfl, h1⟩ | ⟨rfl, h1⟩ | ⟨rfl, h1⟩
    · rw [if_neg (by decide), if_neg (by decide)] at hp
      obtain rfl : p = 1 := by omega
      obtain ⟨x, rfl⟩ := list1 hl.symm
      exact shape_1 hh hr
    · rw [if_neg (by decide), if_neg (by decide)] at hp
      obtain rfl : p = 1 := by omega
      obtain ⟨x, rfl⟩ := list1 hl.symm
      exact shape_2 hh hr n
    · rw [if_pos rfl] at hp
      obtain ⟨x, y, P, rfl⟩ := list2' (show 2 ≤ h.length by omega)
      exact shape_3 hh hr n h1 hp
    · rw [if_neg (by decide), if_pos rfl] at hp
      obtain rfl : p = 2 := by omega
      obtain ⟨x, y, rfl⟩ := list2 hl.symm
      exact shape_4 hh hr n h1

/-- What ShapeOf comes to. -/
def shE (k n : Int) (h : List Int) : Int := if okO k n then (if (h.length : Int) = tvN k n then (if goodS k n h then 0 else 8) else 2) else 3
def shO (k n : Int) (h : List Int) : ShD := if shE k n h = 0 then datS k n h else ⟨0, 0, 0, []⟩
def SoP (w : World) (k n : Int) (h : List Int) (e : Ending) (w' : World) : Prop :=
  ∃ (m : Nat) (a : Option Addr) (cp : Nat), e = .returned (.tuple #[.agg #[.int .i64 (shO k n h).o, .int .i64 (shO k n h).c, .int .i64 (shO k n h).g, .slice a m cp], .int .i64 (shE k n h)]) ∧ ClV w' a m cp (shO k n h).l ∧ Touch w w' []

set_option maxRecDepth 100000 in
set_option maxHeartbeats 600000 in
theorem shapeof_any {w : World} (k n : Int) {ao : Option Addr} {p cap : Nat} {h : List Int} (hh : ClV w ao p cap h) (hp : p ≤ 9223372036854775807) :
    Calls Tryz.prog 15 #[.int .u8 k, .int .i64 n, .slice ao p cap] w (SoP w k n h) := by
  have HN : HidC _ _ _ _ _ := ⟨onew_any k n (w.alloc (.cells #[.int .i64 0, .int .i64 0, .int .i64 0, .slice none 0 0] 37))⟩
  have HS0 : Hid _ := ShW.new w
  cases ho : okO k n with
  | false =>
    have HE : Hid (shE k n h = 3) := by show _ = _; unfold shE; rw [ho]; rfl
    have HO : Hid (shO k n h = ⟨0, 0, 0, []⟩) := by show _ = _; unfold shO; rw [HE.out]; rfl
    clear hh
    go_enter Tryz.func15, Tryz.ntmps15
    go_wp2_with fail
    refine HN.out.mono ?_
    clear HN
    rintro e w1 (⟨hq, b, rfl, ha, hb, t⟩ | ⟨hq, rfl, t⟩)
    · rw [ho] at hq; cases hq
    · have hs : ShW w w1 := HS0.out.keep t
      obtain ⟨s0, s1, s2, s3⟩ := shp4 hs.st
      have f0 := hs.fr 0
      have f1 := hs.fr 1
      have f2 := hs.fr 2
      have f3 := hs.fr 3
      have HFIN : Hid _ := hs.fin (.int .i64 0) (.int .i64 0) (.int .i64 0) (.slice none 0 0)
      clear t hs HS0
      go_wp2
      obtain ⟨u0, u1, u2⟩ := HFIN.out
      obtain ⟨p0, p1, p2, p3⟩ := shp4 u2
      refine bodyPost_ret (v := .tuple #[.agg #[.int .i64 0, .int .i64 0, .int .i64 0, .slice none 0 0], .int .i64 3]) ?_ rfl ⟨0, none, 0, by rw [HO.out, HE.out], by rw [HO.out]; exact clv_nil _, u1⟩
      simp [results, Tryz.results15, go_sem, p0, p1, p2, p3]
  | true =>
    have HOK : Hid _ := ho
    have HTN : Hid (∀ W, HidC Tryz.prog 17 #[.int .u8 k, .int .i64 n] W fun e w' => e = .returned (.int .i64 (tvN k n)) ∧ Touch W w' []) := fun W => ⟨tvars_any k n W⟩
    have HHV : Hid _ := hh
    have hl := hh.len
    by_cases hpt : (p : Int) = tvN k n
    · have HPT : Hid _ := hpt
      rw [← hpt] at HTN
      have HLN : Hid _ := hl
      clear hh hpt hl
      go_enter Tryz.func15, Tryz.ntmps15
      go_wp2_with fail
      refine HN.out.mono ?_
      clear HN
      rintro e w1 (⟨hq, b, rfl, ha, hb, t⟩ | ⟨hq, rfl, t⟩)
      · have HS1 : Hid (ShW w w1) := HS0.out.keep t
        clear t HS0 ha hb hq
        go_wp2_with fail
        refine (HTN.out _).out.mono ?_
        clear HTN
        rintro e w2 ⟨rfl, t⟩
        have HS2 : Hid (ShW w w2) := HS1.out.keep t
        have HSH : HidC _ _ _ _ _ := ⟨shape_any k n ho (HHV.out.keep (show ShW w w2 from HS2.out).t) HPT.out⟩
        clear t HS1
        go_wp2_with fail
        refine HSH.out.mono ?_
        clear HSH
        rintro e w3 ⟨D, m, a, cp, rfl, hv, hd, t, hnw⟩
        have hs3 : ShW w w3 := HS2.out.keep t
        obtain ⟨Do, Dc, Dg, Dl⟩ := D
        simp only at hv hd ⊢
        have tA : Touch w3 (w3.alloc (.cells #[.int .i64 Do, .int .i64 Dc, .int .i64 Dg, .slice a m cp] 37)) [] := (Touch.refl _ _).alloc _
        have hs := hs3.keep tA
        obtain ⟨y0, y1, y2, y3⟩ := shp4 (heap_alloc_new w3 (.cells #[.int .i64 Do, .int .i64 Dc, .int .i64 Dg, .slice a m cp] 37))
        obtain ⟨s0, s1, s2, s3⟩ := shp4 hs.st
        have f0 := hs.fr 0
        have f1 := hs.fr 1
        have f2 := hs.fr 2
        have f3 := hs.fr 3
        have hlt := lt_of_heap hs3.st
        cases hg : goodS k n h with
        | false =>
          have HE : Hid (shE k n h = 8) := by show _ = _; unfold shE; rw [ho, if_pos rfl, if_pos (by rw [← (show p = h.length from HLN.out)]; exact HPT.out), hg]; rfl
          have HO : Hid (shO k n h = ⟨0, 0, 0, []⟩) := by show _ = _; unfold shO; rw [HE.out]; rfl
          have HFIN : Hid _ := hs.fin (.int .i64 0) (.int .i64 0) (.int .i64 0) (.slice none 0 0)
          clear t hs hs3 tA hv hd hg HS2 hlt hnw
          go_wp2
          obtain ⟨u0, u1, u2⟩ := HFIN.out
          obtain ⟨p0, p1, p2, p3⟩ := shp4 u2
          refine bodyPost_ret (v := .tuple #[.agg #[.int .i64 0, .int .i64 0, .int .i64 0, .slice none 0 0], .int .i64 8]) ?_ rfl ⟨0, none, 0, by rw [HO.out, HE.out], by rw [HO.out]; exact clv_nil _, u1⟩
          simp [results, Tryz.results15, go_sem, p0, p1, p2, p3]
        | true =>
          have HE : Hid (shE k n h = 0) := by show _ = _; unfold shE; rw [ho, if_pos rfl, if_pos (by rw [← (show p = h.length from HLN.out)]; exact HPT.out), hg]; rfl
          have HO : Hid (shO k n h = ⟨Do, Dc, Dg, Dl⟩) := by show _ = _; unfold shO; rw [if_pos (show shE k n h = 0 from HE.out)]; exact (hd hg).symm
          have hfin := hs.fin (.int .i64 Do) (.int .i64 Dc) (.int .i64 Dg) (.slice a m cp)
          have HFIN : Hid _ := hfin
          have HV : Hid (ClV (((((w3.alloc (.cells #[.int .i64 Do, .int .i64 Dc, .int .i64 Dg, .slice a m cp] 37)).setCell ⟨w.heap.size, 0, none⟩ (.int .i64 Do)).setCell ⟨w.heap.size, 1, none⟩ (.int .i64 Dc)).setCell ⟨w.heap.size, 2, none⟩ (.int .i64 Dg)).setCell ⟨w.heap.size, 3, none⟩ (.slice a m cp)) a m cp Dl) := by
            refine (hv.keep tA).other hfin.1 (fun _ x hx hm => ?_)
            have hq := lt_of_heap (show ShW w w2 from HS2.out).st
            have := hnw x (by rw [hv.len]; exact hx)
            simp at hm
            omega
          clear t hs hs3 tA hv hd hg HS2 hlt hfin hnw
          go_wp2
          obtain ⟨u0, u1, u2⟩ := HFIN.out
          obtain ⟨p0, p1, p2, p3⟩ := shp4 u2
          refine bodyPost_ret (v := .tuple #[.agg #[.int .i64 Do, .int .i64 Dc, .int .i64 Dg, .slice a m cp], .int .i64 0]) ?_ rfl ⟨m, a, cp, by rw [HO.out, HE.out], by rw [HO.out]; exact HV.out, u1⟩
          simp [results, Tryz.results15, go_sem, p0, p1, p2, p3]
      · rw [ho] at hq; cases hq
    · have HE : Hid (shE k n h = 2) := by show _ = _; unfold shE; rw [ho, if_pos rfl, if_neg (by rw [← hl]; exact hpt)]
      have HO : Hid (shO k n h = ⟨0, 0, 0, []⟩) := by show _ = _; unfold shO; rw [HE.out]; rfl
      clear hh HHV hl
      generalize tvN k n = tv at *
      go_enter Tryz.func15, Tryz.ntmps15
      go_wp2_with fail
      refine HN.out.mono ?_
      clear HN
      rintro e w1 (⟨hq, b, rfl, ha, hb, t⟩ | ⟨hq, rfl, t⟩)
      · have HS1 : Hid (ShW w w1) := HS0.out.keep t
        clear t HS0 ha hb hq
        go_wp2_with fail
        refine (HTN.out _).out.mono ?_
        clear HTN
        rintro e w2 ⟨rfl, t⟩
        have hs : ShW w w2 := HS1.out.keep t
        obtain ⟨s0, s1, s2, s3⟩ := shp4 hs.st
        have f0 := hs.fr 0
        have f1 := hs.fr 1
        have f2 := hs.fr 2
        have f3 := hs.fr 3
        have HFIN : Hid _ := hs.fin (.int .i64 0) (.int .i64 0) (.int .i64 0) (.slice none 0 0)
        have hpt2 : ((p : Int) == tv) = false := by simpa using hpt
        clear t hs HS1 hpt
        go_wp2
        obtain ⟨u0, u1, u2⟩ := HFIN.out
        obtain ⟨p0, p1, p2, p3⟩ := shp4 u2
        refine bodyPost_ret (v := .tuple #[.agg #[.int .i64 0, .int .i64 0, .int .i64 0, .slice none 0 0], .int .i64 2]) ?_ rfl ⟨0, none, 0, by rw [HO.out, HE.out], by rw [HO.out]; exact clv_nil _, u1⟩
        simp [results, Tryz.results15, go_sem, p0, p1, p2, p3]
      · rw [ho] at hq; cases hq

end Go.Proofs.YtcbkafbchpjnoaaGreatDoor
/-
  The document's ShapeOf BY ITS CONTRACT. Written by mkclsh.py.
-/
namespace Go.Proofs.YtcbkafbchpjnoaaGreatDoor
set_option linter.unusedVariables false
set_option linter.unusedSimpArgs false
open Go.RowKit
attribute [local go_sem] Oper.semAt_some

theorem cl_appB {w : World} {B : Nat} {v : Value} {xs : List Int} (ob : clOwn w B v xs) (hB : B ≤ w.heap.size) (x : Int) (n : Nat) (hn : xs.length = n) (h100 : n ≤ 100) :
    ∃ ao cap w', (Builtin.append_ #[33, 33] 33 #[v, .slice (some ⟨w.heap.size, 0, none⟩) 1 1]).run Tryz.prog (w.alloc (.cells #[.int .u64 x] 50)) = .ok (.slice ao (n + 1) cap) w' ∧ clOwn w' B (.slice ao (n + 1) cap) (xs ++ [x]) ∧ Touch w w' v.ownBlock.toList := by
  have ta : Touch w (w.alloc (.cells #[.int .u64 x] 50)) [] := (Touch.refl w []).alloc _
  have hlit : (w.alloc (.cells #[.int .u64 x] 50)).ownsRow w.heap.size 50 1 (.slice (some ⟨w.heap.size, 0, none⟩) 1 1) 1 [.int .u64 x] :=
    World.ownsRow_lit (base := w.heap.size) (e := 50) (size := 1) w #[.int .u64 x] 1 (Nat.le_refl _) (by unfold maxLen; omega) rfl
  obtain ⟨i0, hi, hz0, hz1, hz2⟩ := info_partsC Tryz.info_valC
  subst hn
  obtain ⟨v', w', h1, h2, h3, h4⟩ := run_app (P := Tryz.prog) (cells := clc) 33 33 50 i0 _ 1 8 Tryz.underlying33 hi hz0 hz1 hz2 rfl (by decide) (fun _ => rfl) (fun x u hu => by simp [clc] at hu; subst hu; rfl) (ownsRow_touch ob ta (by simp)) (l := [x]) (srow_of (cells := clc) (n := 1) (fun _ => rfl) hlit) (by simp; omega) (by decide) (Nat.le_trans hB ta.size)
  have h2' : clOwn w' B v' (xs ++ [x]) := by
    show w'.ownsRow _ _ _ _ _ _
    rw [List.length_append, List.flatMap_append]
    exact h2
  obtain ⟨ao', cap', rfl⟩ := owns_slice h2
  exact ⟨ao', cap', w', h1, h2', (ta.mono (by simp)).trans ((Touch.refl _ v.ownBlock.toList).grown h3 (fun k hk => .inl (by simp [hk]))) (fun x hx => .inl hx)⟩

theorem sh_wrap (j a : Nat) (h : j < a) (ha : (a : Int) ≤ 4) : wrap64 ((j : Int) + 1) = (j : Int) + 1 := by unfold wrap64; omega
theorem sh_val (j a : Nat) (h : j < a) (ha : (a : Int) ≤ 4) : Value.int .i64 (wrap64 ((j : Int) + 1)) = .int .i64 ((j + 1 : Nat) : Int) := by rw [sh_wrap j a h ha, Int.natCast_add]; rfl
theorem sh_mes (j a : Nat) (h : j < a) (ha : (a : Int) ≤ 4) : a - (intOf (Value.int .i64 (wrap64 ((j : Int) + 1)))).toNat < a - (intOf (Value.int .i64 (j : Int))).toNat := by
  rw [sh_wrap j a h ha]
  show a - ((j : Int) + 1).toNat < a - ((j : Int)).toNat
  omega
/-- The document's own Shape, beside the result's cell. -/
structure S10 (w V : World) (b : Nat) (x y z u : Value) : Prop where
  s : ShW w V
  st : V.heap[b]? = some (.cells #[x, y, z, u] 37 (0, 0))
  nb : w.heap.size < b
theorem S10.new {w V : World} (h : ShW w V) (x y z u : Value) : S10 w (V.alloc (.cells #[x, y, z, u] 37)) V.heap.size x y z u := ⟨h.keep ((Touch.refl _ _).alloc _), heap_alloc_new V _, lt_of_heap h.st⟩
theorem S10.keep {w V V' : World} {b : Nat} {x y z u : Value} (h : S10 w V b x y z u) (t : Touch V V' []) : S10 w V' b x y z u := ⟨h.s.keep t, (t.block _ (lt_of_heap h.st) (by simp)).trans h.st, h.nb⟩
theorem S10.shw {w V V' : World} {b : Nat} {x y z u : Value} (h : S10 w V b x y z u) (t : Touch V V' [b]) : ShW w V' := ⟨(t.block _ (lt_of_heap h.s.st) (by have := h.nb; simp; omega)).trans h.s.st, h.s.t.trans t (fun q hq => .inr (by have := h.nb; simp at hq; omega))⟩
theorem S10.set0 {w V : World} {b : Nat} {x y z u : Value} (h : S10 w V b x y z u) (q : Value) : S10 w (V.setCell ⟨b, 0, none⟩ q) b q y z u := ⟨h.shw ((Touch.refl V [b]).setCell (.inl (by simp)) _), by rw [heap_setCell_same _ _ _ _ _ _ h.st]; rfl, h.nb⟩
theorem S10.set1 {w V : World} {b : Nat} {x y z u : Value} (h : S10 w V b x y z u) (q : Value) : S10 w (V.setCell ⟨b, 1, none⟩ q) b x q z u := ⟨h.shw ((Touch.refl V [b]).setCell (.inl (by simp)) _), by rw [heap_setCell_same _ _ _ _ _ _ h.st]; rfl, h.nb⟩
theorem S10.set2 {w V : World} {b : Nat} {x y z u : Value} (h : S10 w V b x y z u) (q : Value) : S10 w (V.setCell ⟨b, 2, none⟩ q) b x y q u := ⟨h.shw ((Touch.refl V [b]).setCell (.inl (by simp)) _), by rw [heap_setCell_same _ _ _ _ _ _ h.st]; rfl, h.nb⟩
theorem S10.set3 {w V : World} {b : Nat} {x y z u : Value} (h : S10 w V b x y z u) (q : Value) : S10 w (V.setCell ⟨b, 3, none⟩ q) b x y z q := ⟨h.shw ((Touch.refl V [b]).setCell (.inl (by simp)) _), by rw [heap_setCell_same _ _ _ _ _ _ h.st]; rfl, h.nb⟩
theorem S10.fr {w V : World} {b : Nat} {x y z u : Value} (h : S10 w V b x y z u) (j : Nat) : V.frozen? ⟨b, j, none⟩ = false := by unfold World.frozen?; rw [h.st]; simp

/-- What is known where the switch begins. -/
structure DatP (w V : World) (k n : Int) (ao : Option Addr) (p cap : Nat) (h : List Int) : Prop where
  s : ShW w V
  v : ClV V ao p cap h
  ok : okO k n = true
  p : (p : Int) = tvN k n
  r : h.all rightB = true
  e : shE k n h = if goodS k n h then 0 else 8

set_option maxRecDepth 100000 in
set_option maxHeartbeats 2000000 in
theorem rshapeof_any {w : World} (k n : Int) {ao : Option Addr} {p cap : Nat} {h : List Int} (hh : ClV w ao p cap h) (hp : p ≤ 9223372036854775807) :
    Calls Tryz.prog 16 #[.int .u8 k, .int .i64 n, .slice ao p cap] w (SoP w k n h) := by
  have HTN : Hid (∀ W, HidC Tryz.prog 18 #[.int .u8 k, .int .i64 n] W fun e w' => e = .returned (.int .i64 (tvN k n)) ∧ Touch W w' []) := fun W => ⟨rtvars_any k n W⟩
  have HS0 : Hid _ := ShW.new w
  have HHV : Hid _ := hh
  have HLN : Hid _ := hh.len
  cases ho : okO k n with
  | false =>
    have HE : Hid (shE k n h = 3) := by show _ = _; unfold shE; rw [ho]; rfl
    have HO : Hid (shO k n h = ⟨0, 0, 0, []⟩) := by show _ = _; unfold shO; rw [HE.out]; rfl
    have hz : tvN k n = 0 := by unfold tvN; rw [ho]; rfl
    rw [hz] at HTN
    clear hh hz
    go_enter Tryz.func16, Tryz.ntmps16
    go_wp2_with fail
    refine (HTN.out _).out.mono ?_
    clear HTN
    rintro e w1 ⟨rfl, t⟩
    have hs : ShW w w1 := HS0.out.keep t
    obtain ⟨s0, s1, s2, s3⟩ := shp4 hs.st
    have f0 := hs.fr 0
    have f1 := hs.fr 1
    have f2 := hs.fr 2
    have f3 := hs.fr 3
    have HFIN : Hid _ := hs.fin (.int .i64 0) (.int .i64 0) (.int .i64 0) (.slice none 0 0)
    clear t hs HS0
    go_wp2
    obtain ⟨u0, u1, u2⟩ := HFIN.out
    obtain ⟨p0, p1, p2, p3⟩ := shp4 u2
    refine bodyPost_ret (v := .tuple #[.agg #[.int .i64 0, .int .i64 0, .int .i64 0, .slice none 0 0], .int .i64 3]) ?_ rfl ⟨0, none, 0, by rw [HO.out, HE.out], by rw [HO.out]; exact clv_nil _, u1⟩
    simp [results, Tryz.results16, go_sem, p0, p1, p2, p3]
  | true =>
    have htv := tv_le ho
    have HOK : Hid _ := ho
    have hl := hh.len
    have hz : (tvN k n == 0) = false := by simp; omega
    by_cases hpt : (p : Int) = tvN k n
    rotate_left
    · have HE : Hid (shE k n h = 2) := by show _ = _; unfold shE; rw [ho, if_pos rfl, if_neg (by rw [← hl]; exact hpt)]
      have HO : Hid (shO k n h = ⟨0, 0, 0, []⟩) := by show _ = _; unfold shO; rw [HE.out]; rfl
      have hpt2 : ((p : Int) == tvN k n) = false := by simpa using hpt
      clear hh HHV hl hpt htv HLN
      generalize tvN k n = tv at *
      go_enter Tryz.func16, Tryz.ntmps16
      go_wp2_with fail
      refine (HTN.out _).out.mono ?_
      clear HTN
      rintro e w2 ⟨rfl, t⟩
      have hs : ShW w w2 := HS0.out.keep t
      obtain ⟨s0, s1, s2, s3⟩ := shp4 hs.st
      have f0 := hs.fr 0
      have f1 := hs.fr 1
      have f2 := hs.fr 2
      have f3 := hs.fr 3
      have HFIN : Hid _ := hs.fin (.int .i64 0) (.int .i64 0) (.int .i64 0) (.slice none 0 0)
      clear t hs HS0
      go_wp2
      obtain ⟨u0, u1, u2⟩ := HFIN.out
      obtain ⟨p0, p1, p2, p3⟩ := shp4 u2
      refine bodyPost_ret (v := .tuple #[.agg #[.int .i64 0, .int .i64 0, .int .i64 0, .slice none 0 0], .int .i64 2]) ?_ rfl ⟨0, none, 0, by rw [HO.out, HE.out], by rw [HO.out]; exact clv_nil _, u1⟩
      simp [results, Tryz.results16, go_sem, p0, p1, p2, p3]
    have HPT : Hid _ := hpt
    have HEG : Hid (shE k n h = if goodS k n h then 0 else 8) := by show _ = _; unfold shE; rw [ho, if_pos rfl, if_pos (by rw [← hl]; exact hpt)]
    have hp0 : ((p : Int) == 0) = false := by simp; omega
    have hp6 : p ≤ 6 := by omega
    rw [← hpt] at HTN
    clear hh hl hpt htv hz
    go_enter Tryz.func16, Tryz.ntmps16
    go_wp2_with fail
    refine (HTN.out _).out.mono ?_
    clear HTN
    rintro e w2 ⟨rfl, t⟩
    have HS2 : Hid (ShW w w2) := HS0.out.keep t
    clear t HS0
    go_wp2_with fail
    go_loopw [9] (fun i wr => ∃ j : Nat, i = .int .i64 j ∧ j ≤ p ∧ h.all rightB = (h.drop j).all rightB ∧ Touch w2 wr []) (fun i _ => p - (intOf i).toNat)
    case atStart => exact ⟨0, rfl, Nat.zero_le _, rfl, Touch.refl _ _⟩
    case round =>
      obtain ⟨j, rfl, hj, hR, hT⟩ := hrel
      have HS3 : Hid (ShW w wr) := HS2.out.keep hT
      by_cases hlt : j < p
      · have h1 : (j : Int) < p := by omega
        have h0 : (0 : Int) ≤ j := by omega
        have hjl : j < h.length := by rw [← HLN.out]; exact hlt
        have hjc : j < cap := Nat.lt_of_lt_of_le hlt HHV.out.le
        obtain ⟨g, off, rfl, hg, x0⟩ := (HHV.out.keep (show ShW w wr from HS3.out).t).at j hjl
        have hdrop : h.drop j = h[j] :: h.drop (j + 1) := List.drop_eq_getElem_cons hjl
        rw [hdrop, List.all_cons] at hR
        have hxw := HHV.out.wf h[j] (List.getElem_mem hjl)
        generalize h[j] = x at *
        have HRI : Hid (HidC Tryz.prog 39 #[.int .u64 x] wr fun e w' => e = .returned (.bool (rightB x)) ∧ wr = w') := ⟨rright_any x hxw wr⟩
        have HR : Hid _ := hR
        have HT : Hid _ := hT
        clear hR hT hdrop hxw
        generalize rightB x = rb at *
        go_wp2_with fail
        refine HRI.out.out.mono ?_
        clear HRI
        rintro e w3 ⟨rfl, rfl⟩
        cases rb with
        | false =>
          have HG : Hid (goodS k n h = false) := by show _ = _; unfold goodS; rw [show h.all rightB = _ from HR.out]; rfl
          have HE : Hid (shE k n h = 8) := by show _ = _; rw [HEG.out, show goodS k n h = false from HG.out]; rfl
          have HO : Hid (shO k n h = ⟨0, 0, 0, []⟩) := by show _ = _; unfold shO; rw [HE.out]; rfl
          have hs : ShW w wr := HS3.out
          obtain ⟨s0, s1, s2, s3⟩ := shp4 hs.st
          have f0 := hs.fr 0
          have f1 := hs.fr 1
          have f2 := hs.fr 2
          have f3 := hs.fr 3
          have HFIN : Hid _ := hs.fin (.int .i64 0) (.int .i64 0) (.int .i64 0) (.slice none 0 0)
          clear hs HS3 HR HEG
          go_wp2
          obtain ⟨u0, u1, u2⟩ := HFIN.out
          obtain ⟨p0, p1, p2, p3⟩ := shp4 u2
          refine bodyPost_ret (v := .tuple #[.agg #[.int .i64 0, .int .i64 0, .int .i64 0, .slice none 0 0], .int .i64 8]) ?_ rfl ⟨0, none, 0, by rw [HO.out, HE.out], by rw [HO.out]; exact clv_nil _, u1⟩
          simp [results, Tryz.results16, go_sem, p0, p1, p2, p3]
        | true =>
          have HR2 : Hid (h.all rightB = (h.drop (j + 1)).all rightB) := by show _ = _; rw [show h.all rightB = _ from HR.out]; simp
          clear HR
          go_wp2
          go_roundw
          case rel => exact ⟨j + 1, by go_num, by omega, HR2.out, HT.out⟩
          case measure => simp [intOf]; omega
      · have h1 : ¬ (j : Int) < p := by omega
        have hjN : j = h.length := by rw [← HLN.out]; omega
        rw [hjN, List.drop_length] at hR
        have HA : Hid (h.all rightB = true) := hR
        clear hR hT hjN
        have hdat : DatP w wr k n ao p cap h := ⟨HS3.out, HHV.out.keep (show ShW w wr from HS3.out).t, HOK.out, HPT.out, HA.out, HEG.out⟩
        have HDAT : Hid (DatP w wr k n ao p cap h) := hdat
        clear hdat HS3 HS2 HHV HA HEG
        have hkinds := okO_kinds HOK.out
        have hwz := (okO_is k n).1 HOK.out
        have hnew := S10.new (show ShW w wr from HDAT.out.s) (.int .i64 (-1)) (.int .i64 0) (.int .i64 0) (.slice none 0 0)
        have HNEW : Hid _ := hnew
        have tN : Touch wr (wr.alloc (.cells #[.int .i64 (-1), .int .i64 0, .int .i64 0, .slice none 0 0] 37)) [] := (Touch.refl _ _).alloc _
        have HTN : Hid _ := tN
        rcases hkinds with rfl | rfl | rfl | rfl
        · have hp1 : p = 1 := by have := HDAT.out.p; rw [show tvN 1 n = 1 from by unfold tvN; rw [show okO 1 n = true from HDAT.out.ok]; rfl] at this; omega
          subst hp1
          obtain ⟨x, rfl⟩ := list1 (HLN.out).symm
          obtain ⟨g, off, rfl, hg, c0⟩ := (HDAT.out.v.keep tN).at 0 (by simp)
          have hcap := HDAT.out.v.le
          have hxr : rightB x = true := by have := HDAT.out.r; simpa using this
          have hxw := HDAT.out.v.wf x (by simp)
          have HWH : Hid (∀ W, HidC Tryz.prog 40 #[.int .u64 x, .int .i64 4] W fun e w' => e = .returned (.int .i64 (numW x 4)) ∧ W = w') := fun W => ⟨rwhole24_any x 4 hxw hxr W⟩
          have hnn := fun hq => numR_nonneg (most := 4) hxw hq
          have HGS : Hid (goodS 1 n [x] = (numR x 4).2) := by show _ = _; unfold goodS goodN; rw [HDAT.out.r]; rw [if_pos rfl, Bool.true_and]; rfl
          have HDS : Hid (datS 1 n [x] = ⟨(numR x 4).1 - 1, 0, 0, []⟩) := by show _ = _; unfold datS; rw [if_pos rfl]; rfl
          have HEQ : Hid (shE 1 n [x] = if goodS 1 n [x] then 0 else 8) := HDAT.out.e
          have hnw : numW x 4 = if (numR x 4).2 then (numR x 4).1 else -1 := rfl
          rw [hnw] at HWH
          generalize numR x 4 = r at *
          obtain ⟨r1, r2⟩ := r
          simp only at HWH hnn HGS HDS
          have HWR : Hid (ShW w wr) := HDAT.out.s
          clear hnw hwz hxr hxw tN hnew HDAT
          have x0 : (wr.alloc (.cells #[.int .i64 (-1), .int .i64 0, .int .i64 0, .slice none 0 0] 37)).cell? ⟨g, off, none⟩ = some (.int .u64 x) := c0
          clear c0
          cases r2 with
          | true =>
            have hr1 := hnn rfl
            have hr2 : (0 : Int) ≤ r1 := hr1.1
            have hw1 : IntKind.i64.wrap (r1 - 1) = r1 - 1 := by rw [IntKind.wrap_i64]; omega
            have HE : Hid (shE 1 n [x] = 0) := by show _ = _; rw [HEQ.out, HGS.out]; rfl
            have HO : Hid (shO 1 n [x] = ⟨r1 - 1, 0, 0, []⟩) := by show _ = _; unfold shO; rw [if_pos (show shE 1 n [x] = 0 from HE.out)]; exact HDS.out
            go_wp2_with fail
            refine (HWH.out _).out.mono ?_
            clear HWH
            rintro e _ ⟨rfl, rfl⟩
            clear x0
            have hb9 := S10.new (show ShW w wr from HWR.out) (.int .i64 (r1 - 1)) (.int .i64 (0)) (.int .i64 0) (.slice none 0 0)
            have hs : ShW w (wr.alloc (.cells #[.int .i64 (r1 - 1), .int .i64 (0), .int .i64 0, .slice none 0 0] 37)) := hb9.s
            obtain ⟨s0, s1, s2, s3⟩ := shp4 hs.st
            obtain ⟨y0, y1, y2, y3⟩ := shp4 hb9.st
            have f0 := hs.fr 0
            have f1 := hs.fr 1
            have f2 := hs.fr 2
            have f3 := hs.fr 3
            have hfin := hs.fin (.int .i64 (r1 - 1)) (.int .i64 (0)) (.int .i64 (0)) (.slice none 0 0)
            have HFIN : Hid _ := hfin
            clear hs hb9 hfin
            go_wp2
            obtain ⟨u0, u1, u2⟩ := HFIN.out
            obtain ⟨p0, p1, p2, p3⟩ := shp4 u2
            refine bodyPost_ret (v := .tuple #[.agg #[.int .i64 (r1 - 1), .int .i64 (0), .int .i64 (0), .slice none 0 0], .int .i64 0]) ?_ rfl ⟨0, none, 0, by rw [HO.out, HE.out], by rw [HO.out]; exact clv_nil _, u1⟩
            simp [results, Tryz.results16, go_sem, p0, p1, p2, p3]
          | false =>
            have HE : Hid (shE 1 n [x] = 8) := by show _ = _; rw [HEQ.out, HGS.out]; rfl
            have HO : Hid (shO 1 n [x] = ⟨0, 0, 0, []⟩) := by show _ = _; unfold shO; rw [if_neg (by rw [show shE 1 n [x] = 8 from HE.out]; decide)]
            go_wp2_with fail
            refine (HWH.out _).out.mono ?_
            clear HWH
            rintro e _ ⟨rfl, rfl⟩
            clear x0
            have hs : ShW w (wr.alloc (.cells #[.int .i64 (-2), .int .i64 (0), .int .i64 0, .slice none 0 0] 37)) := (S10.new (show ShW w wr from HWR.out) (.int .i64 (-2)) (.int .i64 (0)) (.int .i64 0) (.slice none 0 0)).s
            obtain ⟨s0, s1, s2, s3⟩ := shp4 hs.st
            have f0 := hs.fr 0
            have f1 := hs.fr 1
            have f2 := hs.fr 2
            have f3 := hs.fr 3
            have HFIN : Hid _ := hs.fin (.int .i64 0) (.int .i64 0) (.int .i64 0) (.slice none 0 0)
            clear hs
            go_wp2
            obtain ⟨u0, u1, u2⟩ := HFIN.out
            obtain ⟨p0, p1, p2, p3⟩ := shp4 u2
            refine bodyPost_ret (v := .tuple #[.agg #[.int .i64 0, .int .i64 0, .int .i64 0, .slice none 0 0], .int .i64 8]) ?_ rfl ⟨0, none, 0, by rw [HO.out, HE.out], by rw [HO.out]; exact clv_nil _, u1⟩
            simp [results, Tryz.results16, go_sem, p0, p1, p2, p3]
        · have hp1 : p = 1 := by have := HDAT.out.p; rw [show tvN 2 n = 1 from by unfold tvN; rw [show okO 2 n = true from HDAT.out.ok]; rfl] at this; omega
          subst hp1
          obtain ⟨x, rfl⟩ := list1 (HLN.out).symm
          obtain ⟨g, off, rfl, hg, c0⟩ := (HDAT.out.v.keep tN).at 0 (by simp)
          have hcap := HDAT.out.v.le
          have hxr : rightB x = true := by have := HDAT.out.r; simpa using this
          have hxw := HDAT.out.v.wf x (by simp)
          have HWH : Hid (∀ W, HidC Tryz.prog 40 #[.int .u64 x, .int .i64 99] W fun e w' => e = .returned (.int .i64 (numW x 99)) ∧ W = w') := fun W => ⟨rwhole24_any x 99 hxw hxr W⟩
          have hnn := fun hq => numR_nonneg (most := 99) hxw hq
          have HGS : Hid (goodS 2 n [x] = (numR x 99).2) := by show _ = _; unfold goodS goodN; rw [HDAT.out.r]; rw [if_neg (by decide), if_pos rfl, Bool.true_and]; rfl
          have HDS : Hid (datS 2 n [x] = ⟨-1, (numR x 99).1, 0, []⟩) := by show _ = _; unfold datS; rw [if_neg (by decide), if_pos rfl]; rfl
          have HEQ : Hid (shE 2 n [x] = if goodS 2 n [x] then 0 else 8) := HDAT.out.e
          have hnw : numW x 99 = if (numR x 99).2 then (numR x 99).1 else -1 := rfl
          rw [hnw] at HWH
          generalize numR x 99 = r at *
          obtain ⟨r1, r2⟩ := r
          simp only at HWH hnn HGS HDS
          have HWR : Hid (ShW w wr) := HDAT.out.s
          clear hnw hwz hxr hxw tN hnew HDAT
          have x0 : (wr.alloc (.cells #[.int .i64 (-1), .int .i64 0, .int .i64 0, .slice none 0 0] 37)).cell? ⟨g, off, none⟩ = some (.int .u64 x) := c0
          clear c0
          cases r2 with
          | true =>
            have hr1 := hnn rfl
            have hr2 : (0 : Int) ≤ r1 := hr1.1
            have hw1 : IntKind.i64.wrap (r1 - 1) = r1 - 1 := by rw [IntKind.wrap_i64]; omega
            have HE : Hid (shE 2 n [x] = 0) := by show _ = _; rw [HEQ.out, HGS.out]; rfl
            have HO : Hid (shO 2 n [x] = ⟨-1, r1, 0, []⟩) := by show _ = _; unfold shO; rw [if_pos (show shE 2 n [x] = 0 from HE.out)]; exact HDS.out
            go_wp2_with fail
            refine (HWH.out _).out.mono ?_
            clear HWH
            rintro e _ ⟨rfl, rfl⟩
            clear x0
            have hb9 := S10.new (show ShW w wr from HWR.out) (.int .i64 (-1)) (.int .i64 (r1)) (.int .i64 0) (.slice none 0 0)
            have hs : ShW w (wr.alloc (.cells #[.int .i64 (-1), .int .i64 (r1), .int .i64 0, .slice none 0 0] 37)) := hb9.s
            obtain ⟨s0, s1, s2, s3⟩ := shp4 hs.st
            obtain ⟨y0, y1, y2, y3⟩ := shp4 hb9.st
            have f0 := hs.fr 0
            have f1 := hs.fr 1
            have f2 := hs.fr 2
            have f3 := hs.fr 3
            have hfin := hs.fin (.int .i64 (-1)) (.int .i64 (r1)) (.int .i64 (0)) (.slice none 0 0)
            have HFIN : Hid _ := hfin
            clear hs hb9 hfin
            go_wp2
            obtain ⟨u0, u1, u2⟩ := HFIN.out
            obtain ⟨p0, p1, p2, p3⟩ := shp4 u2
            refine bodyPost_ret (v := .tuple #[.agg #[.int .i64 (-1), .int .i64 (r1), .int .i64 (0), .slice none 0 0], .int .i64 0]) ?_ rfl ⟨0, none, 0, by rw [HO.out, HE.out], by rw [HO.out]; exact clv_nil _, u1⟩
            simp [results, Tryz.results16, go_sem, p0, p1, p2, p3]
          | false =>
            have HE : Hid (shE 2 n [x] = 8) := by show _ = _; rw [HEQ.out, HGS.out]; rfl
            have HO : Hid (shO 2 n [x] = ⟨0, 0, 0, []⟩) := by show _ = _; unfold shO; rw [if_neg (by rw [show shE 2 n [x] = 8 from HE.out]; decide)]
            go_wp2_with fail
            refine (HWH.out _).out.mono ?_
            clear HWH
            rintro e _ ⟨rfl, rfl⟩
            clear x0
            have hs : ShW w (wr.alloc (.cells #[.int .i64 (-1), .int .i64 (-1), .int .i64 0, .slice none 0 0] 37)) := (S10.new (show ShW w wr from HWR.out) (.int .i64 (-1)) (.int .i64 (-1)) (.int .i64 0) (.slice none 0 0)).s
            obtain ⟨s0, s1, s2, s3⟩ := shp4 hs.st
            have f0 := hs.fr 0
            have f1 := hs.fr 1
            have f2 := hs.fr 2
            have f3 := hs.fr 3
            have HFIN : Hid _ := hs.fin (.int .i64 0) (.int .i64 0) (.int .i64 0) (.slice none 0 0)
            clear hs
            go_wp2
            obtain ⟨u0, u1, u2⟩ := HFIN.out
            obtain ⟨p0, p1, p2, p3⟩ := shp4 u2
            refine bodyPost_ret (v := .tuple #[.agg #[.int .i64 0, .int .i64 0, .int .i64 0, .slice none 0 0], .int .i64 8]) ?_ rfl ⟨0, none, 0, by rw [HO.out, HE.out], by rw [HO.out]; exact clv_nil _, u1⟩
            simp [results, Tryz.results16, go_sem, p0, p1, p2, p3]
        · have hp1 : (p : Int) = n + 2 := by have := HDAT.out.p; rw [show tvN 3 n = n + 2 from by unfold tvN; rw [show okO 3 n = true from HDAT.out.ok]; rfl] at this; omega
          have hn : 1 ≤ n ∧ n ≤ 4 := by omega
          obtain ⟨x, y, P, rfl⟩ := list2' (show 2 ≤ h.length by have := HLN.out; omega)
          obtain ⟨g, off, rfl, hg, c0⟩ := (HDAT.out.v.keep tN).at 0 (by simp)
          obtain ⟨g', off', e', hg', c1⟩ := (HDAT.out.v.keep tN).at 1 (by simp)
          simp only [Option.some.injEq, Addr.mk.injEq, and_true] at e'
          obtain ⟨rfl, rfl⟩ := e'
          have hcap := HDAT.out.v.le
          have hgw : g < wr.heap.size := by obtain ⟨g2, off2, e2, hg2, _⟩ := HDAT.out.v.at 0 (by simp); simp only [Option.some.injEq, Addr.mk.injEq, and_true] at e2; omega
          have hpl : P.length = n.toNat := by have := HLN.out; simp at this; omega
          have hall := HDAT.out.r
          have hxr : rightB x = true := by simp at hall; exact hall.1
          have hyr : rightB y = true := by simp at hall; exact hall.2.1
          have hxw := HDAT.out.v.wf x (by simp)
          have hyw := HDAT.out.v.wf y (by simp)
          have HWX : Hid (∀ W, HidC Tryz.prog 40 #[.int .u64 x, .int .i64 n] W fun e w' => e = .returned (.int .i64 (numW x n)) ∧ W = w') := fun W => ⟨rwhole24_any x n hxw hxr W⟩
          have HWY : Hid (∀ W, HidC Tryz.prog 40 #[.int .u64 y, .int .i64 (n - 1)] W fun e w' => e = .returned (.int .i64 (numW y (n - 1))) ∧ W = w') := fun W => ⟨rwhole24_any y (n - 1) hyw hyr W⟩
          have hnx := fun hq => numR_nonneg (most := n) hxw hq
          have hny := fun hq => numR_nonneg (most := n - 1) hyw hq
          have HGS : Hid (goodS 3 n (x :: y :: P) = ((numR x n).2 && (numR y (n - 1)).2)) := by show _ = _; unfold goodS goodN; rw [HDAT.out.r, if_neg (by decide), if_neg (by decide), if_pos rfl, Bool.true_and]; rfl
          have HDS : Hid (datS 3 n (x :: y :: P) = ⟨-1, 0, 0, rndL P (numR y (n - 1)).1.toNat (numR x n).1.toNat⟩) := by show _ = _; unfold datS; rw [if_neg (by decide), if_neg (by decide), if_pos rfl]; rfl
          have HEQ : Hid (shE 3 n (x :: y :: P) = if goodS 3 n (x :: y :: P) then 0 else 8) := HDAT.out.e
          have hnw : numW x n = if (numR x n).2 then (numR x n).1 else -1 := rfl
          have hnw2 : numW y (n - 1) = if (numR y (n - 1)).2 then (numR y (n - 1)).1 else -1 := rfl
          obtain ⟨AX, hAX⟩ : ∃ a, a = numW x n := ⟨_, rfl⟩
          obtain ⟨AY, hAY⟩ : ∃ a, a = numW y (n - 1) := ⟨_, rfl⟩
          rw [← hAX] at HWX
          rw [← hAY] at HWY
          rw [hnw] at hAX
          rw [hnw2] at hAY
          have HRW : Hid (ClV (wr.alloc (.cells #[.int .i64 (-1), .int .i64 0, .int .i64 0, .slice none 0 0] 37)) (some ⟨g, off, none⟩) p cap (x :: y :: P)) := HDAT.out.v.keep tN
          obtain ⟨XW, hXW⟩ : ∃ W, W = (wr.alloc (.cells #[.int .i64 (-1), .int .i64 0, .int .i64 0, .slice none 0 0] 37)) := ⟨_, rfl⟩
          rw [← hXW] at HNEW c0 c1 HRW
          have hxs : XW.heap.size = wr.heap.size + 1 := by rw [hXW]; simp
          have hd : XW.drew.cell? ⟨g, off, none⟩ = some (.int .u64 x) ∧ XW.drew.cell? ⟨g, off + 1, none⟩ = some (.int .u64 y) := ⟨c0, c1⟩
          have HXD : Hid _ := hd
          have HB1 : Hid _ := (show S10 w XW _ _ _ _ _ from HNEW.out).keep (Touch.refl XW []).drew
          have HRD : Hid _ := (show ClV XW (some ⟨g, off, none⟩) p cap (x :: y :: P) from HRW.out).keep (Touch.refl XW []).drew
          have HSZ : Hid (XW.drew.heap.size = wr.heap.size + 1 ∧ g < wr.heap.size) := ⟨hxs, hgw⟩
          have hw1 : IntKind.i64.wrap (n - 1) = n - 1 := by rw [IntKind.wrap_i64]; omega
          generalize numR x n = rx at *
          generalize numR y (n - 1) = ry at *
          obtain ⟨rx1, rx2⟩ := rx
          obtain ⟨ry1, ry2⟩ := ry
          simp only at hAX hAY hnx hny HGS HDS
          have HWR : Hid (ShW w wr) := HDAT.out.s
          have HAX : Hid _ := hAX
          have HAY : Hid _ := hAY
          have HPL : Hid _ := hpl
          have HP1 : Hid _ := hp1
          have hp2 : 2 ≤ p := by omega
          have hp2' : (2 : Int) ≤ p := by omega
          clear hnw hnw2 hwz hxr hyr hxw hyw hall tN hnew HDAT hd hAX hAY HTN hg hg' hgw HNEW HRW hxs hpl hp1
          go_wp2_with fail
          simp only [← hXW]
          clear hXW
          generalize wr.heap.size = b at *
          refine wp_region_held_drew (S := (fun w' => w'.cell? ⟨g, off, none⟩ = some (.int .u64 x) ∧ w'.cell? ⟨g, off + 1, none⟩ = some (.int .u64 y))) (by kernel_rfl) ⟨c0, c1⟩ (fun hHeld => ?_)
          refine wpAnyH_take (i := 0) (v := .slice (some ⟨g, off, none⟩) p cap) rfl (by kernel_rfl) (by kernel_rfl) (by kernel_rfl) (fun _ _ _ h => h) (Or.inl ⟨by rfl, ?_⟩) hHeld ?_
          · intro w' hSw
            try simp only [Act.put, List.getElem_toArray, List.getElem_cons_succ, List.getElem_cons_zero, List.setIfInBounds_toArray, List.set_cons_zero, List.set_cons_succ]
            go_simp
          try simp only [Act.put, List.getElem_toArray, List.getElem_cons_succ, List.getElem_cons_zero, List.setIfInBounds_toArray, List.set_cons_zero, List.set_cons_succ]
          refine wpAnyH_take (i := 1) (v := .pointer (some ⟨g, off, none⟩)) rfl (by kernel_rfl) (by kernel_rfl) (by kernel_rfl) (fun _ _ _ h => h) (Or.inl ⟨by rfl, ?_⟩) hHeld ?_
          · intro w' hSw
            try simp only [Act.put, List.getElem_toArray, List.getElem_cons_succ, List.getElem_cons_zero, List.setIfInBounds_toArray, List.set_cons_zero, List.set_cons_succ]
            (go_simp; try (intro hq; exfalso; omega))
          try simp only [Act.put, List.getElem_toArray, List.getElem_cons_succ, List.getElem_cons_zero, List.setIfInBounds_toArray, List.set_cons_zero, List.set_cons_succ]
          refine wpAnyH_take (i := 2) (v := .int .u64 x) rfl (by kernel_rfl) (by kernel_rfl) (by kernel_rfl) (fun _ _ _ h => h) (Or.inl ⟨by rfl, ?_⟩) hHeld ?_
          · intro w' hSw
            try simp only [Act.put, List.getElem_toArray, List.getElem_cons_succ, List.getElem_cons_zero, List.setIfInBounds_toArray, List.set_cons_zero, List.set_cons_succ]
            obtain ⟨s0, s1⟩ := hSw; go_simp
          try simp only [Act.put, List.getElem_toArray, List.getElem_cons_succ, List.getElem_cons_zero, List.setIfInBounds_toArray, List.set_cons_zero, List.set_cons_succ]
          refine wpAnyH_take (i := 3) (v := .int .i64 n) rfl (by kernel_rfl) (by kernel_rfl) (by kernel_rfl) (fun _ _ _ h => h) (Or.inl ⟨by rfl, ?_⟩) hHeld ?_
          · intro w' hSw
            try simp only [Act.put, List.getElem_toArray, List.getElem_cons_succ, List.getElem_cons_zero, List.setIfInBounds_toArray, List.set_cons_zero, List.set_cons_succ]
            go_simp
          try simp only [Act.put, List.getElem_toArray, List.getElem_cons_succ, List.getElem_cons_zero, List.setIfInBounds_toArray, List.set_cons_zero, List.set_cons_succ]
          refine wpAnyH_take (i := 5) (v := .slice (some ⟨g, off, none⟩) p cap) rfl (by kernel_rfl) (by kernel_rfl) (by kernel_rfl) (fun _ _ _ h => h) (Or.inl ⟨by rfl, ?_⟩) hHeld ?_
          · intro w' hSw
            try simp only [Act.put, List.getElem_toArray, List.getElem_cons_succ, List.getElem_cons_zero, List.setIfInBounds_toArray, List.set_cons_zero, List.set_cons_succ]
            go_simp
          try simp only [Act.put, List.getElem_toArray, List.getElem_cons_succ, List.getElem_cons_zero, List.setIfInBounds_toArray, List.set_cons_zero, List.set_cons_succ]
          refine wpAnyH_take (i := 6) (v := .pointer (some ⟨g, off + 1, none⟩)) rfl (by kernel_rfl) (by kernel_rfl) (by kernel_rfl) (fun _ _ _ h => h) (Or.inl ⟨by rfl, ?_⟩) hHeld ?_
          · intro w' hSw
            try simp only [Act.put, List.getElem_toArray, List.getElem_cons_succ, List.getElem_cons_zero, List.setIfInBounds_toArray, List.set_cons_zero, List.set_cons_succ]
            (go_simp; try (intro hq; exfalso; omega))
          try simp only [Act.put, List.getElem_toArray, List.getElem_cons_succ, List.getElem_cons_zero, List.setIfInBounds_toArray, List.set_cons_zero, List.set_cons_succ]
          refine wpAnyH_take (i := 7) (v := .int .u64 y) rfl (by kernel_rfl) (by kernel_rfl) (by kernel_rfl) (fun _ _ _ h => h) (Or.inl ⟨by rfl, ?_⟩) hHeld ?_
          · intro w' hSw
            try simp only [Act.put, List.getElem_toArray, List.getElem_cons_succ, List.getElem_cons_zero, List.setIfInBounds_toArray, List.set_cons_zero, List.set_cons_succ]
            obtain ⟨s0, s1⟩ := hSw; go_simp
          try simp only [Act.put, List.getElem_toArray, List.getElem_cons_succ, List.getElem_cons_zero, List.setIfInBounds_toArray, List.set_cons_zero, List.set_cons_succ]
          refine wpAnyH_take (i := 8) (v := .int .i64 n) rfl (by kernel_rfl) (by kernel_rfl) (by kernel_rfl) (fun _ _ _ h => h) (Or.inl ⟨by rfl, ?_⟩) hHeld ?_
          · intro w' hSw
            try simp only [Act.put, List.getElem_toArray, List.getElem_cons_succ, List.getElem_cons_zero, List.setIfInBounds_toArray, List.set_cons_zero, List.set_cons_succ]
            go_simp
          try simp only [Act.put, List.getElem_toArray, List.getElem_cons_succ, List.getElem_cons_zero, List.setIfInBounds_toArray, List.set_cons_zero, List.set_cons_succ]
          refine wpAnyH_take (i := 9) (v := .int .i64 (n - 1)) rfl (by kernel_rfl) (by kernel_rfl) (by kernel_rfl) (fun _ _ _ h => h) (Or.inl ⟨by rfl, ?_⟩) hHeld ?_
          · intro w' hSw
            try simp only [Act.put, List.getElem_toArray, List.getElem_cons_succ, List.getElem_cons_zero, List.setIfInBounds_toArray, List.set_cons_zero, List.set_cons_succ]
            go_simp
          try simp only [Act.put, List.getElem_toArray, List.getElem_cons_succ, List.getElem_cons_zero, List.setIfInBounds_toArray, List.set_cons_zero, List.set_cons_succ]
          clear hHeld
          refine wpAnyH_ready (rs := [4]) (by kernel_rfl) (by simp) (AllReadyH.cons rfl (fun K hK => ?_) AllReadyH.nil)
          rw [if_pos (by rfl)]
          go_wp2_with fail
          refine (HWX.out _).out.mono ?_
          clear HWX
          rintro e _ ⟨rfl, rfl⟩
          obtain ⟨d0, d1⟩ := HXD.out
          refine hK.out _ _ ⟨d0, d1⟩ (fun hHeld => ?_)
          clear hK
          try simp only [Act.put, List.getElem_toArray, List.getElem_cons_succ, List.getElem_cons_zero, List.setIfInBounds_toArray, List.set_cons_zero, List.set_cons_succ]
          clear hHeld
          refine wpAnyH_ready (rs := [10]) (by kernel_rfl) (by simp) (AllReadyH.cons rfl (fun K hK => ?_) AllReadyH.nil)
          rw [if_pos (by rfl)]
          go_wp2_with fail
          refine (HWY.out _).out.mono ?_
          clear HWY
          rintro e _ ⟨rfl, rfl⟩
          generalize XW.drew = XD at *
          refine hK.out _ _ ⟨d0, d1⟩ (fun hHeld => ?_)
          clear hK
          try simp only [Act.put, List.getElem_toArray, List.getElem_cons_succ, List.getElem_cons_zero, List.setIfInBounds_toArray, List.set_cons_zero, List.set_cons_succ]
          refine wpAnyH_take (i := 11) (v := .int .i64 AX) rfl (by kernel_rfl) (by kernel_rfl) (by kernel_rfl) (fun _ _ _ h => h) (Or.inl ⟨by rfl, ?_⟩) hHeld ?_
          · intro w' hSw
            try simp only [Act.put, List.getElem_toArray, List.getElem_cons_succ, List.getElem_cons_zero, List.setIfInBounds_toArray, List.set_cons_zero, List.set_cons_succ]
            go_simp
          try simp only [Act.put, List.getElem_toArray, List.getElem_cons_succ, List.getElem_cons_zero, List.setIfInBounds_toArray, List.set_cons_zero, List.set_cons_succ]
          refine wpAnyH_take (i := 12) (v := .int .i64 AY) rfl (by kernel_rfl) (by kernel_rfl) (by kernel_rfl) (fun _ _ _ h => h) (Or.inl ⟨by rfl, ?_⟩) hHeld ?_
          · intro w' hSw
            try simp only [Act.put, List.getElem_toArray, List.getElem_cons_succ, List.getElem_cons_zero, List.setIfInBounds_toArray, List.set_cons_zero, List.set_cons_succ]
            go_simp
          try simp only [Act.put, List.getElem_toArray, List.getElem_cons_succ, List.getElem_cons_zero, List.setIfInBounds_toArray, List.set_cons_zero, List.set_cons_succ]
          clear hHeld
          refine wpAnyH_done (by kernel_rfl) ?_ _
          cases rx2 with
          | true =>
            have hrx := hnx rfl
            have hax : AX = rx1 := HAX.out
            subst hax
            have hrx0 : 0 ≤ AX := hrx.1
            cases ry2 with
            | true =>
              have hry := hny rfl
              have hay : AY = ry1 := HAY.out
              subst hay
              obtain ⟨a, rfl⟩ : ∃ a : Nat, AX = (a : Int) := ⟨AX.toNat, by omega⟩
              obtain ⟨f, rfl⟩ : ∃ f : Nat, AY = (f : Int) := ⟨AY.toNat, by omega⟩
              have HE : Hid (shE 3 n (x :: y :: P) = 0) := by show _ = _; rw [HEQ.out, HGS.out]; rfl
              have HO : Hid (shO 3 n (x :: y :: P) = ⟨-1, 0, 0, rndL P f a⟩) := by show _ = _; unfold shO; rw [if_pos (show shE 3 n (x :: y :: P) = 0 from HE.out)]; exact HDS.out
              have HRNG : Hid ((a : Int) ≤ 4 ∧ (f : Int) ≤ 4) := ⟨by omega, by omega⟩
              have hf0 : (0 : Int) ≤ f := by omega
              clear hnx hny hrx hry hrx0 c0 c1 d0 d1 HXD HAX HAY HGS HDS HEQ
              go_wp2_with fail
              go_loopw [15] (fun i wq => ∃ (j : Nat) (vb : Option Addr) (vc : Nat), i = .int .i64 j ∧ j ≤ a ∧ S10 w wq b (.int .i64 (-1)) (.int .i64 0) (.int .i64 0) (.slice vb j vc) ∧ clOwn wq (b + 1) (.slice vb j vc) (rndL P f j) ∧ ClV wq (some ⟨g, off, none⟩) p cap (x :: y :: P) ∧ XD.heap.size ≤ wq.heap.size) (fun i _ => a - (intOf i).toNat)
              case atStart => exact ⟨0, none, 0, rfl, Nat.zero_le _, HB1.out, World.ownsRow_nil _ _ _ _, HRD.out, Nat.le_refl _⟩
              case round =>
                obtain ⟨j, vb, vc, rfl, hj, hb, hown, hrow, hsz⟩ := hrel
                by_cases hlt : j < a
                · have h1 : (j : Int) < a := by omega
                  have h0 : (0 : Int) ≤ j := by omega
                  obtain ⟨md, hmd⟩ : ∃ m : Nat, m = (f + j) % P.length := ⟨_, rfl⟩
                  have hpl : P.length = n.toNat := HPL.out
                  have hml : md < P.length := by rw [hmd]; exact Nat.mod_lt _ (by omega)
                  obtain ⟨g2, off2, e2, hg2, z0⟩ := hrow.at (2 + md) (by simp; omega)
                  simp only [Option.some.injEq, Addr.mk.injEq, and_true] at e2
                  obtain ⟨rfl, rfl⟩ := e2
                  have hz : (x :: y :: P)[2 + md]'(by simp; omega) = P.getD ((f + j) % P.length) 0 := by
                    rw [← hmd, List.getD_eq_getElem?_getD, List.getElem?_eq_getElem hml]
                    simp [show 2 + md = md + 1 + 1 by omega]
                  rw [hz] at z0
                  have hs := rndL_succ P f j
                  generalize P.getD ((f + j) % P.length) 0 = z at *
                  have hob : ∀ q, (Value.slice vb j vc).ownBlock = some q → b + 1 ≤ q ∧ q < wr.heap.size := fun q hq => World.ownsRow.lt hown q hq
                  have hxs : XD.heap.size = b + 1 ∧ g < b := HSZ.out
                  have tD : Touch wr wr.drew [] := (Touch.refl wr []).drew
                  obtain ⟨a1, c1, w1, r1, o1, t1⟩ := cl_appB (w := wr.drew) (B := b + 1) (ownsRow_touch hown tD (by simp)) (by show b + 1 ≤ wr.heap.size; omega) z j (rndL_len _ _ _) (by have := HRNG.out; omega)
                  rw [← hs] at o1
                  have hbD := hb.keep tD
                  have tA : Touch wr.drew (wr.drew.alloc (.cells #[.int .u64 z] 50)) [] := (Touch.refl _ _).alloc _
                  have hbA := hbD.keep tA
                  have hgD : g < wr.drew.heap.size := hg2
                  have HZ0 : Hid (wr.drew.cell? ⟨g, off + (2 + md), none⟩ = some (.int .u64 z) ∧ wr.drew.cell? ⟨b, 3, none⟩ = some (.slice vb j vc) ∧ (wr.drew.alloc (.cells #[.int .u64 z] 50)).cell? ⟨g, off + (2 + md), none⟩ = some (.int .u64 z) ∧ (wr.drew.alloc (.cells #[.int .u64 z] 50)).cell? ⟨b, 3, none⟩ = some (.slice vb j vc)) := ⟨z0, (shp4 hbD.st).2.2.2, (tA.cell (p := ⟨g, off + (2 + md), none⟩) hgD (by simp)).trans z0, (shp4 hbA.st).2.2.2⟩
                  have hb1 : S10 w w1 b (.int .i64 (-1)) (.int .i64 0) (.int .i64 0) (.slice vb j vc) := by
                    refine ⟨⟨(t1.block _ (by have := lt_of_heap hbD.s.st; exact this) (fun hm => by have := hob _ (by simpa using hm); have := hb.nb; omega)).trans hbD.s.st, hbD.s.t.trans t1 (fun q hq => .inr (by have := hob q (by simpa using hq); have := hb.nb; omega))⟩, (t1.block b (lt_of_heap hbD.st) (fun hm => by have := hob _ (by simpa using hm); omega)).trans hbD.st, hb.nb⟩
                  have hrow1 : ClV w1 (some ⟨g, off, none⟩) p cap (x :: y :: P) := (hrow.keep tD).other t1 (fun _ q hq hm => by simp [Value.ownBlock] at hq; subst hq; have := hob _ (by simpa using hm); omega)
                  have z1 : w1.cell? ⟨g, off + (2 + md), none⟩ = some (.int .u64 z) := (t1.cell (p := ⟨g, off + (2 + md), none⟩) hgD (fun hm => by have := hob _ (by simpa using hm); omega)).trans z0
                  have tS : Touch w1 (w1.setCell ⟨b, 3, none⟩ (.slice a1 (j + 1) c1)) [b] := (Touch.refl w1 _).setCell (.inl (by simp)) _
                  have HZW : Hid (w1.cell? ⟨g, off + (2 + md), none⟩ = some (.int .u64 z) ∧ (w1.setCell ⟨b, 3, none⟩ (.slice a1 (j + 1) c1)).cell? ⟨g, off + (2 + md), none⟩ = some (.int .u64 z)) := ⟨z1, (tS.cell (p := ⟨g, off + (2 + md), none⟩) (World.block_lt_of_cell? w1 _ z1) (by simp; omega)).trans z1⟩
                  have HB3 : Hid _ := hb1.set3 (.slice a1 (j + 1) c1)
                  have HO3 : Hid (clOwn (w1.setCell ⟨b, 3, none⟩ (.slice a1 (j + 1) c1)) (b + 1) (.slice a1 (j + 1) c1) (rndL P f (j + 1))) := ownsRow_touch o1 tS (fun q hq hm => by have := (World.ownsRow.lt o1 q hq).1; simp at hm; omega)
                  have HR3 : Hid (ClV (w1.setCell ⟨b, 3, none⟩ (.slice a1 (j + 1) c1)) (some ⟨g, off, none⟩) p cap (x :: y :: P)) := hrow1.other tS (fun _ q hq hm => by simp [Value.ownBlock] at hq; simp at hm; omega)
                  have HS3 : Hid (XD.heap.size ≤ (w1.setCell ⟨b, 3, none⟩ (.slice a1 (j + 1) c1)).heap.size) := by show _ ≤ _; have h1 := t1.size; have h2 := tS.size; have h3 : wr.drew.heap.size = wr.heap.size := rfl; omega
                  have zq := (shp4 hb1.st).2.2.2
                  have zf := hb1.fr 3
                  have hwa : IntKind.i64.wrap ((f : Int) + j) = (f : Int) + j := by have := HRNG.out; rw [IntKind.wrap_i64]; omega
                  have hrem : ((f : Int) + j).tmod n = md := by rw [hmd, Int.natCast_emod, Int.natCast_add, Int.tmod_eq_emod_of_nonneg (by omega), show ((P.length : Nat) : Int) = n by omega]
                  have hnz : (n == 0) = false := by simp; omega
                  have hwb : IntKind.i64.wrap (2 + (md : Int)) = 2 + (md : Int) := by rw [IntKind.wrap_i64]; omega
                  have hm0 : (0 : Int) ≤ 2 + (md : Int) := by omega
                  have hm1 : 2 + (md : Int) < p := by have := HP1.out; omega
                  have hmt : (2 + (md : Int)).toNat = 2 + md := by omega
                  have z0' : wr.cell? ⟨g, off + (2 + md), none⟩ = some (.int .u64 z) := z0
                  clear hb hown hrow hs hz hob hxs tD o1 t1 hbD tA hbA hgD hb1 hrow1 z1 tS hmd hpl hml hg2 hsz z0
                  have z0 := z0'
                  clear z0'
                  go_wp2_with fail
                  refine wp_region_held_drew (S := (fun w' => w'.cell? ⟨g, off + (2 + md), none⟩ = some (.int .u64 z))) (by kernel_rfl) z0 (fun hHeld => ?_)
                  have HZD : Hid _ := HZ0.out
                  generalize wr.drew = WD at *
                  refine wpAnyH_take (i := 0) (v := .pointer (some ⟨b, 3, none⟩)) rfl (by kernel_rfl) (by kernel_rfl) (by kernel_rfl) (fun _ _ _ h => h) (Or.inl ⟨by rfl, ?_⟩) hHeld ?_
                  · intro w' hSw
                    try simp only [Act.put, List.getElem_toArray, List.getElem_cons_succ, List.getElem_cons_zero, List.setIfInBounds_toArray, List.set_cons_zero, List.set_cons_succ]
                    go_simp
                  try simp only [Act.put, List.getElem_toArray, List.getElem_cons_succ, List.getElem_cons_zero, List.setIfInBounds_toArray, List.set_cons_zero, List.set_cons_succ]
                  refine wpAnyH_take (i := 2) (v := .slice (some ⟨g, off, none⟩) p cap) rfl (by kernel_rfl) (by kernel_rfl) (by kernel_rfl) (fun _ _ _ h => h) (Or.inl ⟨by rfl, ?_⟩) hHeld ?_
                  · intro w' hSw
                    try simp only [Act.put, List.getElem_toArray, List.getElem_cons_succ, List.getElem_cons_zero, List.setIfInBounds_toArray, List.set_cons_zero, List.set_cons_succ]
                    go_simp
                  try simp only [Act.put, List.getElem_toArray, List.getElem_cons_succ, List.getElem_cons_zero, List.setIfInBounds_toArray, List.set_cons_zero, List.set_cons_succ]
                  refine wpAnyH_take (i := 3) (v := .int .i64 f) rfl (by kernel_rfl) (by kernel_rfl) (by kernel_rfl) (fun _ _ _ h => h) (Or.inl ⟨by rfl, ?_⟩) hHeld ?_
                  · intro w' hSw
                    try simp only [Act.put, List.getElem_toArray, List.getElem_cons_succ, List.getElem_cons_zero, List.setIfInBounds_toArray, List.set_cons_zero, List.set_cons_succ]
                    go_simp
                  try simp only [Act.put, List.getElem_toArray, List.getElem_cons_succ, List.getElem_cons_zero, List.setIfInBounds_toArray, List.set_cons_zero, List.set_cons_succ]
                  refine wpAnyH_take (i := 4) (v := .int .i64 j) rfl (by kernel_rfl) (by kernel_rfl) (by kernel_rfl) (fun _ _ _ h => h) (Or.inl ⟨by rfl, ?_⟩) hHeld ?_
                  · intro w' hSw
                    try simp only [Act.put, List.getElem_toArray, List.getElem_cons_succ, List.getElem_cons_zero, List.setIfInBounds_toArray, List.set_cons_zero, List.set_cons_succ]
                    go_simp
                  try simp only [Act.put, List.getElem_toArray, List.getElem_cons_succ, List.getElem_cons_zero, List.setIfInBounds_toArray, List.set_cons_zero, List.set_cons_succ]
                  refine wpAnyH_take (i := 5) (v := .int .i64 ((f : Int) + j)) rfl (by kernel_rfl) (by kernel_rfl) (by kernel_rfl) (fun _ _ _ h => h) (Or.inl ⟨by rfl, ?_⟩) hHeld ?_
                  · intro w' hSw
                    try simp only [Act.put, List.getElem_toArray, List.getElem_cons_succ, List.getElem_cons_zero, List.setIfInBounds_toArray, List.set_cons_zero, List.set_cons_succ]
                    go_simp
                  try simp only [Act.put, List.getElem_toArray, List.getElem_cons_succ, List.getElem_cons_zero, List.setIfInBounds_toArray, List.set_cons_zero, List.set_cons_succ]
                  refine wpAnyH_take (i := 6) (v := .int .i64 n) rfl (by kernel_rfl) (by kernel_rfl) (by kernel_rfl) (fun _ _ _ h => h) (Or.inl ⟨by rfl, ?_⟩) hHeld ?_
                  · intro w' hSw
                    try simp only [Act.put, List.getElem_toArray, List.getElem_cons_succ, List.getElem_cons_zero, List.setIfInBounds_toArray, List.set_cons_zero, List.set_cons_succ]
                    go_simp
                  try simp only [Act.put, List.getElem_toArray, List.getElem_cons_succ, List.getElem_cons_zero, List.setIfInBounds_toArray, List.set_cons_zero, List.set_cons_succ]
                  refine wpAnyH_take (i := 7) (v := .int .i64 md) rfl (by kernel_rfl) (by kernel_rfl) (by kernel_rfl) (fun _ _ _ h => h) (Or.inl ⟨by rfl, ?_⟩) hHeld ?_
                  · intro w' hSw
                    try simp only [Act.put, List.getElem_toArray, List.getElem_cons_succ, List.getElem_cons_zero, List.setIfInBounds_toArray, List.set_cons_zero, List.set_cons_succ]
                    (go_simp; try omega)
                  try simp only [Act.put, List.getElem_toArray, List.getElem_cons_succ, List.getElem_cons_zero, List.setIfInBounds_toArray, List.set_cons_zero, List.set_cons_succ]
                  refine wpAnyH_take (i := 8) (v := .int .i64 (2 + (md : Int))) rfl (by kernel_rfl) (by kernel_rfl) (by kernel_rfl) (fun _ _ _ h => h) (Or.inl ⟨by rfl, ?_⟩) hHeld ?_
                  · intro w' hSw
                    try simp only [Act.put, List.getElem_toArray, List.getElem_cons_succ, List.getElem_cons_zero, List.setIfInBounds_toArray, List.set_cons_zero, List.set_cons_succ]
                    go_simp
                  try simp only [Act.put, List.getElem_toArray, List.getElem_cons_succ, List.getElem_cons_zero, List.setIfInBounds_toArray, List.set_cons_zero, List.set_cons_succ]
                  refine wpAnyH_take (i := 9) (v := .pointer (some ⟨g, off + (2 + md), none⟩)) rfl (by kernel_rfl) (by kernel_rfl) (by kernel_rfl) (fun _ _ _ h => h) (Or.inl ⟨by rfl, ?_⟩) hHeld ?_
                  · intro w' hSw
                    try simp only [Act.put, List.getElem_toArray, List.getElem_cons_succ, List.getElem_cons_zero, List.setIfInBounds_toArray, List.set_cons_zero, List.set_cons_succ]
                    go_simp
                  try simp only [Act.put, List.getElem_toArray, List.getElem_cons_succ, List.getElem_cons_zero, List.setIfInBounds_toArray, List.set_cons_zero, List.set_cons_succ]
                  refine wpAnyH_take (i := 10) (v := .int .u64 z) rfl (by kernel_rfl) (by kernel_rfl) (by kernel_rfl) (fun _ _ _ h => h) (Or.inl ⟨by rfl, ?_⟩) hHeld ?_
                  · intro w' hSw
                    try simp only [Act.put, List.getElem_toArray, List.getElem_cons_succ, List.getElem_cons_zero, List.setIfInBounds_toArray, List.set_cons_zero, List.set_cons_succ]
                    have s0 := hSw; go_simp
                  try simp only [Act.put, List.getElem_toArray, List.getElem_cons_succ, List.getElem_cons_zero, List.setIfInBounds_toArray, List.set_cons_zero, List.set_cons_succ]
                  obtain ⟨zd, zc, za, zb⟩ := HZD.out
                  clear hHeld
                  refine wpAnyH_ready (rs := [1, 11]) (by kernel_rfl) (by simp) (AllReadyH.cons rfl (fun K hK => ?_) (AllReadyH.cons rfl (fun K hK => ?_) AllReadyH.nil))
                  · rw [if_pos (by rfl)]
                    go_wp2_with fail
                    refine hK.out _ _ zd (fun hHeld => ?_)
                    clear hK
                    try simp only [Act.put, List.getElem_toArray, List.getElem_cons_succ, List.getElem_cons_zero, List.setIfInBounds_toArray, List.set_cons_zero, List.set_cons_succ]
                    clear hHeld
                    refine wpAnyH_ready (rs := [11]) (by kernel_rfl) (by simp) (AllReadyH.cons rfl (fun K hK => ?_) AllReadyH.nil)
                    rw [if_pos (by rfl)]
                    go_wp2_with fail
                    refine hK.out _ _ za (fun hHeld => ?_)
                    clear hK
                    try simp only [Act.put, List.getElem_toArray, List.getElem_cons_succ, List.getElem_cons_zero, List.setIfInBounds_toArray, List.set_cons_zero, List.set_cons_succ]
                    clear hHeld
                    refine wpAnyH_ready (rs := [12]) (by kernel_rfl) (by simp) (AllReadyH.cons rfl (fun K hK => ?_) AllReadyH.nil)
                    rw [if_pos (by rfl)]
                    refine Lib.wp_append_run _ (.tmp 69) (.tmp 79) 33 33 rfl (.slice vb j vc) (.slice (some ⟨WD.heap.size, 0, none⟩) 1 1) rfl rfl (.slice a1 (j + 1) c1) w1 r1 ?_
                    obtain ⟨zw, zx⟩ := HZW.out
                    refine hK.out _ _ zw (fun hHeld => ?_)
                    clear hK
                    try simp only [Act.put, List.getElem_toArray, List.getElem_cons_succ, List.getElem_cons_zero, List.setIfInBounds_toArray, List.set_cons_zero, List.set_cons_succ]
                    refine wpAnyH_take (i := 13) (v := .pointer (some ⟨b, 3, none⟩)) rfl (by kernel_rfl) (by kernel_rfl) (by kernel_rfl) (fun _ _ _ h => h) (Or.inl ⟨by rfl, ?_⟩) hHeld ?_
                    · intro w' hSw
                      try simp only [Act.put, List.getElem_toArray, List.getElem_cons_succ, List.getElem_cons_zero, List.setIfInBounds_toArray, List.set_cons_zero, List.set_cons_succ]
                      go_simp
                    try simp only [Act.put, List.getElem_toArray, List.getElem_cons_succ, List.getElem_cons_zero, List.setIfInBounds_toArray, List.set_cons_zero, List.set_cons_succ]
                    clear hHeld
                    refine wpAnyH_ready (rs := [14]) (by kernel_rfl) (by simp) (AllReadyH.cons rfl (fun K hK => ?_) AllReadyH.nil)
                    rw [if_pos (by rfl)]
                    go_wp2_with fail
                    refine hK.out _ _ zx (fun hHeld => ?_)
                    clear hK
                    try simp only [Act.put, List.getElem_toArray, List.getElem_cons_succ, List.getElem_cons_zero, List.setIfInBounds_toArray, List.set_cons_zero, List.set_cons_succ]
                    clear hHeld
                    refine wpAnyH_done (by kernel_rfl) ?_ _
                    skip
                    go_wp2
                    have haa : (a : Int) ≤ 4 := HRNG.out.1
                    have hje := sh_val j a hlt haa
                    have hjm := sh_mes j a hlt haa
                    go_roundw
                    case rel => exact ⟨j + 1, a1, c1, hje, hlt, HB3.out, HO3.out, HR3.out, HS3.out⟩
                    case measure => exact hjm
                  · rw [if_pos (by rfl)]
                    go_wp2_with fail
                    refine hK.out _ _ za (fun hHeld => ?_)
                    clear hK
                    try simp only [Act.put, List.getElem_toArray, List.getElem_cons_succ, List.getElem_cons_zero, List.setIfInBounds_toArray, List.set_cons_zero, List.set_cons_succ]
                    clear hHeld
                    refine wpAnyH_ready (rs := [1]) (by kernel_rfl) (by simp) (AllReadyH.cons rfl (fun K hK => ?_) AllReadyH.nil)
                    rw [if_pos (by rfl)]
                    go_wp2_with fail
                    refine hK.out _ _ za (fun hHeld => ?_)
                    clear hK
                    try simp only [Act.put, List.getElem_toArray, List.getElem_cons_succ, List.getElem_cons_zero, List.setIfInBounds_toArray, List.set_cons_zero, List.set_cons_succ]
                    clear hHeld
                    refine wpAnyH_ready (rs := [12]) (by kernel_rfl) (by simp) (AllReadyH.cons rfl (fun K hK => ?_) AllReadyH.nil)
                    rw [if_pos (by rfl)]
                    refine Lib.wp_append_run _ (.tmp 69) (.tmp 79) 33 33 rfl (.slice vb j vc) (.slice (some ⟨WD.heap.size, 0, none⟩) 1 1) rfl rfl (.slice a1 (j + 1) c1) w1 r1 ?_
                    obtain ⟨zw, zx⟩ := HZW.out
                    refine hK.out _ _ zw (fun hHeld => ?_)
                    clear hK
                    try simp only [Act.put, List.getElem_toArray, List.getElem_cons_succ, List.getElem_cons_zero, List.setIfInBounds_toArray, List.set_cons_zero, List.set_cons_succ]
                    refine wpAnyH_take (i := 13) (v := .pointer (some ⟨b, 3, none⟩)) rfl (by kernel_rfl) (by kernel_rfl) (by kernel_rfl) (fun _ _ _ h => h) (Or.inl ⟨by rfl, ?_⟩) hHeld ?_
                    · intro w' hSw
                      try simp only [Act.put, List.getElem_toArray, List.getElem_cons_succ, List.getElem_cons_zero, List.setIfInBounds_toArray, List.set_cons_zero, List.set_cons_succ]
                      go_simp
                    try simp only [Act.put, List.getElem_toArray, List.getElem_cons_succ, List.getElem_cons_zero, List.setIfInBounds_toArray, List.set_cons_zero, List.set_cons_succ]
                    clear hHeld
                    refine wpAnyH_ready (rs := [14]) (by kernel_rfl) (by simp) (AllReadyH.cons rfl (fun K hK => ?_) AllReadyH.nil)
                    rw [if_pos (by rfl)]
                    go_wp2_with fail
                    refine hK.out _ _ zx (fun hHeld => ?_)
                    clear hK
                    try simp only [Act.put, List.getElem_toArray, List.getElem_cons_succ, List.getElem_cons_zero, List.setIfInBounds_toArray, List.set_cons_zero, List.set_cons_succ]
                    clear hHeld
                    refine wpAnyH_done (by kernel_rfl) ?_ _
                    skip
                    go_wp2
                    have haa : (a : Int) ≤ 4 := HRNG.out.1
                    have hje := sh_val j a hlt haa
                    have hjm := sh_mes j a hlt haa
                    go_roundw
                    case rel => exact ⟨j + 1, a1, c1, hje, hlt, HB3.out, HO3.out, HR3.out, HS3.out⟩
                    case measure => exact hjm
                · have h1 : ¬ (j : Int) < a := by omega
                  obtain rfl : j = a := by omega
                  have HROW : Hid (clOwn wr (b + 1) (.slice vb j vc) (rndL P f j)) := hown
                  have HB9 : Hid _ := hb
                  have HLR : Hid (ClV wr vb j vc (rndL P f j)) := clOwn.v hown (rndL_len _ _ _).symm (rndL_wf (fun q hq => hrow.wf q (by simp [hq])) _ _)
                  have HNB : Hid (w.heap.size < b) := hb.nb
                  clear hb hown hrow hsz HRD HB1
                  have hb9 := (show S10 w wr b _ _ _ _ from HB9.out)
                  have hs : ShW w wr := hb9.s
                  obtain ⟨s0, s1, s2, s3⟩ := shp4 hs.st
                  obtain ⟨y0, y1, y2, y3⟩ := shp4 hb9.st
                  have f0 := hs.fr 0
                  have f1 := hs.fr 1
                  have f2 := hs.fr 2
                  have f3 := hs.fr 3
                  have hfin := hs.fin (.int .i64 (-1)) (.int .i64 (0)) (.int .i64 (0)) (.slice vb j vc)
                  have HV9 : Hid (ClV _ _ _ _ _) := (show ClV wr vb j vc (rndL P f j) from HLR.out).other hfin.1 (fun _ q hq hm => by rw [rndL_len] at hq; have := (World.ownsRow.lt (show clOwn wr (b + 1) (.slice vb j vc) (rndL P f j) from HROW.out) q hq).1; have := HNB.out; simp at hm; omega)
                  have HFIN : Hid _ := hfin
                  clear hs hb9 hfin
                  go_wp2
                  obtain ⟨u0, u1, u2⟩ := HFIN.out
                  obtain ⟨p0, p1, p2, p3⟩ := shp4 u2
                  refine bodyPost_ret (v := .tuple #[.agg #[.int .i64 (-1), .int .i64 (0), .int .i64 (0), .slice vb j vc], .int .i64 0]) ?_ rfl ⟨j, vb, vc, by rw [HO.out, HE.out], by rw [HO.out]; exact HV9.out, u1⟩
                  simp [results, Tryz.results16, go_sem, p0, p1, p2, p3]
            | false =>
              have hay : AY = -1 := HAY.out
              subst hay
              rcases (show (0 : Int) < AX ∨ ¬ (0 : Int) < AX by omega) with hq0 | hq0
              · have HE : Hid (shE 3 n (x :: y :: P) = 8) := by show _ = _; rw [HEQ.out, HGS.out]; simp
                have HO : Hid (shO 3 n (x :: y :: P) = ⟨0, 0, 0, []⟩) := by show _ = _; unfold shO; rw [if_neg (by rw [show shE 3 n (x :: y :: P) = 8 from HE.out]; decide)]
                clear hnx hny c0 c1 d0 d1 HXD
                go_wp2_with fail
                go_loopw [15] (fun i wq => i = .int .i64 0 ∧ XD = wq) (fun _ _ => 0)
                case atStart => exact ⟨rfl, rfl⟩
                case round =>
                  obtain ⟨rfl, rfl⟩ := hrel
                  have hs : ShW w XD := ((show S10 w XD b _ _ _ _ from HB1.out)).s
                  obtain ⟨s0, s1, s2, s3⟩ := shp4 hs.st
                  have f0 := hs.fr 0
                  have f1 := hs.fr 1
                  have f2 := hs.fr 2
                  have f3 := hs.fr 3
                  have HFIN : Hid _ := hs.fin (.int .i64 0) (.int .i64 0) (.int .i64 0) (.slice none 0 0)
                  clear hs
                  go_wp2
                  obtain ⟨u0, u1, u2⟩ := HFIN.out
                  obtain ⟨p0, p1, p2, p3⟩ := shp4 u2
                  refine bodyPost_ret (v := .tuple #[.agg #[.int .i64 0, .int .i64 0, .int .i64 0, .slice none 0 0], .int .i64 8]) ?_ rfl ⟨0, none, 0, by rw [HO.out, HE.out], by rw [HO.out]; exact clv_nil _, u1⟩
                  simp [results, Tryz.results16, go_sem, p0, p1, p2, p3]
              · have HE : Hid (shE 3 n (x :: y :: P) = 8) := by show _ = _; rw [HEQ.out, HGS.out]; simp
                have HO : Hid (shO 3 n (x :: y :: P) = ⟨0, 0, 0, []⟩) := by show _ = _; unfold shO; rw [if_neg (by rw [show shE 3 n (x :: y :: P) = 8 from HE.out]; decide)]
                clear hnx hny c0 c1 d0 d1 HXD
                go_wp2_with fail
                go_loopw [15] (fun i wq => i = .int .i64 0 ∧ XD = wq) (fun _ _ => 0)
                case atStart => exact ⟨rfl, rfl⟩
                case round =>
                  obtain ⟨rfl, rfl⟩ := hrel
                  have hs : ShW w XD := ((show S10 w XD b _ _ _ _ from HB1.out)).s
                  obtain ⟨s0, s1, s2, s3⟩ := shp4 hs.st
                  have f0 := hs.fr 0
                  have f1 := hs.fr 1
                  have f2 := hs.fr 2
                  have f3 := hs.fr 3
                  have HFIN : Hid _ := hs.fin (.int .i64 0) (.int .i64 0) (.int .i64 0) (.slice none 0 0)
                  clear hs
                  go_wp2
                  obtain ⟨u0, u1, u2⟩ := HFIN.out
                  obtain ⟨p0, p1, p2, p3⟩ := shp4 u2
                  refine bodyPost_ret (v := .tuple #[.agg #[.int .i64 0, .int .i64 0, .int .i64 0, .slice none 0 0], .int .i64 8]) ?_ rfl ⟨0, none, 0, by rw [HO.out, HE.out], by rw [HO.out]; exact clv_nil _, u1⟩
                  simp [results, Tryz.results16, go_sem, p0, p1, p2, p3]
          | false =>
            have hax : AX = -1 := HAX.out
            subst hax
            have HE : Hid (shE 3 n (x :: y :: P) = 8) := by show _ = _; rw [HEQ.out, HGS.out]; simp
            have HO : Hid (shO 3 n (x :: y :: P) = ⟨0, 0, 0, []⟩) := by show _ = _; unfold shO; rw [if_neg (by rw [show shE 3 n (x :: y :: P) = 8 from HE.out]; decide)]
            clear hnx hny c0 c1 d0 d1 HXD
            go_wp2_with fail
            go_loopw [15] (fun i wq => i = .int .i64 0 ∧ XD = wq) (fun _ _ => 0)
            case atStart => exact ⟨rfl, rfl⟩
            case round =>
              obtain ⟨rfl, rfl⟩ := hrel
              have hs : ShW w XD := ((show S10 w XD b _ _ _ _ from HB1.out)).s
              obtain ⟨s0, s1, s2, s3⟩ := shp4 hs.st
              have f0 := hs.fr 0
              have f1 := hs.fr 1
              have f2 := hs.fr 2
              have f3 := hs.fr 3
              have HFIN : Hid _ := hs.fin (.int .i64 0) (.int .i64 0) (.int .i64 0) (.slice none 0 0)
              clear hs
              go_wp2
              obtain ⟨u0, u1, u2⟩ := HFIN.out
              obtain ⟨p0, p1, p2, p3⟩ := shp4 u2
              refine bodyPost_ret (v := .tuple #[.agg #[.int .i64 0, .int .i64 0, .int .i64 0, .slice none 0 0], .int .i64 8]) ?_ rfl ⟨0, none, 0, by rw [HO.out, HE.out], by rw [HO.out]; exact clv_nil _, u1⟩
              simp [results, Tryz.results16, go_sem, p0, p1, p2, p3]
        · have hp1 : p = 2 := by have := HDAT.out.p; rw [show tvN 4 n = 2 from by unfold tvN; rw [show okO 4 n = true from HDAT.out.ok]; rfl] at this; omega
          subst hp1
          have hn : 1 ≤ n ∧ n ≤ 4 := by omega
          obtain ⟨x, y, rfl⟩ := list2 (HLN.out).symm
          obtain ⟨g, off, rfl, hg, c0⟩ := (HDAT.out.v.keep tN).at 0 (by simp)
          obtain ⟨g', off', e', hg', c1⟩ := (HDAT.out.v.keep tN).at 1 (by simp)
          simp only [Option.some.injEq, Addr.mk.injEq, and_true] at e'
          obtain ⟨rfl, rfl⟩ := e'
          have hcap := HDAT.out.v.le
          have hgw : g < wr.heap.size := by obtain ⟨g2, off2, e2, hg2, _⟩ := HDAT.out.v.at 0 (by simp); simp only [Option.some.injEq, Addr.mk.injEq, and_true] at e2; omega
          have hall := HDAT.out.r
          have hxr : rightB x = true := by simp at hall; exact hall.1
          have hyr : rightB y = true := by simp at hall; exact hall.2
          have hxw := HDAT.out.v.wf x (by simp)
          have hyw := HDAT.out.v.wf y (by simp)
          have HWX : Hid (∀ W, HidC Tryz.prog 40 #[.int .u64 x, .int .i64 (n - 1)] W fun e w' => e = .returned (.int .i64 (numW x (n - 1))) ∧ W = w') := fun W => ⟨rwhole24_any x (n - 1) hxw hxr W⟩
          have HWY : Hid (∀ W, HidC Tryz.prog 40 #[.int .u64 y, .int .i64 9007199254740992] W fun e w' => e = .returned (.int .i64 (numW y 9007199254740992)) ∧ W = w') := fun W => ⟨rwhole24_any y 9007199254740992 hyw hyr W⟩
          have hnx := fun hq => numR_nonneg (most := n - 1) hxw hq
          have hny := fun hq => numR_nonneg (most := 9223372036854775807) hyw hq
          have HGS : Hid (goodS 4 n [x, y] = ((numR x (n - 1)).2 && (numR y 9223372036854775807).2)) := by show _ = _; unfold goodS goodN; rw [HDAT.out.r, if_neg (by decide), if_neg (by decide), if_neg (by decide), Bool.true_and]; rfl
          have HDS : Hid (datS 4 n [x, y] = ⟨-1, (numR x (n - 1)).1, (numR y 9223372036854775807).1, []⟩) := by show _ = _; unfold datS; rw [if_neg (by decide), if_neg (by decide), if_neg (by decide)]; rfl
          have HEQ : Hid (shE 4 n [x, y] = if goodS 4 n [x, y] then 0 else 8) := HDAT.out.e
          have hnw : numW x (n - 1) = if (numR x (n - 1)).2 then (numR x (n - 1)).1 else -1 := rfl
          have hnw2 : numW y 9007199254740992 = if (numR y 9223372036854775807).2 then (numR y 9223372036854775807).1 else -1 := by unfold numW; rw [numR_far hyw]
          have HXE0 : Hid (∀ V : World, V.cell? ⟨g, off, none⟩ = some (.int .u64 x) ∧ V.cell? ⟨g, off + 1, none⟩ = some (.int .u64 y) → ∀ j q, (V.setCell ⟨wr.heap.size, j, none⟩ q).cell? ⟨g, off, none⟩ = some (.int .u64 x) ∧ (V.setCell ⟨wr.heap.size, j, none⟩ q).cell? ⟨g, off + 1, none⟩ = some (.int .u64 y)) := fun V hV j q => ⟨(((Touch.refl V [wr.heap.size]).setCell (p := ⟨wr.heap.size, j, none⟩) (.inl (by simp)) q).cell (p := ⟨g, off, none⟩) (World.block_lt_of_cell? V _ hV.1) (by simp; omega)).trans hV.1, (((Touch.refl V [wr.heap.size]).setCell (p := ⟨wr.heap.size, j, none⟩) (.inl (by simp)) q).cell (p := ⟨g, off + 1, none⟩) (World.block_lt_of_cell? V _ hV.2) (by simp; omega)).trans hV.2⟩
          obtain ⟨AX, hAX⟩ : ∃ a, a = numW x (n - 1) := ⟨_, rfl⟩
          obtain ⟨AY, hAY⟩ : ∃ a, a = numW y 9007199254740992 := ⟨_, rfl⟩
          rw [← hAX] at HWX
          rw [← hAY] at HWY
          rw [hnw] at hAX
          rw [hnw2] at hAY
          obtain ⟨XW, hXW⟩ : ∃ W, W = (wr.alloc (.cells #[.int .i64 (-1), .int .i64 0, .int .i64 0, .slice none 0 0] 37)) := ⟨_, rfl⟩
          rw [← hXW] at HNEW c0 c1
          have hd : XW.drew.cell? ⟨g, off, none⟩ = some (.int .u64 x) ∧ XW.drew.cell? ⟨g, off + 1, none⟩ = some (.int .u64 y) := ⟨c0, c1⟩
          have HXD : Hid _ := hd
          have HXE : Hid _ := HXE0.out _ hd 1 (.int .i64 AX)
          have HXF : Hid _ := HXE0.out _ (HXE0.out _ hd 1 (.int .i64 AX)) 2 (.int .i64 AY)
          have hbD := (show S10 w XW _ _ _ _ _ from HNEW.out).keep (Touch.refl XW []).drew
          have hbE := hbD.set1 (.int .i64 AX)
          have HB9 : Hid _ := hbE.set2 (.int .i64 AY)
          obtain ⟨q0, q1, q2, q3⟩ := shp4 hbD.st
          have g1 := hbD.fr 1
          obtain ⟨r0, r1c, r2c, r3⟩ := shp4 hbE.st
          have g2 := hbE.fr 2
          have hw1 : IntKind.i64.wrap (n - 1) = n - 1 := by rw [IntKind.wrap_i64]; omega
          generalize numR x (n - 1) = rx at *
          generalize numR y 9223372036854775807 = ry at *
          obtain ⟨rx1, rx2⟩ := rx
          obtain ⟨ry1, ry2⟩ := ry
          simp only at hAX hAY hnx hny HGS HDS
          have HWR : Hid (ShW w wr) := HDAT.out.s
          have HAX : Hid _ := hAX
          have HAY : Hid _ := hAY
          clear hnw hnw2 hwz hxr hyr hxw hyw hall tN hnew HDAT hd hbD hbE hAX hAY HXE0 HTN hg hg' hgw HNEW
          go_wp2_with fail
          simp only [← hXW]
          clear hXW
          generalize wr.heap.size = b at *
          refine wp_region_held_drew (S := (fun w' => w'.cell? ⟨g, off, none⟩ = some (.int .u64 x) ∧ w'.cell? ⟨g, off + 1, none⟩ = some (.int .u64 y))) (by kernel_rfl) ⟨c0, c1⟩ (fun hHeld => ?_)
          refine wpAnyH_take (i := 0) (v := .slice (some ⟨g, off, none⟩) 2 cap) rfl (by kernel_rfl) (by kernel_rfl) (by kernel_rfl) (fun _ _ _ h => h) (Or.inl ⟨by rfl, ?_⟩) hHeld ?_
          · intro w' hSw
            try simp only [Act.put, List.getElem_toArray, List.getElem_cons_succ, List.getElem_cons_zero, List.setIfInBounds_toArray, List.set_cons_zero, List.set_cons_succ]
            go_simp
          try simp only [Act.put, List.getElem_toArray, List.getElem_cons_succ, List.getElem_cons_zero, List.setIfInBounds_toArray, List.set_cons_zero, List.set_cons_succ]
          refine wpAnyH_take (i := 1) (v := .pointer (some ⟨g, off, none⟩)) rfl (by kernel_rfl) (by kernel_rfl) (by kernel_rfl) (fun _ _ _ h => h) (Or.inl ⟨by rfl, ?_⟩) hHeld ?_
          · intro w' hSw
            try simp only [Act.put, List.getElem_toArray, List.getElem_cons_succ, List.getElem_cons_zero, List.setIfInBounds_toArray, List.set_cons_zero, List.set_cons_succ]
            go_simp
          try simp only [Act.put, List.getElem_toArray, List.getElem_cons_succ, List.getElem_cons_zero, List.setIfInBounds_toArray, List.set_cons_zero, List.set_cons_succ]
          refine wpAnyH_take (i := 2) (v := .int .u64 x) rfl (by kernel_rfl) (by kernel_rfl) (by kernel_rfl) (fun _ _ _ h => h) (Or.inl ⟨by rfl, ?_⟩) hHeld ?_
          · intro w' hSw
            try simp only [Act.put, List.getElem_toArray, List.getElem_cons_succ, List.getElem_cons_zero, List.setIfInBounds_toArray, List.set_cons_zero, List.set_cons_succ]
            obtain ⟨s0, s1⟩ := hSw; go_simp
          try simp only [Act.put, List.getElem_toArray, List.getElem_cons_succ, List.getElem_cons_zero, List.setIfInBounds_toArray, List.set_cons_zero, List.set_cons_succ]
          refine wpAnyH_take (i := 3) (v := .int .i64 n) rfl (by kernel_rfl) (by kernel_rfl) (by kernel_rfl) (fun _ _ _ h => h) (Or.inl ⟨by rfl, ?_⟩) hHeld ?_
          · intro w' hSw
            try simp only [Act.put, List.getElem_toArray, List.getElem_cons_succ, List.getElem_cons_zero, List.setIfInBounds_toArray, List.set_cons_zero, List.set_cons_succ]
            go_simp
          try simp only [Act.put, List.getElem_toArray, List.getElem_cons_succ, List.getElem_cons_zero, List.setIfInBounds_toArray, List.set_cons_zero, List.set_cons_succ]
          refine wpAnyH_take (i := 4) (v := .int .i64 (n - 1)) rfl (by kernel_rfl) (by kernel_rfl) (by kernel_rfl) (fun _ _ _ h => h) (Or.inl ⟨by rfl, ?_⟩) hHeld ?_
          · intro w' hSw
            try simp only [Act.put, List.getElem_toArray, List.getElem_cons_succ, List.getElem_cons_zero, List.setIfInBounds_toArray, List.set_cons_zero, List.set_cons_succ]
            go_simp
          try simp only [Act.put, List.getElem_toArray, List.getElem_cons_succ, List.getElem_cons_zero, List.setIfInBounds_toArray, List.set_cons_zero, List.set_cons_succ]
          refine wpAnyH_take (i := 6) (v := .slice (some ⟨g, off, none⟩) 2 cap) rfl (by kernel_rfl) (by kernel_rfl) (by kernel_rfl) (fun _ _ _ h => h) (Or.inl ⟨by rfl, ?_⟩) hHeld ?_
          · intro w' hSw
            try simp only [Act.put, List.getElem_toArray, List.getElem_cons_succ, List.getElem_cons_zero, List.setIfInBounds_toArray, List.set_cons_zero, List.set_cons_succ]
            go_simp
          try simp only [Act.put, List.getElem_toArray, List.getElem_cons_succ, List.getElem_cons_zero, List.setIfInBounds_toArray, List.set_cons_zero, List.set_cons_succ]
          refine wpAnyH_take (i := 7) (v := .pointer (some ⟨g, off + 1, none⟩)) rfl (by kernel_rfl) (by kernel_rfl) (by kernel_rfl) (fun _ _ _ h => h) (Or.inl ⟨by rfl, ?_⟩) hHeld ?_
          · intro w' hSw
            try simp only [Act.put, List.getElem_toArray, List.getElem_cons_succ, List.getElem_cons_zero, List.setIfInBounds_toArray, List.set_cons_zero, List.set_cons_succ]
            go_simp
          try simp only [Act.put, List.getElem_toArray, List.getElem_cons_succ, List.getElem_cons_zero, List.setIfInBounds_toArray, List.set_cons_zero, List.set_cons_succ]
          refine wpAnyH_take (i := 8) (v := .int .u64 y) rfl (by kernel_rfl) (by kernel_rfl) (by kernel_rfl) (fun _ _ _ h => h) (Or.inl ⟨by rfl, ?_⟩) hHeld ?_
          · intro w' hSw
            try simp only [Act.put, List.getElem_toArray, List.getElem_cons_succ, List.getElem_cons_zero, List.setIfInBounds_toArray, List.set_cons_zero, List.set_cons_succ]
            obtain ⟨s0, s1⟩ := hSw; go_simp
          try simp only [Act.put, List.getElem_toArray, List.getElem_cons_succ, List.getElem_cons_zero, List.setIfInBounds_toArray, List.set_cons_zero, List.set_cons_succ]
          clear hHeld
          refine wpAnyH_ready (rs := [5]) (by kernel_rfl) (by simp) (AllReadyH.cons rfl (fun K hK => ?_) AllReadyH.nil)
          rw [if_pos (by rfl)]
          go_wp2_with fail
          refine (HWX.out _).out.mono ?_
          clear HWX
          rintro e _ ⟨rfl, rfl⟩
          obtain ⟨d0, d1⟩ := HXD.out
          refine hK.out _ _ ⟨d0, d1⟩ (fun hHeld => ?_)
          clear hK
          try simp only [Act.put, List.getElem_toArray, List.getElem_cons_succ, List.getElem_cons_zero, List.setIfInBounds_toArray, List.set_cons_zero, List.set_cons_succ]
          refine wpAnyH_take (i := 10) (v := .pointer (some ⟨b, 1, none⟩)) rfl (by kernel_rfl) (by kernel_rfl) (by kernel_rfl) (fun _ _ _ h => h) (Or.inl ⟨by rfl, ?_⟩) hHeld ?_
          · intro w' hSw
            try simp only [Act.put, List.getElem_toArray, List.getElem_cons_succ, List.getElem_cons_zero, List.setIfInBounds_toArray, List.set_cons_zero, List.set_cons_succ]
            go_simp
          try simp only [Act.put, List.getElem_toArray, List.getElem_cons_succ, List.getElem_cons_zero, List.setIfInBounds_toArray, List.set_cons_zero, List.set_cons_succ]
          clear hHeld
          refine wpAnyH_ready (rs := [9]) (by kernel_rfl) (by simp) (AllReadyH.cons rfl (fun K hK => ?_) AllReadyH.nil)
          rw [if_pos (by rfl)]
          go_wp2_with fail
          refine (HWY.out _).out.mono ?_
          clear HWY
          rintro e _ ⟨rfl, rfl⟩
          generalize XW.drew = XD at *
          refine hK.out _ _ ⟨d0, d1⟩ (fun hHeld => ?_)
          clear hK
          try simp only [Act.put, List.getElem_toArray, List.getElem_cons_succ, List.getElem_cons_zero, List.setIfInBounds_toArray, List.set_cons_zero, List.set_cons_succ]
          clear hHeld
          refine wpAnyH_ready (rs := [11]) (by kernel_rfl) (by simp) (AllReadyH.cons rfl (fun K hK => ?_) AllReadyH.nil)
          rw [if_pos (by rfl)]
          go_wp2_with fail
          obtain ⟨e0, e1⟩ := HXE.out
          generalize XD.setCell ⟨b, 1, none⟩ (.int .i64 AX) = V8 at *
          refine hK.out _ _ ⟨e0, e1⟩ (fun hHeld => ?_)
          clear hK
          try simp only [Act.put, List.getElem_toArray, List.getElem_cons_succ, List.getElem_cons_zero, List.setIfInBounds_toArray, List.set_cons_zero, List.set_cons_succ]
          refine wpAnyH_take (i := 12) (v := .pointer (some ⟨b, 2, none⟩)) rfl (by kernel_rfl) (by kernel_rfl) (by kernel_rfl) (fun _ _ _ h => h) (Or.inl ⟨by rfl, ?_⟩) hHeld ?_
          · intro w' hSw
            try simp only [Act.put, List.getElem_toArray, List.getElem_cons_succ, List.getElem_cons_zero, List.setIfInBounds_toArray, List.set_cons_zero, List.set_cons_succ]
            go_simp
          try simp only [Act.put, List.getElem_toArray, List.getElem_cons_succ, List.getElem_cons_zero, List.setIfInBounds_toArray, List.set_cons_zero, List.set_cons_succ]
          clear hHeld
          refine wpAnyH_ready (rs := [13]) (by kernel_rfl) (by simp) (AllReadyH.cons rfl (fun K hK => ?_) AllReadyH.nil)
          rw [if_pos (by rfl)]
          go_wp2_with fail
          obtain ⟨i0, i1⟩ := HXF.out
          refine hK.out _ _ ⟨i0, i1⟩ (fun hHeld => ?_)
          clear hK
          try simp only [Act.put, List.getElem_toArray, List.getElem_cons_succ, List.getElem_cons_zero, List.setIfInBounds_toArray, List.set_cons_zero, List.set_cons_succ]
          clear hHeld
          refine wpAnyH_done (by kernel_rfl) ?_ _
          obtain ⟨V9, hV9⟩ : ∃ W, W = V8.setCell ⟨b, 2, none⟩ (.int .i64 AY) := ⟨_, rfl⟩
          simp only [← hV9] at *
          clear hV9 d0 d1 e0 e1 i0 i1 c0 c1 q0 q1 q2 q3 r0 r1c r2c r3 g1 g2 HXD HXE HXF
          obtain ⟨y0, y1, y2, y3⟩ := shp4 (show S10 w V9 b _ _ _ _ from HB9.out).st
          cases rx2 with
          | true =>
            have hrx := (hnx rfl).1
            have hax : AX = rx1 := HAX.out
            subst hax
            cases ry2 with
            | true =>
              have hry := (hny rfl).1
              have hay : AY = ry1 := HAY.out
              subst hay
              have HE : Hid (shE 4 n [x, y] = 0) := by show _ = _; rw [HEQ.out, HGS.out]; rfl
              have HO : Hid (shO 4 n [x, y] = ⟨-1, AX, AY, []⟩) := by show _ = _; unfold shO; rw [if_pos (show shE 4 n [x, y] = 0 from HE.out)]; exact HDS.out
              clear y0 y1 y2 y3 hnx hny
              have hb9 := (show S10 w V9 b _ _ _ _ from HB9.out)
              have hs : ShW w V9 := hb9.s
              obtain ⟨s0, s1, s2, s3⟩ := shp4 hs.st
              obtain ⟨y0, y1, y2, y3⟩ := shp4 hb9.st
              have f0 := hs.fr 0
              have f1 := hs.fr 1
              have f2 := hs.fr 2
              have f3 := hs.fr 3
              have hfin := hs.fin (.int .i64 (-1)) (.int .i64 (AX)) (.int .i64 (AY)) (.slice none 0 0)
              have HFIN : Hid _ := hfin
              clear hs hb9 hfin
              go_wp2
              obtain ⟨u0, u1, u2⟩ := HFIN.out
              obtain ⟨p0, p1, p2, p3⟩ := shp4 u2
              refine bodyPost_ret (v := .tuple #[.agg #[.int .i64 (-1), .int .i64 (AX), .int .i64 (AY), .slice none 0 0], .int .i64 0]) ?_ rfl ⟨0, none, 0, by rw [HO.out, HE.out], by rw [HO.out]; exact clv_nil _, u1⟩
              simp [results, Tryz.results16, go_sem, p0, p1, p2, p3]
            | false =>
              have hay : AY = -1 := HAY.out
              subst hay
              have HE : Hid (shE 4 n [x, y] = 8) := by show _ = _; rw [HEQ.out, HGS.out]; simp
              have HO : Hid (shO 4 n [x, y] = ⟨0, 0, 0, []⟩) := by show _ = _; unfold shO; rw [if_neg (by rw [show shE 4 n [x, y] = 8 from HE.out]; decide)]
              clear hnx hny
              have hs : ShW w V9 := ((show S10 w V9 b _ _ _ _ from HB9.out)).s
              obtain ⟨s0, s1, s2, s3⟩ := shp4 hs.st
              have f0 := hs.fr 0
              have f1 := hs.fr 1
              have f2 := hs.fr 2
              have f3 := hs.fr 3
              have HFIN : Hid _ := hs.fin (.int .i64 0) (.int .i64 0) (.int .i64 0) (.slice none 0 0)
              clear hs
              go_wp2
              obtain ⟨u0, u1, u2⟩ := HFIN.out
              obtain ⟨p0, p1, p2, p3⟩ := shp4 u2
              refine bodyPost_ret (v := .tuple #[.agg #[.int .i64 0, .int .i64 0, .int .i64 0, .slice none 0 0], .int .i64 8]) ?_ rfl ⟨0, none, 0, by rw [HO.out, HE.out], by rw [HO.out]; exact clv_nil _, u1⟩
              simp [results, Tryz.results16, go_sem, p0, p1, p2, p3]
          | false =>
            have hax : AX = -1 := HAX.out
            subst hax
            have HE : Hid (shE 4 n [x, y] = 8) := by show _ = _; rw [HEQ.out, HGS.out]; simp
            have HO : Hid (shO 4 n [x, y] = ⟨0, 0, 0, []⟩) := by show _ = _; unfold shO; rw [if_neg (by rw [show shE 4 n [x, y] = 8 from HE.out]; decide)]
            clear hnx hny
            have hs : ShW w V9 := ((show S10 w V9 b _ _ _ _ from HB9.out)).s
            obtain ⟨s0, s1, s2, s3⟩ := shp4 hs.st
            have f0 := hs.fr 0
            have f1 := hs.fr 1
            have f2 := hs.fr 2
            have f3 := hs.fr 3
            have HFIN : Hid _ := hs.fin (.int .i64 0) (.int .i64 0) (.int .i64 0) (.slice none 0 0)
            clear hs
            go_wp2
            obtain ⟨u0, u1, u2⟩ := HFIN.out
            obtain ⟨p0, p1, p2, p3⟩ := shp4 u2
            refine bodyPost_ret (v := .tuple #[.agg #[.int .i64 0, .int .i64 0, .int .i64 0, .slice none 0 0], .int .i64 8]) ?_ rfl ⟨0, none, 0, by rw [HO.out, HE.out], by rw [HO.out]; exact clv_nil _, u1⟩
            simp [results, Tryz.results16, go_sem, p0, p1, p2, p3]

end Go.Proofs.YtcbkafbchpjnoaaGreatDoor
/-
  THE STATEMENTS ON package locks, WALKED: LocksBlocks, LocksCounts.
-/
namespace Go.Proofs.YtcbkafbchpjnoaaGreatDoor
set_option linter.unusedVariables false
set_option linter.unusedSimpArgs false
open Go.RowKit
attribute [local go_sem] Oper.semAt_some

def lkL (er : Int) (L : List InsD) : List InsD := if er = 0 then L else []
/-- What the blocks come to, in the same words. -/
def LkQ (w : World) (er : Int) (n : Nat) (l : List InsD) (e : Ending) (w' : World) : Prop := ∃ ao cap, e = .returned (.tuple #[.slice ao n cap, .int .i64 er]) ∧ InsIn w' ao n cap l ∧ Touch w w' []
theorem LkP.q {w : World} {er : Int} {L : List InsD} {e : Ending} {w' : World} (h : LkP w er L e w') : LkQ w er (lkL er L).length (lkL er L) e w' := by
  rcases h with ⟨rfl, ao, cap, h2, h3, h4⟩ | ⟨h1, h2, h4⟩
  · exact ⟨ao, cap, h2, h3, h4⟩
  · have e : lkL er L = [] := by unfold lkL; rw [if_neg h1]
    rw [e]
    exact ⟨none, 0, h2, ⟨rfl, ⟨none, 0, rfl, fun h => absurd rfl h⟩, Nat.le_refl _, by omega, by simp⟩, h4⟩
theorem lkL_len {er : Int} {L : List InsD} (h : L.length ≤ 1000) : (lkL er L).length ≤ 1000 := by
  unfold lkL; split
  · exact h
  · simp

end Go.Proofs.YtcbkafbchpjnoaaGreatDoor
/-
  rowlocklaw24: live, few; CallsPrograms, WALKED. Written by mkcl4.py.
-/
namespace Go.Proofs.YtcbkafbchpjnoaaGreatDoor
set_option linter.unusedVariables false
set_option linter.unusedSimpArgs false
open Go.RowKit
attribute [local go_sem] Oper.semAt_some

theorem clfew_any {ao : Option Addr} {m cap : Nat} (w : World) (hc : m ≤ cap) : Calls Tryz.prog 9 #[.slice ao m cap] w fun e w' => e = .returned (.slice ao (min m 12 : Nat) cap) ∧ w = w' := by
  by_cases h : m > 12
  · have h12 : (12 : Int) < m := by omega
    have hm : min m 12 = 12 := by omega
    have hcap : (12 : Int) ≤ cap := by omega
    rw [hm]
    go_enter Tryz.func9, Tryz.ntmps9
    go_wp2
    go_ret
    exact ⟨rfl, rfl⟩
  · have h12 : ¬ (12 : Int) < m := by omega
    have hm : min m 12 = m := by omega
    rw [hm]
    go_enter Tryz.func9, Tryz.ntmps9
    go_wp2
    go_ret
    exact ⟨rfl, rfl⟩
theorem CasIn.first {w : World} {ao : Option Addr} {m cap : Nat} {l : List CaD} (h : CasIn w ao m cap l) (j : Nat) (hj : j ≤ m) : CasIn w ao j cap (l.take j) := by
  have hl : (l.take j).length = j := by rw [List.length_take, ← h.len]; omega
  refine ⟨hl.symm, SRow.first h.row j (by rw [← h.len]; exact hj), by have := h.le; omega, fun c hc => h.wf c (List.mem_of_mem_take hc)⟩

set_option maxRecDepth 100000 in
set_option maxHeartbeats 1000000 in
theorem cllive_any {w : World} (hw : Wds w) : Calls Tryz.prog 11 #[] w fun e w' => e = .returned (.bool true) ∧ Touch w w' [] := by
  have hE : proE 1 0 0 0 [⟨1, 0, 0⟩, ⟨2, 0, 0⟩] = 0 := by decide +kernel
  have hL : (proL 0 0 [⟨1, 0, 0⟩, ⟨2, 0, 0⟩]).length = 22 := by decide +kernel
  have hO : ∀ h : 21 < (proL 0 0 [⟨1, 0, 0⟩, ⟨2, 0, 0⟩]).length, ((proL 0 0 [⟨1, 0, 0⟩, ⟨2, 0, 0⟩])[21]'h).op = 28 := by decide +kernel
  have tA : Touch w (w.alloc (.cells #[.int .u8 1, .int .i64 0, .int .u64 0, .int .u8 2, .int .i64 0, .int .u64 0] 52)) [] := (Touch.refl _ _).alloc _
  have hrow : CasIn (w.alloc (.cells #[.int .u8 1, .int .i64 0, .int .u64 0, .int .u8 2, .int .i64 0, .int .u64 0] 52)) (some ⟨w.heap.size, 0, none⟩) 2 2 [⟨1, 0, 0⟩, ⟨2, 0, 0⟩] := by
    refine ⟨rfl, ?_, Nat.le_refl _, ?_⟩
    · refine srow_of (cells := CaD.cells) (n := 3) (fun _ => rfl) (B := w.heap.size) (e := 52) ?_
      have h := World.ownsRow_lit (base := w.heap.size) (e := 52) (size := 3) w #[.int .u8 1, .int .i64 0, .int .u64 0, .int .u8 2, .int .i64 0, .int .u64 0] 2 (Nat.le_refl _) (by unfold maxLen; omega) rfl
      exact h
    · intro c hc
      simp only [List.mem_cons, List.not_mem_nil, or_false] at hc
      rcases hc with rfl | rfl
      · exact ⟨by simp, by simp, by unfold Wf64; simp⟩
      · exact ⟨by simp, by simp, by unfold Wf64; simp⟩
  have HC : Hid (HidC Tryz.prog 8 #[.int .u8 1, .int .i64 0, .int .i64 0, .int .i64 0, .slice (some ⟨w.heap.size, 0, none⟩) 2 2] (w.alloc (.cells #[.int .u8 1, .int .i64 0, .int .u64 0, .int .u8 2, .int .i64 0, .int .u64 0] 52)) (fun e w' => ∃ g off cap, e = .returned (.tuple #[.slice (some ⟨g, off, none⟩) 22 cap, .int .i64 0]) ∧ (∀ W, Touch w' W [] → W.cell? ⟨g, off + 63, none⟩ = some (.int .u8 28)) ∧ Touch w w' [])) := by
    refine ⟨(program_any (hw.touch tA (by simp)) 1 0 0 0 hrow (by omega)).mono ?_⟩
    intro e w' h
    rw [hE] at h
    rcases h with ⟨_, ao, cap, rfl, hin, t⟩ | ⟨h, _⟩
    · have h21 : 21 < (proL 0 0 [⟨1, 0, 0⟩, ⟨2, 0, 0⟩]).length := by rw [hL]; omega
      obtain ⟨g, off, rfl, d0, d1, d2⟩ := ins_at hin.row (Touch.refl w' []) (by simp) 21 h21
      rw [hO h21] at d0
      rw [hL]
      have hlt : g < w'.heap.size := World.block_lt_of_cell? w' _ d0
      exact ⟨g, off, cap, rfl, fun W tW => (tW.cell (p := ⟨g, off + 63, none⟩) hlt (by simp)).trans d0, tA.trans t (by simp)⟩
    · exact absurd rfl h
  have HB : Hid (∀ W, HidC Tryz.prog 13 #[.int .u8 3, .int .i64 2] W fun e w' => ∃ g, e = .returned (.tuple #[.slice (some ⟨g, 0, none⟩) 4 4, .int .i64 0]) ∧ Touch W w' []) := by
    intro W
    refine ⟨(begin_any 3 2 W).mono ?_⟩
    rintro e w' (⟨_, g, m, rfl, hm, _, _, t⟩ | ⟨h, _⟩)
    · have e4 : tvN 3 2 = 4 := by decide
      rw [e4] at hm
      obtain rfl : m = 4 := by omega
      exact ⟨g, rfl, t⟩
    · exact absurd h (by decide)
  have HT : Hid (∀ W, HidC Tryz.prog 17 #[.int .u8 4, .int .i64 3] W fun e w' => e = .returned (.int .i64 2) ∧ Touch W w' []) := fun W => ⟨tvars_any 4 3 W⟩
  clear hE hL hO tA hrow hw
  go_enter Tryz.func11, Tryz.ntmps11
  go_wp2_with fail
  refine HC.out.out.mono ?_
  clear HC
  rintro e w1 ⟨g, off, cap, rfl, hd, t1⟩
  have HD : Hid _ := hd
  have HT1 : Hid _ := t1
  clear hd t1
  go_wp2_with fail
  refine (HB.out _).out.mono ?_
  clear HB
  rintro e w2 ⟨g2, rfl, t2⟩
  have d0 := HD.out w2 t2
  have HT2 : Hid (Touch w w2 []) := HT1.out.trans t2 (by simp)
  clear HD HT1 t2
  go_wp2_with fail
  refine (HT.out _).out.mono ?_
  clear HT
  rintro e w3 ⟨rfl, t3⟩
  have HT3 : Hid (Touch w w3 []) := HT2.out.trans t3 (by simp)
  clear HT2 t3
  go_wp2
  go_ret
  exact ⟨rfl, HT3.out⟩

set_option maxRecDepth 100000 in
set_option maxHeartbeats 2000000 in
theorem callsprograms_any {w : World} (hw : Wds w) (k n t u : Int) {ao : Option Addr} {m cap : Nat} {l : List CaD} (hl : CasIn w ao m cap l) :
    Calls Tryz.prog 3 #[.int .u8 k, .agg #[.int .i64 n, .int .i64 t, .int .i64 u], .slice ao m cap] w fun e w' => e = .returned (.bool true) ∧ Touch w w' [] := by
  have hlen : (proL n t (l.take 12)).length ≤ 1000 := by
    unfold proL
    cases h : runC n t (l.take 12) [] with
    | none => simp
    | some P => have := runC_len n t _ _ _ h; simp; omega
  have hq : (lkL (proE k n t u (l.take 12)) (proL n t (l.take 12))).length ≤ 1000 := lkL_len hlen
  have hT : l.take (min m 12) = l.take 12 := by
    rw [hl.len]
    rcases Nat.le_total l.length 12 with h | h
    · rw [Nat.min_eq_left h, List.take_length, List.take_of_length_le h]
    · rw [Nat.min_eq_right h]
  have hF : CasIn w ao (min m 12) cap (l.take 12) := by rw [← hT]; exact hl.first _ (Nat.min_le_left _ _)
  obtain ⟨XW, hXW⟩ : ∃ W, W = w.alloc (.cells #[.int .i64 n, .int .i64 t, .int .i64 u] 23) := ⟨_, rfl⟩
  have tX : Touch w XW [] := by rw [hXW]; exact (Touch.refl _ _).alloc _
  have hb : XW.heap[w.heap.size]? = some (.cells #[.int .i64 n, .int .i64 t, .int .i64 u] 23 (0, 0)) := by rw [hXW]; exact heap_alloc_new w _
  have hbs : w.heap.size < XW.heap.size := lt_of_heap hb
  have HX : Hid (∀ W, Touch XW W [] → W.cell? ⟨w.heap.size, 0, none⟩ = some (.int .i64 n) ∧ W.cell? ⟨w.heap.size, 1, none⟩ = some (.int .i64 t) ∧ W.cell? ⟨w.heap.size, 2, none⟩ = some (.int .i64 u)) := fun W tw => by
    have h := (tw.block w.heap.size hbs (by simp)).trans hb
    unfold World.cell?
    rw [h]
    exact ⟨rfl, rfl, rfl⟩
  have HFEW : Hid (∀ W, HidC Tryz.prog 9 #[.slice ao m cap] W fun e w' => e = .returned (.slice ao (min m 12 : Nat) cap) ∧ W = w') := fun W => ⟨clfew_any W hl.le⟩
  have C1 : Hid (∀ W, Touch XW W [] → HidC Tryz.prog 8 #[.int .u8 k, .int .i64 n, .int .i64 t, .int .i64 u, .slice ao (min m 12 : Nat) cap] W (LkQ W (proE k n t u (l.take 12)) (lkL (proE k n t u (l.take 12)) (proL n t (l.take 12))).length (lkL (proE k n t u (l.take 12)) (proL n t (l.take 12))))) := fun W tw => ⟨(program_any (hw.touch (tX.trans tw (by simp)) (by simp)) k n t u (hF.keep (tX.trans tw (by simp))) (by omega)).mono fun _ _ h => h.q⟩
  have C2 : Hid (∀ W, Touch XW W [] → HidC Tryz.prog 10 #[.int .u8 k, .int .i64 n, .int .i64 t, .int .i64 u, .slice ao (min m 12 : Nat) cap] W (LkQ W (proE k n t u (l.take 12)) (lkL (proE k n t u (l.take 12)) (proL n t (l.take 12))).length (lkL (proE k n t u (l.take 12)) (proL n t (l.take 12))))) := fun W tw => ⟨(rprogram_any k n t u (hF.keep (tX.trans tw (by simp))) (by omega)).mono fun _ _ h => h.q⟩
  have HLV : Hid (∀ W, Touch XW W [] → HidC Tryz.prog 11 #[] W fun e w' => e = .returned (.bool true) ∧ Touch W w' []) := fun W tw => ⟨cllive_any (hw.touch (tX.trans tw (by simp)) (by simp))⟩
  have HTX : Hid _ := tX
  have HQ : Hid _ := hq
  clear hlen hq hT hF tX hb hbs hw hl
  generalize lkL (proE k n t u (l.take 12)) (proL n t (l.take 12)) = L at *
  generalize proE k n t u (l.take 12) = E at *
  obtain ⟨q, hq⟩ : ∃ q, q = L.length := ⟨_, rfl⟩
  rw [← hq] at C1 C2 HQ
  clear hq
  generalize min m 12 = m12 at *
  have HE : Hid (XW.cell? ⟨w.heap.size, 0, none⟩ = some (.int .i64 n) ∧ XW.cell? ⟨w.heap.size, 1, none⟩ = some (.int .i64 t) ∧ XW.cell? ⟨w.heap.size, 2, none⟩ = some (.int .i64 u)) := HX.out XW (Touch.refl _ _)
  have H1 : Hid (XW.drew.cell? ⟨w.heap.size, 0, none⟩ = some (.int .i64 n) ∧ XW.drew.cell? ⟨w.heap.size, 1, none⟩ = some (.int .i64 t) ∧ XW.drew.cell? ⟨w.heap.size, 2, none⟩ = some (.int .i64 u) ∧ Hid (Touch XW XW.drew []) ∧ Hid (HidC Tryz.prog 8 #[.int .u8 k, .int .i64 n, .int .i64 t, .int .i64 u, .slice ao m12 cap] XW.drew (LkQ XW.drew E q L))) := by
    have td : Touch XW XW.drew [] := (Touch.refl _ _).drew
    obtain ⟨y0, y1, y2⟩ := HX.out _ td
    exact ⟨y0, y1, y2, td, C1.out _ td⟩
  have HN1 : Hid (∀ w2 a p, Touch XW XW.drew [] → InsIn w2 a q p L → Touch XW.drew w2 [] → w2.cell? ⟨w.heap.size, 0, none⟩ = some (.int .i64 n) ∧ w2.cell? ⟨w.heap.size, 1, none⟩ = some (.int .i64 t) ∧ w2.cell? ⟨w.heap.size, 2, none⟩ = some (.int .i64 u) ∧ Hid (InsIn w2 a q p L) ∧ Hid (Touch XW w2 [])) := by
    intro w2 a p td hi t2
    have tt : Touch XW w2 [] := td.trans t2 (by simp)
    obtain ⟨y0, y1, y2⟩ := HX.out _ tt
    exact ⟨y0, y1, y2, hi, tt⟩
  have HG2 : Hid (∀ w2, Touch XW w2 [] → Hid (w2.drew.cell? ⟨w.heap.size, 0, none⟩ = some (.int .i64 n) ∧ w2.drew.cell? ⟨w.heap.size, 1, none⟩ = some (.int .i64 t) ∧ w2.drew.cell? ⟨w.heap.size, 2, none⟩ = some (.int .i64 u) ∧ Hid (Touch XW w2.drew []) ∧ Hid (HidC Tryz.prog 10 #[.int .u8 k, .int .i64 n, .int .i64 t, .int .i64 u, .slice ao m12 cap] w2.drew (LkQ w2.drew E q L)))) := by
    intro w2 t2
    have td : Touch XW w2.drew [] := t2.drew
    obtain ⟨y0, y1, y2⟩ := HX.out _ td
    exact ⟨y0, y1, y2, td, C2.out _ td⟩
  have HN2 : Hid (∀ w4 a p, ∀ {w3 : World}, Touch XW w3 [] → InsIn w4 a q p L → Touch w3 w4 [] → w4.cell? ⟨w.heap.size, 0, none⟩ = some (.int .i64 n) ∧ w4.cell? ⟨w.heap.size, 1, none⟩ = some (.int .i64 t) ∧ w4.cell? ⟨w.heap.size, 2, none⟩ = some (.int .i64 u) ∧ Hid (InsIn w4 a q p L) ∧ Hid (Touch XW w4 [])) := by
    intro w4 a p w3 td hi t2
    have tt : Touch XW w4 [] := td.trans t2 (by simp)
    obtain ⟨y0, y1, y2⟩ := HX.out _ tt
    exact ⟨y0, y1, y2, hi, tt⟩
  obtain ⟨b0, b1, b2⟩ := HE.out
  clear C1 C2 HX HE
  go_enter Tryz.func3, Tryz.ntmps3
  go_wp2_with fail
  simp only [← hXW]
  clear hXW
  generalize w.heap.size = b at *
  refine wp_region_held_drew (S := (fun w' => w'.cell? ⟨b, 0, none⟩ = some (.int .i64 n) ∧ w'.cell? ⟨b, 1, none⟩ = some (.int .i64 t) ∧ w'.cell? ⟨b, 2, none⟩ = some (.int .i64 u))) (by kernel_rfl) ⟨b0, b1, b2⟩ (fun hHeld => ?_)
  refine wpAnyH_take (i := 0) (v := .int .u8 k) rfl (by kernel_rfl) (by kernel_rfl) (by kernel_rfl) (fun _ _ _ h => h) (Or.inl ⟨by rfl, ?_⟩) hHeld ?_
  · intro w' hSw
    try simp only [Act.put, List.getElem_toArray, List.getElem_cons_succ, List.getElem_cons_zero, List.setIfInBounds_toArray, List.set_cons_zero, List.set_cons_succ]
    go_simp
  try simp only [Act.put, List.getElem_toArray, List.getElem_cons_succ, List.getElem_cons_zero, List.setIfInBounds_toArray, List.set_cons_zero, List.set_cons_succ]
  refine wpAnyH_take (i := 1) (v := .pointer (some ⟨b, 0, none⟩)) rfl (by kernel_rfl) (by kernel_rfl) (by kernel_rfl) (fun _ _ _ h => h) (Or.inl ⟨by rfl, ?_⟩) hHeld ?_
  · intro w' hSw
    try simp only [Act.put, List.getElem_toArray, List.getElem_cons_succ, List.getElem_cons_zero, List.setIfInBounds_toArray, List.set_cons_zero, List.set_cons_succ]
    go_simp
  try simp only [Act.put, List.getElem_toArray, List.getElem_cons_succ, List.getElem_cons_zero, List.setIfInBounds_toArray, List.set_cons_zero, List.set_cons_succ]
  refine wpAnyH_take (i := 2) (v := .int .i64 n) rfl (by kernel_rfl) (by kernel_rfl) (by kernel_rfl) (fun _ _ _ h => h) (Or.inl ⟨by rfl, ?_⟩) hHeld ?_
  · intro w' hSw
    try simp only [Act.put, List.getElem_toArray, List.getElem_cons_succ, List.getElem_cons_zero, List.setIfInBounds_toArray, List.set_cons_zero, List.set_cons_succ]
    obtain ⟨s0, s1, s2⟩ := hSw; go_simp
  try simp only [Act.put, List.getElem_toArray, List.getElem_cons_succ, List.getElem_cons_zero, List.setIfInBounds_toArray, List.set_cons_zero, List.set_cons_succ]
  refine wpAnyH_take (i := 3) (v := .pointer (some ⟨b, 1, none⟩)) rfl (by kernel_rfl) (by kernel_rfl) (by kernel_rfl) (fun _ _ _ h => h) (Or.inl ⟨by rfl, ?_⟩) hHeld ?_
  · intro w' hSw
    try simp only [Act.put, List.getElem_toArray, List.getElem_cons_succ, List.getElem_cons_zero, List.setIfInBounds_toArray, List.set_cons_zero, List.set_cons_succ]
    go_simp
  try simp only [Act.put, List.getElem_toArray, List.getElem_cons_succ, List.getElem_cons_zero, List.setIfInBounds_toArray, List.set_cons_zero, List.set_cons_succ]
  refine wpAnyH_take (i := 4) (v := .int .i64 t) rfl (by kernel_rfl) (by kernel_rfl) (by kernel_rfl) (fun _ _ _ h => h) (Or.inl ⟨by rfl, ?_⟩) hHeld ?_
  · intro w' hSw
    try simp only [Act.put, List.getElem_toArray, List.getElem_cons_succ, List.getElem_cons_zero, List.setIfInBounds_toArray, List.set_cons_zero, List.set_cons_succ]
    obtain ⟨s0, s1, s2⟩ := hSw; go_simp
  try simp only [Act.put, List.getElem_toArray, List.getElem_cons_succ, List.getElem_cons_zero, List.setIfInBounds_toArray, List.set_cons_zero, List.set_cons_succ]
  refine wpAnyH_take (i := 5) (v := .pointer (some ⟨b, 2, none⟩)) rfl (by kernel_rfl) (by kernel_rfl) (by kernel_rfl) (fun _ _ _ h => h) (Or.inl ⟨by rfl, ?_⟩) hHeld ?_
  · intro w' hSw
    try simp only [Act.put, List.getElem_toArray, List.getElem_cons_succ, List.getElem_cons_zero, List.setIfInBounds_toArray, List.set_cons_zero, List.set_cons_succ]
    go_simp
  try simp only [Act.put, List.getElem_toArray, List.getElem_cons_succ, List.getElem_cons_zero, List.setIfInBounds_toArray, List.set_cons_zero, List.set_cons_succ]
  refine wpAnyH_take (i := 6) (v := .int .i64 u) rfl (by kernel_rfl) (by kernel_rfl) (by kernel_rfl) (fun _ _ _ h => h) (Or.inl ⟨by rfl, ?_⟩) hHeld ?_
  · intro w' hSw
    try simp only [Act.put, List.getElem_toArray, List.getElem_cons_succ, List.getElem_cons_zero, List.setIfInBounds_toArray, List.set_cons_zero, List.set_cons_succ]
    obtain ⟨s0, s1, s2⟩ := hSw; go_simp
  try simp only [Act.put, List.getElem_toArray, List.getElem_cons_succ, List.getElem_cons_zero, List.setIfInBounds_toArray, List.set_cons_zero, List.set_cons_succ]
  refine wpAnyH_take (i := 7) (v := .slice ao m cap) rfl (by kernel_rfl) (by kernel_rfl) (by kernel_rfl) (fun _ _ _ h => h) (Or.inl ⟨by rfl, ?_⟩) hHeld ?_
  · intro w' hSw
    try simp only [Act.put, List.getElem_toArray, List.getElem_cons_succ, List.getElem_cons_zero, List.setIfInBounds_toArray, List.set_cons_zero, List.set_cons_succ]
    go_simp
  try simp only [Act.put, List.getElem_toArray, List.getElem_cons_succ, List.getElem_cons_zero, List.setIfInBounds_toArray, List.set_cons_zero, List.set_cons_succ]
  clear hHeld
  refine wpAnyH_ready (rs := [8]) (by kernel_rfl) (by simp) (AllReadyH.cons rfl (fun K hK => ?_) AllReadyH.nil)
  rw [if_pos (by rfl)]
  go_wp2_with fail
  refine (HFEW.out _).out.mono ?_
  rintro e _ ⟨rfl, rfl⟩
  obtain ⟨c0, c1, c2, HTx, HPC⟩ := H1.out
  refine hK.out _ _ ⟨c0, c1, c2⟩ (fun hHeld => ?_)
  clear hK
  try simp only [Act.put, List.getElem_toArray, List.getElem_cons_succ, List.getElem_cons_zero, List.setIfInBounds_toArray, List.set_cons_zero, List.set_cons_succ]
  clear hHeld
  refine wpAnyH_ready (rs := [9]) (by kernel_rfl) (by simp) (AllReadyH.cons rfl (fun K hK => ?_) AllReadyH.nil)
  rw [if_pos (by rfl)]
  go_wp2_with fail
  refine HPC.out.out.mono ?_
  clear HPC
  rintro e w2 ⟨a1, p1, rfl, i1, t1⟩
  obtain ⟨d0, d1, d2, HI1, HTw2⟩ := HN1.out w2 _ _ HTx.out i1 t1
  clear i1 t1 c0 c1 c2
  refine hK.out _ _ ⟨d0, d1, d2⟩ (fun hHeld => ?_)
  clear hK
  try simp only [Act.put, List.getElem_toArray, List.getElem_cons_succ, List.getElem_cons_zero, List.setIfInBounds_toArray, List.set_cons_zero, List.set_cons_succ]
  refine wpAnyH_take (i := 10) (v := .tuple #[.slice a1 q p1, .int .i64 E]) rfl (by kernel_rfl) (by kernel_rfl) (by kernel_rfl) (fun _ _ _ h => h) (Or.inl ⟨by rfl, ?_⟩) hHeld ?_
  · intro w' hSw
    try simp only [Act.put, List.getElem_toArray, List.getElem_cons_succ, List.getElem_cons_zero, List.setIfInBounds_toArray, List.set_cons_zero, List.set_cons_succ]
    go_simp
  try simp only [Act.put, List.getElem_toArray, List.getElem_cons_succ, List.getElem_cons_zero, List.setIfInBounds_toArray, List.set_cons_zero, List.set_cons_succ]
  refine wpAnyH_take (i := 11) (v := .slice a1 q p1) rfl (by kernel_rfl) (by kernel_rfl) (by kernel_rfl) (fun _ _ _ h => h) (Or.inl ⟨by rfl, ?_⟩) hHeld ?_
  · intro w' hSw
    try simp only [Act.put, List.getElem_toArray, List.getElem_cons_succ, List.getElem_cons_zero, List.setIfInBounds_toArray, List.set_cons_zero, List.set_cons_succ]
    go_simp
  try simp only [Act.put, List.getElem_toArray, List.getElem_cons_succ, List.getElem_cons_zero, List.setIfInBounds_toArray, List.set_cons_zero, List.set_cons_succ]
  refine wpAnyH_take (i := 12) (v := .int .i64 E) rfl (by kernel_rfl) (by kernel_rfl) (by kernel_rfl) (fun _ _ _ h => h) (Or.inl ⟨by rfl, ?_⟩) hHeld ?_
  · intro w' hSw
    try simp only [Act.put, List.getElem_toArray, List.getElem_cons_succ, List.getElem_cons_zero, List.setIfInBounds_toArray, List.set_cons_zero, List.set_cons_succ]
    go_simp
  try simp only [Act.put, List.getElem_toArray, List.getElem_cons_succ, List.getElem_cons_zero, List.setIfInBounds_toArray, List.set_cons_zero, List.set_cons_succ]
  refine wpAnyH_take (i := 13) (v := .slice a1 q p1) rfl (by kernel_rfl) (by kernel_rfl) (by kernel_rfl) (fun _ _ _ h => h) (Or.inl ⟨by rfl, ?_⟩) hHeld ?_
  · intro w' hSw
    try simp only [Act.put, List.getElem_toArray, List.getElem_cons_succ, List.getElem_cons_zero, List.setIfInBounds_toArray, List.set_cons_zero, List.set_cons_succ]
    go_simp
  try simp only [Act.put, List.getElem_toArray, List.getElem_cons_succ, List.getElem_cons_zero, List.setIfInBounds_toArray, List.set_cons_zero, List.set_cons_succ]
  refine wpAnyH_take (i := 14) (v := .int .i64 E) rfl (by kernel_rfl) (by kernel_rfl) (by kernel_rfl) (fun _ _ _ h => h) (Or.inl ⟨by rfl, ?_⟩) hHeld ?_
  · intro w' hSw
    try simp only [Act.put, List.getElem_toArray, List.getElem_cons_succ, List.getElem_cons_zero, List.setIfInBounds_toArray, List.set_cons_zero, List.set_cons_succ]
    go_simp
  try simp only [Act.put, List.getElem_toArray, List.getElem_cons_succ, List.getElem_cons_zero, List.setIfInBounds_toArray, List.set_cons_zero, List.set_cons_succ]
  clear hHeld
  refine wpAnyH_done (by kernel_rfl) ?_ _
  clear b0 b1 b2 H1 HN1
  have H2 := HG2.out w2 HTw2.out
  clear HG2
  go_wp2_with fail
  refine wp_region_held_drew (S := (fun w' => w'.cell? ⟨b, 0, none⟩ = some (.int .i64 n) ∧ w'.cell? ⟨b, 1, none⟩ = some (.int .i64 t) ∧ w'.cell? ⟨b, 2, none⟩ = some (.int .i64 u))) (by kernel_rfl) ⟨d0, d1, d2⟩ (fun hHeld => ?_)
  refine wpAnyH_take (i := 0) (v := .int .u8 k) rfl (by kernel_rfl) (by kernel_rfl) (by kernel_rfl) (fun _ _ _ h => h) (Or.inl ⟨by rfl, ?_⟩) hHeld ?_
  · intro w' hSw
    try simp only [Act.put, List.getElem_toArray, List.getElem_cons_succ, List.getElem_cons_zero, List.setIfInBounds_toArray, List.set_cons_zero, List.set_cons_succ]
    go_simp
  try simp only [Act.put, List.getElem_toArray, List.getElem_cons_succ, List.getElem_cons_zero, List.setIfInBounds_toArray, List.set_cons_zero, List.set_cons_succ]
  refine wpAnyH_take (i := 1) (v := .pointer (some ⟨b, 0, none⟩)) rfl (by kernel_rfl) (by kernel_rfl) (by kernel_rfl) (fun _ _ _ h => h) (Or.inl ⟨by rfl, ?_⟩) hHeld ?_
  · intro w' hSw
    try simp only [Act.put, List.getElem_toArray, List.getElem_cons_succ, List.getElem_cons_zero, List.setIfInBounds_toArray, List.set_cons_zero, List.set_cons_succ]
    go_simp
  try simp only [Act.put, List.getElem_toArray, List.getElem_cons_succ, List.getElem_cons_zero, List.setIfInBounds_toArray, List.set_cons_zero, List.set_cons_succ]
  refine wpAnyH_take (i := 2) (v := .int .i64 n) rfl (by kernel_rfl) (by kernel_rfl) (by kernel_rfl) (fun _ _ _ h => h) (Or.inl ⟨by rfl, ?_⟩) hHeld ?_
  · intro w' hSw
    try simp only [Act.put, List.getElem_toArray, List.getElem_cons_succ, List.getElem_cons_zero, List.setIfInBounds_toArray, List.set_cons_zero, List.set_cons_succ]
    obtain ⟨s0, s1, s2⟩ := hSw; go_simp
  try simp only [Act.put, List.getElem_toArray, List.getElem_cons_succ, List.getElem_cons_zero, List.setIfInBounds_toArray, List.set_cons_zero, List.set_cons_succ]
  refine wpAnyH_take (i := 3) (v := .pointer (some ⟨b, 1, none⟩)) rfl (by kernel_rfl) (by kernel_rfl) (by kernel_rfl) (fun _ _ _ h => h) (Or.inl ⟨by rfl, ?_⟩) hHeld ?_
  · intro w' hSw
    try simp only [Act.put, List.getElem_toArray, List.getElem_cons_succ, List.getElem_cons_zero, List.setIfInBounds_toArray, List.set_cons_zero, List.set_cons_succ]
    go_simp
  try simp only [Act.put, List.getElem_toArray, List.getElem_cons_succ, List.getElem_cons_zero, List.setIfInBounds_toArray, List.set_cons_zero, List.set_cons_succ]
  refine wpAnyH_take (i := 4) (v := .int .i64 t) rfl (by kernel_rfl) (by kernel_rfl) (by kernel_rfl) (fun _ _ _ h => h) (Or.inl ⟨by rfl, ?_⟩) hHeld ?_
  · intro w' hSw
    try simp only [Act.put, List.getElem_toArray, List.getElem_cons_succ, List.getElem_cons_zero, List.setIfInBounds_toArray, List.set_cons_zero, List.set_cons_succ]
    obtain ⟨s0, s1, s2⟩ := hSw; go_simp
  try simp only [Act.put, List.getElem_toArray, List.getElem_cons_succ, List.getElem_cons_zero, List.setIfInBounds_toArray, List.set_cons_zero, List.set_cons_succ]
  refine wpAnyH_take (i := 5) (v := .pointer (some ⟨b, 2, none⟩)) rfl (by kernel_rfl) (by kernel_rfl) (by kernel_rfl) (fun _ _ _ h => h) (Or.inl ⟨by rfl, ?_⟩) hHeld ?_
  · intro w' hSw
    try simp only [Act.put, List.getElem_toArray, List.getElem_cons_succ, List.getElem_cons_zero, List.setIfInBounds_toArray, List.set_cons_zero, List.set_cons_succ]
    go_simp
  try simp only [Act.put, List.getElem_toArray, List.getElem_cons_succ, List.getElem_cons_zero, List.setIfInBounds_toArray, List.set_cons_zero, List.set_cons_succ]
  refine wpAnyH_take (i := 6) (v := .int .i64 u) rfl (by kernel_rfl) (by kernel_rfl) (by kernel_rfl) (fun _ _ _ h => h) (Or.inl ⟨by rfl, ?_⟩) hHeld ?_
  · intro w' hSw
    try simp only [Act.put, List.getElem_toArray, List.getElem_cons_succ, List.getElem_cons_zero, List.setIfInBounds_toArray, List.set_cons_zero, List.set_cons_succ]
    obtain ⟨s0, s1, s2⟩ := hSw; go_simp
  try simp only [Act.put, List.getElem_toArray, List.getElem_cons_succ, List.getElem_cons_zero, List.setIfInBounds_toArray, List.set_cons_zero, List.set_cons_succ]
  refine wpAnyH_take (i := 7) (v := .slice ao m cap) rfl (by kernel_rfl) (by kernel_rfl) (by kernel_rfl) (fun _ _ _ h => h) (Or.inl ⟨by rfl, ?_⟩) hHeld ?_
  · intro w' hSw
    try simp only [Act.put, List.getElem_toArray, List.getElem_cons_succ, List.getElem_cons_zero, List.setIfInBounds_toArray, List.set_cons_zero, List.set_cons_succ]
    go_simp
  try simp only [Act.put, List.getElem_toArray, List.getElem_cons_succ, List.getElem_cons_zero, List.setIfInBounds_toArray, List.set_cons_zero, List.set_cons_succ]
  clear hHeld
  refine wpAnyH_ready (rs := [8]) (by kernel_rfl) (by simp) (AllReadyH.cons rfl (fun K hK => ?_) AllReadyH.nil)
  rw [if_pos (by rfl)]
  go_wp2_with fail
  refine (HFEW.out _).out.mono ?_
  rintro e _ ⟨rfl, rfl⟩
  obtain ⟨c0, c1, c2, HTy, HPC⟩ := H2.out
  refine hK.out _ _ ⟨c0, c1, c2⟩ (fun hHeld => ?_)
  clear hK
  try simp only [Act.put, List.getElem_toArray, List.getElem_cons_succ, List.getElem_cons_zero, List.setIfInBounds_toArray, List.set_cons_zero, List.set_cons_succ]
  clear hHeld
  refine wpAnyH_ready (rs := [9]) (by kernel_rfl) (by simp) (AllReadyH.cons rfl (fun K hK => ?_) AllReadyH.nil)
  rw [if_pos (by rfl)]
  go_wp2_with fail
  refine HPC.out.out.mono ?_
  clear HPC
  rintro e w4 ⟨a2, p2, rfl, i2, t2⟩
  obtain ⟨d0, d1, d2, HI2, HTw4⟩ := HN2.out w4 _ _ HTy.out i2 t2
  have HI3 : Hid (InsIn w4 a1 q p1 L) := HI1.out.keep ((Touch.refl w2 []).drew.trans t2 (by simp))
  clear i2 t2 c0 c1 c2
  refine hK.out _ _ ⟨d0, d1, d2⟩ (fun hHeld => ?_)
  clear hK
  try simp only [Act.put, List.getElem_toArray, List.getElem_cons_succ, List.getElem_cons_zero, List.setIfInBounds_toArray, List.set_cons_zero, List.set_cons_succ]
  refine wpAnyH_take (i := 10) (v := .tuple #[.slice a2 q p2, .int .i64 E]) rfl (by kernel_rfl) (by kernel_rfl) (by kernel_rfl) (fun _ _ _ h => h) (Or.inl ⟨by rfl, ?_⟩) hHeld ?_
  · intro w' hSw
    try simp only [Act.put, List.getElem_toArray, List.getElem_cons_succ, List.getElem_cons_zero, List.setIfInBounds_toArray, List.set_cons_zero, List.set_cons_succ]
    go_simp
  try simp only [Act.put, List.getElem_toArray, List.getElem_cons_succ, List.getElem_cons_zero, List.setIfInBounds_toArray, List.set_cons_zero, List.set_cons_succ]
  refine wpAnyH_take (i := 11) (v := .slice a2 q p2) rfl (by kernel_rfl) (by kernel_rfl) (by kernel_rfl) (fun _ _ _ h => h) (Or.inl ⟨by rfl, ?_⟩) hHeld ?_
  · intro w' hSw
    try simp only [Act.put, List.getElem_toArray, List.getElem_cons_succ, List.getElem_cons_zero, List.setIfInBounds_toArray, List.set_cons_zero, List.set_cons_succ]
    go_simp
  try simp only [Act.put, List.getElem_toArray, List.getElem_cons_succ, List.getElem_cons_zero, List.setIfInBounds_toArray, List.set_cons_zero, List.set_cons_succ]
  refine wpAnyH_take (i := 12) (v := .int .i64 E) rfl (by kernel_rfl) (by kernel_rfl) (by kernel_rfl) (fun _ _ _ h => h) (Or.inl ⟨by rfl, ?_⟩) hHeld ?_
  · intro w' hSw
    try simp only [Act.put, List.getElem_toArray, List.getElem_cons_succ, List.getElem_cons_zero, List.setIfInBounds_toArray, List.set_cons_zero, List.set_cons_succ]
    go_simp
  try simp only [Act.put, List.getElem_toArray, List.getElem_cons_succ, List.getElem_cons_zero, List.setIfInBounds_toArray, List.set_cons_zero, List.set_cons_succ]
  refine wpAnyH_take (i := 13) (v := .slice a2 q p2) rfl (by kernel_rfl) (by kernel_rfl) (by kernel_rfl) (fun _ _ _ h => h) (Or.inl ⟨by rfl, ?_⟩) hHeld ?_
  · intro w' hSw
    try simp only [Act.put, List.getElem_toArray, List.getElem_cons_succ, List.getElem_cons_zero, List.setIfInBounds_toArray, List.set_cons_zero, List.set_cons_succ]
    go_simp
  try simp only [Act.put, List.getElem_toArray, List.getElem_cons_succ, List.getElem_cons_zero, List.setIfInBounds_toArray, List.set_cons_zero, List.set_cons_succ]
  refine wpAnyH_take (i := 14) (v := .int .i64 E) rfl (by kernel_rfl) (by kernel_rfl) (by kernel_rfl) (fun _ _ _ h => h) (Or.inl ⟨by rfl, ?_⟩) hHeld ?_
  · intro w' hSw
    try simp only [Act.put, List.getElem_toArray, List.getElem_cons_succ, List.getElem_cons_zero, List.setIfInBounds_toArray, List.set_cons_zero, List.set_cons_succ]
    go_simp
  try simp only [Act.put, List.getElem_toArray, List.getElem_cons_succ, List.getElem_cons_zero, List.setIfInBounds_toArray, List.set_cons_zero, List.set_cons_succ]
  clear hHeld
  refine wpAnyH_done (by kernel_rfl) ?_ _
  clear d0 d1 d2
  go_wp2_with fail
  refine (HLV.out _ HTw4.out).out.mono ?_
  rintro e w5 ⟨rfl, t5⟩
  have HA5 : Hid (InsIn w5 a1 q p1 L) := HI3.out.keep t5
  have HB5 : Hid (InsIn w5 a2 q p2 L) := HI2.out.keep t5
  have HT5 : Hid (Touch w w5 []) := (HTX.out.trans HTw4.out (by simp)).trans t5 (by simp)
  clear HI1 HI2 HI3 t5
  go_wp2_with fail
  refine (rsame_eq HA5.out HB5.out HQ.out).mono ?_
  rintro e w6 ⟨rfl, t6⟩
  have HT6 : Hid (Touch w w6 []) := HT5.out.trans t6 (by simp)
  clear t6
  go_wp2
  go_ret
  exact ⟨rfl, HT6.out⟩

end Go.Proofs.YtcbkafbchpjnoaaGreatDoor
/-
  The document's Shape of a new object, SameShape BY THEIR CONTRACTS.
-/
namespace Go.Proofs.YtcbkafbchpjnoaaGreatDoor
set_option linter.unusedVariables false
set_option linter.unusedSimpArgs false
open Go.RowKit
attribute [local go_sem] Oper.semAt_some

theorem RoN.cells' {w : World} {b : Nat} {k n : Int} (h : RoN w b k n) {q : Int} (hq : (if k = 2 then n else 0 : Int) = q) : w.cell? ⟨b, 0, none⟩ = some (.int .u8 k) ∧ w.cell? ⟨b, 1, none⟩ = some (.int .i64 n) ∧ w.cell? ⟨b, 2, none⟩ = some (.int .i64 (-1)) ∧ w.cell? ⟨b, 3, none⟩ = some (.int .i64 q) ∧ w.cell? ⟨b, 4, none⟩ = some (.int .i64 0) ∧ w.cell? ⟨b, 5, none⟩ = some (.slice none 0 0) := by
  rw [← hq]; exact h.cells
theorem cl_app0 (Q : World) (V : World) (hV : V = (Q.alloc (.cells #[] 50)).drew) :
    ∃ a c W, (Builtin.append_ #[33, 33] 33 #[.slice (some ⟨Q.heap.size, 0, none⟩) 0 0, .slice none 0 0]).run Tryz.prog V = .ok (.slice a 0 c) W ∧ Touch Q W [] := by
  have tA : Touch Q V [] := by rw [hV]; exact ((Touch.refl _ []).alloc _).drew
  have hown : V.ownsRow Q.heap.size 50 1 (.slice (some ⟨Q.heap.size, 0, none⟩) 0 0) 0 [] := by
    rw [hV]; exact ownsRow_touch (empty_row Q 50 1) ((Touch.refl _ []).drew) (by simp)
  obtain ⟨i0, hi, hz0, hz1, hz2⟩ := info_partsC Tryz.info_valC
  obtain ⟨v', w', h1, h2, h3, h4⟩ := run_app (P := Tryz.prog) (cells := clc) 33 33 50 i0 _ 1 8 Tryz.underlying33 hi hz0 hz1 hz2 rfl (by decide) (fun _ => rfl) (fun x u hu => by simp [clc] at hu; subst hu; rfl) hown (ao := none) (cap := 0) (l := []) ⟨none, 0, rfl, fun h => absurd rfl h⟩ (by simp) (by decide) tA.size
  obtain ⟨a, c, rfl⟩ := owns_slice h2
  exact ⟨a, c, w', h1, tA.trans ((Touch.refl _ _).grown (S := [Q.heap.size]) h3 (fun k hk => .inl (by simp [Value.ownBlock] at hk; simp [hk]))) (fun x hx => .inr (by simp at hx; omega))⟩

def OsP (w : World) (n : Int) (e : Ending) (w' : World) : Prop := ∃ a c, e = .returned (.agg #[.int .i64 (-1), .int .i64 n, .int .i64 0, .slice a 0 c]) ∧ Touch w w' []
set_option maxRecDepth 100000 in
set_option maxHeartbeats 1600000 in
theorem rshapeN_any {w : World} {b : Nat} {k s n : Int} (h : RoN w b k s) (hn : (if k = 2 then s else 0 : Int) = n) :
    Calls Tryz.prog 26 #[.pointer (some ⟨b, 0, none⟩)] w (OsP w n) := by
  obtain ⟨Q, hQ⟩ : ∃ Q, Q = w.alloc (.cells #[.int .i64 0, .int .i64 0, .int .i64 0, .slice none 0 0] 37) := ⟨_, rfl⟩
  have hq := heap_alloc_new w (.cells #[.int .i64 0, .int .i64 0, .int .i64 0, .slice none 0 0] 37)
  rw [← hQ] at hq
  have tQ : Touch w Q [] := by rw [hQ]; exact (Touch.refl w []).alloc _
  have hob := h.touch tQ (by simp)
  have hblt := lt_of_heap h.st
  obtain ⟨a, c, V, rA, tV⟩ := cl_app0 Q _ rfl
  have tA : Touch Q (Q.alloc (.cells #[] 50)).drew [] := ((Touch.refl _ []).alloc _).drew
  obtain ⟨x0, x1, x2, x3, x4, x5⟩ := (hob.touch ((Touch.refl Q []).drew) (by simp)).cells' hn
  obtain ⟨y0, y1, y2, y3, y4, y5⟩ := (hob.touch tA (by simp)).cells' hn
  obtain ⟨z0, z1, z2, z3, z4, z5⟩ := (hob.touch tV (by simp)).cells' hn
  have hqV := (tV.block _ (lt_of_heap hq) (by simp)).trans hq
  obtain ⟨s0, s1, s2, s3⟩ := shp4 hqV
  have hsv : ShW w V := ⟨hqV, tQ.trans tV (by simp)⟩
  have sf0 := hsv.fr 0
  have sf1 := hsv.fr 1
  have sf2 := hsv.fr 2
  have sf3 := hsv.fr 3
  have HFIN : Hid (∀ x y z u, Touch w ((((V.setCell ⟨w.heap.size, 0, none⟩ x).setCell ⟨w.heap.size, 1, none⟩ y).setCell ⟨w.heap.size, 2, none⟩ z).setCell ⟨w.heap.size, 3, none⟩ u) [] ∧ ((((V.setCell ⟨w.heap.size, 0, none⟩ x).setCell ⟨w.heap.size, 1, none⟩ y).setCell ⟨w.heap.size, 2, none⟩ z).setCell ⟨w.heap.size, 3, none⟩ u).heap[w.heap.size]? = some (.cells #[x, y, z, u] 37 (0, 0))) := fun x y z u => (hsv.fin x y z u).2
  have HS : Hid (∀ W, Touch Q W [w.heap.size] → W.cell? ⟨b, 2, none⟩ = some (.int .i64 (-1)) ∧ W.cell? ⟨b, 3, none⟩ = some (.int .i64 n) ∧ W.cell? ⟨b, 4, none⟩ = some (.int .i64 0) ∧ W.cell? ⟨b, 5, none⟩ = some (.slice none 0 0)) := fun W t => by
    obtain ⟨_, _, c2, c3, c4, c5⟩ := (hob.touch t (by simp; omega)).cells' hn
    exact ⟨c2, c3, c4, c5⟩
  have hd0 : Touch Q Q.drew [w.heap.size] := (Touch.refl Q _).drew
  have hd1 : Touch Q (Q.alloc (.cells #[] 50)).drew [w.heap.size] := tA.mono (by simp)
  have hd2 : Touch Q V [w.heap.size] := tV.mono (by simp)
  have hd3 : ∀ x y z u, Touch Q ((((V.setCell ⟨w.heap.size, 0, none⟩ x).setCell ⟨w.heap.size, 1, none⟩ y).setCell ⟨w.heap.size, 2, none⟩ z).setCell ⟨w.heap.size, 3, none⟩ u) [w.heap.size] := fun x y z u => (((hd2.setCell (.inl (by simp)) _).setCell (.inl (by simp)) _).setCell (.inl (by simp)) _).setCell (.inl (by simp)) _
  have HQ : Hid (w.alloc (.cells #[.int .i64 0, .int .i64 0, .int .i64 0, .slice none 0 0] 37) = Q) := hQ.symm
  clear hQ hq tQ hob h tA tV hqV hsv hn
  go_enter Tryz.func26, Tryz.ntmps26
  go_wp2_with fail
  rw [HQ.out]
  clear HQ
  go_region_held3 (fun w' => w'.cell? ⟨b, 2, none⟩ = some (.int .i64 (-1)) ∧ w'.cell? ⟨b, 3, none⟩ = some (.int .i64 n) ∧ w'.cell? ⟨b, 4, none⟩ = some (.int .i64 0) ∧ w'.cell? ⟨b, 5, none⟩ = some (.slice none 0 0)) ((first | exact HS.out _ hd0 | exact HS.out _ hd1 | exact HS.out _ hd2 | exact HS.out _ (hd3 _ _ _ _))) ((first | (refine step_append_runF _ (by rfl) (.tmp 18) (.tmp 22) 33 33 (by rfl) (.slice (some ⟨Q.heap.size, 0, none⟩) 0 0) (.slice none 0 0) (by rfl) (by rfl) (.slice a 0 c) V rA ?_)))
  all_goals
    go_wp2_with fail
    obtain ⟨h8, h9⟩ := HFIN.out (.int .i64 (-1)) (.int .i64 n) (.int .i64 0) (.slice a 0 c)
    refine bodyPost_ret (v := .agg #[.int .i64 (-1), .int .i64 n, .int .i64 0, .slice a 0 c]) ?_ rfl ⟨a, c, rfl, h8⟩
    rw [res_cellC rfl]
    obtain ⟨p0, p1, p2, p3⟩ := shp4 h9
    simp [go_sem, p0, p1, p2, p3]

set_option maxRecDepth 100000 in
theorem sameshape_any (o c g : Int) {a1 a2 : Option Addr} {n c1 c2 : Nat} {l : List Int} {w : World} (hn : n ≤ 1000) (h1 : ClV w a1 n c1 l) (h2 : ClV w a2 n c2 l) :
    Calls Tryz.prog 20 #[.agg #[.int .i64 o, .int .i64 c, .int .i64 g, .slice a1 n c1], .agg #[.int .i64 o, .int .i64 c, .int .i64 g, .slice a2 n c2]] w fun e w' => e = .returned (.bool true) ∧ Touch w w' [] := by
  have tA : Touch w (w.alloc (.cells #[.int .i64 o, .int .i64 c, .int .i64 g, .slice a1 n c1] 37)) [] := (Touch.refl _ _).alloc _
  obtain ⟨WA, hWA⟩ : ∃ W, W = w.alloc (.cells #[.int .i64 o, .int .i64 c, .int .i64 g, .slice a1 n c1] 37) := ⟨_, rfl⟩
  have tB : Touch WA (WA.alloc (.cells #[.int .i64 o, .int .i64 c, .int .i64 g, .slice a2 n c2] 37)) [] := (Touch.refl _ _).alloc _
  have tA' : Touch w WA [] := by rw [hWA]; exact tA
  have hA : WA.heap[w.heap.size]? = some (.cells #[.int .i64 o, .int .i64 c, .int .i64 g, .slice a1 n c1] 37 (0, 0)) := by rw [hWA]; exact heap_alloc_new w _
  obtain ⟨x0, x1, x2, x3⟩ := shp4 ((tB.block _ (lt_of_heap hA) (by simp)).trans hA)
  obtain ⟨y0, y1, y2, y3⟩ := shp4 (heap_alloc_new WA (.cells #[.int .i64 o, .int .i64 c, .int .i64 g, .slice a2 n c2] 37))
  have tt : Touch w (WA.alloc (.cells #[.int .i64 o, .int .i64 c, .int .i64 g, .slice a2 n c2] 37)) [] := tA'.trans tB (by simp)
  have HC : HidC _ _ _ _ _ := ⟨clsame_any hn (h1.keep tt) (h2.keep tt)⟩
  have HT : Hid _ := tt
  have hws : WA.heap.size = w.heap.size + 1 := by rw [hWA]; simp
  rw [hws] at y0 y1 y2 y3
  clear tA tB tA' hA h1 h2 tt hws
  go_enter Tryz.func20, Tryz.ntmps20
  rw [hWA] at *
  clear hWA
  go_wp2_with fail
  refine HC.out.mono ?_
  clear HC
  rintro e w2 ⟨rfl, t⟩
  have HT2 : Hid (Touch w w2 []) := HT.out.trans t (by simp)
  clear t
  go_wp2
  go_ret
  exact ⟨rfl, HT2.out⟩

end Go.Proofs.YtcbkafbchpjnoaaGreatDoor
/-
  CallsBegins, WALKED. Written by mkclbg.py.
-/
namespace Go.Proofs.YtcbkafbchpjnoaaGreatDoor
set_option linter.unusedVariables false
set_option linter.unusedSimpArgs false
open Go.RowKit
attribute [local go_sem] Oper.semAt_some

/-- The values at first, as numbers. -/
def begL (k n : Int) : List Int := if k = 2 then [numV n] else List.replicate (tvN k n).toNat 0
theorem numV_nine : ∀ n : Fin 10, numR (numV (n.val : Int)) 99 = ((n.val : Int), true) ∧ rightB (numV (n.val : Int)) = true ∧ 0 ≤ numV (n.val : Int) ∧ numV (n.val : Int) < 18446744073709551616 := by decide +kernel
theorem numR_0 : wholeV (ofB 0) = (0, true) ∧ negB (ofB 0) = false := by decide +kernel
theorem numR_none {m : Int} (h : 0 ≤ m) : numR 0 m = (0, true) := by
  unfold numR
  have e : ((0 : Int).toNat) = 0 := rfl
  rw [e, numR_0.1, numR_0.2]
  exact if_pos ⟨rfl, rfl, h⟩
theorem right_0 : rightB 0 = true := by decide +kernel

theorem beg_len {k n : Int} (ho : okO k n = true) : ((begL k n).length : Int) = tvN k n := by
  have htv := tv_le ho
  have hw := (okO_is k n).1 ho
  have htn : tvN k n = if k = 3 then n + 2 else if k = 4 then 2 else 1 := by unfold tvN; rw [ho]; rfl
  unfold begL
  split
  · rename_i h; subst h; rw [htn]; rfl
  · rw [List.length_replicate]; omega
theorem beg_wf {k n : Int} (ho : okO k n = true) : ∀ x ∈ begL k n, Wf64 x := by
  intro x hx
  unfold begL at hx
  split at hx
  · rename_i h; subst h
    have hw := (okO_is 2 n).1 ho
    have := (numV_nine ⟨n.toNat, by omega⟩).2.2
    have e : ((n.toNat : Nat) : Int) = n := by omega
    simp only [e] at this
    rw [List.mem_singleton.1 hx]
    exact ⟨this.1, this.2⟩
  · rw [(List.mem_replicate.1 hx).2]; exact ⟨by decide, by decide⟩
theorem beg_is {k n : Int} (ho : okO k n = true) : shE k n (begL k n) = 0 ∧ shO k n (begL k n) = ⟨-1, if k = 2 then n else 0, 0, []⟩ := by
  have hw := (okO_is k n).1 ho
  have hl := beg_len ho
  have htn : tvN k n = if k = 3 then n + 2 else if k = 4 then 2 else 1 := by unfold tvN; rw [ho]; rfl
  have key : goodS k n (begL k n) = true ∧ datS k n (begL k n) = ⟨-1, if k = 2 then n else 0, 0, []⟩ := by
    rcases hw with ⟨rfl, rfl⟩ | ⟨rfl, h1⟩ | ⟨rfl, h1⟩ | ⟨rfl, h1⟩
    · have e : begL 1 0 = [0] := rfl
      rw [e]
      unfold goodS goodN datS
      simp [right_0, numR_none]
    · have e : begL 2 n = [numV n] := rfl
      have h9 := numV_nine ⟨n.toNat, by omega⟩
      have e9 : ((n.toNat : Nat) : Int) = n := by omega
      simp only [e9] at h9
      rw [e]
      unfold goodS goodN datS
      simp [h9.1, h9.2.1]
    · have e : begL 3 n = List.replicate (n + 2).toNat 0 := by unfold begL; rw [if_neg (by decide), htn]; rfl
      obtain ⟨m, hm⟩ : ∃ m : Nat, (n + 2).toNat = m + 1 + 1 := ⟨n.toNat, by omega⟩
      rw [e, hm, List.replicate_succ, List.replicate_succ]
      unfold goodS goodN datS
      simp [right_0, numR_none (show (0 : Int) ≤ n by omega), numR_none (show (0 : Int) ≤ n - 1 by omega), rndL]
    · have e : begL 4 n = [0, 0] := by unfold begL; rw [if_neg (by decide), htn]; rfl
      rw [e]
      unfold goodS goodN datS
      simp [right_0, numR_none (show (0 : Int) ≤ n - 1 by omega), numR_none (show (0 : Int) ≤ 9223372036854775807 by omega)]
  have hE : shE k n (begL k n) = 0 := by unfold shE; rw [ho, if_pos rfl, if_pos hl, key.1]; rfl
  exact ⟨hE, by unfold shO; rw [if_pos hE]; exact key.2⟩
theorem beg_arr (k n : Int) : (begA k n).toList = (begL k n).flatMap clc := by
  unfold begA begL
  split
  · rfl
  · rw [Array.toList_replicate]
    generalize (tvN k n).toNat = m
    induction m with
    | zero => rfl
    | succ m ih => rw [List.replicate_succ, List.replicate_succ, List.flatMap_cons, ih]; rfl
theorem beg_row {W : World} {g m : Nat} {k n : Int} (ho : okO k n = true) (hm : (m : Int) = tvN k n) (hg : W.heap[g]? = some (.cells (begA k n) 50 (0, 0))) : ClV W (some ⟨g, 0, none⟩) m m (begL k n) := by
  have hl : m = (begL k n).length := by have := beg_len ho; omega
  have htv := tv_le ho
  refine ⟨hl, ?_, Nat.le_refl _, beg_wf ho⟩
  rw [hl]
  have hsz : (begA k n).size = (begL k n).length * 1 := by rw [← Array.length_toList, beg_arr, flat_len (n := 1) (fun _ => rfl)]
  exact srow_of (cells := clc) (n := 1) (fun _ => rfl) (B := g) (e := 50) ⟨flat_len (n := 1) (fun _ => rfl) _, .inr ⟨g, (begL k n).length, begA k n, rfl, Nat.le_refl _, hg, Nat.le_refl _, by unfold maxLen; omega, hsz, by rw [beg_arr, ← flat_len (cells := clc) (n := 1) (fun _ => rfl), List.take_length]⟩⟩

set_option maxRecDepth 100000 in
set_option maxHeartbeats 2000000 in
theorem callsbegins_any {w : World} (hw : Wds w) (k n : Int) : Calls Tryz.prog 7 #[.int .u8 k, .int .i64 n] w fun e w' => e = .returned (.bool true) ∧ Touch w w' [] := by
  have HBG : HidC _ _ _ _ _ := ⟨begin_any k n w⟩
  have HNW : Hid (∀ W, HidC Tryz.prog 22 #[.int .u8 k, .int .i64 n] W (RnP W k n)) := fun W => ⟨rnewC_any k n W⟩
  have HLV : Hid (∀ W, Touch w W [] → HidC Tryz.prog 11 #[] W fun e w' => e = .returned (.bool true) ∧ Touch W w' []) := fun W tw => ⟨cllive_any (hw.touch tw (by simp))⟩
  have HTV : Hid (∀ W, HidC Tryz.prog 17 #[.int .u8 k, .int .i64 n] W fun e w' => e = .returned (.int .i64 (tvN k n)) ∧ Touch W w' []) := fun W => ⟨tvars_any k n W⟩
  clear hw
  cases ho : okO k n with
  | false =>
    have hz : tvN k n = 0 := by unfold tvN; rw [ho]; rfl
    rw [hz] at HTV
    clear hz
    go_enter Tryz.func7, Tryz.ntmps7
    go_wp2_with fail
    refine HBG.out.mono ?_
    clear HBG
    rintro e w1 (⟨hq, g, m, rfl, hm, hh, hs, t1⟩ | ⟨hq, rfl, t1⟩)
    · rw [ho] at hq; cases hq
    · have HT1 : Hid _ := t1
      clear t1 hq
      go_wp2_with fail
      refine (HNW.out _).out.mono ?_
      clear HNW
      rintro e w2 (⟨hq, b, rfl, hb, hs, t2⟩ | ⟨hq, rfl, t2⟩)
      · rw [ho] at hq; cases hq
      · have HT2 : Hid (Touch w w2 []) := HT1.out.trans t2 (by simp)
        clear t2 hq
        go_wp2_with fail
        refine (HLV.out _ HT2.out).out.mono ?_
        clear HLV
        rintro e w3 ⟨rfl, t3⟩
        have HT3 : Hid (Touch w w3 []) := HT2.out.trans t3 (by simp)
        clear t3
        go_wp2_with fail
        refine (HTV.out _).out.mono ?_
        clear HTV
        rintro e w4 ⟨rfl, t4⟩
        have HT4 : Hid (Touch w w4 []) := HT3.out.trans t4 (by simp)
        clear t4
        go_wp2
        go_ret
        exact ⟨rfl, HT4.out⟩
  | true =>
    have hbi := beg_is ho
    have HBI : Hid _ := hbi
    have htv := tv_le ho
    have HTVL : Hid _ := htv
    clear hbi htv
    go_enter Tryz.func7, Tryz.ntmps7
    go_wp2_with fail
    refine HBG.out.mono ?_
    clear HBG
    rintro e w1 (⟨hq, g, m, rfl, hm, hh, hs, t1⟩ | ⟨hq, rfl, t1⟩)
    rotate_left
    · rw [ho] at hq; cases hq
    have HT1 : Hid _ := t1
    have HR1 : Hid _ := beg_row ho hm hh
    have HMM : Hid _ := hm
    clear t1 hq hh hs hm
    go_wp2_with fail
    refine (HNW.out _).out.mono ?_
    clear HNW
    rintro e w2 (⟨hq, ob, rfl, hb, hs, t2⟩ | ⟨hq, rfl, t2⟩)
    rotate_left
    · rw [ho] at hq; cases hq
    have HT2 : Hid (Touch w w2 []) := HT1.out.trans t2 (by simp)
    have hr2 := (show ClV w1 (some ⟨g, 0, none⟩) m m (begL k n) from HR1.out).keep t2
    have hso := shapeof_any k n hr2 (by have := HMM.out; have := HTVL.out; omega)
    have HOB : Hid (RoN w2 ob k n) := hb
    unfold SoP at hso
    rw [HBI.out.1, HBI.out.2] at hso
    have HSO : HidC _ _ _ _ _ := ⟨hso⟩
    obtain ⟨c, hc⟩ : ∃ c : Int, (if k = 2 then n else 0) = c := ⟨_, rfl⟩
    rw [hc] at HSO
    have HCC : Hid _ := hc
    clear t2 hq hs hr2 hso hb HR1 HBI hc
    go_wp2_with fail
    refine HSO.out.mono ?_
    clear HSO
    rintro e w3 ⟨vm, va, vc, rfl, hv, t3⟩
    have hv0 : vm = 0 := hv.len
    subst hv0
    simp only at hv ⊢
    have HT3 : Hid (Touch w w3 []) := HT2.out.trans t3 (by simp)
    have HOB3 : Hid (RoN w3 ob k n) := (show RoN w2 ob k n from HOB.out).touch t3 (by simp)
    have HV3 : Hid (ClV w3 va 0 vc []) := hv
    clear t3 hv HOB
    obtain ⟨XW, hXW⟩ : ∃ W, W = w3.alloc (.cells #[.int .i64 (-1), .int .i64 c, .int .i64 0, .slice va 0 vc] 37) := ⟨_, rfl⟩
    have hx : XW.heap[w3.heap.size]? = some (.cells #[.int .i64 (-1), .int .i64 c, .int .i64 0, .slice va 0 vc] 37 (0, 0)) := by rw [hXW]; exact heap_alloc_new w3 _
    have tX : Touch w3 XW [] := by rw [hXW]; exact (Touch.refl _ _).alloc _
    obtain ⟨q0, q1, q2, q3⟩ := shp4 hx
    have HCE : Hid (∀ W, Touch XW W [] → W.cell? ⟨w3.heap.size, 0, none⟩ = some (.int .i64 (-1)) ∧ W.cell? ⟨w3.heap.size, 1, none⟩ = some (.int .i64 c) ∧ W.cell? ⟨w3.heap.size, 2, none⟩ = some (.int .i64 0) ∧ W.cell? ⟨w3.heap.size, 3, none⟩ = some (.slice va 0 vc)) := fun W t => shp4 ((t.block _ (lt_of_heap hx) (by simp)).trans hx)
    have HD0 : Hid (Touch w XW.drew []) := (HT3.out.trans tX (by simp)).drew
    have HTX : Hid (Touch w XW [] ∧ Touch w3 XW []) := ⟨HT3.out.trans tX (by simp), tX⟩
    have hmt : ((m : Int) == tvN k n) = true := by have := HMM.out; simp [this]
    rw [show tvN k n = (m : Int) from HMM.out.symm] at HTV
    have HN1 : Hid (∀ w4, Touch XW.drew w4 [] → w4.cell? ⟨w3.heap.size, 0, none⟩ = some (.int .i64 (-1)) ∧ w4.cell? ⟨w3.heap.size, 1, none⟩ = some (.int .i64 c) ∧ w4.cell? ⟨w3.heap.size, 2, none⟩ = some (.int .i64 0) ∧ w4.cell? ⟨w3.heap.size, 3, none⟩ = some (.slice va 0 vc) ∧ Hid (Touch XW w4 []) ∧ Hid (HidC Tryz.prog 17 #[.int .u8 k, .int .i64 n] w4 fun e w' => e = .returned (.int .i64 m) ∧ Touch w4 w' [])) := by
      intro w4 t4
      have tt : Touch XW w4 [] := (Touch.refl XW []).drew.trans t4 (by simp)
      obtain ⟨y0, y1, y2, y3⟩ := HCE.out w4 tt
      exact ⟨y0, y1, y2, y3, tt, HTV.out w4⟩
    have HN2 : Hid (∀ w4 w5, Touch XW w4 [] → Touch w4 w5 [] → w5.cell? ⟨w3.heap.size, 0, none⟩ = some (.int .i64 (-1)) ∧ w5.cell? ⟨w3.heap.size, 1, none⟩ = some (.int .i64 c) ∧ w5.cell? ⟨w3.heap.size, 2, none⟩ = some (.int .i64 0) ∧ w5.cell? ⟨w3.heap.size, 3, none⟩ = some (.slice va 0 vc) ∧ Hid (Touch XW w5 []) ∧ Hid (HidC Tryz.prog 26 #[.pointer (some ⟨ob, 0, none⟩)] w5 (OsP w5 c))) := by
      intro w4 w5 t4 t5
      have tt : Touch XW w5 [] := t4.trans t5 (by simp)
      obtain ⟨y0, y1, y2, y3⟩ := HCE.out w5 tt
      exact ⟨y0, y1, y2, y3, tt, ⟨rshapeN_any ((show RoN w3 ob k n from HOB3.out).touch (tX.trans tt (by simp)) (by simp)) HCC.out⟩⟩
    have HN3 : Hid (∀ w5 w6 (xa : Option Addr) (xc : Nat), Touch XW w5 [] → Touch w5 w6 [] → w6.cell? ⟨w3.heap.size, 0, none⟩ = some (.int .i64 (-1)) ∧ w6.cell? ⟨w3.heap.size, 1, none⟩ = some (.int .i64 c) ∧ w6.cell? ⟨w3.heap.size, 2, none⟩ = some (.int .i64 0) ∧ w6.cell? ⟨w3.heap.size, 3, none⟩ = some (.slice va 0 vc) ∧ Hid (Touch XW w6 []) ∧ Hid (HidC Tryz.prog 20 #[.agg #[.int .i64 (-1), .int .i64 c, .int .i64 0, .slice va 0 vc], .agg #[.int .i64 (-1), .int .i64 c, .int .i64 0, .slice xa 0 xc]] w6 fun e w' => e = .returned (.bool true) ∧ Touch w6 w' [])) := by
      intro w5 w6 xa xc t5 t6
      have tt : Touch XW w6 [] := t5.trans t6 (by simp)
      obtain ⟨y0, y1, y2, y3⟩ := HCE.out w6 tt
      exact ⟨y0, y1, y2, y3, tt, ⟨sameshape_any (-1) c 0 (by omega) ((show ClV w3 va 0 vc [] from HV3.out).keep (tX.trans tt (by simp))) ⟨rfl, ⟨xa, xc, rfl, fun h => absurd rfl h⟩, by omega, fun x hx => by simp at hx⟩⟩⟩
    have HN4 : Hid (∀ w6 w7, Touch XW w6 [] → Touch w6 w7 [] → w7.cell? ⟨w3.heap.size, 0, none⟩ = some (.int .i64 (-1)) ∧ w7.cell? ⟨w3.heap.size, 1, none⟩ = some (.int .i64 c) ∧ w7.cell? ⟨w3.heap.size, 2, none⟩ = some (.int .i64 0) ∧ w7.cell? ⟨w3.heap.size, 3, none⟩ = some (.slice va 0 vc) ∧ Hid (Touch XW w7 [])) := by
      intro w6 w7 t6 t7
      have tt : Touch XW w7 [] := t6.trans t7 (by simp)
      obtain ⟨y0, y1, y2, y3⟩ := HCE.out w7 tt
      exact ⟨y0, y1, y2, y3, tt⟩
    clear hx tX HTV HCE HV3 HOB3 HMM HTVL HCC
    go_wp2_with fail
    simp only [← hXW]
    clear hXW
    generalize w3.heap.size = q at *

    refine wp_region_held_drew (S := (fun w' => w'.cell? ⟨q, 0, none⟩ = some (.int .i64 (-1)) ∧ w'.cell? ⟨q, 1, none⟩ = some (.int .i64 c) ∧ w'.cell? ⟨q, 2, none⟩ = some (.int .i64 0) ∧ w'.cell? ⟨q, 3, none⟩ = some (.slice va 0 vc))) (by kernel_rfl) ⟨q0, q1, q2, q3⟩ (fun hHeld => ?_)
    clear hHeld
    refine wpAnyH_ready (rs := [0]) (by kernel_rfl) (by simp) (AllReadyH.cons rfl (fun K hK => ?_) AllReadyH.nil)
    rw [if_pos (by rfl)]
    go_wp2_with fail
    refine (HLV.out _ HD0.out).out.mono ?_
    rintro e w4 ⟨rfl, t4⟩
    obtain ⟨a0, a1, a2, a3, HT4, HTVW⟩ := HN1.out w4 t4
    clear t4 HLV
    refine hK.out _ _ ⟨a0, a1, a2, a3⟩ (fun hHeld => ?_)
    clear hK
    try simp only [Act.put, List.getElem_toArray, List.getElem_cons_succ, List.getElem_cons_zero, List.setIfInBounds_toArray, List.set_cons_zero, List.set_cons_succ]
    refine wpAnyH_take (i := 1) (v := .bool true) rfl (by kernel_rfl) (by kernel_rfl) (by kernel_rfl) (fun _ _ _ h => h) (Or.inl ⟨by rfl, ?_⟩) hHeld ?_
    · intro w' hSw
      try simp only [Act.put, List.getElem_toArray, List.getElem_cons_succ, List.getElem_cons_zero, List.setIfInBounds_toArray, List.set_cons_zero, List.set_cons_succ]
      go_simp
    try simp only [Act.put, List.getElem_toArray, List.getElem_cons_succ, List.getElem_cons_zero, List.setIfInBounds_toArray, List.set_cons_zero, List.set_cons_succ]
    refine wpAnyH_take (i := 2) (v := .int .i64 0) rfl (by kernel_rfl) (by kernel_rfl) (by kernel_rfl) (fun _ _ _ h => h) (Or.inl ⟨by rfl, ?_⟩) hHeld ?_
    · intro w' hSw
      try simp only [Act.put, List.getElem_toArray, List.getElem_cons_succ, List.getElem_cons_zero, List.setIfInBounds_toArray, List.set_cons_zero, List.set_cons_succ]
      go_simp
    try simp only [Act.put, List.getElem_toArray, List.getElem_cons_succ, List.getElem_cons_zero, List.setIfInBounds_toArray, List.set_cons_zero, List.set_cons_succ]
    refine wpAnyH_take (i := 3) (v := .bool true) rfl (by kernel_rfl) (by kernel_rfl) (by kernel_rfl) (fun _ _ _ h => h) (Or.inl ⟨by rfl, ?_⟩) hHeld ?_
    · intro w' hSw
      try simp only [Act.put, List.getElem_toArray, List.getElem_cons_succ, List.getElem_cons_zero, List.setIfInBounds_toArray, List.set_cons_zero, List.set_cons_succ]
      go_simp
    try simp only [Act.put, List.getElem_toArray, List.getElem_cons_succ, List.getElem_cons_zero, List.setIfInBounds_toArray, List.set_cons_zero, List.set_cons_succ]
    refine wpAnyH_take (i := 4) (v := .bool true) rfl (by kernel_rfl) (by kernel_rfl) (by kernel_rfl) (fun _ _ _ h => h) (Or.inl ⟨by rfl, ?_⟩) hHeld ?_
    · intro w' hSw
      try simp only [Act.put, List.getElem_toArray, List.getElem_cons_succ, List.getElem_cons_zero, List.setIfInBounds_toArray, List.set_cons_zero, List.set_cons_succ]
      go_simp
    try simp only [Act.put, List.getElem_toArray, List.getElem_cons_succ, List.getElem_cons_zero, List.setIfInBounds_toArray, List.set_cons_zero, List.set_cons_succ]
    refine wpAnyH_take (i := 5) (v := .bool true) rfl (by kernel_rfl) (by kernel_rfl) (by kernel_rfl) (fun _ _ _ h => h) (Or.inl ⟨by rfl, ?_⟩) hHeld ?_
    · intro w' hSw
      try simp only [Act.put, List.getElem_toArray, List.getElem_cons_succ, List.getElem_cons_zero, List.setIfInBounds_toArray, List.set_cons_zero, List.set_cons_succ]
      go_simp
    try simp only [Act.put, List.getElem_toArray, List.getElem_cons_succ, List.getElem_cons_zero, List.setIfInBounds_toArray, List.set_cons_zero, List.set_cons_succ]
    refine wpAnyH_take (i := 6) (v := .int .i64 0) rfl (by kernel_rfl) (by kernel_rfl) (by kernel_rfl) (fun _ _ _ h => h) (Or.inl ⟨by rfl, ?_⟩) hHeld ?_
    · intro w' hSw
      try simp only [Act.put, List.getElem_toArray, List.getElem_cons_succ, List.getElem_cons_zero, List.setIfInBounds_toArray, List.set_cons_zero, List.set_cons_succ]
      go_simp
    try simp only [Act.put, List.getElem_toArray, List.getElem_cons_succ, List.getElem_cons_zero, List.setIfInBounds_toArray, List.set_cons_zero, List.set_cons_succ]
    refine wpAnyH_take (i := 7) (v := .bool true) rfl (by kernel_rfl) (by kernel_rfl) (by kernel_rfl) (fun _ _ _ h => h) (Or.inl ⟨by rfl, ?_⟩) hHeld ?_
    · intro w' hSw
      try simp only [Act.put, List.getElem_toArray, List.getElem_cons_succ, List.getElem_cons_zero, List.setIfInBounds_toArray, List.set_cons_zero, List.set_cons_succ]
      go_simp
    try simp only [Act.put, List.getElem_toArray, List.getElem_cons_succ, List.getElem_cons_zero, List.setIfInBounds_toArray, List.set_cons_zero, List.set_cons_succ]
    refine wpAnyH_take (i := 8) (v := .bool true) rfl (by kernel_rfl) (by kernel_rfl) (by kernel_rfl) (fun _ _ _ h => h) (Or.inl ⟨by rfl, ?_⟩) hHeld ?_
    · intro w' hSw
      try simp only [Act.put, List.getElem_toArray, List.getElem_cons_succ, List.getElem_cons_zero, List.setIfInBounds_toArray, List.set_cons_zero, List.set_cons_succ]
      go_simp
    try simp only [Act.put, List.getElem_toArray, List.getElem_cons_succ, List.getElem_cons_zero, List.setIfInBounds_toArray, List.set_cons_zero, List.set_cons_succ]
    refine wpAnyH_take (i := 9) (v := .bool true) rfl (by kernel_rfl) (by kernel_rfl) (by kernel_rfl) (fun _ _ _ h => h) (Or.inl ⟨by rfl, ?_⟩) hHeld ?_
    · intro w' hSw
      try simp only [Act.put, List.getElem_toArray, List.getElem_cons_succ, List.getElem_cons_zero, List.setIfInBounds_toArray, List.set_cons_zero, List.set_cons_succ]
      go_simp
    try simp only [Act.put, List.getElem_toArray, List.getElem_cons_succ, List.getElem_cons_zero, List.setIfInBounds_toArray, List.set_cons_zero, List.set_cons_succ]
    refine wpAnyH_take (i := 10) (v := .slice (some ⟨g, 0, none⟩) m m) rfl (by kernel_rfl) (by kernel_rfl) (by kernel_rfl) (fun _ _ _ h => h) (Or.inl ⟨by rfl, ?_⟩) hHeld ?_
    · intro w' hSw
      try simp only [Act.put, List.getElem_toArray, List.getElem_cons_succ, List.getElem_cons_zero, List.setIfInBounds_toArray, List.set_cons_zero, List.set_cons_succ]
      go_simp
    try simp only [Act.put, List.getElem_toArray, List.getElem_cons_succ, List.getElem_cons_zero, List.setIfInBounds_toArray, List.set_cons_zero, List.set_cons_succ]
    refine wpAnyH_take (i := 11) (v := .int .i64 m) rfl (by kernel_rfl) (by kernel_rfl) (by kernel_rfl) (fun _ _ _ h => h) (Or.inl ⟨by rfl, ?_⟩) hHeld ?_
    · intro w' hSw
      try simp only [Act.put, List.getElem_toArray, List.getElem_cons_succ, List.getElem_cons_zero, List.setIfInBounds_toArray, List.set_cons_zero, List.set_cons_succ]
      go_simp
    try simp only [Act.put, List.getElem_toArray, List.getElem_cons_succ, List.getElem_cons_zero, List.setIfInBounds_toArray, List.set_cons_zero, List.set_cons_succ]
    refine wpAnyH_take (i := 12) (v := .int .u8 k) rfl (by kernel_rfl) (by kernel_rfl) (by kernel_rfl) (fun _ _ _ h => h) (Or.inl ⟨by rfl, ?_⟩) hHeld ?_
    · intro w' hSw
      try simp only [Act.put, List.getElem_toArray, List.getElem_cons_succ, List.getElem_cons_zero, List.setIfInBounds_toArray, List.set_cons_zero, List.set_cons_succ]
      go_simp
    try simp only [Act.put, List.getElem_toArray, List.getElem_cons_succ, List.getElem_cons_zero, List.setIfInBounds_toArray, List.set_cons_zero, List.set_cons_succ]
    refine wpAnyH_take (i := 13) (v := .int .i64 n) rfl (by kernel_rfl) (by kernel_rfl) (by kernel_rfl) (fun _ _ _ h => h) (Or.inl ⟨by rfl, ?_⟩) hHeld ?_
    · intro w' hSw
      try simp only [Act.put, List.getElem_toArray, List.getElem_cons_succ, List.getElem_cons_zero, List.setIfInBounds_toArray, List.set_cons_zero, List.set_cons_succ]
      go_simp
    try simp only [Act.put, List.getElem_toArray, List.getElem_cons_succ, List.getElem_cons_zero, List.setIfInBounds_toArray, List.set_cons_zero, List.set_cons_succ]
    clear hHeld
    refine wpAnyH_ready (rs := [14]) (by kernel_rfl) (by simp) (AllReadyH.cons rfl (fun K hK => ?_) AllReadyH.nil)
    rw [if_pos (by rfl)]
    go_wp2_with fail
    refine HTVW.out.out.mono ?_
    clear HTVW
    rintro e w5 ⟨rfl, t5⟩
    obtain ⟨b0, b1, b2, b3, HT5, HSHW⟩ := HN2.out w4 w5 HT4.out t5
    clear t5
    refine hK.out _ _ ⟨b0, b1, b2, b3⟩ (fun hHeld => ?_)
    clear hK
    try simp only [Act.put, List.getElem_toArray, List.getElem_cons_succ, List.getElem_cons_zero, List.setIfInBounds_toArray, List.set_cons_zero, List.set_cons_succ]
    refine wpAnyH_take (i := 15) (v := .bool true) rfl (by kernel_rfl) (by kernel_rfl) (by kernel_rfl) (fun _ _ _ h => h) (Or.inl ⟨by rfl, ?_⟩) hHeld ?_
    · intro w' hSw
      try simp only [Act.put, List.getElem_toArray, List.getElem_cons_succ, List.getElem_cons_zero, List.setIfInBounds_toArray, List.set_cons_zero, List.set_cons_succ]
      go_simp
    try simp only [Act.put, List.getElem_toArray, List.getElem_cons_succ, List.getElem_cons_zero, List.setIfInBounds_toArray, List.set_cons_zero, List.set_cons_succ]
    refine wpAnyH_take (i := 16) (v := .bool true) rfl (by kernel_rfl) (by kernel_rfl) (by kernel_rfl) (fun _ _ _ h => h) (Or.inl ⟨by rfl, ?_⟩) hHeld ?_
    · intro w' hSw
      try simp only [Act.put, List.getElem_toArray, List.getElem_cons_succ, List.getElem_cons_zero, List.setIfInBounds_toArray, List.set_cons_zero, List.set_cons_succ]
      go_simp
    try simp only [Act.put, List.getElem_toArray, List.getElem_cons_succ, List.getElem_cons_zero, List.setIfInBounds_toArray, List.set_cons_zero, List.set_cons_succ]
    refine wpAnyH_take (i := 17) (v := .bool true) rfl (by kernel_rfl) (by kernel_rfl) (by kernel_rfl) (fun _ _ _ h => h) (Or.inl ⟨by rfl, ?_⟩) hHeld ?_
    · intro w' hSw
      try simp only [Act.put, List.getElem_toArray, List.getElem_cons_succ, List.getElem_cons_zero, List.setIfInBounds_toArray, List.set_cons_zero, List.set_cons_succ]
      go_simp
    try simp only [Act.put, List.getElem_toArray, List.getElem_cons_succ, List.getElem_cons_zero, List.setIfInBounds_toArray, List.set_cons_zero, List.set_cons_succ]
    refine wpAnyH_take (i := 18) (v := .agg #[.int .i64 (-1), .int .i64 c, .int .i64 0, .slice va 0 vc]) rfl (by kernel_rfl) (by kernel_rfl) (by kernel_rfl) (fun _ _ _ h => h) (Or.inl ⟨by rfl, ?_⟩) hHeld ?_
    · intro w' hSw
      try simp only [Act.put, List.getElem_toArray, List.getElem_cons_succ, List.getElem_cons_zero, List.setIfInBounds_toArray, List.set_cons_zero, List.set_cons_succ]
      obtain ⟨s0, s1, s2, s3⟩ := hSw; go_simp
    try simp only [Act.put, List.getElem_toArray, List.getElem_cons_succ, List.getElem_cons_zero, List.setIfInBounds_toArray, List.set_cons_zero, List.set_cons_succ]
    refine wpAnyH_take (i := 19) (v := .pointer (some ⟨ob, 0, none⟩)) rfl (by kernel_rfl) (by kernel_rfl) (by kernel_rfl) (fun _ _ _ h => h) (Or.inl ⟨by rfl, ?_⟩) hHeld ?_
    · intro w' hSw
      try simp only [Act.put, List.getElem_toArray, List.getElem_cons_succ, List.getElem_cons_zero, List.setIfInBounds_toArray, List.set_cons_zero, List.set_cons_succ]
      go_simp
    try simp only [Act.put, List.getElem_toArray, List.getElem_cons_succ, List.getElem_cons_zero, List.setIfInBounds_toArray, List.set_cons_zero, List.set_cons_succ]
    clear hHeld
    refine wpAnyH_ready (rs := [20]) (by kernel_rfl) (by simp) (AllReadyH.cons rfl (fun K hK => ?_) AllReadyH.nil)
    rw [if_pos (by rfl)]
    go_wp2_with fail
    refine HSHW.out.out.mono ?_
    clear HSHW
    rintro e w6 ⟨xa, xc, rfl, t6⟩
    obtain ⟨c0, c1, c2, c3, HT6, HSAW⟩ := HN3.out w5 w6 xa xc HT5.out t6
    clear t6
    refine hK.out _ _ ⟨c0, c1, c2, c3⟩ (fun hHeld => ?_)
    clear hK
    try simp only [Act.put, List.getElem_toArray, List.getElem_cons_succ, List.getElem_cons_zero, List.setIfInBounds_toArray, List.set_cons_zero, List.set_cons_succ]
    clear hHeld
    refine wpAnyH_ready (rs := [21]) (by kernel_rfl) (by simp) (AllReadyH.cons rfl (fun K hK => ?_) AllReadyH.nil)
    rw [if_pos (by rfl)]
    go_wp2_with fail
    refine HSAW.out.out.mono ?_
    clear HSAW
    rintro e w7 ⟨rfl, t7⟩
    obtain ⟨e0, e1, e2, e3, HT7⟩ := HN4.out w6 w7 HT6.out t7
    clear t7
    refine hK.out _ _ ⟨e0, e1, e2, e3⟩ (fun hHeld => ?_)
    clear hK
    try simp only [Act.put, List.getElem_toArray, List.getElem_cons_succ, List.getElem_cons_zero, List.setIfInBounds_toArray, List.set_cons_zero, List.set_cons_succ]
    refine wpAnyH_take (i := 22) (v := .bool true) rfl (by kernel_rfl) (by kernel_rfl) (by kernel_rfl) (fun _ _ _ h => h) (Or.inl ⟨by rfl, ?_⟩) hHeld ?_
    · intro w' hSw
      try simp only [Act.put, List.getElem_toArray, List.getElem_cons_succ, List.getElem_cons_zero, List.setIfInBounds_toArray, List.set_cons_zero, List.set_cons_succ]
      go_simp
    try simp only [Act.put, List.getElem_toArray, List.getElem_cons_succ, List.getElem_cons_zero, List.setIfInBounds_toArray, List.set_cons_zero, List.set_cons_succ]
    refine wpAnyH_take (i := 23) (v := .bool true) rfl (by kernel_rfl) (by kernel_rfl) (by kernel_rfl) (fun _ _ _ h => h) (Or.inl ⟨by rfl, ?_⟩) hHeld ?_
    · intro w' hSw
      try simp only [Act.put, List.getElem_toArray, List.getElem_cons_succ, List.getElem_cons_zero, List.setIfInBounds_toArray, List.set_cons_zero, List.set_cons_succ]
      go_simp
    try simp only [Act.put, List.getElem_toArray, List.getElem_cons_succ, List.getElem_cons_zero, List.setIfInBounds_toArray, List.set_cons_zero, List.set_cons_succ]
    clear hHeld
    refine wpAnyH_done (by kernel_rfl) ?_ _
    have HTF : Hid (Touch w w7 []) := HTX.out.1.trans HT7.out (by simp)
    clear q0 q1 q2 q3 a0 a1 a2 a3 b0 b1 b2 b3 c0 c1 c2 c3 e0 e1 e2 e3
    go_wp2
    go_ret
    exact ⟨rfl, HTF.out⟩

end Go.Proofs.YtcbkafbchpjnoaaGreatDoor
/-
  The document's Begin BY ITS CONTRACT; CallsShapes, WALKED.
-/
namespace Go.Proofs.YtcbkafbchpjnoaaGreatDoor
set_option linter.unusedVariables false
set_option linter.unusedSimpArgs false
open Go.RowKit
attribute [local go_sem] Oper.semAt_some

set_option maxRecDepth 100000 in
set_option maxHeartbeats 1000000 in
theorem rbegin_any (k n : Int) (w : World) : Calls Tryz.prog 14 #[.int .u8 k, .int .i64 n] w (BegP w k n) := by
  have HTN : Hid (∀ W, HidC Tryz.prog 18 #[.int .u8 k, .int .i64 n] W fun e w' => e = .returned (.int .i64 (tvN k n)) ∧ Touch W w' []) := fun W => ⟨rtvars_any k n W⟩
  cases ho : okO k n with
  | false =>
    have hz : tvN k n = 0 := by unfold tvN; rw [ho]; rfl
    rw [hz] at HTN
    clear hz
    go_enter Tryz.func14, Tryz.ntmps14
    go_wp2_with fail
    refine (HTN.out _).out.mono ?_
    clear HTN
    rintro e w1 ⟨rfl, t⟩
    have HT : Hid _ := t
    clear t
    go_wp2
    exact bodyPost_ret (v := .tuple #[.slice none 0 0, .int .i64 3]) (by simp [results, Tryz.results14, go_sem]) rfl (.inr ⟨ho, rfl, HT.out⟩)
  | true =>
    have HO : Hid _ := ho
    have hw := (okO_is k n).1 ho
    have HTV : Hid _ := tv_le ho
    have HA : Hid (begA k n = if k = 2 then #[.int .u64 (numV n)] else Array.replicate (tvN k n).toNat (.int .u64 0)) := rfl
    obtain ⟨m, hm⟩ : ∃ m : Nat, (m : Int) = tvN k n := ⟨(tvN k n).toNat, by have := HTV.out; omega⟩
    have HM : Hid _ := hm
    have hm6 : m ≤ 6 := by have := HTV.out; omega
    have hmz : ((m : Int) == 0) = false := by have := HTV.out; simp; omega
    have HMT : Hid ((tvN k n).toNat = m) := by show _ = _; omega
    rw [← hm] at HTN
    by_cases h2 : k = 2
    · subst h2
      have hn9 : 0 ≤ n ∧ n ≤ 9 := by omega
      have hm1 : m = 1 := by have h := hm; unfold tvN at h; rw [ho] at h; simp at h; omega
      subst hm1
      have HIN : Hid (∀ W, HidC Tryz.prog 37 #[.int .i64 n] W fun e w' => e = .returned (.tuple #[.int .u64 (numV n), .bool true]) ∧ W = w') := fun W => ⟨rint_ok n (by omega) (by omega) W⟩
      have HAA : Hid (begA 2 n = #[.int .u64 (numV n)]) := HA.out
      have hmk : ∀ W : World, (Instr.makeSlice 33 (.int .i64 1) (.int .i64 1)).run Tryz.prog W = .ok (.slice (some ⟨W.heap.size, 0, none⟩) 1 1) (W.alloc (.cells (Array.replicate 1 (.int .u64 0)) 50)) := fun W => make_valC 1 (by omega) W
      have hrep : Array.replicate 1 (Value.int .u64 0) = #[.int .u64 0] := rfl
      rw [hrep] at hmk
      clear hm hw HA ho hrep
      generalize numV n = x at *
      go_enter Tryz.func14, Tryz.ntmps14
      go_wp2_with fail
      refine (HTN.out _).out.mono ?_
      rintro e w2 ⟨rfl, t⟩
      have HT : Hid _ := t
      clear t HTN
      go_wp2_with fail
      refine (HIN.out _).out.mono ?_
      rintro e w4 ⟨rfl, rfl⟩
      clear HIN
      go_wp2
      exact bodyPost_ret (v := .tuple #[.slice (some ⟨w2.heap.size, 0, none⟩) 1 1, .int .i64 0]) (by simp [results, Tryz.results14, go_sem]) rfl (.inl ⟨HO.out, w2.heap.size, 1, rfl, HM.out, by rw [show begA 2 n = _ from HAA.out]; exact heap_alloc_new w2 _, HT.out.size, HT.out.alloc _⟩)
    · have HAA : Hid (begA k n = Array.replicate m (.int .u64 0)) := by show _ = _; rw [HA.out, if_neg h2, HMT.out]
      have k2 : (k == 2) = false := by simpa using h2
      have hmk := fun W => make_valC m (by omega) W
      clear hm hw HA ho
      go_enter Tryz.func14, Tryz.ntmps14
      go_wp2_with fail
      refine (HTN.out _).out.mono ?_
      rintro e w2 ⟨rfl, t⟩
      have HT2 : Hid (Touch w w2 []) := t
      clear t HTN
      go_wp2
      exact bodyPost_ret (v := .tuple #[.slice (some ⟨w2.heap.size, 0, none⟩) m m, .int .i64 0]) (by simp [results, Tryz.results14, go_sem]) rfl (.inl ⟨HO.out, w2.heap.size, m, rfl, HM.out, by rw [show begA k n = _ from HAA.out]; exact heap_alloc_new w2 _, HT2.out.size, HT2.out.alloc _⟩)

/-- Begin, in the same words. -/
def bgL (k n : Int) : List Int := if okO k n then begL k n else []
def bgE (k n : Int) : Int := if okO k n then 0 else 3
def BgQ (w : World) (k n : Int) (e : Ending) (w' : World) : Prop := ∃ (m : Nat) (a : Option Addr) (cp : Nat), e = .returned (.tuple #[.slice a m cp, .int .i64 (bgE k n)]) ∧ m = (bgL k n).length ∧ ClV w' a m cp (bgL k n) ∧ Touch w w' []
theorem BegP.q {w : World} {k n : Int} {e : Ending} {w' : World} (h : BegP w k n e w') : BgQ w k n e w' := by
  rcases h with ⟨ho, g, m, rfl, hm, hh, hs, t⟩ | ⟨ho, rfl, t⟩
  · have hr := beg_row ho hm hh
    have e1 : bgL k n = begL k n := by unfold bgL; rw [ho]; rfl
    have e2 : bgE k n = 0 := by unfold bgE; rw [ho]; rfl
    unfold BgQ
    rw [e1, e2]
    exact ⟨m, _, m, rfl, hr.len, hr, t⟩
  · have e1 : bgL k n = [] := by unfold bgL; rw [ho]; rfl
    have e2 : bgE k n = 3 := by unfold bgE; rw [ho]; rfl
    unfold BgQ
    rw [e1, e2]
    exact ⟨0, none, 0, rfl, rfl, clv_nil _, t⟩
theorem bg_len (k n : Int) : (bgL k n).length ≤ 1000 := by
  unfold bgL
  cases ho : okO k n with
  | false => simp
  | true => have := beg_len ho; have := tv_le ho; simp only [if_true]; omega
theorem sho_len {k n : Int} {h : List Int} (hw : ∀ x ∈ h, Wf64 x) : (shO k n h).l.length ≤ 1000 := by
  unfold shO
  split
  · rename_i he
    have ho : okO k n = true := by
      cases hq : okO k n with
      | true => rfl
      | false => unfold shE at he; rw [hq] at he; simp at he
    have hp : (h.length : Int) = tvN k n := by
      unfold shE at he
      rw [ho, if_pos rfl] at he
      by_cases hq : (h.length : Int) = tvN k n
      · exact hq
      · rw [if_neg hq] at he; cases he
    have hways := (okO_is k n).1 ho
    unfold datS
    split
    · simp
    · split
      · simp
      · split
        · rename_i h3
          subst h3
          have htv : tvN 3 n = n + 2 := by unfold tvN; rw [ho]; rfl
          obtain ⟨x, y, P, rfl⟩ := list2' (show 2 ≤ h.length by omega)
          have := numR_range (hw x (by simp)) (show (0 : Int) ≤ n by omega)
          simp only [rndL_len, List.getD_cons_zero]
          omega
        · simp
  · simp

set_option maxRecDepth 100000 in
set_option maxHeartbeats 2000000 in
theorem callsshapes_any {w : World} (hw : Wds w) (k n : Int) {ao : Option Addr} {p cap : Nat} {h : List Int} (hh : ClV w ao p cap h) (hp : p ≤ 9223372036854775807) :
    Calls Tryz.prog 4 #[.int .u8 k, .int .i64 n, .slice ao p cap] w fun e w' => e = .returned (.bool true) ∧ Touch w w' [] := by
  have C1 : Hid (∀ W, HidC Tryz.prog 13 #[.int .u8 k, .int .i64 n] W (BgQ W k n)) := fun W => ⟨(begin_any k n W).mono fun _ _ q => q.q⟩
  have C2 : Hid (∀ W, HidC Tryz.prog 14 #[.int .u8 k, .int .i64 n] W (BgQ W k n)) := fun W => ⟨(rbegin_any k n W).mono fun _ _ q => q.q⟩
  have C3 : Hid (∀ W, Touch w W [] → HidC Tryz.prog 15 #[.int .u8 k, .int .i64 n, .slice ao p cap] W (SoP W k n h)) := fun W tw => ⟨shapeof_any k n (hh.keep tw) hp⟩
  have C4 : Hid (∀ W, Touch w W [] → HidC Tryz.prog 16 #[.int .u8 k, .int .i64 n, .slice ao p cap] W (SoP W k n h)) := fun W tw => ⟨rshapeof_any k n (hh.keep tw) hp⟩
  have HLV : Hid (∀ W, Touch w W [] → HidC Tryz.prog 11 #[] W fun e w' => e = .returned (.bool true) ∧ Touch W w' []) := fun W tw => ⟨cllive_any (hw.touch tw (by simp))⟩
  have HT1 : Hid (∀ W, HidC Tryz.prog 17 #[.int .u8 k, .int .i64 n] W fun e w' => e = .returned (.int .i64 (tvN k n)) ∧ Touch W w' []) := fun W => ⟨tvars_any k n W⟩
  have HT2 : Hid (∀ W, HidC Tryz.prog 18 #[.int .u8 k, .int .i64 n] W fun e w' => e = .returned (.int .i64 (tvN k n)) ∧ Touch W w' []) := fun W => ⟨rtvars_any k n W⟩
  have HBL : Hid _ := bg_len k n
  have HSL : Hid ((shO k n h).l.length ≤ 1000) := sho_len hh.wf
  clear hw hh
  unfold BgQ at C1 C2
  unfold SoP at C3 C4
  generalize tvN k n = tv at *
  generalize bgL k n = bl at *
  generalize bgE k n = be at *
  generalize shE k n h = se at *
  generalize shO k n h = D at *
  obtain ⟨Do, Dc, Dg, Dl⟩ := D
  simp only at C3 C4 HSL
  go_enter Tryz.func4, Tryz.ntmps4
  go_wp2_with fail
  refine (C1.out _).out.mono ?_
  clear C1
  rintro e w1 ⟨m1, a1, c1, rfl, hm1, hv1, t1⟩
  have HV1 : Hid _ := hv1
  have HW1 : Hid (Touch w w1 []) := t1
  have HM1 : Hid _ := hm1
  clear hv1 t1 hm1
  go_wp2_with fail
  refine (C2.out _).out.mono ?_
  clear C2
  rintro e w2 ⟨m2, a2, c2, rfl, hm2, hv2, t2⟩
  obtain rfl : m2 = m1 := by rw [hm2]; exact HM1.out.symm
  have HV2 : Hid _ := hv2
  have HV12 : Hid (ClV w2 a1 m2 c1 bl) := HV1.out.keep t2
  have HW2 : Hid (Touch w w2 []) := HW1.out.trans t2 (by simp)
  clear hv2 t2 HV1 HW1 hm2
  go_wp2_with fail
  refine (C3.out _ HW2.out).out.mono ?_
  clear C3
  rintro e w3 ⟨m3, a3, c3, rfl, hv3, t3⟩
  obtain ⟨X3, hX3⟩ : ∃ W, W = w3.alloc (.cells #[.int .i64 Do, .int .i64 Dc, .int .i64 Dg, .slice a3 m3 c3] 37) := ⟨_, rfl⟩
  have x3 : X3.heap[w3.heap.size]? = some (.cells #[.int .i64 Do, .int .i64 Dc, .int .i64 Dg, .slice a3 m3 c3] 37 (0, 0)) := by rw [hX3]; exact heap_alloc_new w3 _
  have tX : Touch w3 X3 [] := by rw [hX3]; exact (Touch.refl _ _).alloc _
  have HW3 : Hid (Touch w X3 []) := (HW2.out.trans t3 (by simp)).trans tX (by simp)
  have HV13 : Hid (ClV X3 a1 m2 c1 bl) := HV12.out.keep (t3.trans tX (by simp))
  have HV23 : Hid (ClV X3 a2 m2 c2 bl) := HV2.out.keep (t3.trans tX (by simp))
  have HV33 : Hid (ClV X3 a3 m3 c3 Dl) := hv3.keep tX
  have HX3 : Hid _ := x3
  have HM3 : Hid (m3 = Dl.length) := hv3.len
  clear hv3 t3 tX x3 HV12 HV2 HW2
  go_wp2_with fail
  simp only [← hX3]
  clear hX3
  generalize w3.heap.size = b3 at *
  refine (C4.out _ HW3.out).out.mono ?_
  clear C4
  rintro e w4 ⟨m4, a4, c4, rfl, hv4, t4⟩
  obtain rfl : m4 = m3 := by rw [hv4.len]; exact HM3.out.symm
  obtain ⟨X4, hX4⟩ : ∃ W, W = w4.alloc (.cells #[.int .i64 Do, .int .i64 Dc, .int .i64 Dg, .slice a4 m4 c4] 37) := ⟨_, rfl⟩
  have x4 : X4.heap[w4.heap.size]? = some (.cells #[.int .i64 Do, .int .i64 Dc, .int .i64 Dg, .slice a4 m4 c4] 37 (0, 0)) := by rw [hX4]; exact heap_alloc_new w4 _
  have tX : Touch w4 X4 [] := by rw [hX4]; exact (Touch.refl _ _).alloc _
  have t34 : Touch X3 X4 [] := t4.trans tX (by simp)
  have HW4 : Hid (Touch w X4 []) := HW3.out.trans t34 (by simp)
  have HV14 : Hid (ClV X4 a1 m2 c1 bl) := HV13.out.keep t34
  have HV24 : Hid (ClV X4 a2 m2 c2 bl) := HV23.out.keep t34
  have HV34 : Hid (ClV X4 a3 m4 c3 Dl) := HV33.out.keep t34
  have HV44 : Hid (ClV X4 a4 m4 c4 Dl) := hv4.keep tX
  have hx34 : X4.heap[b3]? = some (.cells #[.int .i64 Do, .int .i64 Dc, .int .i64 Dg, .slice a3 m4 c3] 37 (0, 0)) := (t34.block b3 (lt_of_heap HX3.out) (by simp)).trans HX3.out
  have HCE : Hid (∀ W, Touch X4 W [] → (W.cell? ⟨b3, 0, none⟩ = some (.int .i64 Do) ∧ W.cell? ⟨b3, 1, none⟩ = some (.int .i64 Dc) ∧ W.cell? ⟨b3, 2, none⟩ = some (.int .i64 Dg) ∧ W.cell? ⟨b3, 3, none⟩ = some (.slice a3 m4 c3)) ∧ (W.cell? ⟨w4.heap.size, 0, none⟩ = some (.int .i64 Do) ∧ W.cell? ⟨w4.heap.size, 1, none⟩ = some (.int .i64 Dc) ∧ W.cell? ⟨w4.heap.size, 2, none⟩ = some (.int .i64 Dg) ∧ W.cell? ⟨w4.heap.size, 3, none⟩ = some (.slice a4 m4 c4))) := fun W t => ⟨shp4 ((t.block _ (lt_of_heap hx34) (by simp)).trans hx34), shp4 ((t.block _ (lt_of_heap x4) (by simp)).trans x4)⟩
  clear hv4 t4 tX t34 x4 hx34 HV13 HV23 HV33 HX3 HW3 HM3
  go_wp2_with fail
  simp only [← hX4]
  clear hX4
  generalize w4.heap.size = b4 at *
  refine (HLV.out _ HW4.out).out.mono ?_
  clear HLV
  rintro e w5 ⟨rfl, t5⟩
  have HX5 : Hid (Touch X4 w5 []) := t5
  clear t5
  go_wp2_with fail
  refine (HT1.out _).out.mono ?_
  clear HT1
  rintro e w6 ⟨rfl, t6⟩
  have HX6 : Hid (Touch X4 w6 []) := HX5.out.trans t6 (by simp)
  clear t6 HX5
  go_wp2_with fail
  refine (HT2.out _).out.mono ?_
  clear HT2
  rintro e w7 ⟨rfl, t7⟩
  have HX7 : Hid (Touch X4 w7 []) := HX6.out.trans t7 (by simp)
  clear t7 HX6
  have HSV : HidC _ _ _ _ _ := ⟨clsame_any (w := w7) (show m2 ≤ 1000 by have := HM1.out; have := HBL.out; omega) (HV14.out.keep HX7.out) (HV24.out.keep HX7.out)⟩
  go_wp2_with fail
  refine HSV.out.mono ?_
  clear HSV
  rintro e w8 ⟨rfl, t8⟩
  have HX8 : Hid (Touch X4 w8 []) := HX7.out.trans t8 (by simp)
  obtain ⟨⟨x0, x1, x2, x3⟩, ⟨y0, y1, y2, y3⟩⟩ := HCE.out w8 HX8.out
  have HSS : HidC _ _ _ _ _ := ⟨sameshape_any Do Dc Dg (w := w8) (show m4 ≤ 1000 by have h1 := (show ClV X4 a3 m4 c3 Dl from HV34.out).len; have := HSL.out; omega) (HV34.out.keep HX8.out) (HV44.out.keep HX8.out)⟩
  clear t8 HX7
  go_wp2_with fail
  refine HSS.out.mono ?_
  clear HSS
  rintro e w9 ⟨rfl, t9⟩
  have HX9 : Hid (Touch w w9 []) := HW4.out.trans (HX8.out.trans t9 (by simp)) (by simp)
  clear t9 x0 x1 x2 x3 y0 y1 y2 y3
  go_wp2
  go_ret
  exact ⟨rfl, HX9.out⟩

end Go.Proofs.YtcbkafbchpjnoaaGreatDoor

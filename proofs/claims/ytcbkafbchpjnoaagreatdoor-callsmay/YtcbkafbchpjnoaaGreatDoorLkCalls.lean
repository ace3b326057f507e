/-
  package locks: Lock, Unlock, Down, Up BY THEIR CONTRACTS. Written by mklk2.py.
-/
import Derived.Test.YtcbkafbchpjnoaaGreatDoorLkAt
namespace Go.Proofs.YtcbkafbchpjnoaaGreatDoor
set_option linter.unusedVariables false
set_option linter.unusedSimpArgs false
open Go.RowKit
attribute [local go_sem] Oper.semAt_some

theorem numV_fin : ∀ n : Fin 16, ofB (floatOfInt .f64 (n.val : Int)) < 18446744073709551616 := by decide +kernel
theorem numV_wf (n : Int) (h : 0 ≤ n ∧ n ≤ 15) : Wf64 (numV n) := by
  have := numV_fin ⟨n.toNat, by omega⟩
  have e : ((n.toNat : Nat) : Int) = n := by omega
  simp only [e] at this
  unfold Wf64 numV
  omega
theorem insP_wf {n : Int} (h : 0 ≤ n ∧ n ≤ 15) : (insP n).Wf := ⟨⟨by show (0 : Int) ≤ 1; omega, by show (1 : Int) ≤ 255; omega⟩, ⟨by show (-9223372036854775808 : Int) ≤ 0; omega, by show (0 : Int) ≤ 9223372036854775807; omega⟩, numV_wf n h⟩

/-- A row that was just built. -/
theorem ins_lit (w : World) (l : List InsD) (cs : Array Value) (hcs : cs.toList = l.flatMap InsD.cells) (hw : ∀ i ∈ l, i.Wf) (hl : l.length ≤ 1000) : InsIn (w.alloc (.cells cs 78)) (some ⟨w.heap.size, 0, none⟩) l.length l.length l := by
  have hsz : cs.size = l.length * 3 := by rw [← Array.length_toList, hcs, flat_len (n := 3) (fun _ => rfl)]
  have ho : insOwn (w.alloc (.cells cs 78)) w.heap.size (.slice (some ⟨w.heap.size, 0, none⟩) l.length l.length) l :=
    ⟨flat_len (n := 3) (fun _ => rfl) l, .inr ⟨w.heap.size, l.length, cs, rfl, Nat.le_refl _, heap_alloc_new w _, Nat.le_refl _, by unfold maxLen; omega, hsz, by rw [← hsz, ← hcs, ← Array.length_toList, List.take_length]⟩⟩
  exact ⟨rfl, srow_of (cells := InsD.cells) (n := 3) (fun _ => rfl) ho, Nat.le_refl _, by omega, hw⟩
theorem LkP.up {w W : World} {er : Int} {L : List InsD} {e : Ending} {w' : World} (t : Touch w W []) (h : LkP W er L e w') : LkP w er L e w' := by
  rcases h with ⟨h1, ao, cap, h2, h3, h4⟩ | ⟨h1, h2, h4⟩
  · exact .inl ⟨h1, ao, cap, h2, h3, t.trans h4 (by simp)⟩
  · exact .inr ⟨h1, h2, t.trans h4 (by simp)⟩
theorem rows1 {W : World} {a1 : Option Addr} {c1 : Nat} {l1 : List InsD} (h1 : InsIn W a1 l1.length c1 l1) (n1 : l1 ≠ []) (ty : TypeId) : RowsAt (W.alloc (.cells #[.slice a1 l1.length c1] ty)) W.heap.size [l1] := by
  have hn := heap_alloc_new W (.cells #[.slice a1 l1.length c1] ty)
  have t : Touch W (W.alloc (.cells #[.slice a1 l1.length c1] ty)) [] := (Touch.refl _ _).alloc _
  refine ⟨fun k hk => ?_, by simp [n1]⟩
  match k, hk with
  | 0, _ => exact ⟨a1, c1, by unfold World.cell?; rw [hn]; rfl, h1.keep t⟩
theorem rows2 {W : World} {a1 a2 : Option Addr} {c1 c2 : Nat} {l1 l2 : List InsD} (h1 : InsIn W a1 l1.length c1 l1) (h2 : InsIn W a2 l2.length c2 l2) (n1 : l1 ≠ []) (n2 : l2 ≠ []) (ty : TypeId) : RowsAt (W.alloc (.cells #[.slice a1 l1.length c1, .slice a2 l2.length c2] ty)) W.heap.size [l1, l2] := by
  have hn := heap_alloc_new W (.cells #[.slice a1 l1.length c1, .slice a2 l2.length c2] ty)
  have t : Touch W (W.alloc (.cells #[.slice a1 l1.length c1, .slice a2 l2.length c2] ty)) [] := (Touch.refl _ _).alloc _
  refine ⟨fun k hk => ?_, by simp [n1, n2]⟩
  match k, hk with
  | 0, _ => exact ⟨a1, c1, by unfold World.cell?; rw [hn]; rfl, h1.keep t⟩
  | 1, _ => exact ⟨a2, c2, by unfold World.cell?; rw [hn]; rfl, h2.keep t⟩
theorem rows3 {W : World} {a1 a2 a3 : Option Addr} {c1 c2 c3 : Nat} {l1 l2 l3 : List InsD} (h1 : InsIn W a1 l1.length c1 l1) (h2 : InsIn W a2 l2.length c2 l2) (h3 : InsIn W a3 l3.length c3 l3) (n1 : l1 ≠ []) (n2 : l2 ≠ []) (n3 : l3 ≠ []) (ty : TypeId) : RowsAt (W.alloc (.cells #[.slice a1 l1.length c1, .slice a2 l2.length c2, .slice a3 l3.length c3] ty)) W.heap.size [l1, l2, l3] := by
  have hn := heap_alloc_new W (.cells #[.slice a1 l1.length c1, .slice a2 l2.length c2, .slice a3 l3.length c3] ty)
  have t : Touch W (W.alloc (.cells #[.slice a1 l1.length c1, .slice a2 l2.length c2, .slice a3 l3.length c3] ty)) [] := (Touch.refl _ _).alloc _
  refine ⟨fun k hk => ?_, by simp [n1, n2, n3]⟩
  match k, hk with
  | 0, _ => exact ⟨a1, c1, by unfold World.cell?; rw [hn]; rfl, h1.keep t⟩
  | 1, _ => exact ⟨a2, c2, by unfold World.cell?; rw [hn]; rfl, h2.keep t⟩
  | 2, _ => exact ⟨a3, c3, by unfold World.cell?; rw [hn]; rfl, h3.keep t⟩
theorem lplace_is {a : Int} {b : Bool} (h : (decide (0 ≤ a) && decide (a ≤ 64)) = b) (w : World) : Calls Tryz.prog 115 #[.int .i64 a] w fun e w' => e = .returned (.bool b) ∧ w = w' := by subst h; exact lplace_any a w
theorem ltvar_is {a : Int} {b : Bool} (h : (decide (0 ≤ a) && decide (a < 12)) = b) (w : World) : Calls Tryz.prog 116 #[.int .i64 a] w fun e w' => e = .returned (.bool b) ∧ w = w' := by subst h; exact ltvar_any a w
theorem lthread_is {a : Int} {b : Bool} (h : (decide (0 ≤ a) && decide (a < 4)) = b) (w : World) : Calls Tryz.prog 117 #[.int .i64 a] w fun e w' => e = .returned (.bool b) ∧ w = w' := by subst h; exact lthread_any a w

def lockB (t u : Int) : List InsD := [insO 4 t, insO 20 4, insO 26 0, insP (1 + u), insO 5 t]
def lockR (t u : Int) : List (List InsD) := [[insO 4 t, insO 20 4, insO 26 0], [insP (1 + u), insO 5 t]]
def lockE (a : Int) (t u : Int) : Int := if mayP a t u then blkE a (lockB t u) else 2
theorem lock_in (t u : Int) (t0 : 0 ≤ t) (t1 : t < 12) (u0 : 0 ≤ u) (u1 : u < 4) : ∀ i ∈ lockB t u, i.Wf ∧ (0 ≤ i.arg ∧ i.arg ≤ 1000) ∧ i.op ≠ 23 ∧ i.op ≠ 24 := by
  intro i hi
  simp only [lockB, List.mem_cons, List.not_mem_nil, or_false] at hi
  rcases hi with rfl | rfl | rfl | rfl | rfl
  · exact ⟨insO_wf (by omega) (by omega) (by omega) (by omega), by unfold insO; simp <;> omega, by unfold insO; simp, by unfold insO; simp⟩
  · exact ⟨insO_wf (by omega) (by omega) (by omega) (by omega), by unfold insO; simp <;> omega, by unfold insO; simp, by unfold insO; simp⟩
  · exact ⟨insO_wf (by omega) (by omega) (by omega) (by omega), by unfold insO; simp <;> omega, by unfold insO; simp, by unfold insO; simp⟩
  · exact ⟨insP_wf (by omega), by unfold insP; simp <;> omega, by unfold insP; simp, by unfold insP; simp⟩
  · exact ⟨insO_wf (by omega) (by omega) (by omega) (by omega), by unfold insO; simp <;> omega, by unfold insO; simp, by unfold insO; simp⟩

def unlockB (t u : Int) : List InsD := [insO 4 t, insP (1 + u), insO 14 0, insO 20 9, insP (0), insO 5 t, insP (1), insO 19 10, insP (0)]
def unlockR (t u : Int) : List (List InsD) := [[insO 4 t, insP (1 + u), insO 14 0, insO 20 9], [insP (0), insO 5 t, insP (1), insO 19 10], [insP (0)]]
def unlockE (a : Int) (t u : Int) : Int := if mayP a t u then blkE a (unlockB t u) else 2
theorem unlock_in (t u : Int) (t0 : 0 ≤ t) (t1 : t < 12) (u0 : 0 ≤ u) (u1 : u < 4) : ∀ i ∈ unlockB t u, i.Wf ∧ (0 ≤ i.arg ∧ i.arg ≤ 1000) ∧ i.op ≠ 23 ∧ i.op ≠ 24 := by
  intro i hi
  simp only [unlockB, List.mem_cons, List.not_mem_nil, or_false] at hi
  rcases hi with rfl | rfl | rfl | rfl | rfl | rfl | rfl | rfl | rfl
  · exact ⟨insO_wf (by omega) (by omega) (by omega) (by omega), by unfold insO; simp <;> omega, by unfold insO; simp, by unfold insO; simp⟩
  · exact ⟨insP_wf (by omega), by unfold insP; simp <;> omega, by unfold insP; simp, by unfold insP; simp⟩
  · exact ⟨insO_wf (by omega) (by omega) (by omega) (by omega), by unfold insO; simp <;> omega, by unfold insO; simp, by unfold insO; simp⟩
  · exact ⟨insO_wf (by omega) (by omega) (by omega) (by omega), by unfold insO; simp <;> omega, by unfold insO; simp, by unfold insO; simp⟩
  · exact ⟨insP_wf (by omega), by unfold insP; simp <;> omega, by unfold insP; simp, by unfold insP; simp⟩
  · exact ⟨insO_wf (by omega) (by omega) (by omega) (by omega), by unfold insO; simp <;> omega, by unfold insO; simp, by unfold insO; simp⟩
  · exact ⟨insP_wf (by omega), by unfold insP; simp <;> omega, by unfold insP; simp, by unfold insP; simp⟩
  · exact ⟨insO_wf (by omega) (by omega) (by omega) (by omega), by unfold insO; simp <;> omega, by unfold insO; simp, by unfold insO; simp⟩
  · exact ⟨insP_wf (by omega), by unfold insP; simp <;> omega, by unfold insP; simp, by unfold insP; simp⟩

def downB (t : Int) : List InsD := [insO 4 t, insO 16 0, insO 20 8, insP (1), insO 9 0, insO 5 t, insO 19 9, insO 26 0]
def downR (t : Int) : List (List InsD) := [[insO 4 t, insO 16 0, insO 20 8], [insP (1), insO 9 0, insO 5 t, insO 19 9], [insO 26 0]]
def downE (a : Int) (t : Int) : Int := if mayP a t 0 then blkE a (downB t) else 2
theorem down_in (t : Int) (t0 : 0 ≤ t) (t1 : t < 12) : ∀ i ∈ downB t, i.Wf ∧ (0 ≤ i.arg ∧ i.arg ≤ 1000) ∧ i.op ≠ 23 ∧ i.op ≠ 24 := by
  intro i hi
  simp only [downB, List.mem_cons, List.not_mem_nil, or_false] at hi
  rcases hi with rfl | rfl | rfl | rfl | rfl | rfl | rfl | rfl
  · exact ⟨insO_wf (by omega) (by omega) (by omega) (by omega), by unfold insO; simp <;> omega, by unfold insO; simp, by unfold insO; simp⟩
  · exact ⟨insO_wf (by omega) (by omega) (by omega) (by omega), by unfold insO; simp <;> omega, by unfold insO; simp, by unfold insO; simp⟩
  · exact ⟨insO_wf (by omega) (by omega) (by omega) (by omega), by unfold insO; simp <;> omega, by unfold insO; simp, by unfold insO; simp⟩
  · exact ⟨insP_wf (by omega), by unfold insP; simp <;> omega, by unfold insP; simp, by unfold insP; simp⟩
  · exact ⟨insO_wf (by omega) (by omega) (by omega) (by omega), by unfold insO; simp <;> omega, by unfold insO; simp, by unfold insO; simp⟩
  · exact ⟨insO_wf (by omega) (by omega) (by omega) (by omega), by unfold insO; simp <;> omega, by unfold insO; simp, by unfold insO; simp⟩
  · exact ⟨insO_wf (by omega) (by omega) (by omega) (by omega), by unfold insO; simp <;> omega, by unfold insO; simp, by unfold insO; simp⟩
  · exact ⟨insO_wf (by omega) (by omega) (by omega) (by omega), by unfold insO; simp <;> omega, by unfold insO; simp, by unfold insO; simp⟩

def upB (t : Int) : List InsD := [insO 4 t, insP (1), insO 8 0, insO 5 t]
def upR (t : Int) : List (List InsD) := [[insO 4 t, insP (1), insO 8 0, insO 5 t]]
def upE (a : Int) (t : Int) : Int := if mayP a t 0 then blkE a (upB t) else 2
theorem up_in (t : Int) (t0 : 0 ≤ t) (t1 : t < 12) : ∀ i ∈ upB t, i.Wf ∧ (0 ≤ i.arg ∧ i.arg ≤ 1000) ∧ i.op ≠ 23 ∧ i.op ≠ 24 := by
  intro i hi
  simp only [upB, List.mem_cons, List.not_mem_nil, or_false] at hi
  rcases hi with rfl | rfl | rfl | rfl
  · exact ⟨insO_wf (by omega) (by omega) (by omega) (by omega), by unfold insO; simp <;> omega, by unfold insO; simp, by unfold insO; simp⟩
  · exact ⟨insP_wf (by omega), by unfold insP; simp <;> omega, by unfold insP; simp, by unfold insP; simp⟩
  · exact ⟨insO_wf (by omega) (by omega) (by omega) (by omega), by unfold insO; simp <;> omega, by unfold insO; simp, by unfold insO; simp⟩
  · exact ⟨insO_wf (by omega) (by omega) (by omega) (by omega), by unfold insO; simp <;> omega, by unfold insO; simp, by unfold insO; simp⟩

set_option maxRecDepth 100000 in
set_option maxHeartbeats 1000000 in
theorem llock_any (a t u : Int) (w : World) : Calls Tryz.prog 87 #[.int .i64 a, .int .i64 t, .int .i64 u] w (LkP w (lockE a t u) (blkL a (lockB t u))) := by
  have HE : Hid (lockE a t u = if mayP a t u then blkE a (lockB t u) else 2) := rfl
  have HBB : Hid (∀ W g cap, 0 ≤ a → a ≤ 64 → (∀ i ∈ lockB t u, i.Wf ∧ (0 ≤ i.arg ∧ i.arg ≤ 1000) ∧ i.op ≠ 23 ∧ i.op ≠ 24) → RowsAt W g (lockR t u) → HidC Tryz.prog 118 #[.int .i64 a, .slice (some ⟨g, 0, none⟩) 2 cap] W (LkP W (blkE a (lockB t u)) (blkL a (lockB t u)))) := fun W g cap ha0 ha1 hin h => ⟨lblock_any ha0 ha1 h (by show (lockB t u).length ≤ 900; simp [lockB]) (by simp [lockR]) (fun i hi => (hin i hi).2.1) (fun i hi => (hin i hi).1) (by simp [lockR])⟩
  generalize hRL : blkL a (lockB t u) = RL at *
  generalize hEE : lockE a t u = E at *
  generalize hE2 : blkE a (lockB t u) = E2 at *
  clear hRL hEE hE2
  by_cases c0 : (decide (0 ≤ a) && decide (a ≤ 64)) = false
  · have HE2 : Hid (E = 2) := by show _ = _; rw [HE.out, if_neg (by unfold mayP; simp only [Bool.and_eq_true, Bool.and_eq_false_iff, decide_eq_true_eq, decide_eq_false_iff_not] at *; omega)]
    clear HE HBB
    have HC : Hid _ := c0
    clear c0
    go_enter Tryz.func87, Tryz.ntmps87
    go_wp2_with fail
    refine (lplace_is HC.out _).mono ?_
    rintro e w' ⟨rfl, rfl⟩
    go_wp2
    refine bodyPost_ret (v := .tuple #[.slice none 0 0, .int .i64 2]) (by simp [results, Tryz.results87, go_sem]) rfl ?_
    exact .inr ⟨by rw [HE2.out]; omega, by rw [HE2.out], Touch.refl _ _⟩
  have c0 : (decide (0 ≤ a) && decide (a ≤ 64)) = true := by simpa using c0
  by_cases c1 : (decide (0 ≤ t) && decide (t < 12)) = false
  · have HE2 : Hid (E = 2) := by show _ = _; rw [HE.out, if_neg (by unfold mayP; simp only [Bool.and_eq_true, Bool.and_eq_false_iff, decide_eq_true_eq, decide_eq_false_iff_not] at *; omega)]
    clear HE HBB
    have HC : Hid _ := c1
    have HC0 : Hid _ := c0
    clear c0
    clear c1
    go_enter Tryz.func87, Tryz.ntmps87
    go_wp2_with fail
    refine (lplace_is HC0.out _).mono ?_
    rintro e w' ⟨rfl, rfl⟩
    go_wp2_with fail
    refine (ltvar_is HC.out _).mono ?_
    rintro e w' ⟨rfl, rfl⟩
    go_wp2
    refine bodyPost_ret (v := .tuple #[.slice none 0 0, .int .i64 2]) (by simp [results, Tryz.results87, go_sem]) rfl ?_
    exact .inr ⟨by rw [HE2.out]; omega, by rw [HE2.out], Touch.refl _ _⟩
  have c1 : (decide (0 ≤ t) && decide (t < 12)) = true := by simpa using c1
  by_cases c2 : (decide (0 ≤ u) && decide (u < 4)) = false
  · have HE2 : Hid (E = 2) := by show _ = _; rw [HE.out, if_neg (by unfold mayP; simp only [Bool.and_eq_true, Bool.and_eq_false_iff, decide_eq_true_eq, decide_eq_false_iff_not] at *; omega)]
    clear HE HBB
    have HC : Hid _ := c2
    have HC0 : Hid _ := c0
    clear c0
    have HC1 : Hid _ := c1
    clear c1
    clear c2
    go_enter Tryz.func87, Tryz.ntmps87
    go_wp2_with fail
    refine (lplace_is HC0.out _).mono ?_
    rintro e w' ⟨rfl, rfl⟩
    go_wp2_with fail
    refine (ltvar_is HC1.out _).mono ?_
    rintro e w' ⟨rfl, rfl⟩
    go_wp2_with fail
    refine (lthread_is HC.out _).mono ?_
    rintro e w' ⟨rfl, rfl⟩
    go_wp2
    refine bodyPost_ret (v := .tuple #[.slice none 0 0, .int .i64 2]) (by simp [results, Tryz.results87, go_sem]) rfl ?_
    exact .inr ⟨by rw [HE2.out]; omega, by rw [HE2.out], Touch.refl _ _⟩
  have c2 : (decide (0 ≤ u) && decide (u < 4)) = true := by simpa using c2
  have HE2 : Hid (E = E2) := by show _ = _; rw [HE.out, if_pos (by unfold mayP; simp [Bool.and_eq_true] at *; omega)]
  have q0 : 0 ≤ a ∧ a ≤ 64 := by simpa using c0
  have q1 : 0 ≤ t ∧ t < 12 := by simpa using c1
  have q2 : 0 ≤ u ∧ u < 4 := by simpa using c2
  have hwr : IntKind.i64.wrap (1 + u) = 1 + u := by rw [IntKind.wrap_i64]; omega
  have HB1 : Hid _ := fun W g cap => HBB.out W g cap q0.1 q0.2 (lock_in t u q1.1 q1.2 q2.1 q2.2)
  clear HBB HE
  have HC0 : Hid _ := c0
  clear c0
  have HC1 : Hid _ := c1
  clear c1
  have HC2 : Hid _ := c2
  clear c2
  have Q1 : Hid _ := q1
  have Q2 : Hid _ := q2
  have HIN : Hid _ := lock_in t u q1.1 q1.2 q2.1 q2.2
  clear q0 q1 q2
  go_enter Tryz.func87, Tryz.ntmps87
  go_wp2_with fail
  refine (lplace_is HC0.out _).mono ?_
  rintro e w' ⟨rfl, rfl⟩
  go_wp2_with fail
  refine (ltvar_is HC1.out _).mono ?_
  rintro e w' ⟨rfl, rfl⟩
  go_wp2_with fail
  refine (lthread_is HC2.out _).mono ?_
  rintro e w' ⟨rfl, rfl⟩
  have HT0 : Hid (Touch w w []) := Touch.refl _ _
  go_wp2_with fail
  refine (lget_any _ _).mono ?_
  rintro e w1 ⟨rfl, s1⟩
  have HT1 : Hid (Touch w w1 []) := HT0.out.trans s1 (by simp)
  clear s1
  go_wp2_with fail
  refine (lto_any _ _ _).mono ?_
  rintro e w2 ⟨rfl, s2⟩
  have HT2 : Hid (Touch w w2 []) := HT1.out.trans s2 (by simp)
  clear s2
  go_wp2_with fail
  refine (lop_any _ _).mono ?_
  rintro e w3 ⟨rfl, s3⟩
  have HT3 : Hid (Touch w w3 []) := HT2.out.trans s3 (by simp)
  clear s3
  have R0 : Hid (InsIn (w3.alloc (.cells #[.int .u8 4, .int .i64 t, .int .u64 0, .int .u8 20, .int .i64 4, .int .u64 0, .int .u8 26, .int .i64 0, .int .u64 0] 78)) (some ⟨w3.heap.size, 0, none⟩) ([insO 4 t, insO 20 4, insO 26 0]).length ([insO 4 t, insO 20 4, insO 26 0]).length [insO 4 t, insO 20 4, insO 26 0]) := ins_lit w3 [insO 4 t, insO 20 4, insO 26 0] #[.int .u8 4, .int .i64 t, .int .u64 0, .int .u8 20, .int .i64 4, .int .u64 0, .int .u8 26, .int .i64 0, .int .u64 0] rfl (fun i hi => (HIN.out i (by simp only [lockB, List.mem_cons, List.not_mem_nil, or_false] at hi ⊢; grind)).1) (by simp)
  have HTR0 : Hid (Touch w (w3.alloc (.cells #[.int .u8 4, .int .i64 t, .int .u64 0, .int .u8 20, .int .i64 4, .int .u64 0, .int .u8 26, .int .i64 0, .int .u64 0] 78)) []) := HT3.out.alloc _
  go_wp2_with fail
  refine (lrow_any _ _).mono ?_
  rintro e w' ⟨rfl, rfl⟩
  go_wp2_with fail
  refine (lpush_any _ (by have := Q2.out; omega) (by have := Q2.out; omega) _).mono ?_
  rintro e w4 ⟨rfl, s4⟩
  have HT4 : Hid (Touch w w4 []) := HTR0.out.trans s4 (by simp)
  have R0_4 : Hid _ := R0.out.keep s4
  clear s4
  go_wp2_with fail
  refine (lput_any _ _).mono ?_
  rintro e w5 ⟨rfl, s5⟩
  have HT5 : Hid (Touch w w5 []) := HT4.out.trans s5 (by simp)
  have R0_5 : Hid _ := R0_4.out.keep s5
  clear s5
  have R1 : Hid (InsIn (w5.alloc (.cells #[.int .u8 1, .int .i64 0, .int .u64 (numV (1 + u)), .int .u8 5, .int .i64 t, .int .u64 0] 78)) (some ⟨w5.heap.size, 0, none⟩) ([insP (1 + u), insO 5 t]).length ([insP (1 + u), insO 5 t]).length [insP (1 + u), insO 5 t]) := ins_lit w5 [insP (1 + u), insO 5 t] #[.int .u8 1, .int .i64 0, .int .u64 (numV (1 + u)), .int .u8 5, .int .i64 t, .int .u64 0] rfl (fun i hi => (HIN.out i (by simp only [lockB, List.mem_cons, List.not_mem_nil, or_false] at hi ⊢; grind)).1) (by simp)
  have R0_r1 : Hid (InsIn (w5.alloc (.cells #[.int .u8 1, .int .i64 0, .int .u64 (numV (1 + u)), .int .u8 5, .int .i64 t, .int .u64 0] 78)) _ _ _ _) := R0_5.out.keep ((Touch.refl _ _).alloc _)
  have HTR1 : Hid (Touch w (w5.alloc (.cells #[.int .u8 1, .int .i64 0, .int .u64 (numV (1 + u)), .int .u8 5, .int .i64 t, .int .u64 0] 78)) []) := HT5.out.alloc _
  go_wp2_with fail
  refine (lrow_any _ _).mono ?_
  rintro e w' ⟨rfl, rfl⟩
  have HF : Hid _ := rows2 R0_r1.out R1.out (by simp) (by simp) 25
  have hh : (w5.alloc (.cells #[.int .u8 1, .int .i64 0, .int .u64 (numV (1 + u)), .int .u8 5, .int .i64 t, .int .u64 0] 78)).heap.size = w5.heap.size + 1 := by simp
  have HG : HidC _ _ _ _ _ := HB1.out _ _ 2 HF.out
  rw [hh] at HG
  clear hh
  go_wp2_with fail
  refine HG.out.mono ?_
  intro e w9 h9
  have h9' : LkP w E2 RL e w9 := LkP.up (HTR1.out.alloc _) h9
  clear h9 HG HF
  rcases h9' with ⟨he, ao, cap, rfl, hin, t9⟩ | ⟨he, rfl, t9⟩
  · have HIn : Hid _ := hin
    have HT9 : Hid _ := t9
    have HE9 : Hid _ := he
    obtain ⟨n9, hn9⟩ : ∃ n9, n9 = RL.length := ⟨_, rfl⟩
    have HN9 : Hid _ := hn9
    rw [← hn9]
    clear hin t9 he hn9
    go_wp2
    refine bodyPost_ret (v := .tuple #[.slice ao n9 cap, .int .i64 0]) (by simp [results, Tryz.results87, go_sem]) rfl ?_
    exact .inl ⟨by rw [HE2.out]; exact HE9.out, ao, cap, by rw [HN9.out], HIn.out, HT9.out⟩
  · have HT9 : Hid _ := t9
    have HE9 : Hid _ := he
    clear t9 he
    go_wp2
    refine bodyPost_ret (v := .tuple #[.slice none 0 0, .int .i64 E2]) (by simp [results, Tryz.results87, go_sem]) rfl ?_
    exact .inr ⟨by rw [HE2.out]; exact HE9.out, by rw [HE2.out], HT9.out⟩

set_option maxRecDepth 100000 in
set_option maxHeartbeats 1000000 in
theorem lunlock_any (a t u : Int) (w : World) : Calls Tryz.prog 88 #[.int .i64 a, .int .i64 t, .int .i64 u] w (LkP w (unlockE a t u) (blkL a (unlockB t u))) := by
  have HE : Hid (unlockE a t u = if mayP a t u then blkE a (unlockB t u) else 2) := rfl
  have HBB : Hid (∀ W g cap, 0 ≤ a → a ≤ 64 → (∀ i ∈ unlockB t u, i.Wf ∧ (0 ≤ i.arg ∧ i.arg ≤ 1000) ∧ i.op ≠ 23 ∧ i.op ≠ 24) → RowsAt W g (unlockR t u) → HidC Tryz.prog 118 #[.int .i64 a, .slice (some ⟨g, 0, none⟩) 3 cap] W (LkP W (blkE a (unlockB t u)) (blkL a (unlockB t u)))) := fun W g cap ha0 ha1 hin h => ⟨lblock_any ha0 ha1 h (by show (unlockB t u).length ≤ 900; simp [unlockB]) (by simp [unlockR]) (fun i hi => (hin i hi).2.1) (fun i hi => (hin i hi).1) (by simp [unlockR])⟩
  generalize hRL : blkL a (unlockB t u) = RL at *
  generalize hEE : unlockE a t u = E at *
  generalize hE2 : blkE a (unlockB t u) = E2 at *
  clear hRL hEE hE2
  by_cases c0 : (decide (0 ≤ a) && decide (a ≤ 64)) = false
  · have HE2 : Hid (E = 2) := by show _ = _; rw [HE.out, if_neg (by unfold mayP; simp only [Bool.and_eq_true, Bool.and_eq_false_iff, decide_eq_true_eq, decide_eq_false_iff_not] at *; omega)]
    clear HE HBB
    have HC : Hid _ := c0
    clear c0
    go_enter Tryz.func88, Tryz.ntmps88
    go_wp2_with fail
    refine (lplace_is HC.out _).mono ?_
    rintro e w' ⟨rfl, rfl⟩
    go_wp2
    refine bodyPost_ret (v := .tuple #[.slice none 0 0, .int .i64 2]) (by simp [results, Tryz.results88, go_sem]) rfl ?_
    exact .inr ⟨by rw [HE2.out]; omega, by rw [HE2.out], Touch.refl _ _⟩
  have c0 : (decide (0 ≤ a) && decide (a ≤ 64)) = true := by simpa using c0
  by_cases c1 : (decide (0 ≤ t) && decide (t < 12)) = false
  · have HE2 : Hid (E = 2) := by show _ = _; rw [HE.out, if_neg (by unfold mayP; simp only [Bool.and_eq_true, Bool.and_eq_false_iff, decide_eq_true_eq, decide_eq_false_iff_not] at *; omega)]
    clear HE HBB
    have HC : Hid _ := c1
    have HC0 : Hid _ := c0
    clear c0
    clear c1
    go_enter Tryz.func88, Tryz.ntmps88
    go_wp2_with fail
    refine (lplace_is HC0.out _).mono ?_
    rintro e w' ⟨rfl, rfl⟩
    go_wp2_with fail
    refine (ltvar_is HC.out _).mono ?_
    rintro e w' ⟨rfl, rfl⟩
    go_wp2
    refine bodyPost_ret (v := .tuple #[.slice none 0 0, .int .i64 2]) (by simp [results, Tryz.results88, go_sem]) rfl ?_
    exact .inr ⟨by rw [HE2.out]; omega, by rw [HE2.out], Touch.refl _ _⟩
  have c1 : (decide (0 ≤ t) && decide (t < 12)) = true := by simpa using c1
  by_cases c2 : (decide (0 ≤ u) && decide (u < 4)) = false
  · have HE2 : Hid (E = 2) := by show _ = _; rw [HE.out, if_neg (by unfold mayP; simp only [Bool.and_eq_true, Bool.and_eq_false_iff, decide_eq_true_eq, decide_eq_false_iff_not] at *; omega)]
    clear HE HBB
    have HC : Hid _ := c2
    have HC0 : Hid _ := c0
    clear c0
    have HC1 : Hid _ := c1
    clear c1
    clear c2
    go_enter Tryz.func88, Tryz.ntmps88
    go_wp2_with fail
    refine (lplace_is HC0.out _).mono ?_
    rintro e w' ⟨rfl, rfl⟩
    go_wp2_with fail
    refine (ltvar_is HC1.out _).mono ?_
    rintro e w' ⟨rfl, rfl⟩
    go_wp2_with fail
    refine (lthread_is HC.out _).mono ?_
    rintro e w' ⟨rfl, rfl⟩
    go_wp2
    refine bodyPost_ret (v := .tuple #[.slice none 0 0, .int .i64 2]) (by simp [results, Tryz.results88, go_sem]) rfl ?_
    exact .inr ⟨by rw [HE2.out]; omega, by rw [HE2.out], Touch.refl _ _⟩
  have c2 : (decide (0 ≤ u) && decide (u < 4)) = true := by simpa using c2
  have HE2 : Hid (E = E2) := by show _ = _; rw [HE.out, if_pos (by unfold mayP; simp [Bool.and_eq_true] at *; omega)]
  have q0 : 0 ≤ a ∧ a ≤ 64 := by simpa using c0
  have q1 : 0 ≤ t ∧ t < 12 := by simpa using c1
  have q2 : 0 ≤ u ∧ u < 4 := by simpa using c2
  have hwr : IntKind.i64.wrap (1 + u) = 1 + u := by rw [IntKind.wrap_i64]; omega
  have HB1 : Hid _ := fun W g cap => HBB.out W g cap q0.1 q0.2 (unlock_in t u q1.1 q1.2 q2.1 q2.2)
  clear HBB HE
  have HC0 : Hid _ := c0
  clear c0
  have HC1 : Hid _ := c1
  clear c1
  have HC2 : Hid _ := c2
  clear c2
  have Q1 : Hid _ := q1
  have Q2 : Hid _ := q2
  have HIN : Hid _ := unlock_in t u q1.1 q1.2 q2.1 q2.2
  clear q0 q1 q2
  go_enter Tryz.func88, Tryz.ntmps88
  go_wp2_with fail
  refine (lplace_is HC0.out _).mono ?_
  rintro e w' ⟨rfl, rfl⟩
  go_wp2_with fail
  refine (ltvar_is HC1.out _).mono ?_
  rintro e w' ⟨rfl, rfl⟩
  go_wp2_with fail
  refine (lthread_is HC2.out _).mono ?_
  rintro e w' ⟨rfl, rfl⟩
  have HT0 : Hid (Touch w w []) := Touch.refl _ _
  go_wp2_with fail
  refine (lget_any _ _).mono ?_
  rintro e w1 ⟨rfl, s1⟩
  have HT1 : Hid (Touch w w1 []) := HT0.out.trans s1 (by simp)
  clear s1
  go_wp2_with fail
  refine (lpush_any _ (by have := Q2.out; omega) (by have := Q2.out; omega) _).mono ?_
  rintro e w2 ⟨rfl, s2⟩
  have HT2 : Hid (Touch w w2 []) := HT1.out.trans s2 (by simp)
  clear s2
  go_wp2_with fail
  refine (lop_any _ _).mono ?_
  rintro e w3 ⟨rfl, s3⟩
  have HT3 : Hid (Touch w w3 []) := HT2.out.trans s3 (by simp)
  clear s3
  go_wp2_with fail
  refine (lto_any _ _ _).mono ?_
  rintro e w4 ⟨rfl, s4⟩
  have HT4 : Hid (Touch w w4 []) := HT3.out.trans s4 (by simp)
  clear s4
  have R0 : Hid (InsIn (w4.alloc (.cells #[.int .u8 4, .int .i64 t, .int .u64 0, .int .u8 1, .int .i64 0, .int .u64 (numV (1 + u)), .int .u8 14, .int .i64 0, .int .u64 0, .int .u8 20, .int .i64 9, .int .u64 0] 78)) (some ⟨w4.heap.size, 0, none⟩) ([insO 4 t, insP (1 + u), insO 14 0, insO 20 9]).length ([insO 4 t, insP (1 + u), insO 14 0, insO 20 9]).length [insO 4 t, insP (1 + u), insO 14 0, insO 20 9]) := ins_lit w4 [insO 4 t, insP (1 + u), insO 14 0, insO 20 9] #[.int .u8 4, .int .i64 t, .int .u64 0, .int .u8 1, .int .i64 0, .int .u64 (numV (1 + u)), .int .u8 14, .int .i64 0, .int .u64 0, .int .u8 20, .int .i64 9, .int .u64 0] rfl (fun i hi => (HIN.out i (by simp only [unlockB, List.mem_cons, List.not_mem_nil, or_false] at hi ⊢; grind)).1) (by simp)
  have HTR0 : Hid (Touch w (w4.alloc (.cells #[.int .u8 4, .int .i64 t, .int .u64 0, .int .u8 1, .int .i64 0, .int .u64 (numV (1 + u)), .int .u8 14, .int .i64 0, .int .u64 0, .int .u8 20, .int .i64 9, .int .u64 0] 78)) []) := HT4.out.alloc _
  go_wp2_with fail
  refine (lrow_any _ _).mono ?_
  rintro e w' ⟨rfl, rfl⟩
  go_wp2_with fail
  refine (lpush_any _ (by omega) (by omega) _).mono ?_
  rintro e w5 ⟨rfl, s5⟩
  have HT5 : Hid (Touch w w5 []) := HTR0.out.trans s5 (by simp)
  have R0_5 : Hid _ := R0.out.keep s5
  clear s5
  go_wp2_with fail
  refine (lput_any _ _).mono ?_
  rintro e w6 ⟨rfl, s6⟩
  have HT6 : Hid (Touch w w6 []) := HT5.out.trans s6 (by simp)
  have R0_6 : Hid _ := R0_5.out.keep s6
  clear s6
  go_wp2_with fail
  refine (lpush_any _ (by omega) (by omega) _).mono ?_
  rintro e w7 ⟨rfl, s7⟩
  have HT7 : Hid (Touch w w7 []) := HT6.out.trans s7 (by simp)
  have R0_7 : Hid _ := R0_6.out.keep s7
  clear s7
  go_wp2_with fail
  refine (lto_any _ _ _).mono ?_
  rintro e w8 ⟨rfl, s8⟩
  have HT8 : Hid (Touch w w8 []) := HT7.out.trans s8 (by simp)
  have R0_8 : Hid _ := R0_7.out.keep s8
  clear s8
  have R1 : Hid (InsIn (w8.alloc (.cells #[.int .u8 1, .int .i64 0, .int .u64 (numV (0)), .int .u8 5, .int .i64 t, .int .u64 0, .int .u8 1, .int .i64 0, .int .u64 (numV (1)), .int .u8 19, .int .i64 10, .int .u64 0] 78)) (some ⟨w8.heap.size, 0, none⟩) ([insP (0), insO 5 t, insP (1), insO 19 10]).length ([insP (0), insO 5 t, insP (1), insO 19 10]).length [insP (0), insO 5 t, insP (1), insO 19 10]) := ins_lit w8 [insP (0), insO 5 t, insP (1), insO 19 10] #[.int .u8 1, .int .i64 0, .int .u64 (numV (0)), .int .u8 5, .int .i64 t, .int .u64 0, .int .u8 1, .int .i64 0, .int .u64 (numV (1)), .int .u8 19, .int .i64 10, .int .u64 0] rfl (fun i hi => (HIN.out i (by simp only [unlockB, List.mem_cons, List.not_mem_nil, or_false] at hi ⊢; grind)).1) (by simp)
  have R0_r1 : Hid (InsIn (w8.alloc (.cells #[.int .u8 1, .int .i64 0, .int .u64 (numV (0)), .int .u8 5, .int .i64 t, .int .u64 0, .int .u8 1, .int .i64 0, .int .u64 (numV (1)), .int .u8 19, .int .i64 10, .int .u64 0] 78)) _ _ _ _) := R0_8.out.keep ((Touch.refl _ _).alloc _)
  have HTR1 : Hid (Touch w (w8.alloc (.cells #[.int .u8 1, .int .i64 0, .int .u64 (numV (0)), .int .u8 5, .int .i64 t, .int .u64 0, .int .u8 1, .int .i64 0, .int .u64 (numV (1)), .int .u8 19, .int .i64 10, .int .u64 0] 78)) []) := HT8.out.alloc _
  go_wp2_with fail
  refine (lrow_any _ _).mono ?_
  rintro e w' ⟨rfl, rfl⟩
  go_wp2_with fail
  refine (lpush_any _ (by omega) (by omega) _).mono ?_
  rintro e w9 ⟨rfl, s9⟩
  have HT9 : Hid (Touch w w9 []) := HTR1.out.trans s9 (by simp)
  have R0_9 : Hid _ := R0_r1.out.keep s9
  have R1_9 : Hid _ := R1.out.keep s9
  clear s9
  have R2 : Hid (InsIn (w9.alloc (.cells #[.int .u8 1, .int .i64 0, .int .u64 (numV (0))] 78)) (some ⟨w9.heap.size, 0, none⟩) ([insP (0)]).length ([insP (0)]).length [insP (0)]) := ins_lit w9 [insP (0)] #[.int .u8 1, .int .i64 0, .int .u64 (numV (0))] rfl (fun i hi => (HIN.out i (by simp only [unlockB, List.mem_cons, List.not_mem_nil, or_false] at hi ⊢; grind)).1) (by simp)
  have R0_r2 : Hid (InsIn (w9.alloc (.cells #[.int .u8 1, .int .i64 0, .int .u64 (numV (0))] 78)) _ _ _ _) := R0_9.out.keep ((Touch.refl _ _).alloc _)
  have R1_r2 : Hid (InsIn (w9.alloc (.cells #[.int .u8 1, .int .i64 0, .int .u64 (numV (0))] 78)) _ _ _ _) := R1_9.out.keep ((Touch.refl _ _).alloc _)
  have HTR2 : Hid (Touch w (w9.alloc (.cells #[.int .u8 1, .int .i64 0, .int .u64 (numV (0))] 78)) []) := HT9.out.alloc _
  go_wp2_with fail
  refine (lrow_any _ _).mono ?_
  rintro e w' ⟨rfl, rfl⟩
  have HF : Hid _ := rows3 R0_r2.out R1_r2.out R2.out (by simp) (by simp) (by simp) 25
  have hh : (w9.alloc (.cells #[.int .u8 1, .int .i64 0, .int .u64 (numV (0))] 78)).heap.size = w9.heap.size + 1 := by simp
  have HG : HidC _ _ _ _ _ := HB1.out _ _ 3 HF.out
  rw [hh] at HG
  clear hh
  go_wp2_with fail
  refine HG.out.mono ?_
  intro e w9 h9
  have h9' : LkP w E2 RL e w9 := LkP.up (HTR2.out.alloc _) h9
  clear h9 HG HF
  rcases h9' with ⟨he, ao, cap, rfl, hin, t9⟩ | ⟨he, rfl, t9⟩
  · have HIn : Hid _ := hin
    have HT9 : Hid _ := t9
    have HE9 : Hid _ := he
    obtain ⟨n9, hn9⟩ : ∃ n9, n9 = RL.length := ⟨_, rfl⟩
    have HN9 : Hid _ := hn9
    rw [← hn9]
    clear hin t9 he hn9
    go_wp2
    refine bodyPost_ret (v := .tuple #[.slice ao n9 cap, .int .i64 0]) (by simp [results, Tryz.results88, go_sem]) rfl ?_
    exact .inl ⟨by rw [HE2.out]; exact HE9.out, ao, cap, by rw [HN9.out], HIn.out, HT9.out⟩
  · have HT9 : Hid _ := t9
    have HE9 : Hid _ := he
    clear t9 he
    go_wp2
    refine bodyPost_ret (v := .tuple #[.slice none 0 0, .int .i64 E2]) (by simp [results, Tryz.results88, go_sem]) rfl ?_
    exact .inr ⟨by rw [HE2.out]; exact HE9.out, by rw [HE2.out], HT9.out⟩

set_option maxRecDepth 100000 in
set_option maxHeartbeats 1000000 in
theorem ldown_any (a t : Int) (w : World) : Calls Tryz.prog 89 #[.int .i64 a, .int .i64 t] w (LkP w (downE a t) (blkL a (downB t))) := by
  have HE : Hid (downE a t = if mayP a t 0 then blkE a (downB t) else 2) := rfl
  have HBB : Hid (∀ W g cap, 0 ≤ a → a ≤ 64 → (∀ i ∈ downB t, i.Wf ∧ (0 ≤ i.arg ∧ i.arg ≤ 1000) ∧ i.op ≠ 23 ∧ i.op ≠ 24) → RowsAt W g (downR t) → HidC Tryz.prog 118 #[.int .i64 a, .slice (some ⟨g, 0, none⟩) 3 cap] W (LkP W (blkE a (downB t)) (blkL a (downB t)))) := fun W g cap ha0 ha1 hin h => ⟨lblock_any ha0 ha1 h (by show (downB t).length ≤ 900; simp [downB]) (by simp [downR]) (fun i hi => (hin i hi).2.1) (fun i hi => (hin i hi).1) (by simp [downR])⟩
  generalize hRL : blkL a (downB t) = RL at *
  generalize hEE : downE a t = E at *
  generalize hE2 : blkE a (downB t) = E2 at *
  clear hRL hEE hE2
  by_cases c0 : (decide (0 ≤ a) && decide (a ≤ 64)) = false
  · have HE2 : Hid (E = 2) := by show _ = _; rw [HE.out, if_neg (by unfold mayP; simp only [Bool.and_eq_true, Bool.and_eq_false_iff, decide_eq_true_eq, decide_eq_false_iff_not] at *; omega)]
    clear HE HBB
    have HC : Hid _ := c0
    clear c0
    go_enter Tryz.func89, Tryz.ntmps89
    go_wp2_with fail
    refine (lplace_is HC.out _).mono ?_
    rintro e w' ⟨rfl, rfl⟩
    go_wp2
    refine bodyPost_ret (v := .tuple #[.slice none 0 0, .int .i64 2]) (by simp [results, Tryz.results89, go_sem]) rfl ?_
    exact .inr ⟨by rw [HE2.out]; omega, by rw [HE2.out], Touch.refl _ _⟩
  have c0 : (decide (0 ≤ a) && decide (a ≤ 64)) = true := by simpa using c0
  by_cases c1 : (decide (0 ≤ t) && decide (t < 12)) = false
  · have HE2 : Hid (E = 2) := by show _ = _; rw [HE.out, if_neg (by unfold mayP; simp only [Bool.and_eq_true, Bool.and_eq_false_iff, decide_eq_true_eq, decide_eq_false_iff_not] at *; omega)]
    clear HE HBB
    have HC : Hid _ := c1
    have HC0 : Hid _ := c0
    clear c0
    clear c1
    go_enter Tryz.func89, Tryz.ntmps89
    go_wp2_with fail
    refine (lplace_is HC0.out _).mono ?_
    rintro e w' ⟨rfl, rfl⟩
    go_wp2_with fail
    refine (ltvar_is HC.out _).mono ?_
    rintro e w' ⟨rfl, rfl⟩
    go_wp2
    refine bodyPost_ret (v := .tuple #[.slice none 0 0, .int .i64 2]) (by simp [results, Tryz.results89, go_sem]) rfl ?_
    exact .inr ⟨by rw [HE2.out]; omega, by rw [HE2.out], Touch.refl _ _⟩
  have c1 : (decide (0 ≤ t) && decide (t < 12)) = true := by simpa using c1
  have HE2 : Hid (E = E2) := by show _ = _; rw [HE.out, if_pos (by unfold mayP; simp [Bool.and_eq_true] at *; omega)]
  have q0 : 0 ≤ a ∧ a ≤ 64 := by simpa using c0
  have q1 : 0 ≤ t ∧ t < 12 := by simpa using c1
  have HB1 : Hid _ := fun W g cap => HBB.out W g cap q0.1 q0.2 (down_in t q1.1 q1.2)
  clear HBB HE
  have HC0 : Hid _ := c0
  clear c0
  have HC1 : Hid _ := c1
  clear c1
  have Q1 : Hid _ := q1
  have HIN : Hid _ := down_in t q1.1 q1.2
  clear q0 q1
  go_enter Tryz.func89, Tryz.ntmps89
  go_wp2_with fail
  refine (lplace_is HC0.out _).mono ?_
  rintro e w' ⟨rfl, rfl⟩
  go_wp2_with fail
  refine (ltvar_is HC1.out _).mono ?_
  rintro e w' ⟨rfl, rfl⟩
  have HT0 : Hid (Touch w w []) := Touch.refl _ _
  go_wp2_with fail
  refine (lget_any _ _).mono ?_
  rintro e w1 ⟨rfl, s1⟩
  have HT1 : Hid (Touch w w1 []) := HT0.out.trans s1 (by simp)
  clear s1
  go_wp2_with fail
  refine (lop_any _ _).mono ?_
  rintro e w2 ⟨rfl, s2⟩
  have HT2 : Hid (Touch w w2 []) := HT1.out.trans s2 (by simp)
  clear s2
  go_wp2_with fail
  refine (lto_any _ _ _).mono ?_
  rintro e w3 ⟨rfl, s3⟩
  have HT3 : Hid (Touch w w3 []) := HT2.out.trans s3 (by simp)
  clear s3
  have R0 : Hid (InsIn (w3.alloc (.cells #[.int .u8 4, .int .i64 t, .int .u64 0, .int .u8 16, .int .i64 0, .int .u64 0, .int .u8 20, .int .i64 8, .int .u64 0] 78)) (some ⟨w3.heap.size, 0, none⟩) ([insO 4 t, insO 16 0, insO 20 8]).length ([insO 4 t, insO 16 0, insO 20 8]).length [insO 4 t, insO 16 0, insO 20 8]) := ins_lit w3 [insO 4 t, insO 16 0, insO 20 8] #[.int .u8 4, .int .i64 t, .int .u64 0, .int .u8 16, .int .i64 0, .int .u64 0, .int .u8 20, .int .i64 8, .int .u64 0] rfl (fun i hi => (HIN.out i (by simp only [downB, List.mem_cons, List.not_mem_nil, or_false] at hi ⊢; grind)).1) (by simp)
  have HTR0 : Hid (Touch w (w3.alloc (.cells #[.int .u8 4, .int .i64 t, .int .u64 0, .int .u8 16, .int .i64 0, .int .u64 0, .int .u8 20, .int .i64 8, .int .u64 0] 78)) []) := HT3.out.alloc _
  go_wp2_with fail
  refine (lrow_any _ _).mono ?_
  rintro e w' ⟨rfl, rfl⟩
  go_wp2_with fail
  refine (lpush_any _ (by omega) (by omega) _).mono ?_
  rintro e w4 ⟨rfl, s4⟩
  have HT4 : Hid (Touch w w4 []) := HTR0.out.trans s4 (by simp)
  have R0_4 : Hid _ := R0.out.keep s4
  clear s4
  go_wp2_with fail
  refine (lop_any _ _).mono ?_
  rintro e w5 ⟨rfl, s5⟩
  have HT5 : Hid (Touch w w5 []) := HT4.out.trans s5 (by simp)
  have R0_5 : Hid _ := R0_4.out.keep s5
  clear s5
  go_wp2_with fail
  refine (lput_any _ _).mono ?_
  rintro e w6 ⟨rfl, s6⟩
  have HT6 : Hid (Touch w w6 []) := HT5.out.trans s6 (by simp)
  have R0_6 : Hid _ := R0_5.out.keep s6
  clear s6
  go_wp2_with fail
  refine (lto_any _ _ _).mono ?_
  rintro e w7 ⟨rfl, s7⟩
  have HT7 : Hid (Touch w w7 []) := HT6.out.trans s7 (by simp)
  have R0_7 : Hid _ := R0_6.out.keep s7
  clear s7
  have R1 : Hid (InsIn (w7.alloc (.cells #[.int .u8 1, .int .i64 0, .int .u64 (numV (1)), .int .u8 9, .int .i64 0, .int .u64 0, .int .u8 5, .int .i64 t, .int .u64 0, .int .u8 19, .int .i64 9, .int .u64 0] 78)) (some ⟨w7.heap.size, 0, none⟩) ([insP (1), insO 9 0, insO 5 t, insO 19 9]).length ([insP (1), insO 9 0, insO 5 t, insO 19 9]).length [insP (1), insO 9 0, insO 5 t, insO 19 9]) := ins_lit w7 [insP (1), insO 9 0, insO 5 t, insO 19 9] #[.int .u8 1, .int .i64 0, .int .u64 (numV (1)), .int .u8 9, .int .i64 0, .int .u64 0, .int .u8 5, .int .i64 t, .int .u64 0, .int .u8 19, .int .i64 9, .int .u64 0] rfl (fun i hi => (HIN.out i (by simp only [downB, List.mem_cons, List.not_mem_nil, or_false] at hi ⊢; grind)).1) (by simp)
  have R0_r1 : Hid (InsIn (w7.alloc (.cells #[.int .u8 1, .int .i64 0, .int .u64 (numV (1)), .int .u8 9, .int .i64 0, .int .u64 0, .int .u8 5, .int .i64 t, .int .u64 0, .int .u8 19, .int .i64 9, .int .u64 0] 78)) _ _ _ _) := R0_7.out.keep ((Touch.refl _ _).alloc _)
  have HTR1 : Hid (Touch w (w7.alloc (.cells #[.int .u8 1, .int .i64 0, .int .u64 (numV (1)), .int .u8 9, .int .i64 0, .int .u64 0, .int .u8 5, .int .i64 t, .int .u64 0, .int .u8 19, .int .i64 9, .int .u64 0] 78)) []) := HT7.out.alloc _
  go_wp2_with fail
  refine (lrow_any _ _).mono ?_
  rintro e w' ⟨rfl, rfl⟩
  go_wp2_with fail
  refine (lop_any _ _).mono ?_
  rintro e w8 ⟨rfl, s8⟩
  have HT8 : Hid (Touch w w8 []) := HTR1.out.trans s8 (by simp)
  have R0_8 : Hid _ := R0_r1.out.keep s8
  have R1_8 : Hid _ := R1.out.keep s8
  clear s8
  have R2 : Hid (InsIn (w8.alloc (.cells #[.int .u8 26, .int .i64 0, .int .u64 0] 78)) (some ⟨w8.heap.size, 0, none⟩) ([insO 26 0]).length ([insO 26 0]).length [insO 26 0]) := ins_lit w8 [insO 26 0] #[.int .u8 26, .int .i64 0, .int .u64 0] rfl (fun i hi => (HIN.out i (by simp only [downB, List.mem_cons, List.not_mem_nil, or_false] at hi ⊢; grind)).1) (by simp)
  have R0_r2 : Hid (InsIn (w8.alloc (.cells #[.int .u8 26, .int .i64 0, .int .u64 0] 78)) _ _ _ _) := R0_8.out.keep ((Touch.refl _ _).alloc _)
  have R1_r2 : Hid (InsIn (w8.alloc (.cells #[.int .u8 26, .int .i64 0, .int .u64 0] 78)) _ _ _ _) := R1_8.out.keep ((Touch.refl _ _).alloc _)
  have HTR2 : Hid (Touch w (w8.alloc (.cells #[.int .u8 26, .int .i64 0, .int .u64 0] 78)) []) := HT8.out.alloc _
  go_wp2_with fail
  refine (lrow_any _ _).mono ?_
  rintro e w' ⟨rfl, rfl⟩
  have HF : Hid _ := rows3 R0_r2.out R1_r2.out R2.out (by simp) (by simp) (by simp) 25
  have hh : (w8.alloc (.cells #[.int .u8 26, .int .i64 0, .int .u64 0] 78)).heap.size = w8.heap.size + 1 := by simp
  have HG : HidC _ _ _ _ _ := HB1.out _ _ 3 HF.out
  rw [hh] at HG
  clear hh
  go_wp2_with fail
  refine HG.out.mono ?_
  intro e w9 h9
  have h9' : LkP w E2 RL e w9 := LkP.up (HTR2.out.alloc _) h9
  clear h9 HG HF
  rcases h9' with ⟨he, ao, cap, rfl, hin, t9⟩ | ⟨he, rfl, t9⟩
  · have HIn : Hid _ := hin
    have HT9 : Hid _ := t9
    have HE9 : Hid _ := he
    obtain ⟨n9, hn9⟩ : ∃ n9, n9 = RL.length := ⟨_, rfl⟩
    have HN9 : Hid _ := hn9
    rw [← hn9]
    clear hin t9 he hn9
    go_wp2
    refine bodyPost_ret (v := .tuple #[.slice ao n9 cap, .int .i64 0]) (by simp [results, Tryz.results89, go_sem]) rfl ?_
    exact .inl ⟨by rw [HE2.out]; exact HE9.out, ao, cap, by rw [HN9.out], HIn.out, HT9.out⟩
  · have HT9 : Hid _ := t9
    have HE9 : Hid _ := he
    clear t9 he
    go_wp2
    refine bodyPost_ret (v := .tuple #[.slice none 0 0, .int .i64 E2]) (by simp [results, Tryz.results89, go_sem]) rfl ?_
    exact .inr ⟨by rw [HE2.out]; exact HE9.out, by rw [HE2.out], HT9.out⟩

set_option maxRecDepth 100000 in
set_option maxHeartbeats 1000000 in
theorem lup_any (a t : Int) (w : World) : Calls Tryz.prog 90 #[.int .i64 a, .int .i64 t] w (LkP w (upE a t) (blkL a (upB t))) := by
  have HE : Hid (upE a t = if mayP a t 0 then blkE a (upB t) else 2) := rfl
  have HBB : Hid (∀ W g cap, 0 ≤ a → a ≤ 64 → (∀ i ∈ upB t, i.Wf ∧ (0 ≤ i.arg ∧ i.arg ≤ 1000) ∧ i.op ≠ 23 ∧ i.op ≠ 24) → RowsAt W g (upR t) → HidC Tryz.prog 118 #[.int .i64 a, .slice (some ⟨g, 0, none⟩) 1 cap] W (LkP W (blkE a (upB t)) (blkL a (upB t)))) := fun W g cap ha0 ha1 hin h => ⟨lblock_any ha0 ha1 h (by show (upB t).length ≤ 900; simp [upB]) (by simp [upR]) (fun i hi => (hin i hi).2.1) (fun i hi => (hin i hi).1) (by simp [upR])⟩
  generalize hRL : blkL a (upB t) = RL at *
  generalize hEE : upE a t = E at *
  generalize hE2 : blkE a (upB t) = E2 at *
  clear hRL hEE hE2
  by_cases c0 : (decide (0 ≤ a) && decide (a ≤ 64)) = false
  · have HE2 : Hid (E = 2) := by show _ = _; rw [HE.out, if_neg (by unfold mayP; simp only [Bool.and_eq_true, Bool.and_eq_false_iff, decide_eq_true_eq, decide_eq_false_iff_not] at *; omega)]
    clear HE HBB
    have HC : Hid _ := c0
    clear c0
    go_enter Tryz.func90, Tryz.ntmps90
    go_wp2_with fail
    refine (lplace_is HC.out _).mono ?_
    rintro e w' ⟨rfl, rfl⟩
    go_wp2
    refine bodyPost_ret (v := .tuple #[.slice none 0 0, .int .i64 2]) (by simp [results, Tryz.results90, go_sem]) rfl ?_
    exact .inr ⟨by rw [HE2.out]; omega, by rw [HE2.out], Touch.refl _ _⟩
  have c0 : (decide (0 ≤ a) && decide (a ≤ 64)) = true := by simpa using c0
  by_cases c1 : (decide (0 ≤ t) && decide (t < 12)) = false
  · have HE2 : Hid (E = 2) := by show _ = _; rw [HE.out, if_neg (by unfold mayP; simp only [Bool.and_eq_true, Bool.and_eq_false_iff, decide_eq_true_eq, decide_eq_false_iff_not] at *; omega)]
    clear HE HBB
    have HC : Hid _ := c1
    have HC0 : Hid _ := c0
    clear c0
    clear c1
    go_enter Tryz.func90, Tryz.ntmps90
    go_wp2_with fail
    refine (lplace_is HC0.out _).mono ?_
    rintro e w' ⟨rfl, rfl⟩
    go_wp2_with fail
    refine (ltvar_is HC.out _).mono ?_
    rintro e w' ⟨rfl, rfl⟩
    go_wp2
    refine bodyPost_ret (v := .tuple #[.slice none 0 0, .int .i64 2]) (by simp [results, Tryz.results90, go_sem]) rfl ?_
    exact .inr ⟨by rw [HE2.out]; omega, by rw [HE2.out], Touch.refl _ _⟩
  have c1 : (decide (0 ≤ t) && decide (t < 12)) = true := by simpa using c1
  have HE2 : Hid (E = E2) := by show _ = _; rw [HE.out, if_pos (by unfold mayP; simp [Bool.and_eq_true] at *; omega)]
  have q0 : 0 ≤ a ∧ a ≤ 64 := by simpa using c0
  have q1 : 0 ≤ t ∧ t < 12 := by simpa using c1
  have HB1 : Hid _ := fun W g cap => HBB.out W g cap q0.1 q0.2 (up_in t q1.1 q1.2)
  clear HBB HE
  have HC0 : Hid _ := c0
  clear c0
  have HC1 : Hid _ := c1
  clear c1
  have Q1 : Hid _ := q1
  have HIN : Hid _ := up_in t q1.1 q1.2
  clear q0 q1
  go_enter Tryz.func90, Tryz.ntmps90
  go_wp2_with fail
  refine (lplace_is HC0.out _).mono ?_
  rintro e w' ⟨rfl, rfl⟩
  go_wp2_with fail
  refine (ltvar_is HC1.out _).mono ?_
  rintro e w' ⟨rfl, rfl⟩
  have HT0 : Hid (Touch w w []) := Touch.refl _ _
  go_wp2_with fail
  refine (lget_any _ _).mono ?_
  rintro e w1 ⟨rfl, s1⟩
  have HT1 : Hid (Touch w w1 []) := HT0.out.trans s1 (by simp)
  clear s1
  go_wp2_with fail
  refine (lpush_any _ (by omega) (by omega) _).mono ?_
  rintro e w2 ⟨rfl, s2⟩
  have HT2 : Hid (Touch w w2 []) := HT1.out.trans s2 (by simp)
  clear s2
  go_wp2_with fail
  refine (lop_any _ _).mono ?_
  rintro e w3 ⟨rfl, s3⟩
  have HT3 : Hid (Touch w w3 []) := HT2.out.trans s3 (by simp)
  clear s3
  go_wp2_with fail
  refine (lput_any _ _).mono ?_
  rintro e w4 ⟨rfl, s4⟩
  have HT4 : Hid (Touch w w4 []) := HT3.out.trans s4 (by simp)
  clear s4
  have R0 : Hid (InsIn (w4.alloc (.cells #[.int .u8 4, .int .i64 t, .int .u64 0, .int .u8 1, .int .i64 0, .int .u64 (numV (1)), .int .u8 8, .int .i64 0, .int .u64 0, .int .u8 5, .int .i64 t, .int .u64 0] 78)) (some ⟨w4.heap.size, 0, none⟩) ([insO 4 t, insP (1), insO 8 0, insO 5 t]).length ([insO 4 t, insP (1), insO 8 0, insO 5 t]).length [insO 4 t, insP (1), insO 8 0, insO 5 t]) := ins_lit w4 [insO 4 t, insP (1), insO 8 0, insO 5 t] #[.int .u8 4, .int .i64 t, .int .u64 0, .int .u8 1, .int .i64 0, .int .u64 (numV (1)), .int .u8 8, .int .i64 0, .int .u64 0, .int .u8 5, .int .i64 t, .int .u64 0] rfl (fun i hi => (HIN.out i (by simp only [upB, List.mem_cons, List.not_mem_nil, or_false] at hi ⊢; grind)).1) (by simp)
  have HTR0 : Hid (Touch w (w4.alloc (.cells #[.int .u8 4, .int .i64 t, .int .u64 0, .int .u8 1, .int .i64 0, .int .u64 (numV (1)), .int .u8 8, .int .i64 0, .int .u64 0, .int .u8 5, .int .i64 t, .int .u64 0] 78)) []) := HT4.out.alloc _
  go_wp2_with fail
  refine (lrow_any _ _).mono ?_
  rintro e w' ⟨rfl, rfl⟩
  have HF : Hid _ := rows1 R0.out (by simp) 25
  have hh : (w4.alloc (.cells #[.int .u8 4, .int .i64 t, .int .u64 0, .int .u8 1, .int .i64 0, .int .u64 (numV (1)), .int .u8 8, .int .i64 0, .int .u64 0, .int .u8 5, .int .i64 t, .int .u64 0] 78)).heap.size = w4.heap.size + 1 := by simp
  have HG : HidC _ _ _ _ _ := HB1.out _ _ 1 HF.out
  rw [hh] at HG
  clear hh
  go_wp2_with fail
  refine HG.out.mono ?_
  intro e w9 h9
  have h9' : LkP w E2 RL e w9 := LkP.up (HTR0.out.alloc _) h9
  clear h9 HG HF
  rcases h9' with ⟨he, ao, cap, rfl, hin, t9⟩ | ⟨he, rfl, t9⟩
  · have HIn : Hid _ := hin
    have HT9 : Hid _ := t9
    have HE9 : Hid _ := he
    obtain ⟨n9, hn9⟩ : ∃ n9, n9 = RL.length := ⟨_, rfl⟩
    have HN9 : Hid _ := hn9
    rw [← hn9]
    clear hin t9 he hn9
    go_wp2
    refine bodyPost_ret (v := .tuple #[.slice ao n9 cap, .int .i64 0]) (by simp [results, Tryz.results90, go_sem]) rfl ?_
    exact .inl ⟨by rw [HE2.out]; exact HE9.out, ao, cap, by rw [HN9.out], HIn.out, HT9.out⟩
  · have HT9 : Hid _ := t9
    have HE9 : Hid _ := he
    clear t9 he
    go_wp2
    refine bodyPost_ret (v := .tuple #[.slice none 0 0, .int .i64 E2]) (by simp [results, Tryz.results90, go_sem]) rfl ?_
    exact .inr ⟨by rw [HE2.out]; exact HE9.out, by rw [HE2.out], HT9.out⟩

end Go.Proofs.YtcbkafbchpjnoaaGreatDoor

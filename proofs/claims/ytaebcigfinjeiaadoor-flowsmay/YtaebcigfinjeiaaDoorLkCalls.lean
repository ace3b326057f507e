/-
  package locks: Lock, Unlock, Down, Up BY THEIR CONTRACTS. Written by mklk2.py.
-/
import Derived.Test.YtaebcigfinjeiaaDoorLkAt
namespace Go.Proofs.YtaebcigfinjeiaaDoor
set_option linter.unusedVariables false
set_option linter.unusedSimpArgs false
open Go.RowKit
attribute [local go_sem] Oper.semAt_some

theorem numV_fin : ∀ n : Fin 16, ofB (floatOfInt .f64 (n.val : Int)) < 18446744073709551616 := by decide +kernel
theorem numV_wf (n : Int) (h : 0 ≤ n ∧ n ≤ 15) : Wf64 (numV n) := by
  have := numV_fin ⟨n.toNat, by omega⟩
  have e : ((n.toNat : Nat) : Int) = n := by omega
  simp only [e] at this
  unfold Wf64 numV
  omega
theorem insP_wf {n : Int} (h : 0 ≤ n ∧ n ≤ 15) : (insP n).Wf := ⟨⟨by show (0 : Int) ≤ 1; omega, by show (1 : Int) ≤ 255; omega⟩, ⟨by show (-9223372036854775808 : Int) ≤ 0; omega, by show (0 : Int) ≤ 9223372036854775807; omega⟩, numV_wf n h⟩

/-- A row that was just built. -/
theorem ins_lit (w : World) (l : List InsD) (cs : Array Value) (hcs : cs.toList = l.flatMap InsD.cells) (hw : ∀ i ∈ l, i.Wf) (hl : l.length ≤ 1000) : InsIn (w.alloc (.cells cs 44)) (some ⟨w.heap.size, 0, none⟩) l.length l.length l := by
  have hsz : cs.size = l.length * 3 := by rw [← Array.length_toList, hcs, flat_len (n := 3) (fun _ => rfl)]
  have ho : insOwn (w.alloc (.cells cs 44)) w.heap.size (.slice (some ⟨w.heap.size, 0, none⟩) l.length l.length) l :=
    ⟨flat_len (n := 3) (fun _ => rfl) l, .inr ⟨w.heap.size, l.length, cs, rfl, Nat.le_refl _, heap_alloc_new w _, Nat.le_refl _, by unfold maxLen; omega, hsz, by rw [← hsz, ← hcs, ← Array.length_toList, List.take_length]⟩⟩
  exact ⟨rfl, srow_of (cells := InsD.cells) (n := 3) (fun _ => rfl) ho, Nat.le_refl _, by omega, hw⟩
theorem LkP.up {w W : World} {er : Int} {L : List InsD} {e : Ending} {w' : World} (t : Touch w W []) (h : LkP W er L e w') : LkP w er L e w' := by
  rcases h with ⟨h1, ao, cap, h2, h3, h4⟩ | ⟨h1, h2, h4⟩
  · exact .inl ⟨h1, ao, cap, h2, h3, t.trans h4 (by simp)⟩
  · exact .inr ⟨h1, h2, t.trans h4 (by simp)⟩
theorem rows1 {W : World} {a1 : Option Addr} {c1 : Nat} {l1 : List InsD} (h1 : InsIn W a1 l1.length c1 l1) (n1 : l1 ≠ []) (ty : TypeId) : RowsAt (W.alloc (.cells #[.slice a1 l1.length c1] ty)) W.heap.size [l1] := by
  have hn := heap_alloc_new W (.cells #[.slice a1 l1.length c1] ty)
  have t : Touch W (W.alloc (.cells #[.slice a1 l1.length c1] ty)) [] := (Touch.refl _ _).alloc _
  refine ⟨fun k hk => ?_, by simp [n1]⟩
  match k, hk with
  | 0, _ => exact ⟨a1, c1, by unfold World.cell?; rw [hn]; rfl, h1.keep t⟩
theorem rows2 {W : World} {a1 a2 : Option Addr} {c1 c2 : Nat} {l1 l2 : List InsD} (h1 : InsIn W a1 l1.length c1 l1) (h2 : InsIn W a2 l2.length c2 l2) (n1 : l1 ≠ []) (n2 : l2 ≠ []) (ty : TypeId) : RowsAt (W.alloc (.cells #[.slice a1 l1.length c1, .slice a2 l2.length c2] ty)) W.heap.size [l1, l2] := by
  have hn := heap_alloc_new W (.cells #[.slice a1 l1.length c1, .slice a2 l2.length c2] ty)
  have t : Touch W (W.alloc (.cells #[.slice a1 l1.length c1, .slice a2 l2.length c2] ty)) [] := (Touch.refl _ _).alloc _
  refine ⟨fun k hk => ?_, by simp [n1, n2]⟩
  match k, hk with
  | 0, _ => exact ⟨a1, c1, by unfold World.cell?; rw [hn]; rfl, h1.keep t⟩
  | 1, _ => exact ⟨a2, c2, by unfold World.cell?; rw [hn]; rfl, h2.keep t⟩
theorem rows3 {W : World} {a1 a2 a3 : Option Addr} {c1 c2 c3 : Nat} {l1 l2 l3 : List InsD} (h1 : InsIn W a1 l1.length c1 l1) (h2 : InsIn W a2 l2.length c2 l2) (h3 : InsIn W a3 l3.length c3 l3) (n1 : l1 ≠ []) (n2 : l2 ≠ []) (n3 : l3 ≠ []) (ty : TypeId) : RowsAt (W.alloc (.cells #[.slice a1 l1.length c1, .slice a2 l2.length c2, .slice a3 l3.length c3] ty)) W.heap.size [l1, l2, l3] := by
  have hn := heap_alloc_new W (.cells #[.slice a1 l1.length c1, .slice a2 l2.length c2, .slice a3 l3.length c3] ty)
  have t : Touch W (W.alloc (.cells #[.slice a1 l1.length c1, .slice a2 l2.length c2, .slice a3 l3.length c3] ty)) [] := (Touch.refl _ _).alloc _
  refine ⟨fun k hk => ?_, by simp [n1, n2, n3]⟩
  match k, hk with
  | 0, _ => exact ⟨a1, c1, by unfold World.cell?; rw [hn]; rfl, h1.keep t⟩
  | 1, _ => exact ⟨a2, c2, by unfold World.cell?; rw [hn]; rfl, h2.keep t⟩
  | 2, _ => exact ⟨a3, c3, by unfold World.cell?; rw [hn]; rfl, h3.keep t⟩
def lockB (t u : Int) : List InsD := [insO 4 t, insO 20 4, insO 26 0, insP (1 + u), insO 5 t]
def lockR (t u : Int) : List (List InsD) := [[insO 4 t, insO 20 4, insO 26 0], [insP (1 + u), insO 5 t]]
def lockE (a : Int) (t u : Int) : Int := if mayP a t u then blkE a (lockB t u) else 2
theorem lock_in (t u : Int) (t0 : 0 ≤ t) (t1 : t < 12) (u0 : 0 ≤ u) (u1 : u < 4) : ∀ i ∈ lockB t u, i.Wf ∧ (0 ≤ i.arg ∧ i.arg ≤ 1000) ∧ i.op ≠ 23 ∧ i.op ≠ 24 := by
  intro i hi
  simp only [lockB, List.mem_cons, List.not_mem_nil, or_false] at hi
  rcases hi with rfl | rfl | rfl | rfl | rfl
  · exact ⟨insO_wf (by omega) (by omega) (by omega) (by omega), by unfold insO; simp <;> omega, by unfold insO; simp, by unfold insO; simp⟩
  · exact ⟨insO_wf (by omega) (by omega) (by omega) (by omega), by unfold insO; simp <;> omega, by unfold insO; simp, by unfold insO; simp⟩
  · exact ⟨insO_wf (by omega) (by omega) (by omega) (by omega), by unfold insO; simp <;> omega, by unfold insO; simp, by unfold insO; simp⟩
  · exact ⟨insP_wf (by omega), by unfold insP; simp <;> omega, by unfold insP; simp, by unfold insP; simp⟩
  · exact ⟨insO_wf (by omega) (by omega) (by omega) (by omega), by unfold insO; simp <;> omega, by unfold insO; simp, by unfold insO; simp⟩

def unlockB (t u : Int) : List InsD := [insO 4 t, insP (1 + u), insO 14 0, insO 20 9, insP (0), insO 5 t, insP (1), insO 19 10, insP (0)]
def unlockR (t u : Int) : List (List InsD) := [[insO 4 t, insP (1 + u), insO 14 0, insO 20 9], [insP (0), insO 5 t, insP (1), insO 19 10], [insP (0)]]
def unlockE (a : Int) (t u : Int) : Int := if mayP a t u then blkE a (unlockB t u) else 2
theorem unlock_in (t u : Int) (t0 : 0 ≤ t) (t1 : t < 12) (u0 : 0 ≤ u) (u1 : u < 4) : ∀ i ∈ unlockB t u, i.Wf ∧ (0 ≤ i.arg ∧ i.arg ≤ 1000) ∧ i.op ≠ 23 ∧ i.op ≠ 24 := by
  intro i hi
  simp only [unlockB, List.mem_cons, List.not_mem_nil, or_false] at hi
  rcases hi with rfl | rfl | rfl | rfl | rfl | rfl | rfl | rfl | rfl
  · exact ⟨insO_wf (by omega) (by omega) (by omega) (by omega), by unfold insO; simp <;> omega, by unfold insO; simp, by unfold insO; simp⟩
  · exact ⟨insP_wf (by omega), by unfold insP; simp <;> omega, by unfold insP; simp, by unfold insP; simp⟩
  · exact ⟨insO_wf (by omega) (by omega) (by omega) (by omega), by unfold insO; simp <;> omega, by unfold insO; simp, by unfold insO; simp⟩
  · exact ⟨insO_wf (by omega) (by omega) (by omega) (by omega), by unfold insO; simp <;> omega, by unfold insO; simp, by unfold insO; simp⟩
  · exact ⟨insP_wf (by omega), by unfold insP; simp <;> omega, by unfold insP; simp, by unfold insP; simp⟩
  · exact ⟨insO_wf (by omega) (by omega) (by omega) (by omega), by unfold insO; simp <;> omega, by unfold insO; simp, by unfold insO; simp⟩
  · exact ⟨insP_wf (by omega), by unfold insP; simp <;> omega, by unfold insP; simp, by unfold insP; simp⟩
  · exact ⟨insO_wf (by omega) (by omega) (by omega) (by omega), by unfold insO; simp <;> omega, by unfold insO; simp, by unfold insO; simp⟩
  · exact ⟨insP_wf (by omega), by unfold insP; simp <;> omega, by unfold insP; simp, by unfold insP; simp⟩

def downB (t : Int) : List InsD := [insO 4 t, insO 16 0, insO 20 8, insP (1), insO 9 0, insO 5 t, insO 19 9, insO 26 0]
def downR (t : Int) : List (List InsD) := [[insO 4 t, insO 16 0, insO 20 8], [insP (1), insO 9 0, insO 5 t, insO 19 9], [insO 26 0]]
def downE (a : Int) (t : Int) : Int := if mayP a t 0 then blkE a (downB t) else 2
theorem down_in (t : Int) (t0 : 0 ≤ t) (t1 : t < 12) : ∀ i ∈ downB t, i.Wf ∧ (0 ≤ i.arg ∧ i.arg ≤ 1000) ∧ i.op ≠ 23 ∧ i.op ≠ 24 := by
  intro i hi
  simp only [downB, List.mem_cons, List.not_mem_nil, or_false] at hi
  rcases hi with rfl | rfl | rfl | rfl | rfl | rfl | rfl | rfl
  · exact ⟨insO_wf (by omega) (by omega) (by omega) (by omega), by unfold insO; simp <;> omega, by unfold insO; simp, by unfold insO; simp⟩
  · exact ⟨insO_wf (by omega) (by omega) (by omega) (by omega), by unfold insO; simp <;> omega, by unfold insO; simp, by unfold insO; simp⟩
  · exact ⟨insO_wf (by omega) (by omega) (by omega) (by omega), by unfold insO; simp <;> omega, by unfold insO; simp, by unfold insO; simp⟩
  · exact ⟨insP_wf (by omega), by unfold insP; simp <;> omega, by unfold insP; simp, by unfold insP; simp⟩
  · exact ⟨insO_wf (by omega) (by omega) (by omega) (by omega), by unfold insO; simp <;> omega, by unfold insO; simp, by unfold insO; simp⟩
  · exact ⟨insO_wf (by omega) (by omega) (by omega) (by omega), by unfold insO; simp <;> omega, by unfold insO; simp, by unfold insO; simp⟩
  · exact ⟨insO_wf (by omega) (by omega) (by omega) (by omega), by unfold insO; simp <;> omega, by unfold insO; simp, by unfold insO; simp⟩
  · exact ⟨insO_wf (by omega) (by omega) (by omega) (by omega), by unfold insO; simp <;> omega, by unfold insO; simp, by unfold insO; simp⟩

def upB (t : Int) : List InsD := [insO 4 t, insP (1), insO 8 0, insO 5 t]
def upR (t : Int) : List (List InsD) := [[insO 4 t, insP (1), insO 8 0, insO 5 t]]
def upE (a : Int) (t : Int) : Int := if mayP a t 0 then blkE a (upB t) else 2
theorem up_in (t : Int) (t0 : 0 ≤ t) (t1 : t < 12) : ∀ i ∈ upB t, i.Wf ∧ (0 ≤ i.arg ∧ i.arg ≤ 1000) ∧ i.op ≠ 23 ∧ i.op ≠ 24 := by
  intro i hi
  simp only [upB, List.mem_cons, List.not_mem_nil, or_false] at hi
  rcases hi with rfl | rfl | rfl | rfl
  · exact ⟨insO_wf (by omega) (by omega) (by omega) (by omega), by unfold insO; simp <;> omega, by unfold insO; simp, by unfold insO; simp⟩
  · exact ⟨insP_wf (by omega), by unfold insP; simp <;> omega, by unfold insP; simp, by unfold insP; simp⟩
  · exact ⟨insO_wf (by omega) (by omega) (by omega) (by omega), by unfold insO; simp <;> omega, by unfold insO; simp, by unfold insO; simp⟩
  · exact ⟨insO_wf (by omega) (by omega) (by omega) (by omega), by unfold insO; simp <;> omega, by unfold insO; simp, by unfold insO; simp⟩

end Go.Proofs.YtaebcigfinjeiaaDoor

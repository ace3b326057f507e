/-
  package opaque: THE SEARCH AS PLAIN DATA; taken; A ROW THAT IS CUT. 
-/
import Derived.Test.YtjacclbifeoclaaOpqBack
namespace Go.Proofs.Ytjacclbifeoclaa
set_option linter.unusedVariables false
set_option linter.unusedSimpArgs false
open Go.RowKit Go.Maps
attribute [local go_sem] Oper.semAt_some

def childO (l : List EvD) (com atts : List Int) (pl : List Nat) (lf hp : List Int) (i : Nat) : Option (List Int × List Int) :=
  if i ∈ pl then none else if (putO l com lf hp (atts.getD i 0)).1 = 0 then some (putO l com lf hp (atts.getD i 0)).2 else none
def dfs (l : List EvD) (com atts : List Int) : Nat → List Nat → List Int → List Int → List Nat → Option (List Nat)
  | 0, pl, _, _, _ => some pl
  | d + 1, pl, lf, hp, cs => cs.findSome? fun i => (childO l com atts pl lf hp i).bind fun s => dfs l com atts d (pl ++ [i]) s.1 s.2 (List.range atts.length)
def contO (l : List EvD) (com atts : List Int) : List Nat → List (List Int × List Int) → Nat → Option (List Nat)
  | i :: rp, s :: rs, d => (dfs l com atts (d + 1) rp.reverse s.1 s.2 ((List.range atts.length).drop (i + 1))).or (contO l com atts rp rs (d + 1))
  | _, _, _ => none
def foundPl (l : List EvD) (hp com : List Int) : Option (List Nat) := dfs l (com ++ inS l 3) (attS l) (attS l).length [] (attS l) hp (List.range (attS l).length)
def foundP (l : List EvD) (hp com : List Int) : Int × List Int :=
  if begE l hp com ≠ 0 then (begE l hp com, []) else if 6 < (attS l).length then (4, []) else match foundPl l hp com with | none => (5, []) | some pl => (0, pl.map fun i => (attS l).getD i 0)

theorem range_drop {n i : Nat} (h : i < n) : (List.range n).drop i = i :: (List.range n).drop (i + 1) := by
  rw [List.drop_eq_getElem_cons (by simpa using h)]
  simp
theorem dfs_none {l : List EvD} {com atts : List Int} {d : Nat} {pl : List Nat} {lf hp : List Int} {i : Nat} (hi : i < atts.length) (h : childO l com atts pl lf hp i = none) : dfs l com atts (d + 1) pl lf hp ((List.range atts.length).drop i) = dfs l com atts (d + 1) pl lf hp ((List.range atts.length).drop (i + 1)) := by
  unfold dfs
  rw [range_drop hi, List.findSome?_cons, h]
  rfl
theorem dfs_some {l : List EvD} {com atts : List Int} {d : Nat} {pl : List Nat} {lf hp lf' hp' : List Int} {i : Nat} (hi : i < atts.length) (h : childO l com atts pl lf hp i = some (lf', hp')) :
    dfs l com atts (d + 1) pl lf hp ((List.range atts.length).drop i) = (dfs l com atts d (pl ++ [i]) lf' hp' (List.range atts.length)).or (dfs l com atts (d + 1) pl lf hp ((List.range atts.length).drop (i + 1))) := by
  conv => lhs; unfold dfs
  rw [range_drop hi, List.findSome?_cons, h]
  conv => rhs; rhs; unfold dfs
  simp only [Option.bind_some]
  cases dfs l com atts d (pl ++ [i]) lf' hp' (List.range atts.length) <;> rfl
theorem dfs_end (l : List EvD) (com atts : List Int) (d : Nat) (pl : List Nat) (lf hp : List Int) : dfs l com atts (d + 1) pl lf hp ((List.range atts.length).drop atts.length) = none := by
  unfold dfs
  rw [List.drop_of_length_le (by simp)]
  rfl
theorem cont_push (l : List EvD) (com atts : List Int) (pl : List Nat) (rs : List (List Int × List Int)) (d : Nat) (lf hp : List Int) (i : Nat) :
    contO l com atts (pl ++ [i]).reverse ((lf, hp) :: rs) d = (dfs l com atts (d + 1) pl lf hp ((List.range atts.length).drop (i + 1))).or (contO l com atts pl.reverse rs (d + 1)) := by
  rw [List.reverse_append]
  simp only [List.reverse_cons, List.reverse_nil, List.nil_append, List.singleton_append]
  conv => lhs; unfold contO
  rw [List.reverse_reverse]

/-! ### How far the search is, as a number -/
def hornerO (pl : List Nat) : Nat := pl.foldl (fun a x => a * 8 + x) 0
theorem horner_snoc (pl : List Nat) (i : Nat) : hornerO (pl ++ [i]) = hornerO pl * 8 + i := by unfold hornerO; rw [List.foldl_append]; rfl
theorem horner_lt' (pl : List Nat) : ∀ a, (∀ x ∈ pl, x < 8) → pl.foldl (fun a x => a * 8 + x) a < (a + 1) * 8 ^ pl.length := by
  induction pl with
  | nil => intro a _; simp
  | cons x pl ih =>
    intro a h
    have h1 := ih (a * 8 + x) (fun y hy => h y (by simp [hy]))
    have h2 := h x (by simp)
    rw [List.foldl_cons, List.length_cons, Nat.pow_succ]
    have h3 : (a * 8 + x + 1) * 8 ^ pl.length ≤ (a + 1) * (8 ^ pl.length * 8) := by
      rw [Nat.mul_comm (8 ^ _) 8, ← Nat.mul_assoc]
      exact Nat.mul_le_mul_right _ (by omega)
    omega
theorem horner_lt (pl : List Nat) (h : ∀ x ∈ pl, x < 8) : hornerO pl < 8 ^ pl.length := by
  have := horner_lt' pl 0 h
  simpa [hornerO] using this
def farO (pl : List Nat) (fr : Nat) : Nat := ((hornerO pl * 8 + fr) * 8 ^ (6 - pl.length)) * 8 + pl.length
theorem far_push {pl : List Nat} {fr i : Nat} (hk : pl.length < 6) (hi : fr ≤ i) : farO pl fr < farO (pl ++ [i]) 0 := by
  unfold farO
  rw [horner_snoc, List.length_append, List.length_singleton, Nat.add_zero]
  have e : 6 - pl.length = (6 - (pl.length + 1)) + 1 := by omega
  rw [e, Nat.pow_succ]
  have h1 : (hornerO pl * 8 + fr) * (8 ^ (6 - (pl.length + 1)) * 8) ≤ (hornerO pl * 8 + i) * 8 * 8 ^ (6 - (pl.length + 1)) := by
    rw [Nat.mul_assoc, Nat.mul_comm 8 (8 ^ _)]
    exact Nat.mul_le_mul_right _ (by omega)
  omega
theorem far_pop {pl : List Nat} {fr i : Nat} (hk : pl.length < 6) (hf : fr < 8) : farO (pl ++ [i]) fr < farO pl (i + 1) := by
  unfold farO
  rw [horner_snoc, List.length_append, List.length_singleton]
  have e : 6 - pl.length = (6 - (pl.length + 1)) + 1 := by omega
  rw [e, Nat.pow_succ]
  have hp : 0 < 8 ^ (6 - (pl.length + 1)) := Nat.pow_pos (by decide)
  have h1 : ((hornerO pl * 8 + i) * 8 + fr) * 8 ^ (6 - (pl.length + 1)) + 8 ^ (6 - (pl.length + 1)) ≤ (hornerO pl * 8 + (i + 1)) * (8 ^ (6 - (pl.length + 1)) * 8) := by
    have : ((hornerO pl * 8 + i) * 8 + fr) * 8 ^ (6 - (pl.length + 1)) + 8 ^ (6 - (pl.length + 1)) = ((hornerO pl * 8 + i) * 8 + fr + 1) * 8 ^ (6 - (pl.length + 1)) := by rw [Nat.add_mul _ 1, Nat.one_mul]
    rw [this, Nat.mul_comm (8 ^ _) 8, ← Nat.mul_assoc]
    exact Nat.mul_le_mul_right _ (by omega)
  have h2 : pl.length + 1 ≤ 6 := hk
  generalize ((hornerO pl * 8 + i) * 8 + fr) * 8 ^ (6 - (pl.length + 1)) = A at *
  generalize (hornerO pl * 8 + (i + 1)) * (8 ^ (6 - (pl.length + 1)) * 8) = C at *
  omega
theorem far_lt {pl : List Nat} {fr : Nat} (h : ∀ x ∈ pl, x < 8) (hk : pl.length ≤ 6) (hf : fr < 8) : farO pl fr < 16777216 := by
  unfold farO
  have h1 := horner_lt pl h
  have h2 : (hornerO pl * 8 + fr) * 8 ^ (6 - pl.length) < 8 ^ 7 := by
    have e : (8 : Nat) ^ 7 = 8 ^ (pl.length + 1) * 8 ^ (6 - pl.length) := by rw [← Nat.pow_add]; congr 1; omega
    rw [e]
    refine Nat.mul_lt_mul_of_pos_right ?_ (Nat.pow_pos (by decide))
    rw [Nat.pow_succ]
    omega
  have e7 : (8 : Nat) ^ 7 = 2097152 := by decide
  omega

/-- The first ones of a row of one's own. -/
theorem own_first {w : World} {B g cap n size : Nat} {e : TypeId} {xs : List Value} (h : w.ownsRow B e size (.slice (some ⟨g, 0, none⟩) n cap) n xs) (i : Nat) (hi : i ≤ n) : w.ownsRow B e size (.slice (some ⟨g, 0, none⟩) i cap) i (xs.take (i * size)) := by
  have hmul : i * size ≤ n * size := Nat.mul_le_mul_right _ hi
  refine ⟨by rw [List.length_take, h.1]; omega, .inr ?_⟩
  rcases h.2 with ⟨e, _⟩ | ⟨g', cap', cur, e, hB, hg, h1, h2, h3, h4⟩
  · simp at e
  · simp only [Value.slice.injEq, Option.some.injEq, Addr.mk.injEq] at e
    obtain ⟨⟨rfl, _⟩, _, rfl⟩ := e
    refine ⟨g, cap, cur, rfl, hB, hg, by omega, h2, h3, ?_⟩
    rw [← h4, List.take_take, Nat.min_eq_left hmul]

set_option maxRecDepth 100000 in
set_option maxHeartbeats 4000000 in
theorem taken_any {w : World} {va vp : Value} {atts : List Int} {pl : List Nat} (ha : IRow w va atts) (hal : atts.length ≤ 1000) (hp : IRow w vp (pl.map Int.ofNat)) (hpl : pl.length ≤ 1000) (hin : ∀ i ∈ pl, i < atts.length) :
    Calls Try.prog 47 #[va, vp] w (IntsPost w (pl.map fun i => atts.getD i 0)) := by
  obtain ⟨aA, cA, rfl⟩ := ha.form
  obtain ⟨aP, cP, rfl⟩ := hp.form
  have HA : Hid (IRow w (.slice aA atts.length cA) atts) := ha
  have HP : Hid (IRow w (.slice aP (pl.map Int.ofNat).length cP) (pl.map Int.ofNat)) := hp
  have HI : Hid (∀ i ∈ pl, i < atts.length) := hin
  obtain ⟨i0, hi, hz0, hz1, hz2⟩ := info_partsO Try.info_int
  rw [List.length_map]
  obtain ⟨N, hN⟩ : ∃ N, N = pl.length := ⟨_, rfl⟩
  have HN : Hid (N = pl.length) := hN
  rw [← hN] at hpl ⊢
  generalize hM : atts.length = M at hal ⊢
  have HM : Hid (atts.length = M) := hM
  clear ha hp hin hN hM
  go_enter Try.func47, Try.ntmps47
  go_wp2_with fail
  go_loopw [5, 10] (fun s i wr => ∃ k : Nat, i = .int .i64 k ∧ k ≤ N ∧ intOwn wr w.heap.size s ((pl.take k).map fun i => atts.getD i 0) ∧ Touch w wr []) (fun _ i _ => N - (intOf i).toNat)
  case atStart => exact ⟨0, rfl, Nat.zero_le _, World.ownsRow_nil _ _ _ _, Touch.refl _ _⟩
  case round =>
    obtain ⟨k, rfl, hk, hown, t⟩ := hrel
    have HT : Hid (Touch w wr []) := t
    by_cases hlt : k < N
    · have h1 : (k : Int) < N := by omega
      have h0 : (0 : Int) ≤ k := by omega
      have hkl : k < pl.length := by rw [← HN.out]; exact hlt
      obtain ⟨g, off, hgo, hg, d0⟩ := IRow.one (SRow.keep HP.out t (by simp)) k (by simpa using hkl)
      subst hgo
      rw [List.getElem_map] at d0
      have hjl := HI.out _ (List.getElem_mem hkl)
      obtain ⟨g2, off2, rfl, hg2, d1⟩ := IRow.one (SRow.keep HA.out t (by simp)) _ hjl
      have hsn : (pl.take (k + 1)).map (fun i => atts.getD i 0) = (pl.take k).map (fun i => atts.getD i 0) ++ [atts[pl[k]]] := by
        rw [take_snoc hkl, List.map_append]
        simp [List.getD_eq_getElem?_getD, hjl]
      have hln : ((pl.take k).map fun i => atts.getD i 0).length ≤ 1000 := by simp; omega
      have hjM : pl[k] < M := by rw [← HM.out]; exact hjl
      generalize atts[pl[k]] = x at *
      generalize pl[k] = j at *
      generalize hS1 : (pl.take (k + 1)).map (fun i => atts.getD i 0) = S1 at *
      generalize hS0 : (pl.take k).map (fun i => atts.getD i 0) = S0 at *
      have TB : Touch wr (wr.alloc (.cells #[.int .i64 x] 3)) [] := (Touch.refl wr []).alloc _
      have hsz := t.size
      have hnew : IRow (wr.alloc (.cells #[.int .i64 x] 3)) (.slice (some ⟨wr.heap.size, 0, none⟩) [x].length 1) [x] := ⟨_, _, rfl, fun _ => ⟨wr.heap.size, 0, rfl, by simp, fun k hk j hj => by
        have e1 : k = 0 := by simpa using hk
        have e2 : j = 0 := by omega
        subst e1 e2
        exact cell_new _ _ _ _⟩⟩
      obtain ⟨v', w3, hrun, h2, h3, h4⟩ := run_app (P := Try.prog) (cells := fun x : Int => [Value.int .i64 x]) 24 24 3 i0 _ 1 8 Try.underlying24 hi hz0 hz1 hz2 rfl (by decide) (fun _ => rfl) (by simp [Value.oneCell']) (ownsRow_touch hown TB (by simp)) hnew (by simp; omega) (by decide) (by simp; omega)
      have T3 : Touch w w3 [] := (t.trans TB (by simp)).grown h3 (fun g hg => .inr (hown.lt g hg).1)
      have HO3 : Hid (intOwn w3 w.heap.size v' S1) := by
        show World.ownsRow _ _ _ _ _ _ _
        rw [hsn]
        simpa using h2
      have HT3 : Hid _ := T3
      have HS1 : Hid _ := hS1
      obtain ⟨a3, c3, rfl⟩ := owns_slice HO3.out
      obtain ⟨aS, cS, hf⟩ := owns_slice hown
      rw [hf] at hrun ⊢
      have q1 : (j : Int) < M := by omega
      have q0 : (0 : Int) ≤ j := by omega
      clear hown t TB h2 h3 h4 T3 hsn hln hS1 hS0 hnew hf hjl
      generalize S1.length = M1 at *
      generalize S0.length = M0 at *
      simp only [List.length_singleton] at hrun
      go_wp2_with (at_builtin; refine Lib.wpList_append_run _ rfl _ _ _ _ rfl _ _ rfl rfl _ _ hrun ?_)
      go_roundw
      case rel => exact ⟨k + 1, by go_num, by omega, by rw [HS1.out]; exact HO3.out, HT3.out⟩
      case measure => simp [intOf]; omega
    · obtain rfl : k = N := by omega
      have HO3 : Hid (intOwn wr w.heap.size u5 (pl.map fun i => atts.getD i 0)) := by
        rw [HN.out, List.take_length] at hown
        exact hown
      obtain ⟨aS, cS, hf⟩ := owns_slice HO3.out
      clear hown t
      subst hf
      go_wp2
      go_ret
      exact ⟨_, rfl, HO3.out, HT.out⟩

end Go.Proofs.Ytjacclbifeoclaa

/-
  package trace: COURSES AS PLAIN DATA.
-/
import Derived.Test.YtmiaibpdeofokaaGreatDoorTrNote
import Derived.Test.YtmiaibpdeofokaaGreatDoorAllB
namespace Go.Proofs.YtmiaibpdeofokaaGreatDoor
set_option linter.unusedVariables false
set_option linter.unusedSimpArgs false
open Go.RowKit Go.Maps

/-- Where an attempt began, where it ended, what it touched, by the first events. -/
def begN (l : List EvD) (x : Int) : Nat → Int
  | 0 => l.length
  | k + 1 => match l[k]? with
    | some e => if e.a = x then begQ (begN l x k) k e else begN l x k
    | none => begN l x k
def endN (l : List EvD) (x : Int) : Nat → Int
  | 0 => l.length
  | k + 1 => match l[k]? with
    | some e => if e.a = x then endQ (endN l x k) k e else endN l x k
    | none => endN l x k
def tchN (l : List EvD) (x : Int) : Nat → Int → Option Int
  | 0 => fun _ => none
  | k + 1 => match l[k]? with
    | some e => if e.a = x then tchQ (tchN l x k) e else tchN l x k
    | none => tchN l x k
theorem begN_succ {l : List EvD} {x : Int} {k : Nat} (h : k < l.length) : begN l x (k + 1) = if l[k].a = x then begQ (begN l x k) k l[k] else begN l x k := by
  rw [begN, List.getElem?_eq_getElem h]
theorem endN_succ {l : List EvD} {x : Int} {k : Nat} (h : k < l.length) : endN l x (k + 1) = if l[k].a = x then endQ (endN l x k) k l[k] else endN l x k := by
  rw [endN, List.getElem?_eq_getElem h]
theorem tchN_succ {l : List EvD} {x : Int} {k : Nat} (h : k < l.length) : tchN l x (k + 1) = if l[k].a = x then tchQ (tchN l x k) l[k] else tchN l x k := by
  rw [tchN, List.getElem?_eq_getElem h]
/-- A course as it lies. -/
def crQ (l : List EvD) (k : Nat) (x : Int) (m : Nat) : Q4 := ⟨.int .i64 x, .int .i64 (begN l x k), .int .i64 (endN l x k), .map (some m)⟩
def z4 : Q4 := ⟨.int .i64 0, .int .i64 0, .int .i64 0, .map none⟩
def rowQ (l : List EvD) (k : Nat) (ats : List Int) (ms : List Nat) : List Q4 := List.zipWith (crQ l k) ats ms
theorem rowQ_at {l : List EvD} {k : Nat} {ats : List Int} {ms : List Nat} {i : Nat} (h1 : i < ats.length) (h2 : i < ms.length) : (rowQ l k ats ms)[i]? = some (crQ l k ats[i] ms[i]) := by
  unfold rowQ
  rw [List.getElem?_zipWith, List.getElem?_eq_getElem h1, List.getElem?_eq_getElem h2]
theorem rowQ_len {l : List EvD} {k : Nat} {ats : List Int} {ms : List Nat} (h : ms.length = ats.length) : (rowQ l k ats ms).length = ats.length := by unfold rowQ; rw [List.length_zipWith]; omega
/-- The row with one more filled. -/
def fillQ (l : List EvD) (ats : List Int) (ms : List Nat) : List Q4 := rowQ l 0 (ats.take ms.length) ms ++ List.replicate (ats.length - ms.length) z4
theorem fill_len {l : List EvD} {ats : List Int} {ms : List Nat} (h : ms.length ≤ ats.length) : (fillQ l ats ms).length = ats.length := by
  unfold fillQ
  rw [List.length_append, rowQ_len (by rw [List.length_take]; omega), List.length_take, List.length_replicate]
  omega
theorem fill_next {l : List EvD} {ats : List Int} {ms : List Nat} (h : ms.length < ats.length) : (fillQ l ats ms)[ms.length]? = some z4 := by
  unfold fillQ
  have e : (rowQ l 0 (ats.take ms.length) ms).length = ms.length := by rw [rowQ_len (by rw [List.length_take]; omega), List.length_take]; omega
  rw [List.getElem?_append_right (by omega), e, List.getElem?_replicate, if_pos (by omega)]
theorem fill_snoc {l : List EvD} {ats : List Int} {ms : List Nat} (h : ms.length < ats.length) (m : Nat) : (fillQ l ats ms).set ms.length (crQ l 0 ats[ms.length] m) = fillQ l ats (ms ++ [m]) := by
  have e : (rowQ l 0 (ats.take ms.length) ms).length = ms.length := by rw [rowQ_len (by rw [List.length_take]; omega), List.length_take]; omega
  have e2 : rowQ l 0 (ats.take (ms ++ [m]).length) (ms ++ [m]) = rowQ l 0 (ats.take ms.length) ms ++ [crQ l 0 ats[ms.length] m] := by
    unfold rowQ
    rw [List.length_append, List.length_singleton, List.take_succ_eq_append_getElem h, List.zipWith_append (by rw [List.length_take]; omega)]
    rfl
  unfold fillQ
  rw [e2, List.set_append_right _ _ (by omega), e, Nat.sub_self, List.length_append, List.length_singleton]
  have e3 : ats.length - ms.length = (ats.length - (ms.length + 1)) + 1 := by omega
  rw [e3, List.replicate_succ, List.set_cons_zero, List.append_assoc]
  rfl
theorem fill_all {l : List EvD} {ats : List Int} {ms : List Nat} (h : ms.length = ats.length) : fillQ l ats ms = rowQ l 0 ats ms := by
  unfold fillQ
  rw [h, List.take_length, Nat.sub_self, List.replicate_zero, List.append_nil]
theorem fill_none {l : List EvD} {ats : List Int} : fillQ l ats [] = List.replicate ats.length z4 := by
  unfold fillQ rowQ
  simp
theorem made_at (Z : Array Value) (n i : Nat) : (madeCells Z n)[i]? = if i < n then some (Z[i % Z.size]!) else none := by
  unfold madeCells
  rw [Array.getElem?_map, Array.getElem?_range]
  split <;> rfl
theorem made_zero (N : Nat) : madeCells (#[.int .i64 0, .int .i64 0, .int .i64 0, .map none] : Array Value) (N * 4) = ((List.replicate N z4).flatMap Q4.cells).toArray := by
  apply Array.ext_getElem?
  intro i
  rw [made_at, List.getElem?_toArray]
  by_cases h1 : i < N * 4
  · rw [if_pos h1]
    have hk : i / 4 < (List.replicate N z4).length := by rw [List.length_replicate]; omega
    have h3 := flat_at (cells := Q4.cells) (n := 4) (fun _ => rfl) (List.replicate N z4) (i / 4) hk (i % 4) (by omega)
    have e : i / 4 * 4 + i % 4 = i := by omega
    rw [e, List.getElem_replicate] at h3
    rw [h3]
    have key : ∀ j, j < 4 → some ((#[.int .i64 0, .int .i64 0, .int .i64 0, .map none] : Array Value)[j]!) = z4.cells[j]? := by
      intro j hj
      match j, hj with
      | 0, _ => rfl
      | 1, _ => rfl
      | 2, _ => rfl
      | 3, _ => rfl
    exact key (i % 4) (by omega)
  · rw [if_neg h1, List.getElem?_eq_none (by rw [flat_len (cells := Q4.cells) (n := 4) (fun _ => rfl), List.length_replicate]; omega)]

/-- Each attempt once. -/
theorem att_nodup (l : List EvD) : ∀ acc : List Int, acc.Nodup → (l.foldl attStep acc).Nodup := by
  induction l with
  | nil => intro acc h; exact h
  | cons e l ih =>
    intro acc h
    refine ih _ ?_
    unfold attStep
    split
    · rename_i hc
      rw [List.nodup_append]
      exact ⟨h, by simp, fun a ha b hb e => hc.2 (by simp at hb; rw [← hb, ← e]; exact ha)⟩
    · exact h
theorem attS_nodup (l : List EvD) : (attS l).Nodup := att_nodup l [] List.nodup_nil
/-- The place of each. -/
def plF (acc : List Int) : Int → Option Value := fun x => if x ∈ acc then some (.int .i64 (acc.idxOf x : Nat)) else none
theorem plF_snoc {acc : List Int} {a : Int} (h : a ∉ acc) : updF (plF acc) a (.int .i64 (acc.length : Nat)) = plF (acc ++ [a]) := by
  funext x
  unfold updF plF
  by_cases e : x = a
  · subst e
    rw [if_pos rfl, if_pos (by simp), List.idxOf_append, if_neg h]
    simp
  · rw [if_neg e]
    by_cases hx : x ∈ acc
    · rw [if_pos hx, if_pos (by simp [hx]), List.idxOf_append, if_pos hx]
    · rw [if_neg hx, if_neg (by simp [hx, e])]

/-- One event more. -/
theorem row_step {l : List EvD} {ats : List Int} {ms : List Nat} {k : Nat} (hk : k < l.length) (hn : ats.Nodup) (hm : ms.length = ats.length) {p : Nat} (hp : p < ats.length) (ha : l[k].a = ats[p]) :
    (rowQ l k ats ms).set p ⟨.int .i64 ats[p], .int .i64 (begQ (begN l ats[p] k) k l[k]), .int .i64 (endQ (endN l ats[p] k) k l[k]), .map (some ms[p])⟩ = rowQ l (k + 1) ats ms := by
  apply List.ext_getElem?
  intro i
  rw [List.getElem?_set]
  have hl := rowQ_len (l := l) (k := k) hm
  by_cases hi : i < ats.length
  · rw [rowQ_at hi (by omega), rowQ_at hi (by omega)]
    by_cases e : p = i
    · subst e
      rw [if_pos rfl, if_pos (by omega)]
      unfold crQ
      rw [begN_succ hk, endN_succ hk, if_pos ha, if_pos ha]
    · rw [if_neg e]
      have hne : l[k].a ≠ ats[i] := fun h => e (by rw [ha] at h; exact (List.getElem_inj hn).1 h)
      unfold crQ
      rw [begN_succ hk, endN_succ hk, if_neg hne, if_neg hne]
  · rw [if_neg (by omega), List.getElem?_eq_none (by omega), List.getElem?_eq_none (by rw [rowQ_len hm]; omega)]
theorem row_stay {l : List EvD} {ats : List Int} {ms : List Nat} {k : Nat} (hk : k < l.length) (hm : ms.length = ats.length) (ha : l[k].a ∉ ats) : rowQ l k ats ms = rowQ l (k + 1) ats ms := by
  apply List.ext_getElem?
  intro i
  have hl := rowQ_len (l := l) (k := k) hm
  by_cases hi : i < ats.length
  · rw [rowQ_at hi (by omega), rowQ_at hi (by omega)]
    have hne : l[k].a ≠ ats[i] := fun h => ha (by rw [h]; exact List.getElem_mem hi)
    unfold crQ
    rw [begN_succ hk, endN_succ hk, if_neg hne, if_neg hne]
  · rw [List.getElem?_eq_none (by omega), List.getElem?_eq_none (by rw [rowQ_len hm]; omega)]

/-- Courses as they lie: the row, and each one's map. -/
structure CrsAt (w : World) (B g : Nat) (l : List EvD) (k : Nat) (ats : List Int) (ms : List Nat) : Prop where
  len : ms.length = ats.length
  row : R4 w g (rowQ l k ats ms)
  nd : ms.Nodup
  ge : B ≤ g
  mg : ∀ m ∈ ms, B ≤ m ∧ m ≠ g
  mp : ∀ i (h1 : i < ats.length) (h2 : i < ms.length), MapF w ms[i] k (liftK (tchN l ats[i] k))
theorem CrsAt.touch {w w' : World} {B g : Nat} {l : List EvD} {k : Nat} {ats : List Int} {ms : List Nat} {S : List Nat} (h : CrsAt w B g l k ats ms) (t : Touch w w' S) (h1 : g ∉ S) (h2 : ∀ m ∈ ms, m ∉ S) : CrsAt w' B g l k ats ms :=
  ⟨h.len, h.row.touch t h1, h.nd, h.ge, h.mg, fun i a b => (h.mp i a b).touch t (h2 _ (List.getElem_mem b))⟩
theorem CrsAt.note {w w' : World} {B g : Nat} {l : List EvD} {k : Nat} {ats : List Int} {ms : List Nat} (h : CrsAt w B g l k ats ms) (hk : k < l.length) (hn : ats.Nodup) {p : Nat} (hp : p < ats.length) (hp2 : p < ms.length) (ha : l[k].a = ats[p])
    (hr : R4 w' g ((rowQ l k ats ms).set p ⟨.int .i64 ats[p], .int .i64 (begQ (begN l ats[p] k) k l[k]), .int .i64 (endQ (endN l ats[p] k) k l[k]), .map (some ms[p])⟩)) (hm : MapF w' ms[p] (k + 1) (liftK (tchQ (tchN l ats[p] k) l[k]))) (t : Touch w w' [g, ms[p]]) : CrsAt w' B g l (k + 1) ats ms := by
  refine ⟨h.len, by rw [← row_step hk hn h.len hp ha]; exact hr, h.nd, h.ge, h.mg, fun i h1 h2 => ?_⟩
  by_cases e : i = p
  · subst e
    rw [tchN_succ hk, if_pos ha]
    exact hm
  · have hne : l[k].a ≠ ats[i] := fun q => e (by rw [ha] at q; exact ((List.getElem_inj hn).1 q).symm)
    rw [tchN_succ hk, if_neg hne]
    refine ((h.mp i h1 h2).touch t ?_).mono (Nat.le_succ _)
    simp only [List.mem_cons, List.not_mem_nil, or_false, not_or]
    exact ⟨(h.mg _ (List.getElem_mem h2)).2, fun q => e ((List.getElem_inj h.nd).1 q)⟩
theorem CrsAt.stay {w : World} {B g : Nat} {l : List EvD} {k : Nat} {ats : List Int} {ms : List Nat} (h : CrsAt w B g l k ats ms) (hk : k < l.length) (ha : l[k].a ∉ ats) : CrsAt w B g l (k + 1) ats ms :=
  ⟨h.len, by rw [← row_stay hk h.len ha]; exact h.row, h.nd, h.ge, h.mg, fun i h1 h2 => by
    have hne : l[k].a ≠ ats[i] := fun q => ha (by rw [q]; exact List.getElem_mem h1)
    rw [tchN_succ hk, if_neg hne]
    exact (h.mp i h1 h2).mono (Nat.le_succ _)⟩

end Go.Proofs.YtmiaibpdeofokaaGreatDoor

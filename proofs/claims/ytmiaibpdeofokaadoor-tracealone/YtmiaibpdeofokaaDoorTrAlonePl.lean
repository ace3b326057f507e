/-
  TraceAlone: attempts one behind the other; PLAIN DATA.
-/
import Derived.Test.YtmiaibpdeofokaaDoorTrBothPl
import Derived.Test.YtmiaibpdeofokaaDoorTrChain
import Derived.Test.YtmiaibpdeofokaaDoorHistBegins
namespace Go.Proofs.YtmiaibpdeofokaaDoor
set_option linter.unusedVariables false
set_option linter.unusedSimpArgs false
open Go.RowKit

/-! ### One is before the next: all are one row -/
theorem chain_all {bef : Nat → Nat → Bool} {N : Nat} (h : ∀ i j, i < j → j < N → bef i j = true) : ∀ i, i ≤ N → (∀ j, j < i → (lens bef i).getD j 0 = (j : Int) + 1) ∧ lgN bef i = i := by
  have hc : ∀ i, i < N → (∀ j, j < i → (lens bef i).getD j 0 = (j : Int) + 1) → ∀ j, j ≤ i → chI bef (lens bef i) i j = (j : Int) + 1 := by
    intro i hi hl j
    induction j with
    | zero => intro _; rfl
    | succ j ih =>
      intro hj
      have h1 := ih (by omega)
      have h2 := hl j (by omega)
      unfold chI
      rw [if_pos (h j i (by omega) hi), h1, h2]
      omega
  intro i
  induction i with
  | zero => intro _; exact ⟨fun j hj => absurd hj (by omega), rfl⟩
  | succ i ih =>
    intro hi
    obtain ⟨h1, h2⟩ := ih (by omega)
    have h3 := hc i (by omega) h1 i (Nat.le_refl _)
    constructor
    · intro j hj
      have e : lens bef (i + 1) = lens bef i ++ [chI bef (lens bef i) i i] := rfl
      rw [e, List.getD_eq_getElem?_getD]
      by_cases hji : j < i
      · rw [List.getElem?_append_left (by rw [lens_len]; exact hji), ← List.getD_eq_getElem?_getD]
        exact h1 j hji
      · obtain rfl : j = i := by omega
        rw [List.getElem?_append_right (by rw [lens_len]; omega), lens_len, Nat.sub_self, h3]
        rfl
    · have e : lgN bef (i + 1) = max (lgN bef i) (chI bef (lens bef i) i i) := rfl
      rw [e, h2, h3]
      omega

/-! ### Where one began, where it ended -/
theorem endN_le {l : List EvD} {x : Int} {j : Nat} (hj : j < l.length) (ha : l[j].a = x) (hk : l[j].k = 8 ∨ l[j].k = 9) : ∀ k, j < k → k ≤ l.length → endN l x k ≤ (j : Int) := by
  intro k
  induction k with
  | zero => intro h; omega
  | succ k ih =>
    intro h1 h2
    rw [endN_succ (by omega)]
    by_cases e : j = k
    · subst e
      rw [if_pos ha]
      unfold endQ
      rw [if_pos hk]
      omega
    · have := ih (by omega) (by omega)
      split
      · unfold endQ
        split <;> omega
      · exact this
theorem begN_ge {l : List EvD} {x : Int} {c : Int} (hc : c ≤ l.length) (h : ∀ j (hj : j < l.length), l[j].a = x → l[j].k = 1 → c ≤ (j : Int)) : ∀ k, k ≤ l.length → c ≤ begN l x k := by
  intro k
  induction k with
  | zero => intro _; exact hc
  | succ k ih =>
    intro h2
    have h1 := ih (by omega)
    rw [begN_succ (by omega)]
    split
    · rename_i ha
      unfold begQ
      split
      · rename_i hk
        have := h k (by omega) ha hk
        omega
      · exact h1
    · exact h1

/-! ### The row of attempts -/
/-- An attempt's events, and an end where it has none. -/
def segS (l : List EvD) (x : Int) : List EvD := cutS x l ++ (if stateS l x = 1 ∨ stateS l x = 2 then [⟨9, x, 0, 0⟩] else [])
def serS (l : List EvD) (xs : List Int) : List EvD := xs.flatMap (segS l)
theorem serS_snoc (l : List EvD) (xs : List Int) (x : Int) : serS l (xs ++ [x]) = serS l xs ++ segS l x := by unfold serS; rw [List.flatMap_append]; simp
theorem seg_a {l : List EvD} {x : Int} {e : EvD} (h : e ∈ segS l x) : e.a = x := by
  unfold segS at h
  rcases List.mem_append.1 h with h | h
  · unfold cutS at h
    simpa using (List.mem_filter.1 h).2
  · split at h
    · simp at h; rw [h]
    · cases h
theorem ser_a {l : List EvD} {xs : List Int} {e : EvD} (h : e ∈ serS l xs) : e.a ∈ xs := by
  unfold serS at h
  obtain ⟨x, hx, he⟩ := List.mem_flatMap.1 h
  rw [seg_a he]
  exact hx
theorem step9 {M : CM} {x : Int} (hx : 0 ≤ x ∧ x < 64) (hs : stC M x = 1 ∨ stC M x = 2) : stepC M ⟨9, x, 0, 0⟩ = some (updF M x (4, fsC M x)) := by
  unfold stepC
  simp only
  rw [if_pos hx]
  have h : behindS (stC M x) (fsC M x) ⟨9, x, 0, 0⟩ = some (4, fsC M x) := by
    unfold behindS
    have hn : namedS ⟨9, x, 0, 0⟩ = true := by unfold namedS; simp; rfl
    rw [hn]
    simp
    omega
  rw [h]
  rfl
theorem seg_run {l : List EvD} {Ml : CM} (hl : runC M0 l = some Ml) {x : Int} (hx : x ∈ attS l) {M : CM} (hM : M x = none) : ∃ M', runC M (segS l x) = some M' ∧ (∀ y, y ≠ x → M' y = M y) := by
  obtain ⟨N', h1, h2⟩ := run_cut x l M0 M Ml (by rw [hM]) hl
  have hst : stC N' x = stateS l x := by
    rw [state_of hl]
    unfold stC
    rw [h2]
  have hlow : 0 ≤ x ∧ x < 64 := by
    obtain ⟨e, he, _, q⟩ := (attSm l x).1 hx
    rw [← q]
    exact low_run l M0 (by rw [hl]; rfl) e he
  have hoth : ∀ y, y ≠ x → N' y = M y := fun y hy => run_none y (cutS x l) M N' h1 (fun e he q => hy (by unfold cutS at he; have := (List.mem_filter.1 he).2; simp at this; omega))
  unfold segS
  rw [runC_app, h1]
  by_cases hc : stateS l x = 1 ∨ stateS l x = 2
  · rw [if_pos hc]
    have h9 := step9 (M := N') hlow (by rw [hst]; exact hc)
    refine ⟨updF N' x (4, fsC N' x), ?_, fun y hy => by rw [updF_other _ _ hy]; exact hoth y hy⟩
    show (stepC N' ⟨9, x, 0, 0⟩).bind (fun M' => runC M' []) = _
    rw [h9]
    rfl
  · rw [if_neg hc]
    exact ⟨N', rfl, hoth⟩
theorem ser_run {l : List EvD} {Ml : CM} (hl : runC M0 l = some Ml) (xs : List Int) : xs.Nodup → (∀ x ∈ xs, x ∈ attS l) → ∀ M : CM, (∀ x ∈ xs, M x = none) → ∃ M', runC M (serS l xs) = some M' := by
  induction xs with
  | nil => intro _ _ M _; exact ⟨M, rfl⟩
  | cons x xs ih =>
    intro hn hm M hM
    obtain ⟨M1, h1, h2⟩ := seg_run hl (hm x (by simp)) (hM x (by simp))
    rw [List.nodup_cons] at hn
    obtain ⟨M2, h3⟩ := ih hn.2 (fun y hy => hm y (List.mem_cons_of_mem _ hy)) M1 (fun y hy => by
      rw [h2 y (fun q => hn.1 (by rw [← q]; exact hy))]
      exact hM y (List.mem_cons_of_mem _ hy))
    refine ⟨M2, ?_⟩
    have e : serS l (x :: xs) = segS l x ++ serS l xs := by unfold serS; rw [List.flatMap_cons]
    rw [e, runC_app, h1]
    exact h3
theorem cut_sum (xs : List Int) (hn : xs.Nodup) (l : List EvD) : (xs.flatMap fun x => cutS x l).length ≤ l.length := by
  induction l with
  | nil =>
    have : ∀ ys : List Int, (ys.flatMap fun x => cutS x ([] : List EvD)) = [] := by
      intro ys
      induction ys with
      | nil => rfl
      | cons y ys ih => rw [List.flatMap_cons, ih]; rfl
    rw [this]
    simp
  | cons e l ih =>
    have key : ∀ ys : List Int, ys.Nodup → (ys.flatMap fun x => cutS x (e :: l)).length ≤ (ys.flatMap fun x => cutS x l).length + (if e.a ∈ ys then 1 else 0) := by
      intro ys
      induction ys with
      | nil => intro _; simp
      | cons y ys ihy =>
        intro hy
        rw [List.nodup_cons] at hy
        have h1 := ihy hy.2
        simp only [List.flatMap_cons, List.length_append]
        by_cases hq : e.a = y
        · have h2 : (cutS y (e :: l)).length = (cutS y l).length + 1 := by unfold cutS; simp [hq]
          have h3 : ¬ e.a ∈ ys := fun z => hy.1 (by rw [← hq]; exact z)
          rw [if_neg h3] at h1
          rw [if_pos (by simp [hq])]
          omega
        · have h2 : (cutS y (e :: l)).length = (cutS y l).length := by unfold cutS; simp [hq]
          have h4 : (e.a ∈ y :: ys) ↔ e.a ∈ ys := by simp [hq]
          by_cases h3 : e.a ∈ ys
          · rw [if_pos h3] at h1
            rw [if_pos (h4.2 h3)]
            omega
          · rw [if_neg h3] at h1
            rw [if_neg (fun z => h3 (h4.1 z))]
            omega
    have := key xs hn
    simp only [List.length_cons]
    split at this <;> omega
theorem ser_len (l : List EvD) (xs : List Int) : (serS l xs).length ≤ (xs.flatMap fun x => cutS x l).length + xs.length := by
  induction xs with
  | nil => simp [serS]
  | cons x xs ih =>
    have e : serS l (x :: xs) = segS l x ++ serS l xs := by unfold serS; rw [List.flatMap_cons]
    rw [e]
    have h1 : (segS l x).length ≤ (cutS x l).length + 1 := by
      unfold segS
      rw [List.length_append]
      split <;> simp
    simp only [List.length_append, List.flatMap_cons, List.length_cons]
    omega
theorem ser_right {l : List EvD} (hr : rightS l = true) (hl : l.length ≤ 60) : rightS (serS l (attS l)) = true := by
  obtain ⟨Ml, hM⟩ := right_run hr
  obtain ⟨M', h⟩ := ser_run hM (attS l) (attS_nodup l) (fun x hx => hx) M0 (fun x _ => rfl)
  have h1 := ser_len l (attS l)
  have h2 := cut_sum (attS l) (attS_nodup l) l
  have h3 := attS_le l
  have h' : runC (fun _ => none) (serS l (attS l)) = some M' := h
  unfold rightS
  rw [h']
  simp
  omega

/-! ### Who is there, and who is before whom -/
theorem cut_began {l : List EvD} (hr : rightS l = true) {x : Int} (hx : x ∈ attS l) : ∃ e t, cutS x l = e :: t ∧ e.k = 1 ∧ e.a = x ∧ ∀ y ∈ t, y.k ≠ 1 := by
  obtain ⟨M, hM⟩ := right_run hr
  obtain ⟨e0, he0, hk0, ha0⟩ := (attSm l x).1 hx
  obtain ⟨N, hN, _⟩ := run_cut x l M0 M0 M rfl hM
  have hne : cutS x l ≠ [] := by
    intro h
    have : e0 ∈ cutS x l := by unfold cutS; rw [List.mem_filter]; exact ⟨he0, by simp [ha0]⟩
    rw [h] at this
    cases this
  match hc : cutS x l, hne with
  | e :: t, _ =>
    rw [hc] at hN
    have ha : ∀ y ∈ e :: t, y.a = x := by
      intro y hy
      rw [← hc] at hy
      unfold cutS at hy
      simpa using (List.mem_filter.1 hy).2
    have hk : e.k = 1 := by
      apply Classical.byContradiction
      intro hn
      obtain ⟨j, hj, hlt, _⟩ := began_ahead hN (i := 0) (by simp) (by simpa using hn)
      omega
    refine ⟨e, t, rfl, hk, ha e (by simp), fun y hy h1 => ?_⟩
    obtain ⟨j, hj, rfl⟩ := List.mem_iff_getElem.1 hy
    have := began_first hN (i := j + 1) (by simp; exact hj) (by simpa using h1) 0 (by simp) (by omega)
    exact this (by rw [ha _ (by simp), ha _ (List.getElem_mem _)])
theorem att_skip (l : List EvD) : ∀ acc : List Int, (∀ e ∈ l, e.k ≠ 1) → l.foldl attStep acc = acc := by
  induction l with
  | nil => intro acc _; rfl
  | cons e l ih =>
    intro acc h
    rw [List.foldl_cons]
    have : attStep acc e = acc := by unfold attStep; rw [if_neg (fun q => h e (by simp) q.1)]
    rw [this]
    exact ih acc (fun y hy => h y (List.mem_cons_of_mem _ hy))
theorem seg_att {l : List EvD} (hr : rightS l = true) {x : Int} (hx : x ∈ attS l) {acc : List Int} (hn : x ∉ acc) : (segS l x).foldl attStep acc = acc ++ [x] := by
  obtain ⟨e, t, hc, hk, ha, ht⟩ := cut_began hr hx
  unfold segS
  rw [hc, List.cons_append, List.foldl_cons]
  have h1 : attStep acc e = acc ++ [x] := by unfold attStep; rw [if_pos ⟨hk, by rw [ha]; exact hn⟩, ha]
  rw [h1]
  apply att_skip
  intro y hy
  rcases List.mem_append.1 hy with hy | hy
  · exact ht y hy
  · split at hy
    · simp at hy; rw [hy]; show (9 : Int) ≠ 1; decide
    · cases hy
theorem ser_att {l : List EvD} (hr : rightS l = true) (xs : List Int) : xs.Nodup → (∀ x ∈ xs, x ∈ attS l) → ∀ acc : List Int, (∀ x ∈ xs, x ∉ acc) → (serS l xs).foldl attStep acc = acc ++ xs := by
  induction xs with
  | nil => intro _ _ acc _; simp [serS]
  | cons x xs ih =>
    intro hn hm acc ha
    rw [List.nodup_cons] at hn
    have e : serS l (x :: xs) = segS l x ++ serS l xs := by unfold serS; rw [List.flatMap_cons]
    rw [e, List.foldl_append, seg_att hr (hm x (by simp)) (ha x (by simp)), ih hn.2 (fun y hy => hm y (List.mem_cons_of_mem _ hy)) _ (fun y hy q => by
      rcases List.mem_append.1 q with q | q
      · exact ha y (List.mem_cons_of_mem _ hy) q
      · simp at q; exact hn.1 (by rw [← q]; exact hy))]
    simp
theorem ser_atts {l : List EvD} (hr : rightS l = true) : attS (serS l (attS l)) = attS l := by
  have := ser_att hr (attS l) (attS_nodup l) (fun x hx => hx) [] (fun x _ => by simp)
  simpa [attS] using this
theorem seg_ends {l : List EvD} (hr : rightS l = true) {x : Int} (hx : x ∈ attS l) : ∃ e ∈ segS l x, e.a = x ∧ (e.k = 8 ∨ e.k = 9) := by
  have h4 := state_range l hx
  by_cases hc : stateS l x = 1 ∨ stateS l x = 2
  · exact ⟨⟨9, x, 0, 0⟩, by unfold segS; rw [if_pos hc]; simp, rfl, .inr rfl⟩
  · have h := (ends_state hr hx).2 (by omega)
    unfold endsB at h
    rw [List.any_eq_true] at h
    obtain ⟨e, he, q⟩ := h
    simp at q
    refine ⟨e, ?_, q.1, q.2⟩
    unfold segS
    rw [List.mem_append]
    refine .inl ?_
    unfold cutS
    rw [List.mem_filter]
    exact ⟨he, by simp [q.1]⟩
theorem ser_bef {l : List EvD} (hr : rightS l = true) {i j : Nat} (hij : i < j) (hj : j < (attS l).length) : befC (serS l (attS l)) i j = true := by
  have hi : i < (attS l).length := by omega
  unfold befC
  rw [ser_atts hr]
  have ei : (attS l).getD i 0 = (attS l)[i] := by rw [List.getD_eq_getElem?_getD, List.getElem?_eq_getElem hi]; rfl
  have ej : (attS l).getD j 0 = (attS l)[j] := by rw [List.getD_eq_getElem?_getD, List.getElem?_eq_getElem hj]; rfl
  rw [ei, ej]
  have hsp : serS l (attS l) = serS l ((attS l).take (i + 1)) ++ serS l ((attS l).drop (i + 1)) := by
    unfold serS
    rw [← List.flatMap_append, List.take_append_drop]
  obtain ⟨e, he, hea, hek⟩ := seg_ends hr (List.getElem_mem hi)
  have hmem : e ∈ serS l ((attS l).take (i + 1)) := by
    rw [List.take_succ_eq_append_getElem hi, serS_snoc]
    exact List.mem_append_right _ he
  obtain ⟨p, hp, hpe⟩ := List.mem_iff_getElem.1 hmem
  have hplt : p < (serS l (attS l)).length := by rw [hsp, List.length_append]; omega
  have hpe2 : (serS l (attS l))[p] = e := by
    have : (serS l (attS l))[p]? = some e := by rw [hsp, List.getElem?_append_left hp, List.getElem?_eq_getElem hp, hpe]
    rw [List.getElem?_eq_getElem hplt] at this
    exact Option.some.inj this
  have h1 := endN_le hplt (x := (attS l)[i]) (by rw [hpe2]; exact hea) (by rw [hpe2]; exact hek) (serS l (attS l)).length hplt (Nat.le_refl _)
  have h2 := begN_ge (l := serS l (attS l)) (x := (attS l)[j]) (c := ((serS l ((attS l).take (i + 1))).length : Int)) (by rw [hsp, List.length_append]; omega) (fun q hq ha _ => by
    apply Classical.byContradiction
    intro hc
    have hql : q < (serS l ((attS l).take (i + 1))).length := by omega
    have hg : (serS l (attS l))[q] = (serS l ((attS l).take (i + 1)))[q] := by
      have : (serS l (attS l))[q]? = (serS l ((attS l).take (i + 1)))[q]? := by rw [hsp, List.getElem?_append_left hql]
      rw [List.getElem?_eq_getElem hq, List.getElem?_eq_getElem hql] at this
      exact Option.some.inj this
    have hm := ser_a (List.getElem_mem hql)
    rw [← hg, ha] at hm
    obtain ⟨k, hk, hke⟩ := List.mem_iff_getElem.1 hm
    rw [List.getElem_take] at hke
    rw [List.length_take] at hk
    have := (List.getElem_inj (attS_nodup l)).1 hke
    omega) (serS l (attS l)).length (Nat.le_refl _)
  simp
  omega
theorem ser_chain {l : List EvD} (hr : rightS l = true) (hl : l.length ≤ 60) : chainS (serS l (attS l)) = (attS l).length := by
  unfold chainS
  rw [ser_right hr hl, if_pos rfl, ser_atts hr]
  exact (chain_all (N := (attS l).length) (fun i j h1 h2 => ser_bef hr h1 h2) _ (Nat.le_refl _)).2

end Go.Proofs.YtmiaibpdeofokaaDoor

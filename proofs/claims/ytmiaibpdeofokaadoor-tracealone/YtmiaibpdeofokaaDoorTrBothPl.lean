/-
  TraceBoth: two histories, one behind the other; PLAIN DATA.
-/
import Derived.Test.YtmiaibpdeofokaaDoorTrMerge
import Derived.Test.YtmiaibpdeofokaaDoorTrCount
import Derived.Test.YtmiaibpdeofokaaDoorAllB
namespace Go.Proofs.YtmiaibpdeofokaaDoor
set_option linter.unusedVariables false
set_option linter.unusedSimpArgs false
open Go.RowKit

theorem abv_mono (l : List EvD) : ∀ n : Int, n ≤ l.foldl (fun n e => max n (e.a + 1)) n := by
  induction l with
  | nil => intro n; exact Int.le_refl _
  | cons e l ih =>
    intro n
    have := ih (max n (e.a + 1))
    simp only [List.foldl_cons]
    omega
theorem abv_gt (l : List EvD) : ∀ n : Int, ∀ e ∈ l, e.a < l.foldl (fun n e => max n (e.a + 1)) n := by
  induction l with
  | nil => intro n e he; cases he
  | cons x l ih =>
    intro n e he
    simp only [List.foldl_cons]
    rcases List.mem_cons.1 he with rfl | he
    · have := abv_mono l (max n (e.a + 1))
      omega
    · exact ih _ e he
theorem abvS_gt {l : List EvD} {e : EvD} (he : e ∈ l) : e.a < abvS l := abv_gt l 0 e he

/-- Two families of courses, the second one's with higher numbers. -/
def shM (n : Int) (Ma Mb : CM) : CM := fun x => if n ≤ x then Mb (x - n) else Ma x
theorem shM_hi {n : Int} {Ma Mb : CM} {x : Int} (h : 0 ≤ x) : shM n Ma Mb (x + n) = Mb x := by
  unfold shM
  rw [if_pos (by omega)]
  congr 1
  omega
theorem shM_lo {n : Int} {Ma Mb : CM} {x : Int} (h : x < n) : shM n Ma Mb x = Ma x := by unfold shM; rw [if_neg (by omega)]
theorem shM_upd {n : Int} {Ma Mb : CM} {a : Int} (h : 0 ≤ a) (r : Int × List Fr) : updF (shM n Ma Mb) (a + n) r = shM n Ma (updF Mb a r) := by
  funext x
  unfold updF shM
  by_cases hx : n ≤ x
  · rw [if_pos hx, if_pos hx]
    by_cases e : x = a + n
    · rw [if_pos e]
      show _ = if x - n = a then some r else Mb (x - n)
      rw [if_pos (by omega)]
    · rw [if_neg e]
      show _ = if x - n = a then some r else Mb (x - n)
      rw [if_neg (by omega)]
  · rw [if_neg hx, if_neg hx, if_neg (by omega)]
theorem step_shift {n : Int} {Ma M M1 : CM} {e : EvD} (hn : 0 ≤ n) (h : stepC M e = some M1) (hb : e.a + n < 64) : stepC (shM n Ma M) (shE n e) = some (shM n Ma M1) := by
  unfold stepC at h
  split at h
  · rename_i ha
    have h1 : stC (shM n Ma M) (e.a + n) = stC M e.a := by unfold stC; rw [shM_hi ha.1]
    have h2 : fsC (shM n Ma M) (e.a + n) = fsC M e.a := by unfold fsC; rw [shM_hi ha.1]
    cases hq : behindS (stC M e.a) (fsC M e.a) e with
    | none => rw [hq] at h; cases h
    | some r =>
      rw [hq] at h
      simp only [Option.map_some, Option.some.injEq] at h
      have h3 : behindS (stC (shM n Ma M) (e.a + n)) (fsC (shM n Ma M) (e.a + n)) (shE n e) = some r := by rw [h1, h2]; exact hq
      show (if 0 ≤ e.a + n ∧ e.a + n < 64 then (behindS (stC (shM n Ma M) (e.a + n)) (fsC (shM n Ma M) (e.a + n)) (shE n e)).map (fun r => updF (shM n Ma M) (e.a + n) r) else none) = _
      rw [if_pos (by omega), h3]
      simp only [Option.map_some, Option.some.injEq]
      rw [shM_upd ha.1, h]
  · cases h
theorem run_shift {n : Int} {Ma : CM} (hn : 0 ≤ n) (b : List EvD) : ∀ M Mb : CM, runC M b = some Mb → (∀ e ∈ b, e.a + n < 64) → runC (shM n Ma M) (b.map (shE n)) = some (shM n Ma Mb) := by
  induction b with
  | nil => intro M Mb h _; simp only [runC, Option.some.injEq] at h; rw [h]; rfl
  | cons e b ih =>
    intro M Mb h hb
    have h1 : (stepC M e).bind (fun M' => runC M' b) = some Mb := h
    cases hs : stepC M e with
    | none => rw [hs] at h1; cases h1
    | some M1 =>
      rw [hs] at h1
      show (stepC (shM n Ma M) (shE n e)).bind (fun M' => runC M' (b.map (shE n))) = _
      rw [step_shift hn hs (hb e (by simp))]
      exact ih M1 Mb h1 (fun x hx => hb x (List.mem_cons_of_mem _ hx))
theorem run_none (x : Int) (l : List EvD) : ∀ M N : CM, runC M l = some N → (∀ e ∈ l, e.a ≠ x) → N x = M x := by
  induction l with
  | nil => intro M N h _; simp only [runC, Option.some.injEq] at h; rw [h]
  | cons e l ih =>
    intro M N h hx
    have h1 : (stepC M e).bind (fun M' => runC M' l) = some N := h
    cases hs : stepC M e with
    | none => rw [hs] at h1; cases h1
    | some M1 =>
      rw [hs] at h1
      rw [ih M1 N h1 (fun y hy => hx y (List.mem_cons_of_mem _ hy))]
      obtain ⟨st, Fs, _, hM, _⟩ := step_parts hs
      rw [hM, updF_other _ _ (fun q => hx e (by simp) q.symm)]
theorem right_run {l : List EvD} (h : rightS l = true) : ∃ M, runC M0 l = some M := by
  unfold rightS at h
  simp at h
  exact Option.isSome_iff_exists.1 h.2
/-- What Merge makes. -/
structure Both (a b m : List EvD) (n : Int) : Prop where
  ra : rightS a = true
  rb : rightS b = true
  n0 : 0 ≤ n
  hn : n = abvS a
  hm : m = a ++ b.map (shE n)
  hl : m.length ≤ 400
  hb : n + abvS b ≤ 64
theorem both_of {a b : List EvD} (h : (mergeT a b).1 = 0) : Both a b (mergeT a b).2 (abvS a) := by
  unfold mergeT at *
  split at h
  · rename_i hr
    split at h
    · cases h
    · rename_i h4
      rw [if_pos hr, if_neg h4]
      exact ⟨hr.1, hr.2, (abvS_range (low_right hr.1)).1, rfl, rfl, by simp only [List.length_append, List.length_map]; omega, by omega⟩
  · cases h
theorem Both.low {a b m : List EvD} {n : Int} (h : Both a b m n) : (∀ e ∈ a, e.a < n) ∧ (∀ e ∈ b, 0 ≤ e.a) ∧ (∀ e ∈ b, e.a + n < 64) :=
  ⟨fun e he => by rw [h.hn]; exact abvS_gt he, fun e he => (low_right h.rb e he).1, fun e he => by have := abvS_gt he; have := h.hb; omega⟩
theorem Both.run {a b m : List EvD} {n : Int} (h : Both a b m n) : ∃ Ma Mb, runC M0 a = some Ma ∧ runC M0 b = some Mb ∧ runC M0 m = some (shM n Ma Mb) := by
  obtain ⟨Ma, ha⟩ := right_run h.ra
  obtain ⟨Mb, hb⟩ := right_run h.rb
  obtain ⟨l1, l2, l3⟩ := h.low
  refine ⟨Ma, Mb, ha, hb, ?_⟩
  rw [h.hm, runC_app, ha]
  have e : Ma = shM n Ma M0 := by
    funext x
    unfold shM
    split
    · rename_i hx
      exact run_none x a M0 Ma ha (fun e he q => by have := l1 e he; omega)
    · rfl
  have := run_shift (Ma := Ma) h.n0 b M0 Mb hb l3
  rw [← e] at this
  exact this
theorem Both.right {a b m : List EvD} {n : Int} (h : Both a b m n) : rightS m = true := by
  obtain ⟨Ma, Mb, _, _, hr⟩ := h.run
  unfold rightS
  have hr' : runC (fun _ => none) m = some (shM n Ma Mb) := hr
  rw [hr']
  simp
  exact h.hl
theorem state_of {l : List EvD} {M : CM} (h : runC M0 l = some M) (x : Int) : stateS l x = stC M x := by
  have := state_run l.length (Nat.le_refl _) (by rw [List.take_length]; exact h) x
  rw [List.take_length] at this
  exact this.symm
theorem Both.state_lo {a b m : List EvD} {n : Int} (h : Both a b m n) {x : Int} (hx : x < n) : stateS m x = stateS a x := by
  obtain ⟨Ma, Mb, ha, _, hr⟩ := h.run
  rw [state_of hr, state_of ha]
  unfold stC
  rw [shM_lo hx]
theorem Both.state_hi {a b m : List EvD} {n : Int} (h : Both a b m n) {x : Int} (hx : 0 ≤ x) : stateS m (x + n) = stateS b x := by
  obtain ⟨Ma, Mb, _, hb, hr⟩ := h.run
  rw [state_of hr, state_of hb]
  unfold stC
  rw [shM_hi hx]
theorem att_shift (A : List Int) (n : Int) (hA : ∀ x ∈ A, x < n) (b : List EvD) : (∀ e ∈ b, 0 ≤ e.a) → ∀ acc : List Int, (b.map (shE n)).foldl attStep (A ++ acc.map (· + n)) = A ++ (b.foldl attStep acc).map (· + n) := by
  induction b with
  | nil => intro _ acc; rfl
  | cons e b ih =>
    intro hb acc
    have h0 := hb e (by simp)
    simp only [List.map_cons, List.foldl_cons]
    have hs : attStep (A ++ acc.map (· + n)) (shE n e) = A ++ (attStep acc e).map (· + n) := by
      unfold attStep shE
      simp only
      have h1 : (e.a + n ∈ A ++ acc.map (· + n)) ↔ e.a ∈ acc := by
        rw [List.mem_append, List.mem_map]
        constructor
        · rintro (h | ⟨y, hy, q⟩)
          · have := hA _ h; omega
          · have : y = e.a := by omega
            rw [← this]; exact hy
        · exact fun h => .inr ⟨_, h, rfl⟩
      by_cases hc : e.k = 1 ∧ ¬ e.a ∈ acc
      · rw [if_pos ⟨hc.1, fun q => hc.2 (h1.1 q)⟩, if_pos hc]
        simp
      · rw [if_neg (fun q => hc ⟨q.1, fun z => q.2 (h1.2 z)⟩), if_neg hc]
    rw [hs]
    exact ih (fun x hx => hb x (List.mem_cons_of_mem _ hx)) _
theorem att_lt {l : List EvD} {x : Int} (h : x ∈ attS l) : x < abvS l := by
  obtain ⟨e, he, _, q⟩ := (attSm l x).1 h
  rw [← q]
  exact abvS_gt he
theorem Both.att {a b m : List EvD} {n : Int} (h : Both a b m n) : attS m = attS a ++ (attS b).map (· + n) := by
  have := att_shift (attS a) n (fun x hx => by rw [h.hn]; exact att_lt hx) b h.low.2.1 []
  rw [h.hm]
  unfold attS at *
  rw [List.foldl_append]
  simpa using this
theorem filter_map_len (l : List Int) (f g : Int → Bool) (s : Int → Int) (h : ∀ x ∈ l, f (s x) = g x) : ((l.map s).filter f).length = (l.filter g).length := by
  induction l with
  | nil => rfl
  | cons x l ih =>
    have h1 := ih (fun y hy => h y (List.mem_cons_of_mem _ hy))
    have h2 := h x (by simp)
    simp only [List.map_cons, List.filter_cons, h2]
    split <;> simp_all
theorem filter_len_congr (l : List Int) (f g : Int → Bool) (h : ∀ x ∈ l, f x = g x) : (l.filter f).length = (l.filter g).length := by
  rw [List.filter_congr h]
theorem Both.stN {a b m : List EvD} {n : Int} (h : Both a b m n) (s : Int) : stN m s = stN a s + stN b s := by
  unfold Go.Proofs.YtmiaibpdeofokaaDoor.stN
  rw [h.att, List.filter_append, List.length_append]
  congr 1
  · exact filter_len_congr _ _ _ (fun x hx => by rw [h.state_lo (by rw [h.hn]; exact att_lt hx)])
  · exact filter_map_len _ _ _ _ (fun x hx => by
      have h0 : 0 ≤ x := by obtain ⟨e, he, _, q⟩ := (attSm b x).1 hx; rw [← q]; exact h.low.2.1 e he
      rw [h.state_hi h0])
theorem Both.kdN {a b m : List EvD} {n : Int} (h : Both a b m n) (k : Int) : kdN k m = kdN k a + kdN k b := by
  unfold Go.Proofs.YtmiaibpdeofokaaDoor.kdN
  rw [h.hm, List.filter_append, List.length_append, List.filter_map, List.length_map]
  rfl
theorem Both.attN {a b m : List EvD} {n : Int} (h : Both a b m n) : (attS m).length = (attS a).length + (attS b).length := by rw [h.att, List.length_append, List.length_map]

/-- Whether one has ended. -/
def endsB (p : Int) (l : List EvD) : Bool := l.any fun e => decide (e.a = p) && (decide (e.k = 8) || decide (e.k = 9))
theorem bef_app (p q : Int) (l1 l2 : List EvD) : (∀ e ∈ l1, e.a ≠ q) → ∀ en, befS p q en (l1 ++ l2) = befS p q (en || endsB p l1) l2 := by
  induction l1 with
  | nil => intro _ en; simp [endsB]
  | cons e l ih =>
    intro h en
    have h1 : ¬ (e.k = 1 ∧ e.a = q) := fun z => h e (by simp) z.2
    simp only [List.cons_append, befS]
    rw [if_neg h1, ih (fun x hx => h x (List.mem_cons_of_mem _ hx))]
    simp [endsB, Bool.or_assoc]
theorem bef_far (p q : Int) (l : List EvD) : (∀ e ∈ l, e.a ≠ p) → (∃ e ∈ l, e.k = 1 ∧ e.a = q) → ∀ en, befS p q en l = en := by
  induction l with
  | nil => intro _ h; obtain ⟨e, he, _⟩ := h; cases he
  | cons e l ih =>
    intro h hq en
    unfold befS
    by_cases hc : e.k = 1 ∧ e.a = q
    · rw [if_pos hc]
    · rw [if_neg hc]
      have h1 : decide (e.a = p) = false := decide_eq_false (h e (by simp))
      rw [h1, Bool.false_and, Bool.or_false]
      refine ih (fun x hx => h x (List.mem_cons_of_mem _ hx)) ?_ en
      obtain ⟨x, hx, k⟩ := hq
      rcases List.mem_cons.1 hx with rfl | hx
      · exact absurd k hc
      · exact ⟨x, hx, k⟩
theorem told_ends (p : Int) (l : List EvD) : ∀ s, (l.foldl (toldStep p) s = 3 ∨ l.foldl (toldStep p) s = 4) → (s = 3 ∨ s = 4) ∨ endsB p l = true := by
  induction l with
  | nil => intro s h; exact .inl h
  | cons e l ih =>
    intro s h
    rcases ih _ h with h1 | h1
    · unfold toldStep reachS at h1
      by_cases ha : e.a = p
      · rw [if_pos ha] at h1
        by_cases h8 : e.k = 8 ∨ e.k = 9
        · refine .inr ?_
          unfold endsB
          rw [List.any_cons]
          rcases h8 with h8 | h8 <;> simp [ha, h8]
        · have n8 : e.k ≠ 8 := fun z => h8 (.inl z)
          have n9 : e.k ≠ 9 := fun z => h8 (.inr z)
          rw [if_neg n8, if_neg n9] at h1
          split at h1
          · omega
          · exact .inl h1
      · rw [if_neg ha] at h1
        exact .inl h1
    · refine .inr ?_
      unfold endsB at *
      rw [List.any_cons, h1, Bool.or_true]
theorem ends_state {l : List EvD} (hr : rightS l = true) {p : Int} (hp : p ∈ attS l) : endsB p l = true ↔ (stateS l p = 3 ∨ stateS l p = 4) := by
  obtain ⟨M, hM⟩ := right_run hr
  constructor
  · intro h
    unfold endsB at h
    rw [List.any_eq_true] at h
    obtain ⟨e, he, hc⟩ := h
    simp at hc
    obtain ⟨j, hj, rfl⟩ := List.mem_iff_getElem.1 he
    have hs := state_snoc hj p
    obtain ⟨i, hi, hij, hi1, hi2⟩ := began_ahead hM hj (by omega)
    have hm : p ∈ attS (l.take j) := (attSm _ _).2 ⟨l[i], by rw [List.mem_take_iff_getElem]; exact ⟨i, by omega, rfl⟩, hi1, by rw [hi2]; exact hc.1⟩
    rw [if_pos (.inl hm)] at hs
    have h34 : stateS (l.take (j + 1)) p = 3 ∨ stateS (l.take (j + 1)) p = 4 := by
      rw [hs]
      unfold toldStep reachS
      rw [if_pos hc.1]
      rcases hc.2 with h8 | h9
      · rw [if_neg (by omega), if_pos h8]; exact .inl (by omega)
      · rw [if_neg (by omega), if_neg (by omega), if_pos h9]; exact .inr (by omega)
    have := state_stays hM (k := j + 1) (by omega) h34
    rw [this]
    exact h34
  · intro h
    have hs : stateS l p = max (toldS l p) 1 := by unfold stateS; rw [if_pos hp]
    have h2 : toldS l p = 3 ∨ toldS l p = 4 := by omega
    rcases told_ends p l 0 h2 with h3 | h3
    · omega
    · exact h3
theorem Both.bef {a b m : List EvD} {n : Int} (h : Both a b m n) {p q : Int} (hp : p ∈ attS a) (hq : q ∈ (attS b).map (· + n)) : befS p q false m = (decide (stateS a p = 3) || decide (stateS a p = 4)) := by
  obtain ⟨y, hy, rfl⟩ := List.mem_map.1 hq
  obtain ⟨l1, l2, l3⟩ := h.low
  have hpn : p < n := by rw [h.hn]; exact att_lt hp
  obtain ⟨e, he, hk, hea⟩ := (attSm b y).1 hy
  have hy0 : 0 ≤ y := by rw [← hea]; exact l2 e he
  rw [h.hm, bef_app p (y + n) a _ (fun e he q => by have := l1 e he; omega), Bool.false_or,
    bef_far p (y + n) _ (fun e he q => by obtain ⟨x, hx, rfl⟩ := List.mem_map.1 he; have := l2 x hx; have : (shE n x).a = x.a + n := rfl; omega) ⟨shE n e, List.mem_map_of_mem he, hk, by show e.a + n = y + n; omega⟩]
  have hi := ends_state h.ra hp
  by_cases hs : stateS a p = 3 ∨ stateS a p = 4
  · rw [hi.2 hs]
    rcases hs with hs | hs <;> simp [hs]
  · have h1 : endsB p a = false := by
      cases hq : endsB p a with
      | false => rfl
      | true => exact absurd (hi.1 hq) hs
    rw [h1, decide_eq_false (fun z => hs (.inl z)), decide_eq_false (fun z => hs (.inr z))]
    rfl
theorem Both.wf {a b m : List EvD} {n : Int} (h : Both a b m n) (wa : ∀ e ∈ a, e.Wf) (wb : ∀ e ∈ b, e.Wf) : ∀ e ∈ m, e.Wf := by
  intro e he
  rw [h.hm] at he
  rcases List.mem_append.1 he with he | he
  · exact wa e he
  · obtain ⟨x, hx, rfl⟩ := List.mem_map.1 he
    have := wb x hx
    have h1 := h.low.2.1 x hx
    have h2 := h.low.2.2 x hx
    have h3 := h.n0
    exact ⟨this.k, ⟨by show _ ≤ x.a + n; omega, by show x.a + n ≤ _; omega⟩, this.t, this.v⟩

end Go.Proofs.YtmiaibpdeofokaaDoor

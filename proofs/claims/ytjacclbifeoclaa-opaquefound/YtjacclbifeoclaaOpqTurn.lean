/-
  THE ORDERS OF SOME, THE LEAST FIRST: plain data. No walk.
-/
import Derived.Test.YtjacclbifeoclaaOpqRunR
namespace Go.Proofs.Ytjacclbifeoclaa
set_option linter.unusedVariables false
set_option linter.unusedSimpArgs false

def fac : Nat → Nat
  | 0 => 1
  | n + 1 => (n + 1) * fac n
theorem fac_pos : ∀ n, 0 < fac n
  | 0 => by decide
  | n + 1 => Nat.mul_pos (by omega) (fac_pos n)
theorem fac_le : ∀ n, n ≤ 6 → fac n ≤ 720
  | 0, _ => by decide
  | 1, _ => by decide
  | 2, _ => by decide
  | 3, _ => by decide
  | 4, _ => by decide
  | 5, _ => by decide
  | 6, _ => by decide
  | n + 7, h => by omega
def turnF : Nat → List Int → Nat → List Int
  | 0, _, _ => []
  | n + 1, xs, k => xs.getD (k / fac n) 0 :: turnF n (xs.eraseIdx (k / fac n)) (k % fac n)
theorem erase_perm : ∀ (xs : List Int) (i : Nat) (h : i < xs.length), (xs[i] :: xs.eraseIdx i).Perm xs
  | [], i, h => by simp at h
  | x :: xs, 0, _ => List.Perm.refl _
  | x :: xs, i + 1, h => by
    have h' : i < xs.length := by simpa using h
    simp only [List.getElem_cons_succ, List.eraseIdx_cons_succ]
    exact (List.Perm.swap x xs[i] _).trans ((erase_perm xs i h').cons x)
theorem turn_perm : ∀ (n : Nat) (xs : List Int) (k : Nat), xs.length = n → k < fac n → (turnF n xs k).Perm xs
  | 0, xs, k, h, _ => by
    have : xs = [] := List.length_eq_zero_iff.1 h
    subst this
    exact List.Perm.refl _
  | n + 1, xs, k, h, hk => by
    have hi : k / fac n < n + 1 := by
      rw [Nat.div_lt_iff_lt_mul (fac_pos n)]
      exact hk
    have hj : k % fac n < fac n := Nat.mod_lt _ (fac_pos n)
    have hix : k / fac n < xs.length := by omega
    have e : xs.getD (k / fac n) 0 = xs[k / fac n] := by simp [List.getD_eq_getElem?_getD, hix]
    unfold turnF
    rw [e]
    refine List.Perm.trans (List.Perm.cons _ (turn_perm n (xs.eraseIdx (k / fac n)) (k % fac n) (by rw [List.length_eraseIdx_of_lt hix]; omega) hj)) ?_
    exact erase_perm xs _ hix

theorem fs_congr {α β : Type} {f g : α → Option β} : ∀ {l : List α}, (∀ x ∈ l, f x = g x) → l.findSome? f = l.findSome? g
  | [], _ => rfl
  | a :: l, h => by
    rw [List.findSome?_cons, List.findSome?_cons, h a (by simp), fs_congr (fun x hx => h x (by simp [hx]))]
theorem fs_none {α β : Type} {f : α → Option β} : ∀ {l : List α}, (∀ x ∈ l, f x = none) → l.findSome? f = none
  | [], _ => rfl
  | a :: l, h => by
    rw [List.findSome?_cons, h a (by simp)]
    exact fs_none (fun x hx => h x (by simp [hx]))
theorem fs_map {α β γ : Type} (f : α → Option β) (g : β → γ) : ∀ l : List α, (l.findSome? f).map g = l.findSome? fun x => (f x).map g
  | [] => rfl
  | a :: l => by
    rw [List.findSome?_cons, List.findSome?_cons]
    cases f a with
    | none => exact fs_map f g l
    | some b => rfl
theorem fs_app {α β : Type} (f : α → Option β) : ∀ l m : List α, (l ++ m).findSome? f = (l.findSome? f).or (m.findSome? f)
  | [], m => by simp
  | a :: l, m => by
    rw [List.cons_append, List.findSome?_cons, List.findSome?_cons]
    cases f a with
    | none => exact fs_app f l m
    | some b => rfl
theorem fs_mapl {α β γ : Type} (f : β → Option γ) (g : α → β) : ∀ l : List α, (l.map g).findSome? f = l.findSome? fun x => f (g x)
  | [] => rfl
  | a :: l => by
    rw [List.map_cons, List.findSome?_cons, List.findSome?_cons, fs_mapl f g l]
theorem fs_filter {α β : Type} (f : α → Option β) (p : α → Bool) (h : ∀ x, p x = false → f x = none) : ∀ l : List α, (l.filter p).findSome? f = l.findSome? f
  | [] => rfl
  | a :: l => by
    cases hp : p a with
    | true => rw [List.filter_cons_of_pos hp, List.findSome?_cons, List.findSome?_cons, fs_filter f p h l]
    | false => rw [List.filter_cons_of_neg (by rw [hp]; simp), List.findSome?_cons, h a hp, fs_filter f p h l]
theorem fs_mul {β : Type} (g : Nat → Option β) (b : Nat) : ∀ a, (List.range (a * b)).findSome? g = (List.range a).findSome? fun i => (List.range b).findSome? fun j => g (i * b + j)
  | 0 => by simp
  | a + 1 => by
    rw [Nat.succ_mul, List.range_add, List.range_succ, fs_app, fs_app, fs_mul g b a, fs_mapl]
    simp only [List.findSome?_cons, List.findSome?_nil]
    congr 1
    cases (List.range b).findSome? fun x => g (a * b + x) <;> rfl

/-- The search over what is left, in its order. -/
def srch (l : List EvD) (com : List Int) : Nat → List Int → List Int → List Int → Option (List Int)
  | 0, _, _, _ => some []
  | n + 1, xs, lf, hp => (List.range (n + 1)).findSome? fun i => if (putO l com lf hp (xs.getD i 0)).1 = 0 then (srch l com n (xs.eraseIdx i) (putO l com lf hp (xs.getD i 0)).2.1 (putO l com lf hp (xs.getD i 0)).2.2).map (xs.getD i 0 :: ·) else none
def pickW (l : List EvD) (com lf hp o : List Int) : Option (List Int) := if (walkO l com o lf hp 0).2.1 = 0 then some o else none
theorem pick_cons (l : List EvD) (com lf hp : List Int) (a : Int) (o : List Int) : pickW l com lf hp (a :: o) = if (putO l com lf hp a).1 = 0 then (pickW l com (putO l com lf hp a).2.1 (putO l com lf hp a).2.2 o).map (a :: ·) else none := by
  unfold pickW
  conv => lhs; unfold walkO
  by_cases h : (putO l com lf hp a).1 = 0
  · rw [if_pos h, if_pos h, walkO_k l com o _ _ (0 + 1) 0]
    by_cases h2 : (walkO l com o (putO l com lf hp a).2.1 (putO l com lf hp a).2.2 0).2.1 = 0
    · rw [if_pos h2, if_pos h2]; rfl
    · rw [if_neg h2, if_neg h2]; rfl
  · rw [if_neg h, if_neg h, if_neg h]
theorem turn_srch (l : List EvD) (com : List Int) : ∀ (n : Nat) (xs lf hp : List Int), (List.range (fac n)).findSome? (fun k => pickW l com lf hp (turnF n xs k)) = srch l com n xs lf hp
  | 0, xs, lf, hp => by
    simp [fac, turnF, srch, pickW, walkO, List.range_succ]
  | n + 1, xs, lf, hp => by
    show (List.range ((n + 1) * fac n)).findSome? _ = _
    rw [fs_mul]
    unfold srch
    refine fs_congr fun i hi => ?_
    have key : ∀ j ∈ List.range (fac n), pickW l com lf hp (turnF (n + 1) xs (i * fac n + j)) = if (putO l com lf hp (xs.getD i 0)).1 = 0 then (pickW l com (putO l com lf hp (xs.getD i 0)).2.1 (putO l com lf hp (xs.getD i 0)).2.2 (turnF n (xs.eraseIdx i) j)).map (xs.getD i 0 :: ·) else none := fun j hj => by
      have hj' : j < fac n := by simpa using hj
      have e1 : (i * fac n + j) / fac n = i := by
        rw [Nat.mul_comm, Nat.mul_add_div (fac_pos n), Nat.div_eq_of_lt hj', Nat.add_zero]
      have e2 : (i * fac n + j) % fac n = j := by
        rw [Nat.mul_comm, Nat.mul_add_mod, Nat.mod_eq_of_lt hj']
      conv => lhs; unfold turnF
      rw [e1, e2, pick_cons]
    rw [fs_congr key]
    by_cases h : (putO l com lf hp (xs.getD i 0)).1 = 0
    · simp only [if_pos h]
      rw [← turn_srch l com n, fs_map]
    · simp only [if_neg h]
      exact fs_none fun _ _ => rfl

theorem erase_filter : ∀ (ps : List Nat) (j : Nat) (hj : j < ps.length), ps.Nodup → ps.filter (fun x => !decide (x = ps[j])) = ps.eraseIdx j
  | [], j, hj, _ => by simp at hj
  | p :: ps, 0, _, hn => by
    rw [List.nodup_cons] at hn
    simp only [List.getElem_cons_zero, List.eraseIdx_cons_zero]
    rw [List.filter_cons_of_neg (by simp)]
    exact List.filter_eq_self.2 fun x hx => by simp; exact fun e => hn.1 (e ▸ hx)
  | p :: ps, j + 1, hj, hn => by
    rw [List.nodup_cons] at hn
    have hj' : j < ps.length := by simpa using hj
    simp only [List.getElem_cons_succ, List.eraseIdx_cons_succ]
    have hne : ¬ p = ps[j] := fun e => hn.1 (by rw [e]; exact List.getElem_mem hj')
    rw [List.filter_cons_of_pos (by simp [hne]), erase_filter ps j hj' hn.2]
theorem erase_map (f : Nat → Int) : ∀ (ps : List Nat) (j : Nat), (ps.map f).eraseIdx j = (ps.eraseIdx j).map f
  | [], j => by simp
  | p :: ps, 0 => by simp
  | p :: ps, j + 1 => by simp [erase_map f ps j]
theorem range_getN (ps : List Nat) : (List.range ps.length).map (fun j => ps.getD j 0) = ps := by
  apply List.ext_getElem?
  intro i
  by_cases h : i < ps.length <;> simp [h]
def leftP (n : Nat) (pl : List Nat) : List Nat := (List.range n).filter fun i => !decide (i ∈ pl)
theorem dfs_srch (l : List EvD) (com atts : List Int) : ∀ (d : Nat) (pl : List Nat) (lf hp : List Int), (leftP atts.length pl).length = d →
    (dfs l com atts d pl lf hp (List.range atts.length)).map (fun p => p.map fun i => atts.getD i 0) = (srch l com d ((leftP atts.length pl).map fun i => atts.getD i 0) lf hp).map ((pl.map fun i => atts.getD i 0) ++ ·)
  | 0, pl, lf, hp, h => by
    simp [dfs, srch]
  | d + 1, pl, lf, hp, h => by
    unfold dfs srch
    rw [fs_map, fs_map]
    have hf : ∀ i, (!decide (i ∈ pl)) = false → (fun i => ((childO l com atts pl lf hp i).bind fun s => dfs l com atts d (pl ++ [i]) s.1 s.2 (List.range atts.length)).map fun p => p.map fun i => atts.getD i 0) i = none := fun i hi => by
      have : i ∈ pl := by simpa using hi
      simp [childO, this]
    rw [← fs_filter _ (fun i => !decide (i ∈ pl)) hf]
    show (leftP atts.length pl).findSome? _ = _
    conv => lhs; rw [← range_getN (leftP atts.length pl)]
    rw [fs_mapl, h]
    refine fs_congr fun j hj => ?_
    have hj' : j < (leftP atts.length pl).length := by rw [h]; simpa using hj
    have eg : (leftP atts.length pl).getD j 0 = (leftP atts.length pl)[j] := by simp [List.getD_eq_getElem?_getD, hj']
    have ex : ((leftP atts.length pl).map fun i => atts.getD i 0).getD j 0 = atts.getD ((leftP atts.length pl).getD j 0) 0 := by
      rw [eg]; simp [List.getD_eq_getElem?_getD, hj']
    have hmem := List.getElem_mem hj'
    have hnp : (leftP atts.length pl)[j] ∉ pl := by
      have := (List.mem_filter.1 hmem).2
      simpa using this
    have hnd : (leftP atts.length pl).Nodup := List.Nodup.sublist List.filter_sublist List.nodup_range
    have hlp : leftP atts.length (pl ++ [(leftP atts.length pl)[j]]) = (leftP atts.length pl).eraseIdx j := by
      rw [← erase_filter _ j hj' hnd]
      conv => rhs; unfold leftP
      rw [List.filter_filter]
      unfold leftP
      refine List.filter_congr fun x _ => ?_
      simp only [List.mem_append, List.mem_singleton, Bool.decide_or, Bool.not_or]
      exact Bool.and_comm _ _
    have hlen : (leftP atts.length (pl ++ [(leftP atts.length pl)[j]])).length = d := by
      rw [hlp, List.length_eraseIdx_of_lt hj', h]; rfl
    rw [ex, eg]
    generalize hi : (leftP atts.length pl)[j] = i at *
    by_cases hz : (putO l com lf hp (atts.getD i 0)).1 = 0
    · rw [child_is hnp hz, if_pos hz, Option.bind_some, dfs_srch l com atts d (pl ++ [i]) _ _ hlen, hlp, erase_map]
      rw [Option.map_map]
      congr 1
      funext o
      simp
    · rw [if_neg hz]
      have : childO l com atts pl lf hp i = none := by unfold childO; rw [if_neg hnp, if_neg hz]
      rw [this]
      rfl

theorem right_runC {l : List EvD} (h : rightS l = true) : ∃ N, runC M0 l = some N := by
  unfold rightS at h
  simp only [Bool.and_eq_true] at h
  cases hr : runC M0 l with
  | none =>
    have hr' : runC (fun _ => none) l = none := hr
    rw [hr'] at h; simp at h
  | some N => exact ⟨N, rfl⟩

/-- Found, as the document tells it. -/
theorem found_turned {l : List EvD} {hp com : List Int} (hl : l.length ≤ 1000) (hb : begE l hp com = 0) (h6 : ¬ 6 < (attS l).length) :
    foundP l hp com = match (List.range (fac (attS l).length)).findSome? (fun k => if (runR l com (turnF (attS l).length (attS l) k) hp 0).2.1 = 0 then some (turnF (attS l).length (attS l) k) else none) with | none => (5, []) | some o => (0, o) := by
  have hlp : leftP (attS l).length [] = List.range (attS l).length := by unfold leftP; exact List.filter_eq_self.2 (by simp)
  have h1 := dfs_srch l (com ++ inS l 3) (attS l) (attS l).length [] (attS l) hp (by rw [hlp]; simp)
  rw [hlp, range_get, ← turn_srch] at h1
  have h2 : (List.range (fac (attS l).length)).findSome? (fun k => pickW l (com ++ inS l 3) (attS l) hp (turnF (attS l).length (attS l) k)) = (List.range (fac (attS l).length)).findSome? (fun k => if (runR l com (turnF (attS l).length (attS l) k) hp 0).2.1 = 0 then some (turnF (attS l).length (attS l) k) else none) := by
    refine fs_congr fun k hk => ?_
    have hp' := turn_perm (attS l).length (attS l) k rfl (by simpa using hk)
    obtain ⟨N, hN⟩ := right_runC (begO_of hl hb).right
    unfold pickW
    rw [walk_run hN com _ (attS l) hp 0 (hp'.nodup_iff.2 (attS_nodup l)) (fun x => hp'.mem_iff.symm)]
  rw [← h2]
  simp only [List.map_nil, List.nil_append] at h1
  have h3 : (foundPl l hp com).map (fun p => p.map fun i => (attS l).getD i 0) = (List.range (fac (attS l).length)).findSome? (fun k => pickW l (com ++ inS l 3) (attS l) hp (turnF (attS l).length (attS l) k)) := by
    unfold foundPl
    rw [h1]
    simp
  rw [← h3]
  cases hf : foundPl l hp com with
  | none => rw [foundP_three l hp com hb h6 hf]; rfl
  | some pl => rw [foundP_four l hp com hb h6 hf]; rfl

end Go.Proofs.Ytjacclbifeoclaa

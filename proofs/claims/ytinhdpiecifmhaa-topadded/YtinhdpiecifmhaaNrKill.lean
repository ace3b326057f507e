/-
  package norec: slices.Clone AT ITS TWO TYPES; Heap, Events, Clock, Holds, Attempt, Why BY THEIR CONTRACTS.
-/
import Derived.Test.YtinhdpiecifmhaaNrBegin
import Derived.Test.YtinhdpiecifmhaaRdLists
namespace Go.Proofs.Ytinhdpiecifmhaa.Nr
set_option linter.unusedVariables false
set_option linter.unusedSimpArgs false
open Go.RowKit Go.Maps

/-- A row of its own. -/
def RowPost (w : World) (T : TypeId) (size n : Nat) (xs : List Value) (x : Ending) (w' : World) : Prop := ∃ v, x = .returned v ∧ w'.ownsRow w.heap.size T size v n xs ∧ Touch w w' []

theorem Try.info_val : (Try.prog.info? 26).map (fun i => (i.zero, i.size, i.bytes)) = some (some (.int .u64 0), 1, 8) := by kernel_rfl
theorem vclone_eqNil (w : World) (a : Option Addr) (n c : Nat) : (binOp .eql 27 (.slice a n c) (.slice none 0 0)).run Try.prog w = .ok (.bool a.isNone) w := Lib.run_eql_slice_nil w _ _ a n c 0 0 Try.underlying27
theorem eclone_eqNil (w : World) (a : Option Addr) (n c : Nat) : (binOp .eql 56 (.slice a n c) (.slice none 0 0)).run Try.prog w = .ok (.bool a.isNone) w := Lib.run_eql_slice_nil w _ _ a n c 0 0 Try.underlying56

theorem vclone_nil (w : World) : Calls Try.prog 15 #[.slice none 0 0] w (RowPost w 26 1 0 []) := by
  have hq := vclone_eqNil
  go_enter Try.func15, Try.ntmps15
  go_wp2
  go_ret
  exact ⟨_, rfl, World.ownsRow_nil _ _ _ _, Touch.refl _ _⟩

set_option maxRecDepth 100000 in
theorem vclone_some {B : Nat} {w : World} {g cap n : Nat} {xs : List Value} (hown : w.ownsRow B 26 1 (.slice (some ⟨g, 0, none⟩) n cap) n xs) (h1 : Hid (∀ u ∈ xs, u.oneCell' = true)) (hn : n ≤ 100000) :
    Calls Try.prog 15 #[.slice (some ⟨g, 0, none⟩) n cap] w (RowPost w 26 1 n xs) := by
  unfold RowPost
  have hq := vclone_eqNil
  obtain ⟨i0, hi0, hz0, hz1, hz2⟩ := info_parts Try.info_val
  have e1 := empty_row w 26 1
  have hl1 : 0 + n ≤ maxLen := by unfold maxLen; omega
  have hl2 : (0 + n) * 8 ≤ 140737488355328 := by omega
  go_enter Try.func15, Try.ntmps15
  go_wp2_with (at_builtin; refine wpList_append_src rfl _ _ 27 rfl w.heap.size 26 i0 _ 1 8 Try.underlying27 hi0 hz0 hz1 hz2 rfl (by omega) w.heap.size 0 0 [] rfl e1 (.slice (some ⟨g, 0, none⟩) n cap) B n xs rfl (hown.alloc _) h1.out hl1 hl2 (by simp) ?_)
  intro g' cap' w1 hown1 hgrow1 hat1 hlt1
  try simp only [Nat.zero_add, List.nil_append] at hown1
  have t1 : Touch w w1 [] := ((Touch.refl w []).alloc _).grown hgrow1 (fun q hq => .inr (by simp at hq; omega))
  have HO : Hid (w1.ownsRow w.heap.size 26 1 _ n xs) := hown1
  clear e1 hgrow1 hown1
  go_wp2
  go_ret
  exact ⟨_, rfl, by simpa using HO.out, t1⟩

theorem vclone_any {B : Nat} {w : World} {v : Value} {n : Nat} {xs : List Value} (h : w.ownsRow B 26 1 v n xs) (h1 : ∀ u ∈ xs, u.oneCell' = true) (hn : n ≤ 100000) : Calls Try.prog 15 #[v] w (RowPost w 26 1 n xs) := by
  rcases h.2 with ⟨e, h0⟩ | ⟨g, cap, cur, e, _⟩
  · subst h0
    have hx : xs = [] := List.eq_nil_of_length_eq_zero (by have := h.1; simpa using this)
    rw [hx, e]; exact vclone_nil w
  · have ho := h
    rw [e] at ho ⊢
    exact vclone_some ho h1 hn

theorem ev_one (l : List EvD) : ∀ u ∈ l.flatMap EvD.cells, u.oneCell' = true := by
  intro u hu
  obtain ⟨e, _, he⟩ := List.mem_flatMap.1 hu
  simp only [EvD.cells, List.mem_cons, List.not_mem_nil, or_false] at he
  rcases he with rfl | rfl | rfl | rfl <;> rfl
theorem hp_one (l : List Int) : ∀ u ∈ l.map (Value.int .u64), u.oneCell' = true := by
  intro u hu
  obtain ⟨e, _, rfl⟩ := List.mem_map.1 hu
  rfl

theorem heap_any {N : Nat} {X : ELoc} {E : Eng} {w : World} (h : EObj w X E) (hE : EWf N E) : Calls Try.prog 12 #[ptr X.e] w (RowPost w 26 1 E.hp.length (E.hp.map (Value.int .u64))) := by
  have CL := HidC.mk (vclone_any h.hp (hp_one _) (by have := hE.hp12; omega))
  obtain ⟨al, cl, hv⟩ := own_slice h.hp
  have e2 := h.cells.2.2.1
  rw [hv] at e2 CL
  clear h hE hv
  unfold RowPost at CL ⊢
  generalize E.hp.map (Value.int .u64) = xs at *
  generalize E.hp.length = n at *
  go_enter Try.func12, Try.ntmps12
  go_wp2_with fail
  refine CL.out.mono ?_
  rintro x w1 ⟨v, rfl, ho, t⟩
  clear CL
  have HO : Hid _ := And.intro ho t
  clear ho t
  go_wp2
  go_ret
  exact ⟨v, rfl, HO.out.1, HO.out.2⟩

theorem clock_any {X : ELoc} {E : Eng} {w : World} (h : EObj w X E) : Calls Try.prog 13 #[ptr X.e] w fun x w' => x = .returned (.int .u64 E.lk.c) ∧ w = w' := by
  have CL := HidC.mk (Sq.count_any X.lk E.lk.c E.lk.o w h.lk)
  have e3 := h.cells.2.2.2.1
  clear h
  go_enter Try.func13, Try.ntmps13
  go_wp2_with fail
  refine CL.out.mono ?_
  rintro x w1 ⟨rfl, rfl⟩
  clear CL
  go_wp2
  go_ret
  exact ⟨rfl, rfl⟩

def holdsE (E : Eng) (th : Int) : Bool := (Sq.ownS E.lk).2 && decide ((Sq.ownS E.lk).1 = th)
def attE (E : Eng) (th : Int) : Int × Bool := if ¬ (0 ≤ th ∧ th < 4) then (0, false) else match E.th th.toNat with | none => (0, false) | some A => (A.num, true)
theorem attempt_any {X : ELoc} {E : Eng} {w : World} (h : EObj w X E) (th : Int) : Calls Try.prog 7 #[ptr X.e, .int .i64 th] w fun x w' => x = .returned (.tuple #[.int .i64 (attE E th).1, .bool (attE E th).2]) ∧ w = w' := by
  unfold attE
  by_cases hth : 0 ≤ th ∧ th < 4
  · rw [if_neg (fun e => e hth)]
    obtain ⟨k, hk⟩ : ∃ k : Nat, (k : Int) = th := ⟨th.toNat, by omega⟩
    subst hk
    simp only [Int.toNat_natCast]
    have hk4 : k < 4 := by omega
    have TH := HidC.mk (thread_any X E k hk4 w h)
    cases hA : E.th k with
    | none =>
      rw [h.noatt hA] at TH
      simp only [tptr] at TH
      clear h
      go_enter Try.func7, Try.ntmps7
      go_wp2_with fail
      refine TH.out.mono ?_
      rintro x w3 ⟨rfl, rfl⟩
      clear TH
      go_wp2
      go_ret2
      exact ⟨rfl, rfl⟩
    | some A =>
      obtain ⟨l, hl, hob⟩ := h.att hA
      have c9 := hob.cells.c9
      rw [hl] at TH
      simp only [tptr] at TH ⊢
      clear h hob
      go_enter Try.func7, Try.ntmps7
      go_wp2_with fail
      refine TH.out.mono ?_
      rintro x w3 ⟨rfl, rfl⟩
      clear TH
      go_wp2
      go_ret2
      exact ⟨rfl, rfl⟩
  · rw [if_pos hth]
    have TH := HidC.mk (thread_no X th hth w)
    clear h
    go_enter Try.func7, Try.ntmps7
    go_wp2_with fail
    refine TH.out.mono ?_
    rintro x w3 ⟨rfl, rfl⟩
    clear TH
    go_wp2
    go_ret2
    exact ⟨rfl, rfl⟩

def killE (E : Eng) (th : Int) : Int × Eng :=
  if ¬ (0 ≤ th ∧ th < 4) then (2, E)
  else match E.th th.toNat with
    | none => (8, E)
    | some A => if holdsE E th then (8, E) else (0, abortE E th.toNat A 3)

theorem begin_keep {N : Nat} {E : Eng} (h : EWf N E) (hb : N + 2 < 90000) (th : Int) : EWf (N + 2) (beginE E th).2 := by
  unfold beginE
  split
  · exact h.up _ (by omega) hb
  · rename_i hth
    have hth' := Classical.not_not.1 hth
    split
    · exact h.up _ (by omega) hb
    · split
      · exact h.up _ (by omega) hb
      · split
        · exact h.up _ (by omega) hb
        · rename_i hp _
          refine ⟨hb, h.hp1, h.hp12, h.hv, ?_, ?_, h.lk0, by have := h.lk1; simp only [Eng.put, enterE, noteE]; omega, fun j A hj => ?_⟩
          · simp only [Eng.put, enterE, noteE, List.length_append, List.length_cons, List.length_nil]; omega
          · have := h.ev; simp only [Eng.put, enterE, noteE, List.length_append, List.length_cons, List.length_nil]; omega
          · simp only [Eng.put, enterE, noteE] at hj ⊢
            by_cases hjk : j = th.toNat
            · subst hjk
              rw [setT_same] at hj
              cases hj
              exact { k4 := by omega, thr := rfl, num := by simp [newA], t := by simp [newA], v := ⟨by simp [newA], by simp [newA]⟩, val := ⟨by simp [newA], by simp [newA]⟩, kk := by simp [newA], rd := by simp [newA], L := by simp [newA], ok := by intro f hf; simp only [newA, List.mem_singleton] at hf; subst hf; exact FrOk.f0, fin := by intro f hf; simp only [newA, List.mem_singleton] at hf; subst hf; intro t v hv; rw [fget_f0] at hv; exact absurd hv (by simp), ne := by simp [newA], p5 := by simp [newA], p8 := by simp [newA], one := by simp [newA], nz := by simp [newA], pl1 := by simp [newA], pl6 := by simp [newA] }
            · rw [setT_other _ _ hjk] at hj
              have hA := h.th j A hj
              exact { hA with num := by have := hA.num; simp; omega }

theorem kill_keep {N : Nat} {E : Eng} (h : EWf N E) (hb : N + 2 < 90000) (th : Int) : EWf (N + 2) (killE E th).2 := by
  unfold killE
  split
  · exact h.up _ (by omega) hb
  · split
    · exact h.up _ (by omega) hb
    · split
      · exact h.up _ (by omega) hb
      · exact abort_keep h hb rfl rfl rfl (by have := h.lk0; have := h.lk1; omega) (fun _ _ => rfl) 3

end Go.Proofs.Ytinhdpiecifmhaa.Nr

/-
  package norec: slices.Clone AT ITS TWO TYPES; Heap, Events, Clock, Holds, Attempt, Why BY THEIR CONTRACTS.
-/
import Derived.Test.YtlfnmnchhhlhiabGreatNrBegin
import Derived.Test.YtlfnmnchhhlhiabGreatRdLists
namespace Go.Proofs.YtlfnmnchhhlhiabGreat.Nr
set_option linter.unusedVariables false
set_option linter.unusedSimpArgs false
open Go.RowKit Go.Maps

/-- A row of its own. -/
def RowPost (w : World) (T : TypeId) (size n : Nat) (xs : List Value) (x : Ending) (w' : World) : Prop := ∃ v, x = .returned v ∧ w'.ownsRow w.heap.size T size v n xs ∧ Touch w w' []

theorem Tryz.info_val : (Tryz.prog.info? 33).map (fun i => (i.zero, i.size, i.bytes)) = some (some (.int .u64 0), 1, 8) := by kernel_rfl
theorem vclone_eqNil (w : World) (a : Option Addr) (n c : Nat) : (binOp .eql 40 (.slice a n c) (.slice none 0 0)).run Tryz.prog w = .ok (.bool a.isNone) w := Lib.run_eql_slice_nil w _ _ a n c 0 0 Tryz.underlying40
theorem eclone_eqNil (w : World) (a : Option Addr) (n c : Nat) : (binOp .eql 55 (.slice a n c) (.slice none 0 0)).run Tryz.prog w = .ok (.bool a.isNone) w := Lib.run_eql_slice_nil w _ _ a n c 0 0 Tryz.underlying55

theorem vclone_nil (w : World) : Calls Tryz.prog 32 #[.slice none 0 0] w (RowPost w 33 1 0 []) := by
  have hq := vclone_eqNil
  go_enter Tryz.func32, Tryz.ntmps32
  go_wp2
  go_ret
  exact ⟨_, rfl, World.ownsRow_nil _ _ _ _, Touch.refl _ _⟩

set_option maxRecDepth 100000 in
theorem vclone_some {B : Nat} {w : World} {g cap n : Nat} {xs : List Value} (hown : w.ownsRow B 33 1 (.slice (some ⟨g, 0, none⟩) n cap) n xs) (h1 : Hid (∀ u ∈ xs, u.oneCell' = true)) (hn : n ≤ 100000) :
    Calls Tryz.prog 32 #[.slice (some ⟨g, 0, none⟩) n cap] w (RowPost w 33 1 n xs) := by
  unfold RowPost
  have hq := vclone_eqNil
  obtain ⟨i0, hi0, hz0, hz1, hz2⟩ := info_parts Tryz.info_val
  have e1 := empty_row w 33 1
  have hl1 : 0 + n ≤ maxLen := by unfold maxLen; omega
  have hl2 : (0 + n) * 8 ≤ 140737488355328 := by omega
  go_enter Tryz.func32, Tryz.ntmps32
  go_wp2_with (at_builtin; refine wpList_append_src rfl _ _ 40 rfl w.heap.size 33 i0 _ 1 8 Tryz.underlying40 hi0 hz0 hz1 hz2 rfl (by omega) w.heap.size 0 0 [] rfl e1 (.slice (some ⟨g, 0, none⟩) n cap) B n xs rfl (hown.alloc _) h1.out hl1 hl2 (by simp) ?_)
  intro g' cap' w1 hown1 hgrow1 hat1 hlt1
  try simp only [Nat.zero_add, List.nil_append] at hown1
  have t1 : Touch w w1 [] := ((Touch.refl w []).alloc _).grown hgrow1 (fun q hq => .inr (by simp at hq; omega))
  have HO : Hid (w1.ownsRow w.heap.size 33 1 _ n xs) := hown1
  clear e1 hgrow1 hown1
  go_wp2
  go_ret
  exact ⟨_, rfl, by simpa using HO.out, t1⟩

theorem vclone_any {B : Nat} {w : World} {v : Value} {n : Nat} {xs : List Value} (h : w.ownsRow B 33 1 v n xs) (h1 : ∀ u ∈ xs, u.oneCell' = true) (hn : n ≤ 100000) : Calls Tryz.prog 32 #[v] w (RowPost w 33 1 n xs) := by
  rcases h.2 with ⟨e, h0⟩ | ⟨g, cap, cur, e, _⟩
  · subst h0
    have hx : xs = [] := List.eq_nil_of_length_eq_zero (by have := h.1; simpa using this)
    rw [hx, e]; exact vclone_nil w
  · have ho := h
    rw [e] at ho ⊢
    exact vclone_some ho h1 hn

theorem eclone_nil (w : World) : Calls Tryz.prog 69 #[.slice none 0 0] w (RowPost w 124 4 0 []) := by
  have hq := eclone_eqNil
  go_enter Tryz.func69, Tryz.ntmps69
  go_wp2
  go_ret
  exact ⟨_, rfl, World.ownsRow_nil _ _ _ _, Touch.refl _ _⟩

set_option maxRecDepth 100000 in
theorem eclone_some {B : Nat} {w : World} {g cap n : Nat} {xs : List Value} (hown : w.ownsRow B 124 4 (.slice (some ⟨g, 0, none⟩) n cap) n xs) (h1 : Hid (∀ u ∈ xs, u.oneCell' = true)) (hn : n ≤ 100000) :
    Calls Tryz.prog 69 #[.slice (some ⟨g, 0, none⟩) n cap] w (RowPost w 124 4 n xs) := by
  unfold RowPost
  have hq := eclone_eqNil
  obtain ⟨i0, hi0, hz0, hz1, hz2⟩ := info_parts Tryz.info_event
  have e1 := empty_row w 124 4
  have hl1 : 0 + n ≤ maxLen := by unfold maxLen; omega
  have hl2 : (0 + n) * 32 ≤ 140737488355328 := by omega
  go_enter Tryz.func69, Tryz.ntmps69
  go_wp2_with (at_builtin; refine wpList_append_src rfl _ _ 55 rfl w.heap.size 124 i0 _ 4 32 Tryz.underlying55 hi0 hz0 hz1 hz2 rfl (by omega) w.heap.size 0 0 [] rfl e1 (.slice (some ⟨g, 0, none⟩) n cap) B n xs rfl (hown.alloc _) h1.out hl1 hl2 (by simp) ?_)
  intro g' cap' w1 hown1 hgrow1 hat1 hlt1
  try simp only [Nat.zero_add, List.nil_append] at hown1
  have t1 : Touch w w1 [] := ((Touch.refl w []).alloc _).grown hgrow1 (fun q hq => .inr (by simp at hq; omega))
  have HO : Hid (w1.ownsRow w.heap.size 124 4 _ n xs) := hown1
  clear e1 hgrow1 hown1
  go_wp2
  go_ret
  exact ⟨_, rfl, by simpa using HO.out, t1⟩

theorem eclone_any {B : Nat} {w : World} {v : Value} {n : Nat} {xs : List Value} (h : w.ownsRow B 124 4 v n xs) (h1 : ∀ u ∈ xs, u.oneCell' = true) (hn : n ≤ 100000) : Calls Tryz.prog 69 #[v] w (RowPost w 124 4 n xs) := by
  rcases h.2 with ⟨e, h0⟩ | ⟨g, cap, cur, e, _⟩
  · subst h0
    have hx : xs = [] := List.eq_nil_of_length_eq_zero (by have := h.1; simpa using this)
    rw [hx, e]; exact eclone_nil w
  · have ho := h
    rw [e] at ho ⊢
    exact eclone_some ho h1 hn

theorem ev_one (l : List EvD) : ∀ u ∈ l.flatMap EvD.cells, u.oneCell' = true := by
  intro u hu
  obtain ⟨e, _, he⟩ := List.mem_flatMap.1 hu
  simp only [EvD.cells, List.mem_cons, List.not_mem_nil, or_false] at he
  rcases he with rfl | rfl | rfl | rfl <;> rfl
theorem hp_one (l : List Int) : ∀ u ∈ l.map (Value.int .u64), u.oneCell' = true := by
  intro u hu
  obtain ⟨e, _, rfl⟩ := List.mem_map.1 hu
  rfl

theorem heap_any {N : Nat} {X : ELoc} {E : Eng} {w : World} (h : EObj w X E) (hE : EWf N E) : Calls Tryz.prog 17 #[ptr X.e] w (RowPost w 33 1 E.hp.length (E.hp.map (Value.int .u64))) := by
  have CL := HidC.mk (vclone_any h.hp (hp_one _) (by have := hE.hp12; omega))
  obtain ⟨al, cl, hv⟩ := own_slice h.hp
  have e2 := h.cells.2.2.1
  rw [hv] at e2 CL
  clear h hE hv
  unfold RowPost at CL ⊢
  generalize E.hp.map (Value.int .u64) = xs at *
  generalize E.hp.length = n at *
  go_enter Tryz.func17, Tryz.ntmps17
  go_wp2_with fail
  refine CL.out.mono ?_
  rintro x w1 ⟨v, rfl, ho, t⟩
  clear CL
  have HO : Hid _ := And.intro ho t
  clear ho t
  go_wp2
  go_ret
  exact ⟨v, rfl, HO.out.1, HO.out.2⟩

theorem events_any {N : Nat} {X : ELoc} {E : Eng} {w : World} (h : EObj w X E) (hE : EWf N E) : Calls Tryz.prog 18 #[ptr X.e] w (RowPost w 124 4 E.ev.length (E.ev.flatMap EvD.cells)) := by
  have CL := HidC.mk (eclone_any h.ev (ev_one _) (by have := hE.ev; have := hE.nb; omega))
  obtain ⟨al, cl, hv⟩ := own_slice h.ev
  have e2 := h.cells.1
  rw [hv] at e2 CL
  clear h hE hv
  unfold RowPost at CL ⊢
  generalize E.ev.flatMap EvD.cells = xs at *
  generalize E.ev.length = n at *
  go_enter Tryz.func18, Tryz.ntmps18
  go_wp2_with fail
  refine CL.out.mono ?_
  rintro x w1 ⟨v, rfl, ho, t⟩
  clear CL
  have HO : Hid _ := And.intro ho t
  clear ho t
  go_wp2
  go_ret
  exact ⟨v, rfl, HO.out.1, HO.out.2⟩

theorem clock_any {X : ELoc} {E : Eng} {w : World} (h : EObj w X E) : Calls Tryz.prog 26 #[ptr X.e] w fun x w' => x = .returned (.int .u64 E.lk.c) ∧ w = w' := by
  have CL := HidC.mk (Sq.count_any X.lk E.lk.c E.lk.o w h.lk)
  have e3 := h.cells.2.2.2.1
  clear h
  go_enter Tryz.func26, Tryz.ntmps26
  go_wp2_with fail
  refine CL.out.mono ?_
  rintro x w1 ⟨rfl, rfl⟩
  clear CL
  go_wp2
  go_ret
  exact ⟨rfl, rfl⟩

def holdsE (E : Eng) (th : Int) : Bool := (Sq.ownS E.lk).2 && decide ((Sq.ownS E.lk).1 = th)
theorem holds_any {X : ELoc} {E : Eng} {w : World} (h : EObj w X E) (hc : 0 ≤ E.lk.c) (th : Int) : Calls Tryz.prog 24 #[ptr X.e, .int .i64 th] w fun x w' => x = .returned (.bool (holdsE E th)) ∧ Touch w w' [] := by
  have CL := HidC.mk (Sq.owner_any X.lk E.lk hc w h.lk)
  have e3 := h.cells.2.2.2.1
  clear h hc
  unfold holdsE
  generalize Sq.ownS E.lk = q at *
  obtain ⟨o, b⟩ := q
  go_enter Tryz.func24, Tryz.ntmps24
  go_wp2_with fail
  refine CL.out.mono ?_
  rintro x w1 ⟨rfl, t⟩
  clear CL
  have HT : Hid _ := t
  clear t
  cases b with
  | false =>
    go_wp2
    go_ret
    exact ⟨rfl, HT.out⟩
  | true =>
    go_wp2
    go_ret
    exact ⟨by simp [beq_eq_decide], HT.out⟩

def attE (E : Eng) (th : Int) : Int × Bool := if ¬ (0 ≤ th ∧ th < 4) then (0, false) else match E.th th.toNat with | none => (0, false) | some A => (A.num, true)
theorem attempt_any {X : ELoc} {E : Eng} {w : World} (h : EObj w X E) (th : Int) : Calls Tryz.prog 12 #[ptr X.e, .int .i64 th] w fun x w' => x = .returned (.tuple #[.int .i64 (attE E th).1, .bool (attE E th).2]) ∧ w = w' := by
  unfold attE
  by_cases hth : 0 ≤ th ∧ th < 4
  · rw [if_neg (fun e => e hth)]
    obtain ⟨k, hk⟩ : ∃ k : Nat, (k : Int) = th := ⟨th.toNat, by omega⟩
    subst hk
    simp only [Int.toNat_natCast]
    have hk4 : k < 4 := by omega
    have TH := HidC.mk (thread_any X E k hk4 w h)
    cases hA : E.th k with
    | none =>
      rw [h.noatt hA] at TH
      simp only [tptr] at TH
      clear h
      go_enter Tryz.func12, Tryz.ntmps12
      go_wp2_with fail
      refine TH.out.mono ?_
      rintro x w3 ⟨rfl, rfl⟩
      clear TH
      go_wp2
      go_ret2
      exact ⟨rfl, rfl⟩
    | some A =>
      obtain ⟨l, hl, hob⟩ := h.att hA
      have c9 := hob.cells.c9
      rw [hl] at TH
      simp only [tptr] at TH ⊢
      clear h hob
      go_enter Tryz.func12, Tryz.ntmps12
      go_wp2_with fail
      refine TH.out.mono ?_
      rintro x w3 ⟨rfl, rfl⟩
      clear TH
      go_wp2
      go_ret2
      exact ⟨rfl, rfl⟩
  · rw [if_pos hth]
    have TH := HidC.mk (thread_no X th hth w)
    clear h
    go_enter Tryz.func12, Tryz.ntmps12
    go_wp2_with fail
    refine TH.out.mono ?_
    rintro x w3 ⟨rfl, rfl⟩
    clear TH
    go_wp2
    go_ret2
    exact ⟨rfl, rfl⟩

theorem eng_why {X : ELoc} {E : Eng} {w : World} (h : EObj w X E) (k : Nat) (hk : k < E.pg.length) (hb : E.pg.length ≤ 64) : Calls Tryz.prog 21 #[ptr X.e, .int .i64 k] w fun x w' => x = .returned (.int .u8 E.pg[k].why) ∧ w = w' := by
  have CL := HidC.mk (why_in X E k hk hb w h)
  clear h
  generalize E.pg[k].why = y at *
  go_enter Tryz.func21, Tryz.ntmps21
  go_wp2_with fail
  refine CL.out.mono ?_
  rintro x w1 ⟨rfl, rfl⟩
  clear CL
  go_wp2
  go_ret
  exact ⟨rfl, rfl⟩

def killE (E : Eng) (th : Int) : Int × Eng :=
  if ¬ (0 ≤ th ∧ th < 4) then (2, E)
  else match E.th th.toNat with
    | none => (8, E)
    | some A => if holdsE E th then (8, E) else (0, abortE E th.toNat A 3)

theorem kill_any {N : Nat} (X : ELoc) (E : Eng) (th : Int) (w : World) (h : EObj w X E) (hE : EWf N E) :
    Calls Tryz.prog 16 #[ptr X.e, .int .i64 th] w (XPost w X (killE E th).2 (killE E th).1) := by
  unfold killE
  by_cases hth : 0 ≤ th ∧ th < 4
  · rw [if_neg (fun e => e hth)]
    obtain ⟨k, hk⟩ : ∃ k : Nat, (k : Int) = th := ⟨th.toNat, by omega⟩
    subst hk
    simp only [Int.toNat_natCast]
    have hk4 : k < 4 := by omega
    have TH := HidC.mk (thread_any X E k hk4 w h)
    cases hA : E.th k with
    | none =>
      rw [h.noatt hA] at TH
      simp only [tptr] at TH
      have HF : Hid (XPost w X E 8 (.returned (.int .i64 8)) w) := ⟨X, rfl, h, Next.same (Touch.refl w []) (by simp)⟩
      clear h hE
      go_enter Tryz.func16, Tryz.ntmps16
      go_wp2_with fail
      refine TH.out.mono ?_
      rintro x w3 ⟨rfl, rfl⟩
      clear TH
      go_wp2
      go_ret
      exact HF.out
    | some A =>
      obtain ⟨l, hl, hob⟩ := h.att hA
      rw [hl] at TH
      simp only [tptr] at TH ⊢
      have HO := HidC.mk (holds_any h hE.lk0 k)
      have hA' := hE.th k A hA
      have HAB : Hid (∀ W, Touch w W [] → HidC Tryz.prog 68 #[ptr X.e, ptr l.a, .int .u8 3] W (RPost W X (abortE E k A 3) { rp0 with done := true, ended := true, why := 3 })) := fun W t => HidC.mk (abort_any ⟨h.fresh t, hl, hA⟩ hk4 hA'.thr hA'.num hE.pg (by have := hE.ev; have := hE.nb; omega) 3)
      have HF : Hid (∀ W, Touch w W [] → XPost w X E 8 (.returned (.int .i64 8)) W) := fun W t => ⟨X, rfl, h.fresh t, Next.same t (by simp)⟩
      clear h hE hA' hob
      generalize abortE E k A 3 = E2 at *
      generalize holdsE E k = b at *
      cases b with
      | true =>
        simp only [if_true]
        go_enter Tryz.func16, Tryz.ntmps16
        go_wp2_with fail
        refine TH.out.mono ?_
        rintro x w3 ⟨rfl, rfl⟩
        clear TH
        go_wp2_with fail
        refine HO.out.mono ?_
        rintro x w3 ⟨rfl, t3⟩
        have HZ : Hid (XPost w X E 8 (.returned (.int .i64 8)) w3) := HF.out w3 t3
        clear HO HF HAB t3
        go_wp2
        go_ret
        exact HZ.out
      | false =>
        simp only [Bool.false_eq_true, if_false]
        go_enter Tryz.func16, Tryz.ntmps16
        go_wp2_with fail
        refine TH.out.mono ?_
        rintro x w3 ⟨rfl, rfl⟩
        clear TH
        go_wp2_with fail
        refine HO.out.mono ?_
        rintro x w3 ⟨rfl, t3⟩
        have AB := HAB.out w3 t3
        have HT : Hid _ := t3
        clear HO HF HAB t3
        go_wp2_with fail
        refine AB.out.mono ?_
        rintro x w4 ⟨X', rfl, o4, n4⟩
        have HZ : Hid (EObj w4 X' E2 ∧ Next w X w4 X') := ⟨o4, Next.after HT.out n4⟩
        clear AB HT o4 n4
        go_wp2
        go_ret
        exact ⟨X', rfl, HZ.out.1, HZ.out.2⟩
  · rw [if_pos hth]
    have TH := HidC.mk (thread_no X th hth w)
    have HF : Hid (XPost w X E 2 (.returned (.int .i64 2)) w) := ⟨X, rfl, h, Next.same (Touch.refl w []) (by simp)⟩
    clear h hE
    go_enter Tryz.func16, Tryz.ntmps16
    go_wp2_with fail
    refine TH.out.mono ?_
    rintro x w3 ⟨rfl, rfl⟩
    clear TH
    go_wp2
    go_ret
    exact HF.out

theorem begin_keep {N : Nat} {E : Eng} (h : EWf N E) (hb : N + 2 < 90000) (th : Int) : EWf (N + 2) (beginE E th).2 := by
  unfold beginE
  split
  · exact h.up _ (by omega) hb
  · rename_i hth
    have hth' := Classical.not_not.1 hth
    split
    · exact h.up _ (by omega) hb
    · split
      · exact h.up _ (by omega) hb
      · split
        · exact h.up _ (by omega) hb
        · rename_i hp _
          refine ⟨hb, h.hp1, h.hp12, h.hv, ?_, ?_, h.lk0, by have := h.lk1; simp only [Eng.put, enterE, noteE]; omega, fun j A hj => ?_⟩
          · simp only [Eng.put, enterE, noteE, List.length_append, List.length_cons, List.length_nil]; omega
          · have := h.ev; simp only [Eng.put, enterE, noteE, List.length_append, List.length_cons, List.length_nil]; omega
          · simp only [Eng.put, enterE, noteE] at hj ⊢
            by_cases hjk : j = th.toNat
            · subst hjk
              rw [setT_same] at hj
              cases hj
              exact { k4 := by omega, thr := rfl, num := by simp [newA], t := by simp [newA], v := ⟨by simp [newA], by simp [newA]⟩, val := ⟨by simp [newA], by simp [newA]⟩, kk := by simp [newA], rd := by simp [newA], L := by simp [newA], ok := by intro f hf; simp only [newA, List.mem_singleton] at hf; subst hf; exact FrOk.f0, fin := by intro f hf; simp only [newA, List.mem_singleton] at hf; subst hf; intro t v hv; rw [fget_f0] at hv; exact absurd hv (by simp), ne := by simp [newA], p5 := by simp [newA], p8 := by simp [newA], one := by simp [newA], nz := by simp [newA], pl1 := by simp [newA], pl6 := by simp [newA] }
            · rw [setT_other _ _ hjk] at hj
              have hA := h.th j A hj
              exact { hA with num := by have := hA.num; simp; omega }

theorem kill_keep {N : Nat} {E : Eng} (h : EWf N E) (hb : N + 2 < 90000) (th : Int) : EWf (N + 2) (killE E th).2 := by
  unfold killE
  split
  · exact h.up _ (by omega) hb
  · split
    · exact h.up _ (by omega) hb
    · split
      · exact h.up _ (by omega) hb
      · exact abort_keep h hb rfl rfl rfl (by have := h.lk0; have := h.lk1; omega) (fun _ _ => rfl) 3

end Go.Proofs.YtlfnmnchhhlhiabGreat.Nr

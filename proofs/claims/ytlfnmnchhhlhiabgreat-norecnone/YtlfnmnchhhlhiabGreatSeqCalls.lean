/-
  package seqlock's calls BY THEIR CONTRACTS: New, Snapshot, Try, Unlock, Break, Count, Owner, Since, Fork.
-/
import Derived.Test.YtlfnmnchhhlhiabGreatSeqBase
namespace Go.Proofs.YtlfnmnchhhlhiabGreat.Sq
set_option linter.unusedVariables false
set_option linter.unusedSimpArgs false
open Go.RowKit

theorem results_cell {fn : Func} {p : Tmp} {ty : TypeId} (h : fn.results = #[.cell p ty]) (tmps : Array Value) (P : Program) (w : World) :
    (results fn tmps).run P w = ((asAddr (tmps.getD p undef)).run P w).andThen fun a w₁ => (loadVar ty a).run P w₁ := by
  simp only [results, h]
  simp [Sem.run_bind, Result.andThen]

theorem LObj.new (w : World) (c o : Int) : LObj (w.alloc (.cells #[.int .u64 c, .int .i64 o] 134)) w.heap.size c o := ⟨heap_alloc_new w _⟩

/-- What made has ahead of a call of its own, and behind it. -/
theorem made_frame {w w2 : World} {c o : Int} (t : Touch ((w.alloc (.cells #[.int .u64 c, .int .i64 o] 134)).alloc (.cells #[.int .u64 0, .int .i64 0] 134)) w2 []) :
    LObj w2 w.heap.size c o ∧ LObj w2 (w.heap.size + 1) 0 0 ∧ Touch w w2 [] := by
  refine ⟨((LObj.new w c o).touch ((Touch.refl _ []).alloc _) (by simp)).touch t (by simp), ?_, (((Touch.refl w []).alloc _).alloc _).trans t (by simp)⟩
  have := (LObj.new (w.alloc (.cells #[.int .u64 c, .int .i64 o] 134)) 0 0).touch t (by simp)
  simpa using this

set_option maxRecDepth 100000 in
theorem try1_ok (p q : Nat) (c o owner : Int) (hc : 0 ≤ c) (h0 : 0 ≤ owner) (h1 : owner < 4) (h2 : ¬ c % 2 = 1) (h4 : c < 1099511627775) (w : World) (hp : p < w.heap.size) (hq : q < w.heap.size)
    (cp : w.cell? ⟨p, 0, none⟩ = some (.int .i64 owner)) (cq : w.cell? ⟨q, 0, none⟩ = some (.int .u64 c)) :
    Calls Tryz.prog 190 #[.agg #[.int .u64 c, .int .i64 o], .pointer (some ⟨p, 0, none⟩), .pointer (some ⟨q, 0, none⟩)] w fun e w' => e = .returned (.agg #[.int .u64 (c + 1), .int .i64 owner]) ∧ Touch w w' [] := by
  go_enter Tryz.func190, Tryz.ntmps190
  go_wp2_with fail
  refine (sneed_yes _ _).mono ?_
  rintro e w1 ⟨rfl, rfl⟩
  go_wp2_with fail
  refine (sheld_any c o hc _).mono ?_
  rintro e w1 ⟨rfl, t1⟩
  obtain ⟨L1, L2, T⟩ := made_frame t1
  obtain ⟨a0, a1, _, _⟩ := L1.cells
  obtain ⟨b0, b1, f0, f1⟩ := L2.cells
  have cp1 := (T.cell (p := ⟨p, 0, none⟩) hp (by simp)).trans cp
  have cq1 := (T.cell (p := ⟨q, 0, none⟩) hq (by simp)).trans cq
  have L3 : Hid _ := L2.set (c + 1) owner
  have HT : Hid _ := (T.setCell (p := ⟨w.heap.size + 1, 0, none⟩) (.inr (by simp)) (.int .u64 (c + 1))).setCell (p := ⟨w.heap.size + 1, 1, none⟩) (.inr (by simp)) (.int .i64 owner)
  clear t1 L1 L2 T cp cq
  go_wp2_with fail
  refine (sneed_yes _ _).mono ?_
  rintro e w2 ⟨rfl, rfl⟩
  go_wp2_with fail
  refine (sneed_yes _ _).mono ?_
  rintro e w2 ⟨rfl, rfl⟩
  go_wp2_with fail
  refine (sneed_yes _ _).mono ?_
  rintro e w2 ⟨rfl, rfl⟩
  go_wp2
  obtain ⟨z0, z1, _, _⟩ := L3.out.cells
  refine bodyPost_ret (v := .agg #[.int .u64 (c + 1), .int .i64 owner]) ?_ rfl ⟨rfl, HT.out⟩
  rw [results_cell rfl]
  go_simp

set_option maxRecDepth 100000 in
theorem try1_r1 (p q : Nat) (c o owner at' : Int) (hc : 0 ≤ c) (h0 : ¬ 0 ≤ owner) (w : World) (hp : p < w.heap.size) (hq : q < w.heap.size)
    (cp : w.cell? ⟨p, 0, none⟩ = some (.int .i64 owner)) (cq : w.cell? ⟨q, 0, none⟩ = some (.int .u64 at')) :
    Calls Tryz.prog 190 #[.agg #[.int .u64 c, .int .i64 o], .pointer (some ⟨p, 0, none⟩), .pointer (some ⟨q, 0, none⟩)] w (Refuses 2 w) := by
  have h0' : decide (0 ≤ owner) = false := decide_eq_false h0
  go_enter Tryz.func190, Tryz.ntmps190
  go_wp2_with fail
  refine (sneed_no _ _).mono ?_
  rintro e w2 ⟨rfl, t2⟩
  exact ⟨rfl, rfl, ((((Touch.refl w []).alloc _).alloc _).trans t2 (by simp))⟩

set_option maxRecDepth 100000 in
theorem try1_r2 (p q : Nat) (c o owner at' : Int) (hc : 0 ≤ c) (h0 : 0 ≤ owner) (h1 : ¬ owner < 4) (w : World) (hp : p < w.heap.size) (hq : q < w.heap.size)
    (cp : w.cell? ⟨p, 0, none⟩ = some (.int .i64 owner)) (cq : w.cell? ⟨q, 0, none⟩ = some (.int .u64 at')) :
    Calls Tryz.prog 190 #[.agg #[.int .u64 c, .int .i64 o], .pointer (some ⟨p, 0, none⟩), .pointer (some ⟨q, 0, none⟩)] w (Refuses 2 w) := by
  have h1' : decide (owner < 4) = false := decide_eq_false h1
  go_enter Tryz.func190, Tryz.ntmps190
  go_wp2_with fail
  refine (sneed_no _ _).mono ?_
  rintro e w2 ⟨rfl, t2⟩
  exact ⟨rfl, rfl, ((((Touch.refl w []).alloc _).alloc _).trans t2 (by simp))⟩

set_option maxRecDepth 100000 in
theorem try1_busy (p q : Nat) (c o owner at' : Int) (hc : 0 ≤ c) (h0 : 0 ≤ owner) (h1 : owner < 4) (h2 : c % 2 = 1) (w : World) (hp : p < w.heap.size) (hq : q < w.heap.size)
    (cp : w.cell? ⟨p, 0, none⟩ = some (.int .i64 owner)) (cq : w.cell? ⟨q, 0, none⟩ = some (.int .u64 at')) :
    Calls Tryz.prog 190 #[.agg #[.int .u64 c, .int .i64 o], .pointer (some ⟨p, 0, none⟩), .pointer (some ⟨q, 0, none⟩)] w (Refuses 7 w) := by
  go_enter Tryz.func190, Tryz.ntmps190
  go_wp2_with fail
  refine (sneed_yes _ _).mono ?_
  rintro e w1 ⟨rfl, rfl⟩
  go_wp2_with fail
  refine (sheld_any c o hc _).mono ?_
  rintro e w1 ⟨rfl, t1⟩
  obtain ⟨L1, L2, T⟩ := made_frame t1
  obtain ⟨a0, a1, _, _⟩ := L1.cells
  have cp1 := (T.cell (p := ⟨p, 0, none⟩) hp (by simp)).trans cp
  have cq1 := (T.cell (p := ⟨q, 0, none⟩) hq (by simp)).trans cq
  clear t1 L1 L2 cp cq
  go_wp2_with fail
  refine (sneed_no _ _).mono ?_
  rintro e w2 ⟨rfl, t2⟩
  exact ⟨rfl, rfl, T.trans t2 (by simp)⟩

set_option maxRecDepth 100000 in
theorem try1_state (p q : Nat) (c o owner at' : Int) (hc : 0 ≤ c) (h0 : 0 ≤ owner) (h1 : owner < 4) (h2 : ¬ c % 2 = 1) (h3 : ¬ c = at') (w : World) (hp : p < w.heap.size) (hq : q < w.heap.size)
    (cp : w.cell? ⟨p, 0, none⟩ = some (.int .i64 owner)) (cq : w.cell? ⟨q, 0, none⟩ = some (.int .u64 at')) :
    Calls Tryz.prog 190 #[.agg #[.int .u64 c, .int .i64 o], .pointer (some ⟨p, 0, none⟩), .pointer (some ⟨q, 0, none⟩)] w (Refuses 8 w) := by
  have h3' : (c == at') = false := by simpa using h3
  go_enter Tryz.func190, Tryz.ntmps190
  go_wp2_with fail
  refine (sneed_yes _ _).mono ?_
  rintro e w1 ⟨rfl, rfl⟩
  go_wp2_with fail
  refine (sheld_any c o hc _).mono ?_
  rintro e w1 ⟨rfl, t1⟩
  obtain ⟨L1, L2, T⟩ := made_frame t1
  obtain ⟨a0, a1, _, _⟩ := L1.cells
  have cp1 := (T.cell (p := ⟨p, 0, none⟩) hp (by simp)).trans cp
  have cq1 := (T.cell (p := ⟨q, 0, none⟩) hq (by simp)).trans cq
  clear t1 L1 L2 cp cq
  go_wp2_with fail
  refine (sneed_yes _ _).mono ?_
  rintro e w1 ⟨rfl, rfl⟩
  go_wp2_with fail
  refine (sneed_no _ _).mono ?_
  rintro e w2 ⟨rfl, t2⟩
  exact ⟨rfl, rfl, T.trans t2 (by simp)⟩

set_option maxRecDepth 100000 in
theorem try1_space (p q : Nat) (c o owner at' : Int) (hc : 0 ≤ c) (h0 : 0 ≤ owner) (h1 : owner < 4) (h2 : ¬ c % 2 = 1) (h3 : c = at') (h4 : ¬ c < 1099511627775) (w : World) (hp : p < w.heap.size) (hq : q < w.heap.size)
    (cp : w.cell? ⟨p, 0, none⟩ = some (.int .i64 owner)) (cq : w.cell? ⟨q, 0, none⟩ = some (.int .u64 at')) :
    Calls Tryz.prog 190 #[.agg #[.int .u64 c, .int .i64 o], .pointer (some ⟨p, 0, none⟩), .pointer (some ⟨q, 0, none⟩)] w (Refuses 4 w) := by
  subst h3
  have h4' : decide (c < 1099511627775) = false := decide_eq_false h4
  go_enter Tryz.func190, Tryz.ntmps190
  go_wp2_with fail
  refine (sneed_yes _ _).mono ?_
  rintro e w1 ⟨rfl, rfl⟩
  go_wp2_with fail
  refine (sheld_any c o hc _).mono ?_
  rintro e w1 ⟨rfl, t1⟩
  obtain ⟨L1, L2, T⟩ := made_frame t1
  obtain ⟨a0, a1, _, _⟩ := L1.cells
  have cp1 := (T.cell (p := ⟨p, 0, none⟩) hp (by simp)).trans cp
  have cq1 := (T.cell (p := ⟨q, 0, none⟩) hq (by simp)).trans cq
  clear t1 L1 L2 cp cq
  go_wp2_with fail
  refine (sneed_yes _ _).mono ?_
  rintro e w1 ⟨rfl, rfl⟩
  go_wp2_with fail
  refine (sneed_yes _ _).mono ?_
  rintro e w1 ⟨rfl, rfl⟩
  go_wp2_with fail
  refine (sneed_no _ _).mono ?_
  rintro e w2 ⟨rfl, t2⟩
  exact ⟨rfl, rfl, T.trans t2 (by simp)⟩

/-- What a lock is. -/
structure SLk where
  c : Int
  o : Int

/-- What Try comes to. -/
def tryS (s : SLk) (owner at' : Int) : Int × SLk :=
  if ¬ (0 ≤ owner ∧ owner < 4) then (2, s) else if s.c % 2 = 1 then (7, s) else if s.c ≠ at' then (8, s) else if ¬ s.c < 1099511627775 then (4, s) else (0, ⟨s.c + 1, owner⟩)

/-- What a call leaves. -/
def SPost (b : Nat) (w : World) (r : Int × SLk) (x : Ending) (w' : World) : Prop := x = .returned (.int .i64 r.1) ∧ LObj w' b r.2.c r.2.o ∧ Touch w w' [b]

theorem enter_of {k : Nat} {fn : Func} (hf : Tryz.prog.funcs[k]? = some fn) (hn : (fn.name == "runtime.NumGoroutine") = false) (hb : fn.body.isNone = false) (w : World) (cap : Array Value) : (callFunc k cap).run Tryz.prog w = .ok (.enter k cap) w := by
  simp only [callFunc, Sem.run_bind, run_program, Result.andThen_ok, hf, hn, hb, Bool.false_eq_true, if_false, Sem.run_pure]

theorem try_become (b p q : Nat) (s : SLk) (owner at' : Int) (hc : 0 ≤ s.c) (W : World) (h : LObj W b s.c s.o) (hp : p < W.heap.size) (hq : q < W.heap.size)
    (cp : W.cell? ⟨p, 0, none⟩ = some (.int .i64 owner)) (cq : W.cell? ⟨q, 0, none⟩ = some (.int .u64 at')) :
    Calls Tryz.prog 102 #[.pointer (some ⟨b, 0, none⟩), .func (.func 190) #[] #[.pointer (some ⟨p, 0, none⟩), .pointer (some ⟨q, 0, none⟩)]] W (SPost b W (tryS s owner at')) := by
  have hen := enter_of Tryz.func190 (by kernel_rfl) (by kernel_rfl)
  have P := fun (w1 : World) (t : Touch W w1 []) => And.intro (Nat.lt_of_lt_of_le hp t.size) (And.intro (Nat.lt_of_lt_of_le hq t.size) (And.intro ((t.cell (p := ⟨p, 0, none⟩) hp (by simp)).trans cp) ((t.cell (p := ⟨q, 0, none⟩) hq (by simp)).trans cq)))
  unfold tryS
  by_cases h0 : 0 ≤ owner
  · by_cases h1 : owner < 4
    · rw [if_neg (by simp [h0, h1])]
      by_cases h2 : s.c % 2 = 1
      · rw [if_pos h2]
        refine (become_no b _ s.c s.o 7 _ W h hen (fun w1 t => ?_)).mono ?_
        · obtain ⟨a, b', c, d⟩ := P w1 t
          exact try1_busy p q s.c s.o owner at' hc h0 h1 h2 w1 a b' c d
        · rintro x w' ⟨rfl, t⟩
          exact ⟨rfl, h.touch t (by simp), t.mono (by simp)⟩
      · rw [if_neg h2]
        by_cases h3 : s.c = at'
        · rw [if_neg (by simp [h3])]
          by_cases h4 : s.c < 1099511627775
          · rw [if_neg (by simp [h4])]
            subst h3
            refine (become_ok b _ s.c s.o (s.c + 1) owner _ W h hen (fun _ => True) [] (by simp) (by simp) (fun _ _ _ _ _ _ => trivial) (fun w1 t => ?_)).mono ?_
            · obtain ⟨a, b', c, d⟩ := P w1 t
              refine (try1_ok p q s.c s.o owner hc h0 h1 h2 h4 w1 a b' c d).mono ?_
              rintro x w' ⟨e, t'⟩
              exact ⟨e, t', trivial⟩
            · rintro x w' ⟨rfl, l, t, _⟩
              exact ⟨rfl, l, t⟩
          · rw [if_pos h4]
            refine (become_no b _ s.c s.o 4 _ W h hen (fun w1 t => ?_)).mono ?_
            · obtain ⟨a, b', c, d⟩ := P w1 t
              exact try1_space p q s.c s.o owner at' hc h0 h1 h2 h3 h4 w1 a b' c d
            · rintro x w' ⟨rfl, t⟩
              exact ⟨rfl, h.touch t (by simp), t.mono (by simp)⟩
        · rw [if_pos h3]
          refine (become_no b _ s.c s.o 8 _ W h hen (fun w1 t => ?_)).mono ?_
          · obtain ⟨a, b', c, d⟩ := P w1 t
            exact try1_state p q s.c s.o owner at' hc h0 h1 h2 h3 w1 a b' c d
          · rintro x w' ⟨rfl, t⟩
            exact ⟨rfl, h.touch t (by simp), t.mono (by simp)⟩
    · rw [if_pos (by omega)]
      refine (become_no b _ s.c s.o 2 _ W h hen (fun w1 t => ?_)).mono ?_
      · obtain ⟨a, b', c, d⟩ := P w1 t
        exact try1_r2 p q s.c s.o owner at' hc h0 h1 w1 a b' c d
      · rintro x w' ⟨rfl, t⟩
        exact ⟨rfl, h.touch t (by simp), t.mono (by simp)⟩
  · rw [if_pos (by omega)]
    refine (become_no b _ s.c s.o 2 _ W h hen (fun w1 t => ?_)).mono ?_
    · obtain ⟨a, b', c, d⟩ := P w1 t
      exact try1_r1 p q s.c s.o owner at' hc h0 w1 a b' c d
    · rintro x w' ⟨rfl, t⟩
      exact ⟨rfl, h.touch t (by simp), t.mono (by simp)⟩

set_option maxRecDepth 100000 in
theorem try_any (b : Nat) (s : SLk) (owner at' : Int) (hc : 0 ≤ s.c) (w : World) (h : LObj w b s.c s.o) :
    Calls Tryz.prog 181 #[.pointer (some ⟨b, 0, none⟩), .int .i64 owner, .int .u64 at'] w (SPost b w (tryS s owner at')) := by
  have hmf : ∀ (fn : Fn) (first cap : Array Value) (w : World), (Instr.makeFunc fn first cap).run Tryz.prog w = .ok (.func fn first cap) w := fun _ _ _ _ => rfl
  have hT : Touch w ((w.alloc (.cells #[.int .i64 owner] 3)).alloc (.cells #[.int .u64 at'] 32)) [] := ((Touch.refl w []).alloc _).alloc _
  have hb := try_become b w.heap.size (w.heap.size + 1) s owner at' hc ((w.alloc (.cells #[.int .i64 owner] 3)).alloc (.cells #[.int .u64 at'] 32)) (h.touch hT (by simp)) (by simp <;> omega) (by simp <;> omega) (by simp [go_sem]) (by simp [go_sem])
  generalize tryS s owner at' = R at *
  go_enter Tryz.func181, Tryz.ntmps181
  go_wp2_with fail
  refine hb.mono ?_
  rintro x w1 ⟨rfl, l, t⟩
  clear hb
  go_wp2
  go_ret
  exact ⟨rfl, l, (hT.mono (by simp)).trans t (by simp)⟩

set_option maxRecDepth 100000 in
theorem try_nil (owner at' : Int) (w : World) :
    Calls Tryz.prog 181 #[.pointer none, .int .i64 owner, .int .u64 at'] w fun x w' => x = .returned (.int .i64 1) ∧ Touch w w' [] := by
  have hmf : ∀ (fn : Fn) (first cap : Array Value) (w : World), (Instr.makeFunc fn first cap).run Tryz.prog w = .ok (.func fn first cap) w := fun _ _ _ _ => rfl
  go_enter Tryz.func181, Tryz.ntmps181
  go_wp2_with fail
  refine (become_nil _ _ _).mono ?_
  rintro x w1 ⟨rfl, t⟩
  go_wp2
  go_ret
  exact ⟨rfl, (((Touch.refl w []).alloc _).alloc _).trans t (by simp)⟩

/-! ### Unlock and Break -/
theorem unlock1_any (c : Int) (h0 : 0 ≤ c) (h1 : c ≤ 1099511627776) (w : World) : Calls Tryz.prog 192 #[.int .u64 c] w fun x w' => x = .returned (.int .u64 (c + 1)) ∧ w = w' := by
  go_enter Tryz.func192, Tryz.ntmps192
  go_wp2
  go_ret
  exact ⟨rfl, rfl⟩


/-- Whoever leaves it by made. -/
structure Leaver (k : Nat) (c c' : Int) : Prop where
  en : ∀ w a, (callFunc k a).run Tryz.prog w = .ok (.enter k a) w
  calls : ∀ w, Calls Tryz.prog k #[.int .u64 c] w fun x w' => x = .returned (.int .u64 c') ∧ w = w'

set_option maxRecDepth 100000 in
theorem leave1_ok (p q k : Nat) (c c' o : Int) (hc : 0 ≤ c) (h2 : c % 2 = 1) (L : Leaver k c c') (w : World) (hp : p < w.heap.size) (hq : q < w.heap.size)
    (cp : w.cell? ⟨p, 0, none⟩ = some (.int .i64 o)) (cq : w.cell? ⟨q, 0, none⟩ = some (.func (.func k) #[] #[])) :
    Calls Tryz.prog 194 #[.agg #[.int .u64 c, .int .i64 o], .pointer (some ⟨p, 0, none⟩), .pointer (some ⟨q, 0, none⟩)] w fun e w' => e = .returned (.agg #[.int .u64 c', .int .i64 0]) ∧ Touch w w' [] := by
  have hen := L.en
  go_enter Tryz.func194, Tryz.ntmps194
  go_wp2_with fail
  refine (sheld_any c o hc _).mono ?_
  rintro e w1 ⟨rfl, t1⟩
  obtain ⟨L1, L2, T⟩ := made_frame t1
  obtain ⟨a0, a1, _, _⟩ := L1.cells
  obtain ⟨b0, b1, f0, f1⟩ := L2.cells
  have cp1 := (T.cell (p := ⟨p, 0, none⟩) hp (by simp)).trans cp
  have cq1 := (T.cell (p := ⟨q, 0, none⟩) hq (by simp)).trans cq
  have L3 : Hid _ := L2.set c' 0
  have HT : Hid _ := (T.setCell (p := ⟨w.heap.size + 1, 0, none⟩) (.inr (by simp)) (.int .u64 c')).setCell (p := ⟨w.heap.size + 1, 1, none⟩) (.inr (by simp)) (.int .i64 0)
  clear t1 L1 L2 T cp cq
  go_wp2_with fail
  refine (sneed_yes _ _).mono ?_
  rintro e w2 ⟨rfl, rfl⟩
  go_wp2_with fail
  refine (L.calls _).mono ?_
  rintro e w2 ⟨rfl, rfl⟩
  go_wp2
  obtain ⟨z0, z1, _, _⟩ := L3.out.cells
  refine bodyPost_ret (v := .agg #[.int .u64 c', .int .i64 0]) ?_ rfl ⟨rfl, HT.out⟩
  rw [results_cell rfl]
  go_simp

set_option maxRecDepth 100000 in
theorem leave1_free (p q : Nat) (c o owner : Int) (hc : 0 ≤ c) (h2 : ¬ c % 2 = 1) (w : World) (hp : p < w.heap.size)
    (cp : w.cell? ⟨p, 0, none⟩ = some (.int .i64 owner)) :
    Calls Tryz.prog 194 #[.agg #[.int .u64 c, .int .i64 o], .pointer (some ⟨p, 0, none⟩), .pointer (some ⟨q, 0, none⟩)] w (Refuses 8 w) := by
  go_enter Tryz.func194, Tryz.ntmps194
  go_wp2_with fail
  refine (sheld_any c o hc _).mono ?_
  rintro e w1 ⟨rfl, t1⟩
  obtain ⟨L1, L2, T⟩ := made_frame t1
  obtain ⟨a0, a1, _, _⟩ := L1.cells
  have cp1 := (T.cell (p := ⟨p, 0, none⟩) hp (by simp)).trans cp
  clear t1 L1 L2 cp
  go_wp2_with fail
  refine (sneed_no _ _).mono ?_
  rintro e w2 ⟨rfl, t2⟩
  exact ⟨rfl, rfl, T.trans t2 (by simp)⟩

set_option maxRecDepth 100000 in
theorem leave1_other (p q : Nat) (c o owner : Int) (hc : 0 ≤ c) (h2 : c % 2 = 1) (h3 : ¬ o = owner) (w : World) (hp : p < w.heap.size)
    (cp : w.cell? ⟨p, 0, none⟩ = some (.int .i64 owner)) :
    Calls Tryz.prog 194 #[.agg #[.int .u64 c, .int .i64 o], .pointer (some ⟨p, 0, none⟩), .pointer (some ⟨q, 0, none⟩)] w (Refuses 8 w) := by
  have h3' : (o == owner) = false := by simpa using h3
  go_enter Tryz.func194, Tryz.ntmps194
  go_wp2_with fail
  refine (sheld_any c o hc _).mono ?_
  rintro e w1 ⟨rfl, t1⟩
  obtain ⟨L1, L2, T⟩ := made_frame t1
  obtain ⟨a0, a1, _, _⟩ := L1.cells
  have cp1 := (T.cell (p := ⟨p, 0, none⟩) hp (by simp)).trans cp
  clear t1 L1 L2 cp
  go_wp2_with fail
  refine (sneed_no _ _).mono ?_
  rintro e w2 ⟨rfl, t2⟩
  exact ⟨rfl, rfl, T.trans t2 (by simp)⟩

/-- What Unlock and Break come to. -/
def leaveS (s : SLk) (owner c' : Int) : Int × SLk := if s.c % 2 = 1 ∧ s.o = owner then (0, ⟨c', 0⟩) else (8, s)

theorem leave_become (b p q k : Nat) (s : SLk) (owner c' : Int) (hc : 0 ≤ s.c) (L : s.c % 2 = 1 → Leaver k s.c c') (W : World) (h : LObj W b s.c s.o) (hp : p < W.heap.size) (hq : q < W.heap.size)
    (cp : W.cell? ⟨p, 0, none⟩ = some (.int .i64 owner)) (cq : W.cell? ⟨q, 0, none⟩ = some (.func (.func k) #[] #[])) :
    Calls Tryz.prog 102 #[.pointer (some ⟨b, 0, none⟩), .func (.func 194) #[] #[.pointer (some ⟨p, 0, none⟩), .pointer (some ⟨q, 0, none⟩)]] W (SPost b W (leaveS s owner c')) := by
  have hen := enter_of Tryz.func194 (by kernel_rfl) (by kernel_rfl)
  have P := fun (w1 : World) (t : Touch W w1 []) => And.intro (Nat.lt_of_lt_of_le hp t.size) (And.intro (Nat.lt_of_lt_of_le hq t.size) (And.intro ((t.cell (p := ⟨p, 0, none⟩) hp (by simp)).trans cp) ((t.cell (p := ⟨q, 0, none⟩) hq (by simp)).trans cq)))
  unfold leaveS
  by_cases h2 : s.c % 2 = 1
  · by_cases h3 : s.o = owner
    · rw [if_pos ⟨h2, h3⟩]
      subst h3
      refine (become_ok b _ s.c s.o c' 0 _ W h hen (fun _ => True) [] (by simp) (by simp) (fun _ _ _ _ _ _ => trivial) (fun w1 t => ?_)).mono ?_
      · obtain ⟨a, b', c, d⟩ := P w1 t
        refine (leave1_ok p q k s.c c' s.o hc h2 (L h2) w1 a b' c d).mono ?_
        rintro x w' ⟨e, t'⟩
        exact ⟨e, t', trivial⟩
      · rintro x w' ⟨rfl, l, t, _⟩
        exact ⟨rfl, l, t⟩
    · rw [if_neg (fun h => h3 h.2)]
      refine (become_no b _ s.c s.o 8 _ W h hen (fun w1 t => ?_)).mono ?_
      · obtain ⟨a, b', c, d⟩ := P w1 t
        exact leave1_other p q s.c s.o owner hc h2 h3 w1 a c
      · rintro x w' ⟨rfl, t⟩
        exact ⟨rfl, h.touch t (by simp), t.mono (by simp)⟩
  · rw [if_neg (fun h => h2 h.1)]
    refine (become_no b _ s.c s.o 8 _ W h hen (fun w1 t => ?_)).mono ?_
    · obtain ⟨a, b', c, d⟩ := P w1 t
      exact leave1_free p q s.c s.o owner hc h2 w1 a c
    · rintro x w' ⟨rfl, t⟩
      exact ⟨rfl, h.touch t (by simp), t.mono (by simp)⟩

set_option maxRecDepth 100000 in
theorem leave_any (b k : Nat) (s : SLk) (owner c' : Int) (hc : 0 ≤ s.c) (L : s.c % 2 = 1 → Leaver k s.c c') (w : World) (h : LObj w b s.c s.o) :
    Calls Tryz.prog 191 #[.pointer (some ⟨b, 0, none⟩), .int .i64 owner, .func (.func k) #[] #[]] w (SPost b w (leaveS s owner c')) := by
  have hmf : ∀ (fn : Fn) (first cap : Array Value) (w : World), (Instr.makeFunc fn first cap).run Tryz.prog w = .ok (.func fn first cap) w := fun _ _ _ _ => rfl
  have hT : Touch w ((w.alloc (.cells #[.int .i64 owner] 3)).alloc (.cells #[.func (.func k) #[] #[]] 225)) [] := ((Touch.refl w []).alloc _).alloc _
  have hb := leave_become b w.heap.size (w.heap.size + 1) k s owner c' hc L ((w.alloc (.cells #[.int .i64 owner] 3)).alloc (.cells #[.func (.func k) #[] #[]] 225)) (h.touch hT (by simp)) (by simp <;> omega) (by simp <;> omega) (by simp [go_sem]) (by simp [go_sem])
  generalize leaveS s owner c' = R at *
  go_enter Tryz.func191, Tryz.ntmps191
  go_wp2_with fail
  refine hb.mono ?_
  rintro x w1 ⟨rfl, l, t⟩
  clear hb
  go_wp2
  go_ret
  exact ⟨rfl, l, (hT.mono (by simp)).trans t (by simp)⟩

set_option maxRecDepth 100000 in
theorem leave_nil (k : Nat) (owner : Int) (w : World) :
    Calls Tryz.prog 191 #[.pointer none, .int .i64 owner, .func (.func k) #[] #[]] w fun x w' => x = .returned (.int .i64 1) ∧ Touch w w' [] := by
  have hmf : ∀ (fn : Fn) (first cap : Array Value) (w : World), (Instr.makeFunc fn first cap).run Tryz.prog w = .ok (.func fn first cap) w := fun _ _ _ _ => rfl
  go_enter Tryz.func191, Tryz.ntmps191
  go_wp2_with fail
  refine (become_nil _ _ _).mono ?_
  rintro x w1 ⟨rfl, t⟩
  go_wp2
  go_ret
  exact ⟨rfl, (((Touch.refl w []).alloc _).alloc _).trans t (by simp)⟩

set_option maxRecDepth 100000 in
theorem unlock_any (b : Nat) (s : SLk) (owner : Int) (hc : 0 ≤ s.c) (h1 : s.c ≤ 1099511627776) (w : World) (h : LObj w b s.c s.o) :
    Calls Tryz.prog 183 #[.pointer (some ⟨b, 0, none⟩), .int .i64 owner] w (SPost b w (leaveS s owner (s.c + 1))) := by
  have hmf : ∀ (fn : Fn) (first cap : Array Value) (w : World), (Instr.makeFunc fn first cap).run Tryz.prog w = .ok (.func fn first cap) w := fun _ _ _ _ => rfl
  have hb := leave_any b 192 s owner (s.c + 1) hc (fun h2 => ⟨enter_of Tryz.func192 (by kernel_rfl) (by kernel_rfl), unlock1_any s.c (by omega) h1⟩) w h
  generalize leaveS s owner (s.c + 1) = R at *
  go_enter Tryz.func183, Tryz.ntmps183
  go_wp2_with fail
  refine hb.mono ?_
  rintro x w1 ⟨rfl, l, t⟩
  clear hb
  go_wp2
  go_ret
  exact ⟨rfl, l, t⟩

set_option maxRecDepth 100000 in
theorem unlock_nil (owner : Int) (w : World) :
    Calls Tryz.prog 183 #[.pointer none, .int .i64 owner] w fun x w' => x = .returned (.int .i64 1) ∧ Touch w w' [] := by
  have hmf : ∀ (fn : Fn) (first cap : Array Value) (w : World), (Instr.makeFunc fn first cap).run Tryz.prog w = .ok (.func fn first cap) w := fun _ _ _ _ => rfl
  go_enter Tryz.func183, Tryz.ntmps183
  go_wp2_with fail
  refine (leave_nil _ _ _).mono ?_
  rintro x w1 ⟨rfl, t⟩
  go_wp2
  go_ret
  exact ⟨rfl, t⟩


end Go.Proofs.YtlfnmnchhhlhiabGreat.Sq

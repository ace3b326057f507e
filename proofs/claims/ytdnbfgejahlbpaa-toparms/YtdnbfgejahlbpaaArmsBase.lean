/-
  What TopArms asks: Int of a byte; a log and events that go together. Plain data and small contracts.
-/
import Derived.Test.YtdnbfgejahlbpaaHistWrites
import Derived.Test.YtdnbfgejahlbpaaHistEnds
import Derived.Laws.FloatArith
namespace Go.Proofs.Ytdnbfgejahlbpaa
set_option linter.unusedVariables false
set_option linter.unusedSimpArgs false
open Go.RowKit Go.Maps Go.Shelf

theorem vneed_ok (w : World) : Calls Try.prog 19 #[.bool true] w fun e w' => e = .returned (.tuple #[]) ∧ w = w' := by
  go_enter Try.func19, Try.ntmps19
  go_wp2
  go_end0
  exact ⟨rfl, rfl⟩

set_option maxRecDepth 100000 in
theorem vint1_ok (p : Nat) (n : Int) (h0 : -9007199254740992 ≤ n) (h1 : n ≤ 9007199254740992) (w : World) (hc : w.cell? ⟨p, 0, none⟩ = some (.int .i64 n)) :
    Calls Try.prog 18 #[.pointer (some ⟨p, 0, none⟩)] w fun e w' => e = .returned (.int .u64 (ofB (floatOfInt .f64 n))) ∧ Touch w w' [] := by
  go_enter Try.func18, Try.ntmps18
  go_wp2_with fail
  refine (vneed_ok w).mono ?_
  rintro e w1 ⟨rfl, rfl⟩
  go_wp2_with fail
  refine (of_any _ w).mono ?_
  rintro e w1 ⟨rfl, rfl⟩
  go_wp2
  go_ret
  exact ⟨rfl, Touch.refl _ _⟩

theorem catchV_idle (p : Addr) (w : World) (x : Bool) (hc : w.cell? p = some (.bool x)) (hz : w.frozen? p = false) :
    CallsD Try.prog 33 #[.pointer (some p)] .returning w fun e u' w' => e = .returned (.tuple #[]) ∧ u' = .returning ∧ w' = w.setCell p (.bool true) := by
  refine callsD_of_wpS Try.func33 rfl fun c₀ cs hu => ?_
  apply wpS_region
  simp [wpOpsS, go_sem, recoverD, hu, Try.ntmps33, Exit.thenS]
  simp [wpOpsS, go_sem, hc, hz, bodyPostS, results, Try.results33]
  cases c₀
  simp_all

set_option maxRecDepth 100000 in
theorem triedV_ok (k : Nat) (cap : Array Value) (v : Int) (w : World) (hen : ∀ w1, (callFunc k cap).run Try.prog w1 = .ok (.enter k cap) w1) (hw : ∀ w1, Touch w w1 [] → Calls Try.prog k cap w1 fun e w' => e = .returned (.int .u64 v) ∧ Touch w1 w' []) :
    Calls Try.prog 17 #[.func (.func k) #[] cap] w fun e w' => e = .returned (.tuple #[.int .u64 v, .bool true]) ∧ Touch w w' [] := by
  have hmf : ∀ (fn : Fn) (first cap : Array Value) (w : World), (Instr.makeFunc fn first cap).run Try.prog w = .ok (.func fn first cap) w := fun _ _ _ _ => rfl
  go_enter_defers Try.func17, Try.ntmps17
  go_wp2_with fail
  refine (hw _ ((Touch.refl w []).alloc _)).mono ?_
  rintro e w1 ⟨rfl, t1⟩
  have c0 : w1.cell? ⟨w.heap.size, 0, none⟩ = some (.bool false) := (t1.cell (p := ⟨w.heap.size, 0, none⟩) (by simp) (by simp)).trans (by simp [go_sem])
  have f0 : w1.frozen? ⟨w.heap.size, 0, none⟩ = false := (t1.frozen (p := ⟨w.heap.size, 0, none⟩) (by simp) (by simp)).trans (by simp [go_sem])
  have HT : Hid (Touch w w1 []) := ((Touch.refl w []).alloc _).trans t1 (by simp)
  clear t1 hw
  go_wp2
  have c1 : (w1.setCell ⟨w.heap.size, 0, none⟩ (.bool true)).cell? ⟨w.heap.size, 0, none⟩ = some (.bool true) := World.cell?_setCell_same _ _ _ c0
  have f1 : (w1.setCell ⟨w.heap.size, 0, none⟩ (.bool true)).frozen? ⟨w.heap.size, 0, none⟩ = false := by simp [f0]
  have HT1 : Hid (Touch w (w1.setCell ⟨w.heap.size, 0, none⟩ (.bool true)) []) := HT.out.setCell (.inr (Nat.le_refl _)) _
  generalize w1.setCell ⟨w.heap.size, 0, none⟩ (.bool true) = w2 at *
  clear c0 f0 HT
  refine leaves_cons (f := 33) (args := #[.pointer (some ⟨w.heap.size, 0, none⟩)]) (by simp) (by simp [go_sem]) ?_
  refine (catchV_idle ⟨w.heap.size, 0, none⟩ w2 true c1 f1).mono ?_
  rintro e u' w'' ⟨rfl, rfl, rfl⟩
  have c2 : (w2.setCell ⟨w.heap.size, 0, none⟩ (.bool true)).cell? ⟨w.heap.size, 0, none⟩ = some (.bool true) := World.cell?_setCell_same _ _ _ c1
  have HT2 : Hid (Touch w (w2.setCell ⟨w.heap.size, 0, none⟩ (.bool true)) []) := HT1.out.setCell (.inr (Nat.le_refl _)) _
  generalize w2.setCell ⟨w.heap.size, 0, none⟩ (.bool true) = w3 at *
  simp [Leaves, settle, results, Try.results17, go_sem, c2]
  exact HT2.out

/-- Int, of what is not too far from 0. -/
theorem vint_ok (n : Int) (h0 : -9007199254740992 ≤ n) (h1 : n ≤ 9007199254740992) (w : World) :
    Calls Try.prog 8 #[.int .i64 n] w fun e w' => e = .returned (.tuple #[.int .u64 (ofB (floatOfInt .f64 n)), .bool true]) ∧ Touch w w' [] := by
  have hmf : ∀ (fn : Fn) (first cap : Array Value) (w : World), (Instr.makeFunc fn first cap).run Try.prog w = .ok (.func fn first cap) w := fun _ _ _ _ => rfl
  have hc := triedV_ok 18 #[.pointer (some ⟨w.heap.size, 0, none⟩)] (ofB (floatOfInt .f64 n)) (w.alloc (.cells #[.int .i64 n] 3)) (henter_of Try.func18 (by kernel_rfl) (by kernel_rfl))
    (fun w1 t => vint1_ok w.heap.size n h0 h1 w1 ((t.cell (p := ⟨w.heap.size, 0, none⟩) (by simp) (by simp)).trans (by simp [go_sem])))
  generalize ofB (floatOfInt .f64 n) = x at *
  go_enter Try.func8, Try.ntmps8
  go_wp2_with fail
  refine hc.mono ?_
  rintro e w1 ⟨rfl, t1⟩
  clear hc
  go_wp2
  go_ret2
  exact ⟨rfl, ((Touch.refl w []).alloc _).trans t1 (by simp)⟩

theorem byte_wf : ∀ n : Fin 256, ofB (floatOfInt .f64 (n.val : Int)) < 18446744073709551616 := by decide +kernel
theorem byte_val (n : Int) (h : 0 ≤ n ∧ n ≤ 255) : Wf64 (ofB (floatOfInt .f64 n)) := by
  have := byte_wf ⟨n.toNat, by omega⟩
  rw [show (((⟨n.toNat, by omega⟩ : Fin 256).val : Nat) : Int) = n from Int.toNat_of_nonneg h.1] at this
  exact ⟨by omega, by omega⟩

/-! ### A log, and the events that tell of it -/
structure Told (es : List EvD) (Fs : List Fr) : Prop where
  run : ∃ M, runC M0 es = some M ∧ M 2 = some (1, Fs)
  note : noteAll [f0] es = Fs
  two : ∀ e ∈ es, e.a = 2
  wf : ∀ e ∈ es, e.Wf
theorem Told.start : Told [⟨1, 2, 0, 0⟩] [f0] := by
  refine ⟨⟨updF M0 2 (1, [f0]), ?_, updF_same _ _ _⟩, rfl, by simp, ?_⟩
  · have : behindS 0 [] ⟨1, 2, 0, 0⟩ = some (1, [f0]) := by kernel_rfl
    simp [runC, stepC, stC, fsC, this]
  · intro e he
    simp at he
    subst he
    exact ⟨by decide, by decide, by decide, by unfold Wf64; decide⟩
theorem noteAll_app (Fs : List Fr) (l : List EvD) (e : EvD) : noteAll Fs (l ++ [e]) = (noteS (noteAll Fs l) e).2 := by unfold noteAll; rw [List.foldl_append]; rfl
theorem Told.more {es : List EvD} {Fs Gs : List Fr} (h : Told es Fs) (e : EvD) (ha : e.a = 2) (hk : 2 ≤ e.k ∧ e.k ≤ 6) (hn : namedS e = true) (ho : noteS Fs e = (0, Gs)) (hw : e.Wf) : Told (es ++ [e]) Gs := by
  obtain ⟨M, hM, h2⟩ := h.run
  have hb : behindS 1 Fs e = some (1, Gs) := by
    unfold behindS
    rw [if_neg (by rw [hn]; simp), if_neg (by omega), if_pos hk, ho]
    simp
  refine ⟨⟨updF M 2 (1, Gs), ?_, updF_same _ _ _⟩, by rw [noteAll_app, h.note, ho], ?_, ?_⟩
  · rw [runC_app, hM]
    have hst : stC M e.a = 1 := by unfold stC; rw [ha, h2]; rfl
    have hfs : fsC M e.a = Fs := by unfold fsC; rw [ha, h2]; rfl
    simp only [Option.bind_some, runC]
    unfold stepC
    rw [if_pos (by rw [ha]; decide), hst, hfs, hb, ha]
    rfl
  · intro x hx
    rw [List.mem_append] at hx
    rcases hx with hx | hx
    · exact h.two x hx
    · simp at hx; rw [hx]; exact ha
  · intro x hx
    rw [List.mem_append] at hx
    rcases hx with hx | hx
    · exact h.wf x hx
    · simp at hx; rw [hx]; exact hw
theorem Told.cut {es : List EvD} {Fs : List Fr} (h : Told es Fs) : cutS 2 es = es := List.filter_eq_self.2 (fun e he => by simp [h.two e he])
theorem Told.right {es : List EvD} {Fs : List Fr} (h : Told es Fs) (hl : es.length ≤ 400) : rightS es = true := by
  obtain ⟨M, hM, _⟩ := h.run
  unfold rightS
  rw [show runC (fun _ => none) es = some M from hM]
  simp [hl]
theorem Told.state {es : List EvD} {Fs : List Fr} (h : Told es Fs) : stateS es 2 = 1 := by
  obtain ⟨M, hM, h2⟩ := h.run
  have := state_run es.length (Nat.le_refl _) (by rw [List.take_length]; exact hM) 2
  rw [List.take_length] at this
  rw [← this]
  unfold stC
  rw [h2]
  rfl

/-- What has an error changes nothing. -/
theorem push_err {Fs : List Fr} (h : (pushS Fs).1 ≠ 0) : (pushS Fs).2 = Fs := by unfold pushS at h ⊢; split <;> simp_all
theorem drop_err {Fs : List Fr} (h : (dropS Fs).1 ≠ 0) : (dropS Fs).2 = Fs := by
  match Fs, h with
  | [], _ => rfl
  | [f], _ => rfl
  | f :: g :: r, h => exact absurd rfl h
theorem merge_err {Fs : List Fr} (h : (mergeS Fs).1 ≠ 0) : (mergeS Fs).2 = Fs := by
  match Fs, h with
  | [], _ => rfl
  | [f], _ => rfl
  | f :: g :: r, h => exact absurd rfl h
theorem put_err {Fs : List Fr} {t v : Int} (h : (putS Fs t v).1 ≠ 0) : (putS Fs t v).2 = Fs := by
  cases Fs with
  | nil => rfl
  | cons f r =>
    unfold putS at h ⊢
    dsimp only at h ⊢
    by_cases h1 : ¬ (0 ≤ t ∧ t < 12)
    · rw [if_pos h1]
    · rw [if_neg h1] at h ⊢
      by_cases h2 : rightB v = false
      · rw [if_pos h2]
      · rw [if_neg h2] at h ⊢
        by_cases h3 : (fget f t).isSome = false ∧ 16 ≤ lenF (f :: r)
        · rw [if_pos h3]
        · rw [if_neg h3] at h
          exact absurd rfl h
theorem put_right {Fs : List Fr} {t v : Int} (hne : Fs ≠ []) (h : (putS Fs t v).1 = 0) : rightB v = true ∧ 0 ≤ t ∧ t < 12 := by
  cases Fs with
  | nil => exact absurd rfl hne
  | cons f r =>
    unfold putS at h
    dsimp only at h
    split at h
    · simp at h
    · rename_i h0
      split at h
      · simp at h
      · rename_i h1
        exact ⟨by simpa using h1, by omega, by omega⟩

theorem PLog.untypedA {B : Nat} {w : World} {b : Nat} {ch : List (Nat × Nat)} {Fs : List Fr} (h : PLog B w b ch Fs) {T : TypeId} (h1 : T ≠ 52) (h2 : T ≠ 50) :
    ∀ x ∈ pfoot b ch, ∀ (cs : Array Value) (fr : Nat × Nat), w.heap[x]? ≠ some (Obj.cells cs T fr) := by
  intro x hx cs fr e
  simp only [pfoot, List.mem_cons, List.mem_append, List.mem_map] at hx
  rcases hx with rfl | ⟨p, hp, rfl⟩ | ⟨p, hp, rfl⟩
  · rw [h.st] at e; cases e; exact h1 rfl
  · obtain ⟨i, hi, rfl⟩ := List.getElem_of_mem hp
    have := h.nodes i hi
    rw [this] at e
    simp only [nodeC, Option.some.injEq, Obj.cells.injEq] at e
    exact h2 e.2.1.symm
  · obtain ⟨i, hi, rfl⟩ := List.getElem_of_mem hp
    obtain ⟨es, c, hm⟩ := (h.fr i hi (by rw [← h.len]; exact hi)).isMap
    rw [hm] at e
    cases e
/-- The events' row is kept where the log is written. -/
theorem evOwn.log {W W' : World} {B B' : Nat} {v : Value} {l : List EvD} {b : Nat} {ch : List (Nat × Nat)} {Fs : List Fr} (h : evOwn W B v l) (hp : PLog B' W b ch Fs) (t : Touch W W' (pfoot b ch)) : evOwn W' B v l := by
  refine ownsRow_touch h t (fun k hk hs => ?_)
  rcases h.2 with ⟨rfl, _⟩ | ⟨g, cap, cur, rfl, _, hg, _⟩
  · simp [Value.ownBlock] at hk
  · obtain rfl : g = k := by simpa [Value.ownBlock] using hk
    exact hp.untypedA (T := 29) (by decide) (by decide) g hs _ _ hg

end Go.Proofs.Ytdnbfgejahlbpaa

/-
  package history: EVENTS AS PLAIN DATA; need, reached, needNamed, note BY THEIR CONTRACTS.
-/
import Derived.Test.YtjacclbifeoclaaWritesOps
import Derived.Test.YtjacclbifeoclaaIntMap
namespace Go.Proofs.Ytjacclbifeoclaa
set_option linter.unusedVariables false
set_option linter.unusedSimpArgs false
open Go.RowKit Go.Maps
attribute [local go_sem] Oper.semAt_some

/-- An event: its kind, its attempt, its variable, its value. -/
structure EvD where
  k : Int
  a : Int
  t : Int
  v : Int
def EvD.cells (e : EvD) : List Value := [.int .u8 e.k, .int .i64 e.a, .int .i64 e.t, .int .u64 e.v]
abbrev EvD.val (e : EvD) : Value := .agg #[.int .u8 e.k, .int .i64 e.a, .int .i64 e.t, .int .u64 e.v]
abbrev EvD.obj (e : EvD) : Obj := .cells #[.int .u8 e.k, .int .i64 e.a, .int .i64 e.t, .int .u64 e.v] 51 (0, 0)
structure EvD.Wf (e : EvD) : Prop where
  k : 0 ≤ e.k ∧ e.k ≤ 255
  a : W64 e.a
  t : W64 e.t
  v : Wf64 e.v

/-- It gives up. -/
def GaveUp (e : Ending) : Prop := e = .panicked [{ v := .iface 94 (.agg #[]), recovered := false }]

theorem hneed_yes (w : World) : Calls Try.prog 36 #[.bool true] w fun e w' => e = .returned (.tuple #[]) ∧ w = w' := by
  go_enter Try.func36, Try.ntmps36
  go_wp2
  go_end0
  exact ⟨rfl, rfl⟩
theorem hneed_no (w : World) : Calls Try.prog 36 #[.bool false] w fun e w' => GaveUp e ∧ w = w' := by
  go_enter Try.func36, Try.ntmps36
  go_wp2
  exact ⟨rfl, rfl, rfl⟩

/-- How far one is behind an event. -/
def reachS (k was : Int) : Int := if k = 7 then 2 else if k = 8 then 3 else if k = 9 then 4 else was
theorem reached_any (e : EvD) (was : Int) (w : World) : Calls Try.prog 59 #[e.val, .int .u8 was] w fun x w' => x = .returned (.int .u8 (reachS e.k was)) ∧ Touch w w' [] := by
  obtain ⟨k, a, t, v⟩ := e
  unfold reachS EvD.val
  simp only
  by_cases h7 : k = 7
  · subst h7
    go_enter Try.func59, Try.ntmps59
    go_wp2
    go_ret
    exact ⟨rfl, (Touch.refl _ _).alloc _⟩
  · by_cases h8 : k = 8
    · subst h8
      go_enter Try.func59, Try.ntmps59
      go_wp2
      go_ret
      exact ⟨rfl, (Touch.refl _ _).alloc _⟩
    · by_cases h9 : k = 9
      · subst h9
        go_enter Try.func59, Try.ntmps59
        go_wp2
        go_ret
        exact ⟨rfl, (Touch.refl _ _).alloc _⟩
      · rw [if_neg h7, if_neg h8, if_neg h9]
        go_enter Try.func59, Try.ntmps59
        go_wp2
        go_ret
        exact ⟨rfl, (Touch.refl _ _).alloc _⟩

/-- What an event does to a log. -/
def noteS (Fs : List Fr) (e : EvD) : Int × List Fr := if e.k = 3 then putS Fs e.t e.v else if e.k = 4 then pushS Fs else if e.k = 5 then dropS Fs else if e.k = 6 then mergeS Fs else (0, Fs)

set_option maxRecDepth 100000 in
theorem note_any {B : Nat} {w : World} {b : Nat} {ch : List (Nat × Nat)} {Fs : List Fr} (h : PLog B w b ch Fs) (e : EvD) (he : e.Wf) : Calls Try.prog 57 #[ptr b, e.val] w (OpPost B w b ch (noteS Fs e)) := by
  obtain ⟨k, a, t, v⟩ := e
  obtain ⟨_, _, ht, hv⟩ := he
  have tt := (Touch.refl w []).alloc (EvD.obj ⟨k, a, t, v⟩)
  have h1 := h.touch tt
  unfold noteS EvD.val
  unfold EvD.obj at h1 tt
  simp only at h1 tt ht hv ⊢
  by_cases h3 : k = 3
  · subst h3
    rw [if_pos rfl]
    have c := put_any h1 t v ht hv
    have HT : Hid _ := tt
    clear h h1 tt
    generalize putS Fs t v = res at *
    go_enter Try.func57, Try.ntmps57
    go_wp2_with fail
    refine c.mono ?_
    intro x w1 hp
    obtain ⟨ch', rfl, p1, t1, x1⟩ := hp.after HT.out
    clear c hp
    go_wp2
    go_ret
    exact ⟨ch', rfl, p1, t1, x1⟩
  · rw [if_neg h3]
    by_cases h4 : k = 4
    · subst h4
      rw [if_pos rfl]
      have c := push_any h1
      have HT : Hid _ := tt
      clear h h1 tt
      generalize pushS Fs = res at *
      go_enter Try.func57, Try.ntmps57
      go_wp2_with fail
      refine c.mono ?_
      intro x w1 hp
      obtain ⟨ch', rfl, p1, t1, x1⟩ := hp.after HT.out
      clear c hp
      go_wp2
      go_ret
      exact ⟨ch', rfl, p1, t1, x1⟩
    · rw [if_neg h4]
      by_cases h5 : k = 5
      · subst h5
        rw [if_pos rfl]
        have c := drop_any h1
        have HT : Hid _ := tt
        clear h h1 tt
        generalize dropS Fs = res at *
        go_enter Try.func57, Try.ntmps57
        go_wp2_with fail
        refine c.mono ?_
        intro x w1 hp
        obtain ⟨ch', rfl, p1, t1, x1⟩ := hp.after HT.out
        clear c hp
        go_wp2
        go_ret
        exact ⟨ch', rfl, p1, t1, x1⟩
      · rw [if_neg h5]
        by_cases h6 : k = 6
        · subst h6
          rw [if_pos rfl]
          have c := merge_any h1
          have HT : Hid _ := tt
          clear h h1 tt
          generalize mergeS Fs = res at *
          go_enter Try.func57, Try.ntmps57
          go_wp2_with fail
          refine c.mono ?_
          intro x w1 hp
          obtain ⟨ch', rfl, p1, t1, x1⟩ := hp.after HT.out
          clear c hp
          go_wp2
          go_ret
          exact ⟨ch', rfl, p1, t1, x1⟩
        · rw [if_neg h6]
          have HQ : Hid _ := h
          have HT : Hid _ := tt
          clear h h1 tt
          go_enter Try.func57, Try.ntmps57
          go_wp2
          go_ret
          exact HQ.out.stays HT.out 0

/-- Whether the variable and the value can be those of its kind. -/
def namedS (e : EvD) : Bool := (decide (e.k = 2) || decide (e.k = 3) || (decide (e.t = 0) && decide (e.v = 0))) && (decide (0 ≤ e.t) && decide (e.t < 12) && rightB e.v)

/-- A world as it was, or where it gave up. -/
def NeedE (ok : Bool) (w : World) (x : Ending) (w' : World) : Prop := (if ok then x = .returned (.tuple #[]) else GaveUp x) ∧ Touch w w' []

theorem NeedE.yes {ok : Bool} {w w' : World} (h : ok = true) (t : Touch w w' []) : NeedE ok w (.returned (.tuple #[])) w' := ⟨by rw [if_pos h], t⟩
theorem NeedE.no {ok : Bool} {w w' : World} {x : Ending} (h : ok = false) (hx : GaveUp x) (t : Touch w w' []) : NeedE ok w x w' := ⟨by rw [if_neg (by rw [h]; simp)]; exact hx, t⟩

theorem hneed_any (ok : Bool) (w : World) : Calls Try.prog 36 #[.bool ok] w (NeedE ok w) := by
  cases ok
  · exact (hneed_no w).mono (by rintro e w1 ⟨h, rfl⟩; exact ⟨h, Touch.refl _ _⟩)
  · exact (hneed_yes w).mono (by rintro e w1 ⟨h, rfl⟩; exact ⟨h, Touch.refl _ _⟩)

set_option maxRecDepth 100000 in
set_option maxHeartbeats 1000000 in
theorem named_any (e : EvD) (he : e.Wf) (w : World) : Calls Try.prog 55 #[e.val] w (NeedE (namedS e) w) := by
  obtain ⟨k, a, t, v⟩ := e
  obtain ⟨_, _, ht, hv⟩ := he
  have HT : Hid (Touch w (w.alloc (EvD.obj ⟨k, a, t, v⟩)) []) := (Touch.refl w []).alloc _
  have key : ∃ ok, ok = namedS ⟨k, a, t, v⟩ := ⟨_, rfl⟩
  obtain ⟨ok, hok⟩ := key
  rw [← hok]
  have HK : Hid _ := hok
  clear hok
  unfold EvD.val
  unfold EvD.obj at HT
  simp only at HT ht hv ⊢
  have hr := right_any v
  by_cases h2 : k = 2
  · subst h2
    go_enter Try.func55, Try.ntmps55
    go_wp2_with fail
    refine (hneed_yes _).mono ?_
    rintro x w1 ⟨rfl, rfl⟩
    by_cases h0 : 0 ≤ t
    · by_cases h12 : t < 12
      · go_wp2_with fail
        refine (hr _).mono ?_
        rintro x w1 ⟨rfl, rfl⟩
        cases hq : rightB v with
        | false =>
          go_wp2_with fail
          refine (hneed_no _).mono ?_
          rintro x w1 ⟨rfl, rfl⟩
          exact ⟨rfl, NeedE.no (by rw [HK.out]; simp [namedS, hq]) rfl HT.out⟩
        | true =>
          go_wp2_with fail
          refine (hneed_yes _).mono ?_
          rintro x w1 ⟨rfl, rfl⟩
          go_wp2
          go_end0
          exact NeedE.yes (by rw [HK.out]; simp [namedS, h0, h12, hq]) HT.out
      · go_wp2_with fail
        refine (hneed_no _).mono ?_
        rintro x w1 ⟨rfl, rfl⟩
        exact ⟨rfl, NeedE.no (by rw [HK.out]; unfold namedS; simp only [decide_eq_false (show ¬ t < 12 by omega)]; simp) rfl HT.out⟩
    · have h0' : decide (0 ≤ t) = false := decide_eq_false h0
      go_wp2_with fail
      refine (hneed_no _).mono ?_
      rintro x w1 ⟨rfl, rfl⟩
      exact ⟨rfl, NeedE.no (by rw [HK.out]; unfold namedS; simp only [decide_eq_false (show ¬ 0 ≤ t by omega)]; simp) rfl HT.out⟩
  · by_cases h3 : k = 3
    · subst h3
      go_enter Try.func55, Try.ntmps55
      go_wp2_with fail
      refine (hneed_yes _).mono ?_
      rintro x w1 ⟨rfl, rfl⟩
      by_cases h0 : 0 ≤ t
      · by_cases h12 : t < 12
        · go_wp2_with fail
          refine (hr _).mono ?_
          rintro x w1 ⟨rfl, rfl⟩
          cases hq : rightB v with
          | false =>
            go_wp2_with fail
            refine (hneed_no _).mono ?_
            rintro x w1 ⟨rfl, rfl⟩
            exact ⟨rfl, NeedE.no (by rw [HK.out]; simp [namedS, hq]) rfl HT.out⟩
          | true =>
            go_wp2_with fail
            refine (hneed_yes _).mono ?_
            rintro x w1 ⟨rfl, rfl⟩
            go_wp2
            go_end0
            exact NeedE.yes (by rw [HK.out]; simp [namedS, h0, h12, hq]) HT.out
        · go_wp2_with fail
          refine (hneed_no _).mono ?_
          rintro x w1 ⟨rfl, rfl⟩
          exact ⟨rfl, NeedE.no (by rw [HK.out]; unfold namedS; simp only [decide_eq_false (show ¬ t < 12 by omega)]; simp) rfl HT.out⟩
      · have h0' : decide (0 ≤ t) = false := decide_eq_false h0
        go_wp2_with fail
        refine (hneed_no _).mono ?_
        rintro x w1 ⟨rfl, rfl⟩
        exact ⟨rfl, NeedE.no (by rw [HK.out]; unfold namedS; simp only [decide_eq_false (show ¬ 0 ≤ t by omega)]; simp) rfl HT.out⟩
    · by_cases ht0 : t = 0
      · by_cases hv0 : v = 0
        · subst ht0 hv0
          have hr0 : rightB 0 = true := by decide
          rw [hr0] at hr
          go_enter Try.func55, Try.ntmps55
          go_wp2_with fail
          refine (hneed_yes _).mono ?_
          rintro x w1 ⟨rfl, rfl⟩
          go_wp2_with fail
          refine (hr _).mono ?_
          rintro x w1 ⟨rfl, rfl⟩
          go_wp2_with fail
          refine (hneed_yes _).mono ?_
          rintro x w1 ⟨rfl, rfl⟩
          go_wp2
          go_end0
          exact NeedE.yes (by rw [HK.out]; simp [namedS, hr0]) HT.out
        · subst ht0
          have e2 : (k == 2) = false := by simpa using h2
          have e3 : (k == 3) = false := by simpa using h3
          have e4 : (v == 0) = false := by simpa using hv0
          go_enter Try.func55, Try.ntmps55
          go_wp2_with fail
          refine (hneed_no _).mono ?_
          rintro x w1 ⟨rfl, rfl⟩
          exact ⟨rfl, NeedE.no (by rw [HK.out]; simp [namedS, h2, h3, hv0]) rfl HT.out⟩
      · have e2 : (k == 2) = false := by simpa using h2
        have e3 : (k == 3) = false := by simpa using h3
        have e4 : (t == 0) = false := by simpa using ht0
        go_enter Try.func55, Try.ntmps55
        go_wp2_with fail
        refine (hneed_no _).mono ?_
        rintro x w1 ⟨rfl, rfl⟩
        exact ⟨rfl, NeedE.no (by rw [HK.out]; simp [namedS, h2, h3, ht0]) rfl HT.out⟩

end Go.Proofs.Ytjacclbifeoclaa

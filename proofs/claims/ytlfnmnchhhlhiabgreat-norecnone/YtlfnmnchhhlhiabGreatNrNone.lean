/-
  NorecNone: A NIL ENGINE, VALUES THAT MAY NOT BE.
-/
import Derived.Test.YtlfnmnchhhlhiabGreatNrLive
import Derived.Test.YtlfnmnchhhlhiabGreatRowApp
namespace Go.Proofs.YtlfnmnchhhlhiabGreat.Nr
set_option linter.unusedVariables false
set_option linter.unusedSimpArgs false
open Go.RowKit Go.Maps

theorem thread_nil (th : Int) (w : World) : Calls Tryz.prog 59 #[.pointer none, .int .i64 th] w fun x w' => x = .returned (.tuple #[.pointer none, .int .i64 1]) ∧ w = w' := by
  go_enter Tryz.func59, Tryz.ntmps59
  go_wp2
  go_ret2
  exact ⟨rfl, rfl⟩

theorem begin_nil (th : Int) (w : World) : Calls Tryz.prog 11 #[.pointer none, .int .i64 th] w fun x w' => x = .returned (.tuple #[.int .i64 0, .int .i64 1]) ∧ w = w' := by
  go_enter Tryz.func11, Tryz.ntmps11
  go_wp2_with fail
  refine (thread_nil th _).mono ?_
  rintro x w3 ⟨rfl, rfl⟩
  go_wp2
  go_ret2
  exact ⟨rfl, rfl⟩
theorem attempt_nil (th : Int) (w : World) : Calls Tryz.prog 12 #[.pointer none, .int .i64 th] w fun x w' => x = .returned (.tuple #[.int .i64 0, .bool false]) ∧ w = w' := by
  go_enter Tryz.func12, Tryz.ntmps12
  go_wp2_with fail
  refine (thread_nil th _).mono ?_
  rintro x w3 ⟨rfl, rfl⟩
  go_wp2
  go_ret2
  exact ⟨rfl, rfl⟩
theorem kill_nil (th : Int) (w : World) : Calls Tryz.prog 16 #[.pointer none, .int .i64 th] w fun x w' => x = .returned (.int .i64 1) ∧ w = w' := by
  go_enter Tryz.func16, Tryz.ntmps16
  go_wp2_with fail
  refine (thread_nil th _).mono ?_
  rintro x w3 ⟨rfl, rfl⟩
  go_wp2
  go_ret
  exact ⟨rfl, rfl⟩
theorem reads_nil (th : Int) (w : World) : Calls Tryz.prog 22 #[.pointer none, .int .i64 th] w fun x w' => x = .returned (.slice none 0 0) ∧ w = w' := by
  go_enter Tryz.func22, Tryz.ntmps22
  go_wp2_with fail
  refine (thread_nil th _).mono ?_
  rintro x w3 ⟨rfl, rfl⟩
  go_wp2
  go_ret
  exact ⟨rfl, rfl⟩
theorem writes_nil (th : Int) (w : World) : Calls Tryz.prog 23 #[.pointer none, .int .i64 th] w fun x w' => x = .returned (.slice none 0 0) ∧ w = w' := by
  go_enter Tryz.func23, Tryz.ntmps23
  go_wp2_with fail
  refine (thread_nil th _).mono ?_
  rintro x w3 ⟨rfl, rfl⟩
  go_wp2
  go_ret
  exact ⟨rfl, rfl⟩
theorem valid_nil (th : Int) (w : World) : Calls Tryz.prog 25 #[.pointer none, .int .i64 th] w fun x w' => x = .returned (.bool false) ∧ w = w' := by
  go_enter Tryz.func25, Tryz.ntmps25
  go_wp2_with fail
  refine (thread_nil th _).mono ?_
  rintro x w3 ⟨rfl, rfl⟩
  go_wp2
  go_ret
  exact ⟨rfl, rfl⟩
theorem heap_nil (w : World) : Calls Tryz.prog 17 #[.pointer none] w fun x w' => x = .returned (.slice none 0 0) ∧ w = w' := by
  go_enter Tryz.func17, Tryz.ntmps17
  go_wp2
  go_ret
  exact ⟨rfl, rfl⟩
theorem events_nil (w : World) : Calls Tryz.prog 18 #[.pointer none] w fun x w' => x = .returned (.slice none 0 0) ∧ w = w' := by
  go_enter Tryz.func18, Tryz.ntmps18
  go_wp2
  go_ret
  exact ⟨rfl, rfl⟩
theorem order_nil (w : World) : Calls Tryz.prog 19 #[.pointer none] w fun x w' => x = .returned (.slice none 0 0) ∧ w = w' := by
  go_enter Tryz.func19, Tryz.ntmps19
  go_wp2
  go_ret
  exact ⟨rfl, rfl⟩
theorem decided_nil (w : World) : Calls Tryz.prog 20 #[.pointer none] w fun x w' => x = .returned (.slice none 0 0) ∧ w = w' := by
  go_enter Tryz.func20, Tryz.ntmps20
  go_wp2
  go_ret
  exact ⟨rfl, rfl⟩
theorem why_nil (n : Int) (w : World) : Calls Tryz.prog 21 #[.pointer none, .int .i64 n] w fun x w' => x = .returned (.int .u8 0) ∧ w = w' := by
  go_enter Tryz.func21, Tryz.ntmps21
  go_wp2
  go_ret
  exact ⟨rfl, rfl⟩
theorem holds_nil (n : Int) (w : World) : Calls Tryz.prog 24 #[.pointer none, .int .i64 n] w fun x w' => x = .returned (.bool false) ∧ w = w' := by
  go_enter Tryz.func24, Tryz.ntmps24
  go_wp2
  go_ret
  exact ⟨rfl, rfl⟩
theorem clock_nil (w : World) : Calls Tryz.prog 26 #[.pointer none] w fun x w' => x = .returned (.int .u64 0) ∧ w = w' := by
  go_enter Tryz.func26, Tryz.ntmps26
  go_wp2
  go_ret
  exact ⟨rfl, rfl⟩
theorem fork_nil (w : World) : Calls Tryz.prog 7 #[.pointer none] w fun x w' => x = .returned (.pointer none) ∧ w = w' := by
  go_enter Tryz.func7, Tryz.ntmps7
  go_wp2
  go_ret
  exact ⟨rfl, rfl⟩

theorem ask_nil (th : Int) (a : AskD) (w : World) : Calls Tryz.prog 14 #[.pointer none, .int .i64 th, a.val] w fun x w' => x = .returned (.int .i64 1) ∧ Touch w w' [] := by
  have HT : Hid (Touch w (w.alloc (askC a)) []) := (Touch.refl w []).alloc _
  obtain ⟨ak, at', av⟩ := a
  simp only [AskD.val]
  go_enter Tryz.func14, Tryz.ntmps14
  go_wp2_with fail
  refine (thread_nil th _).mono ?_
  rintro x w3 ⟨rfl, rfl⟩
  go_wp2
  go_ret
  exact ⟨rfl, HT.out⟩

theorem step_nil (th : Int) (w : World) : Calls Tryz.prog 15 #[.pointer none, .int .i64 th] w fun x w' => x = .returned (.agg #[.bool false, .int .u64 0, .bool false, .int .i64 0, .bool false, .int .u8 0, .int .i64 1]) ∧ Touch w w' [] := by
  have sl : Slot (w.alloc (rpC rp0)) w.heap.size := Slot.new w
  have HTH : Hid (World.there (w.alloc (rpC rp0)) w.heap.size 0 (rpL { rp0 with err := 1 }).toArray.size) := sl.there _
  have HT : Hid (∀ W3, W3 = (w.alloc (rpC rp0)).setCells w.heap.size 0 (rpL { rp0 with err := 1 }) → W3.rangeAt w.heap.size 0 (rpL { rp0 with err := 1 }) ∧ Touch w W3 []) := by
    rintro W3 rfl
    exact ⟨World.rangeAt_setCells_same _ _ _ _ (sl.there _), ((Touch.refl w []).alloc _).trans (setCells_touch w.heap.size (rpL { rp0 with err := 1 }) 0 (w.alloc (rpC rp0))) (by intro x hx; simp at hx; omega)⟩
  clear sl
  go_enter Tryz.func15, Tryz.ntmps15
  go_wp2_with fail
  refine (thread_nil th _).mono ?_
  rintro x w3 ⟨rfl, rfl⟩
  go_wp2_with (refine wpList_store_mid rfl 51 _ _ rfl w.heap.size 0 (rpL { rp0 with err := 1 }).toArray rfl rfl HTH.out Tryz.size_reply (rp_one _) ?_; refine wpList_name fun W3 hW3 => ?_; obtain ⟨g1, g2⟩ := HT.out W3 hW3; clear hW3)
  refine bodyPost_ret (v := RpD.val' { rp0 with err := 1 }) (Slot.load g1 _ rfl rfl) rfl ?_
  exact ⟨rfl, g2⟩

theorem res_cell_tmp {fn : Func} {p q : Tmp} {ty : TypeId} (h : fn.results = #[.cell p ty, .tmp q]) (tmps : Array Value) (P : Program) (w : World) {v : Value} {a : Addr} (hp : tmps.getD p undef = .pointer (some a)) (hl : (loadVar ty a).run P w = .ok v w) :
    (results fn tmps).run P w = .ok (.tuple #[v, tmps.getD q undef]) w := by
  rw [Array.getD_eq_getD_getElem?] at hp
  simp only [results, h]
  simp [Sem.run_bind, Result.andThen, hp, asAddr, hl]
theorem Tryz.size_ask : (Tryz.prog.info? 35).map (·.size) = some 3 := by kernel_rfl
theorem ask_load (w : World) : (loadVar 35 ⟨w.heap.size, 0, none⟩).run Tryz.prog (w.alloc (.cells #[.int .u8 0, .int .i64 0, .int .u64 0] 35)) = .ok (.agg #[.int .u8 0, .int .i64 0, .int .u64 0]) (w.alloc (.cells #[.int .u8 0, .int .i64 0, .int .u64 0] 35)) := by
  have h := World.rangeAt_of_block (heap_alloc_new w (.cells #[.int .u8 0, .int .i64 0, .int .u64 0] 35)) 0 3
  exact run_loadVar_mid (P := Tryz.prog) _ w.heap.size 0 35 [.int .u8 0, .int .i64 0, .int .u64 0] _ h Tryz.underlying35 rfl Tryz.size_ask

theorem asked_nil (th : Int) (w : World) : Calls Tryz.prog 13 #[.pointer none, .int .i64 th] w fun x w' => x = .returned (.tuple #[.agg #[.int .u8 0, .int .i64 0, .int .u64 0], .bool false]) ∧ Touch w w' [] := by
  go_enter Tryz.func13, Tryz.ntmps13
  go_wp2_with fail
  refine (thread_nil th _).mono ?_
  rintro x w3 ⟨rfl, rfl⟩
  go_wp2
  refine bodyPost_ret (res_cell_tmp (p := 4) (q := 5) (ty := 35) rfl _ _ _ rfl (ask_load w)) rfl ?_
  exact ⟨rfl, (Touch.refl w []).alloc _⟩

/-! ### Values that may be, or not -/
abbrev VRow0 := SRow 1 (fun x : Int => [Value.int .u64 x])
theorem VRow0.one {w : World} {ao : Option Addr} {cap : Nat} {l : List Int} (h : VRow0 w (.slice ao l.length cap) l) (k : Nat) (hk : k < l.length) :
    ∃ g off, ao = some ⟨g, off, none⟩ ∧ g < w.heap.size ∧ w.cell? ⟨g, off + k, none⟩ = some (.int .u64 l[k]) := by
  obtain ⟨g, off, e, hlt, hc⟩ := h.at k hk
  exact ⟨g, off, e, hlt, by simpa using hc 0 (by omega)⟩
theorem flat_one' (l : List Int) : l.flatMap (fun x : Int => [Value.int .u64 x]) = l.map (Value.int .u64) := by
  induction l with
  | nil => rfl
  | cons x l ih => simp [List.flatMap_cons, ih]

set_option maxRecDepth 100000 in
set_option maxHeartbeats 1000000 in
theorem gclone_any {w : World} {a : Addr} {cap : Nat} {l : List Int} (hr : VRow0 w (.slice (some a) l.length cap) l) (hl : l.length ≤ 100000) :
    Calls Tryz.prog 32 #[.slice (some a) l.length cap] w (RowPost w 33 1 l.length (l.map (Value.int .u64))) := by
  have hq := vclone_eqNil
  have t0 := (Touch.refl w []).alloc (.cells #[] 33)
  obtain ⟨i0, hi, hz0, hz1, hz2⟩ := info_parts Tryz.info_val
  obtain ⟨v', w2, h1, h2, h3, h4⟩ := run_app (P := Tryz.prog) (cells := fun x : Int => [Value.int .u64 x]) 40 40 33 i0 _ 1 8 Tryz.underlying40 hi hz0 hz1 hz2 rfl (by decide) (fun _ => rfl) (by simp [Value.oneCell']) (empty_row w 33 1) (SRow.keep hr t0 (by simp)) (by omega) (by decide) (by simp)
  rw [Nat.zero_add, List.nil_append, flat_one'] at h2
  have HT : Hid (Touch w w2 []) := t0.grown h3 (by intro k hk; cases hk; exact .inr (Nat.le_refl _))
  obtain ⟨ao', cap', rfl⟩ := own_slice h2
  have H2 : Hid _ := h2
  clear hr h2 h3 t0 h4
  generalize hn : l.length = n at h1 ⊢
  have HN : Hid _ := hn
  clear hn hl
  go_enter Tryz.func32, Tryz.ntmps32
  go_wp2_with (at_builtin; refine Lib.wpList_append_run _ rfl _ _ _ _ rfl _ _ rfl rfl _ _ h1 ?_)
  go_ret
  refine ⟨_, rfl, ?_, HT.out⟩
  have := H2.out
  rw [HN.out] at this
  show World.ownsRow _ _ _ _ _ _ _
  exact this

def newOk (l : List Int) : Bool := decide (1 ≤ l.length ∧ l.length ≤ 12) && l.all rightB
/-- An engine, or none. -/
def GPost (w : World) (b : Bool) (x : Ending) (w' : World) : Prop := Touch w w' [] ∧ ∃ p, x = .returned (.pointer p) ∧ p.isSome = b

set_option maxRecDepth 100000 in
set_option maxHeartbeats 2000000 in
theorem new_gen {w : World} {ao : Option Addr} {cap : Nat} {l : List Int} (hr : VRow0 w (.slice ao l.length cap) l) (hm : l.length ≤ maxLen) :
    Calls Tryz.prog 27 #[.slice ao l.length cap] w (GPost w (newOk l)) := by
  by_cases h12 : 1 ≤ l.length ∧ l.length ≤ 12
  · have hao : ∃ a, ao = some a := by obtain ⟨g, off, e, _⟩ := hr.at 0 h12.1; exact ⟨_, e⟩
    obtain ⟨a, rfl⟩ := hao
    have CL := HidC.mk (gclone_any hr (by omega))
    have HC : Hid (∀ k (hk : k < l.length), ∃ g off, a = ⟨g, off, none⟩ ∧ w.cell? ⟨g, off + k, none⟩ = some (.int .u64 l[k])) := fun k hk => by
      obtain ⟨g, off, e, _, hc⟩ := VRow0.one hr k hk
      cases e
      exact ⟨g, off, rfl, hc⟩
    obtain ⟨n, hn⟩ : ∃ n, n = l.length := ⟨_, rfl⟩
    have HN : Hid _ := hn
    obtain ⟨res, hres⟩ : ∃ r, r = newOk l := ⟨_, rfl⟩
    have HRES : Hid _ := hres
    rw [← hres]
    rw [← hn] at CL h12 ⊢
    have h1' : ¬ (n : Int) < 1 := by omega
    have h12' : ¬ (12 : Int) < n := by omega
    clear hr hn hres hm
    go_enter Tryz.func27, Tryz.ntmps27
    go_wp2_with fail
    go_loopw [15] (fun i wr => ∃ k : Nat, i = .int .i64 k ∧ k ≤ n ∧ (∀ x ∈ l.take k, rightB x = true) ∧ wr = w) (fun i _ => n - (intOf i).toNat)
    case atStart => exact ⟨0, rfl, Nat.zero_le _, by simp, rfl⟩
    case round =>
      obtain ⟨k, rfl, hk, hrs, rfl⟩ := hrel
      have HRS : Hid (∀ x ∈ l.take k, rightB x = true) := hrs
      clear hrs
      by_cases hlt : k < n
      · have hk1 : (k : Int) < n := by omega
        have hk0 : (0 : Int) ≤ k := by omega
        have hkl : k < l.length := by rw [← HN.out]; exact hlt
        obtain ⟨g, off, rfl, d0⟩ := HC.out k hkl
        have hrt := right_any l[k]
        obtain ⟨y, hy⟩ : ∃ y, y = l[k] := ⟨_, rfl⟩
        rw [← hy] at d0 hrt
        have HY : Hid _ := hy
        clear hy
        cases hq : rightB y with
        | false =>
          rw [hq] at hrt
          have HQ : Hid _ := hq
          clear hq
          go_wp2_with fail
          refine (hrt _).mono ?_
          rintro e w1 ⟨rfl, rfl⟩
          clear hrt
          go_wp2
          go_ret
          refine ⟨Touch.refl _ _, none, rfl, ?_⟩
          have : newOk l = false := by
            unfold newOk
            rw [Bool.and_eq_false_iff]
            right
            rw [List.all_eq_false]
            exact ⟨l[k], List.getElem_mem hkl, by rw [← HY.out, HQ.out]; simp⟩
          rw [HRES.out, this]; rfl
        | true =>
          rw [hq] at hrt
          have HQ : Hid _ := hq
          clear hq
          go_wp2_with fail
          refine (hrt _).mono ?_
          rintro e w1 ⟨rfl, rfl⟩
          clear hrt d0
          go_wp2
          go_roundw
          case rel => exact ⟨k + 1, by go_num, by omega, by
            intro x hx
            rw [List.take_succ_eq_append_getElem hkl, List.mem_append] at hx
            rcases hx with hx | hx
            · exact HRS.out x hx
            · rw [List.mem_singleton] at hx; rw [hx, ← HY.out]; exact HQ.out, by trivial⟩
          case measure => simp [intOf]; omega
      · have hk1 : ¬ (k : Int) < n := by omega
        have hok : res = true := by
          have hkn : k = l.length := by have := HN.out; omega
          rw [HRES.out]
          unfold newOk
          rw [Bool.and_eq_true]
          refine ⟨by have := HN.out; simp; omega, List.all_eq_true.2 (fun x hx => HRS.out x (by rw [hkn, List.take_length]; exact hx))⟩
        have HOK : Hid _ := hok
        clear HC hok
        go_wp2_with fail
        refine CL.out.mono ?_
        rintro e w1 ⟨v, rfl, o1, t1⟩
        clear CL
        obtain ⟨al, cl, hv⟩ := own_slice o1
        subst hv
        have HT : Hid _ := t1
        clear o1 t1
        go_wp2_with fail
        refine (Sq.snew_any _).mono ?_
        rintro e w2 ⟨rfl, l2, e2⟩
        have HT2 : Hid (Touch wr w2 []) := by
          have := HT.out.trans ((Touch.refl w1 []).alloc (.cells #[.int .u64 0, .int .i64 0] 134)) (by simp)
          rw [← e2] at this
          exact this
        clear l2 e2
        go_wp2
        go_ret
        exact ⟨HT2.out.alloc _, _, rfl, by rw [HOK.out]; rfl⟩
  · have hno : newOk l = false := by unfold newOk; rw [Bool.and_eq_false_iff]; left; simpa using h12
    rw [hno]
    have HM : l.length ≤ 9223372036854775807 := by unfold maxLen at hm; omega
    clear hr hm hno
    generalize l.length = n at *
    by_cases h1 : (n : Int) < 1
    · go_enter Tryz.func27, Tryz.ntmps27
      go_wp2
      go_ret
      exact ⟨Touch.refl _ _, none, rfl, rfl⟩
    · have h2 : (12 : Int) < n := by omega
      clear h12
      go_enter Tryz.func27, Tryz.ntmps27
      go_wp2
      go_ret
      exact ⟨Touch.refl _ _, none, rfl, rfl⟩

set_option maxRecDepth 100000 in
set_option maxHeartbeats 2000000 in
theorem heaped_any {w : World} {ao : Option Addr} {cap : Nat} {l : List Int} (hr : VRow0 w (.slice ao l.length cap) l) (hm : l.length ≤ maxLen) (hw : ∀ x ∈ l, Wf64 x) :
    Calls Tryz.prog 28 #[.slice ao l.length cap] w fun x w' => x = .returned (.bool (newOk l)) ∧ w = w' := by
  by_cases h12 : 1 ≤ l.length ∧ l.length ≤ 12
  · have HC : Hid (∀ k (hk : k < l.length), ∃ g off, ao = some ⟨g, off, none⟩ ∧ g < w.heap.size ∧ w.cell? ⟨g, off + k, none⟩ = some (.int .u64 l[k])) := fun k hk => VRow0.one hr k hk
    obtain ⟨n, hn⟩ : ∃ n, n = l.length := ⟨_, rfl⟩
    have HN : Hid _ := hn
    obtain ⟨res, hres⟩ : ∃ r, r = newOk l := ⟨_, rfl⟩
    have HRES : Hid _ := hres
    rw [← hres]
    rw [← hn] at h12 ⊢
    have h1' : ¬ (n : Int) < 1 := by omega
    have h12' : ¬ (12 : Int) < n := by omega
    clear hr hn hres hm
    go_enter Tryz.func28, Tryz.ntmps28
    go_wp2_with fail
    go_loopw [3] (fun i wr => ∃ k : Nat, i = .int .i64 k ∧ k ≤ n ∧ (∀ x ∈ l.take k, rightB x = true) ∧ wr = w) (fun i _ => n - (intOf i).toNat)
    case atStart => exact ⟨0, rfl, Nat.zero_le _, by simp, rfl⟩
    case round =>
      obtain ⟨k, rfl, hk, hrs, rfl⟩ := hrel
      have HRS : Hid (∀ x ∈ l.take k, rightB x = true) := hrs
      clear hrs
      by_cases hlt : k < n
      · have hk1 : (k : Int) < n := by omega
        have hk0 : (0 : Int) ≤ k := by omega
        have hkl : k < l.length := by rw [← HN.out]; exact hlt
        obtain ⟨g, off, rfl, _, d0⟩ := HC.out k hkl
        have hrt := rright_any l[k] (hw _ (List.getElem_mem hkl))
        obtain ⟨y, hy⟩ : ∃ y, y = l[k] := ⟨_, rfl⟩
        rw [← hy] at d0 hrt
        have HY : Hid _ := hy
        clear hy
        cases hq : rightB y with
        | false =>
          rw [hq] at hrt
          have HQ : Hid _ := hq
          clear hq
          go_wp2_with fail
          refine (hrt _).mono ?_
          rintro e w1 ⟨rfl, rfl⟩
          clear hrt
          go_wp2
          go_ret
          refine ⟨?_, rfl⟩
          have : newOk l = false := by
            unfold newOk
            rw [Bool.and_eq_false_iff]
            right
            rw [List.all_eq_false]
            exact ⟨l[k], List.getElem_mem hkl, by rw [← HY.out, HQ.out]; simp⟩
          rw [HRES.out, this]; rfl
        | true =>
          rw [hq] at hrt
          have HQ : Hid _ := hq
          clear hq
          go_wp2_with fail
          refine (hrt _).mono ?_
          rintro e w1 ⟨rfl, rfl⟩
          clear hrt d0
          go_wp2
          go_roundw
          case rel => exact ⟨k + 1, by go_num, by omega, by
            intro x hx
            rw [List.take_succ_eq_append_getElem hkl, List.mem_append] at hx
            rcases hx with hx | hx
            · exact HRS.out x hx
            · rw [List.mem_singleton] at hx; rw [hx, ← HY.out]; exact HQ.out, by trivial⟩
          case measure => simp [intOf]; omega
      · have hk1 : ¬ (k : Int) < n := by omega
        have hok : res = true := by
          have hkn : k = l.length := by have := HN.out; omega
          rw [HRES.out]
          unfold newOk
          rw [Bool.and_eq_true]
          refine ⟨by have := HN.out; simp; omega, List.all_eq_true.2 (fun x hx => HRS.out x (by rw [hkn, List.take_length]; exact hx))⟩
        have HOK : Hid _ := hok
        clear HC hok
        go_wp2
        go_ret
        exact ⟨by rw [HOK.out]; rfl, rfl⟩
  · have hno : newOk l = false := by unfold newOk; rw [Bool.and_eq_false_iff]; left; simpa using h12
    rw [hno]
    have HM : l.length ≤ 9223372036854775807 := by unfold maxLen at hm; omega
    clear hr hm hno hw
    generalize l.length = n at *
    by_cases h1 : (n : Int) < 1
    · go_enter Tryz.func28, Tryz.ntmps28
      go_wp2
      go_ret
      exact ⟨rfl, rfl⟩
    · have h2 : (12 : Int) < n := by omega
      clear h12
      go_enter Tryz.func28, Tryz.ntmps28
      go_wp2
      go_ret
      exact ⟨rfl, rfl⟩

end Go.Proofs.YtlfnmnchhhlhiabGreat.Nr

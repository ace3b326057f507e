/-
  THE DOCUMENT'S Brackets BY ITS CONTRACT.
-/
import Derived.Test.YtcbkafbchpjnoaaGreatDoorAllB
namespace Go.Proofs.YtcbkafbchpjnoaaGreatDoor
set_option linter.unusedVariables false
set_option linter.unusedSimpArgs false
open Go.RowKit
attribute [local go_sem] Oper.semAt_some

theorem nx_same (l : List InsD) (k : Nat) : runV true mayV l (k + 1) = stepV true (mayR l) l k (runV true mayV l k) := (step_same (run_same k).2 (run_lt k) (run_wr k)).1.symm
def wrI : Option Nat → Int
  | none => -1
  | some j => (j : Int)
theorem closer_iff {o x : Int} (h : closesV o = true) : closerV x = o ↔ x = rclV o := by
  have : o = 22 ∨ o = 24 ∨ o = 25 := by simpa [closesV] using h
  unfold closerV rclV
  rcases this with rfl | rfl | rfl <;> (constructor <;> intro q) <;> (try split at q) <;> (try split at q) <;> (try split at q) <;> first | omega | (subst q; rfl) | skip
theorem rcl_ne {o : Int} (h : closesV o = true) : (rclV o == 0) = false := by
  have : o = 22 ∨ o = 24 ∨ o = 25 := by simpa [closesV] using h
  rcases this with rfl | rfl | rfl <;> rfl
theorem st_open {may : Int → List Nat → Bool} {l : List InsD} {k : Nat} {op : List Nat} {wr : Option Nat} {o : Int} (ho : o = opAt l k) (hc : closesV o = false) (hop : opensV o = true) : stepV true may l k ⟨op, wr⟩ = ⟨k :: op, if may o op then wr else blameV k wr⟩ := by
  unfold stepV step1V beginV
  rw [← ho, hc, hop]; simp
theorem st_none {may : Int → List Nat → Bool} {l : List InsD} {k : Nat} {s : MD} {o : Int} (ho : o = opAt l k) (hc : closesV o = false) (hop : opensV o = false) : stepV true may l k s = s := by
  unfold stepV step1V
  rw [← ho, hc, hop]; simp
theorem st_close {may : Int → List Nat → Bool} {l : List InsD} {k : Nat} {s : MD} {o : Int} (ho : o = opAt l k) (hc : closesV o = true) (hop : opensV o = false) : stepV true may l k s = shutV true l k s := by
  unfold stepV step1V
  rw [← ho, hc, hop]; simp
theorem st_close_open {l : List InsD} {k : Nat} {s : MD} {o : Int} (ho : o = opAt l k) (hc : closesV o = true) (hop : opensV o = true) : stepV true (mayR l) l k s = ⟨k :: (shutV true l k s).op, (shutV true l k s).wr⟩ := by
  have h24 : o = 24 := by
    have h1 : o = 22 ∨ o = 24 ∨ o = 25 := by simpa [closesV] using hc
    have h2 : o = 21 ∨ o = 23 ∨ o = 24 := by simpa [opensV] using hop
    omega
  unfold stepV step1V beginV
  rw [← ho, hc, hop, h24]; simp [mayR]
theorem st_bad0 {l : List InsD} {k : Nat} {wr : Option Nat} {o : Int} (ho : o = opAt l k) (hc : closesV o = true) : shutV true l k ⟨[], wr⟩ = ⟨[], blameV k wr⟩ := rfl
theorem st_badm {l : List InsD} {k t : Nat} {r : List Nat} {wr : Option Nat} {o : Int} (ho : o = opAt l k) (hc : closesV o = true) (h : closerV (opAt l t) ≠ o) : shutV true l k ⟨t :: r, wr⟩ = ⟨t :: r, blameV k wr⟩ := by
  unfold shutV; simp only; rw [← ho, if_neg h]
theorem st_match {l : List InsD} {k t : Nat} {r : List Nat} {wr : Option Nat} {o : Int} (ho : o = opAt l k) (hc : closesV o = true) (h : closerV (opAt l t) = o) : shutV true l k ⟨t :: r, wr⟩ = ⟨r, if argAt l t ≠ (k : Int) then blameV t wr else wr⟩ := by
  unfold shutV; simp only; rw [← ho, if_pos h]; simp
/-- The state of the document's three lists. -/
def RSt (W0 : World) (l : List InsD) (k : Nat) (s : MD) (vi ve vo : Value) (w : World) : Prop := (∃ xe : List Int, xe.length = k ∧ R3 W0.heap.size w vi ve vo (insV l k) xe (opRow s.op)) ∧ Touch W0 w []
/-- What Brackets answers. -/
def BrkPost (w : World) (l : List InsD) (e : Ending) (w' : World) : Prop :=
  ∃ v ve, e = .returned (.tuple #[v, ve, .int .i64 (ansK (runV true mayV l l.length)), .int .i64 (ansE (runV true mayV l l.length))]) ∧ intOwnV w' w.heap.size v (ansI (runV true mayV l l.length) (insV l l.length)) ∧ Touch w w' []
/-- One more is opened: a new list, and the place behind it. -/
theorem R3.consO {W0 w : World} {vi ve : Value} {ap : Option Addr} {cp M : Nat} {xi xe : List Int} {op : List Nat} (h : R3 W0.heap.size w vi ve (.slice ap M cp) xi xe (opRow op)) (hM : M = op.length) (hl : op.length ≤ 999) (t0 : Touch W0 w []) (k : Nat) :
    ∃ a1 c1 w1 a2 c2 w2, (Builtin.append_ #[88, 88] 88 #[.slice (some ⟨w.heap.size, 0, none⟩) 0 0, .slice ap M cp]).run Tryz.prog (w.alloc (.cells #[] 3)) = .ok (.slice a1 M c1) w1 ∧
      (Builtin.append_ #[88, 88] 88 #[.slice a1 M c1, .slice (some ⟨w1.heap.size, 0, none⟩) 1 1]).run Tryz.prog (w1.alloc (.cells #[.int .i64 (k : Int)] 3)) = .ok (.slice a2 (M + 1) c2) w2 ∧
      R3 W0.heap.size w2 vi ve (.slice a2 (M + 1) c2) xi xe (opRow (k :: op)) ∧ Touch W0 w2 [] := by
  have hlo : (opRow op).length = M := by rw [opRow_len, hM]
  have hs := srow_int h.o
  have hs' : SRow 1 (fun x : Int => [Value.int .i64 x]) w (.slice ap (opRow op).length cp) (opRow op) := by rw [hlo]; exact hs
  obtain ⟨a1, c1, w1, r1, o1, t1, f1⟩ := clone_own (B := W0.heap.size) hs' (by rw [opRow_len]; omega) t0.size 88
  rw [hlo] at r1 o1 f1
  obtain ⟨hR1, T1⟩ := h.newO t0 t1 o1 f1
  obtain ⟨a2, c2, w2, r2, o2, t2, f2⟩ := int_pushW hR1.o (by rw [opRow_len]; omega) T1.size (k : Int) 88
  rw [hlo] at r2 o2 f2
  refine ⟨a1, c1, w1, a2, c2, w2, r1, r2, ⟨ownsRow_touch hR1.i t2 (fun g hg hq => hR1.io g hg (by simpa using hq)), ownsRow_touch hR1.e t2 (fun g hg hq => hR1.eo g hg (by simpa using hq)), by rw [opRow_cons]; exact o2, hR1.ie, fun g hg he => ?_, fun g hg he => ?_⟩, touch_up T1 t2 (fun x hx => (own_ltV hR1.o x (by simpa using hx)).1)⟩
  · rcases f2 g he with q | q
    · exact hR1.io g hg q
    · have := (own_ltV hR1.i g hg).2; omega
  · rcases f2 g he with q | q
    · exact hR1.eo g hg q
    · have := (own_ltV hR1.e g hg).2; omega

set_option maxRecDepth 100000 in
set_option maxHeartbeats 8000000 in
theorem brackets_any {w : World} {ao : Option Addr} {N cap : Nat} {l : List InsD} (hN : N = l.length) (hn : N ≤ 900) (hr : InsV w (.slice ao N cap) l) :
    Calls Tryz.prog 76 #[.slice ao N cap, .bool true] w (BrkPost w l) := by
  have HR : Hid _ := hr
  have HN : Hid _ := hN
  clear hr hN
  go_enter Tryz.func76, Tryz.ntmps76
  go_wp2_with fail
  go_loopw [8, 9, 10, 11, 12] (fun vi ve vo wg i wr => ∃ k : Nat, i = .int .i64 k ∧ k ≤ N ∧ wg = .int .i64 (wrI (runV true mayV l k).wr) ∧ RSt w l k (runV true mayV l k) vi ve vo wr) (fun _ _ _ _ i _ => N - (intOf i).toNat)
  case atStart => exact ⟨0, rfl, Nat.zero_le _, rfl, ⟨[], rfl, World.ownsRow_nil _ _ _ _, World.ownsRow_nil _ _ _ _, World.ownsRow_nil _ _ _ _, by simp [Value.ownBlock], by simp [Value.ownBlock], by simp [Value.ownBlock]⟩, Touch.refl _ _⟩
  case round =>
    obtain ⟨k, rfl, hk, rfl, ⟨xe, hxe, h3⟩, hT⟩ := hrel
    have hlen := run_len (args := true) (may := mayV) (l := l) k
    have hpl := run_lt (args := true) (may := mayV) (l := l) k
    have hwl := run_wr (args := true) (may := mayV) (l := l) k
    obtain ⟨ai, ci, rfl⟩ := owns_slice h3.i
    obtain ⟨ae, ce, rfl⟩ := owns_slice h3.e
    obtain ⟨ap, cp, rfl⟩ := owns_slice h3.o
    have hil := insV_len l k
    rw [hil] at h3 ⊢
    rw [hxe] at h3 ⊢
    rw [opRow_len] at h3 ⊢
    have HNX : Hid _ := nx_same l k
    generalize hst : runV true mayV l k = s at *
    obtain ⟨op, wr_⟩ := s
    simp only at hlen hpl hwl h3 ⊢
    obtain ⟨M, hM⟩ : ∃ M, M = op.length := ⟨_, rfl⟩
    rw [← hM] at h3 ⊢
    have hMk : M ≤ k := by omega
    by_cases hlt : k < N
    · -- the two lists, one longer
      obtain ⟨ai1, ci1, w1, hrI, h3a, T1, tI⟩ := h3.pushI hT (by rw [hil]; omega) (topV op) 88
      obtain ⟨ae1, ce1, w2, hrE, h3b, T2, tE⟩ := h3a.pushE T1 (by omega) (-1) 88
      rw [hil] at hrI h3b
      rw [hxe] at hrE h3b
      have HIS : Hid (insV l (k + 1) = insV l k ++ [topV op]) := by show _ = _; rw [insV_succ, hst]
      have hr2 : InsV w2 (.slice ao N cap) l := SRow.keep HR.out T2 (by simp)
      have hr0 := SRow.keep HR.out hT (by simp)
      rw [HN.out] at hr0
      have hkl : k < l.length := by rw [← HN.out]; exact hlt
      obtain ⟨g, off, rfl, hg, c0, _, _⟩ := insv_at hr0 k hkl
      have hkN : (k : Int) < N := by omega
      have hk0 : (0 : Int) ≤ k := by omega
      have hkw : IntKind.i64.wrap ((k : Int) + 1) = (k : Int) + 1 := by rw [IntKind.wrap_i64]; omega
      have hcl : HidC _ _ _ _ _ := ⟨rcloses_any (opAt l k) w2⟩
      have HOPE : Hid (∀ W, HidC Tryz.prog 106 #[.int .u8 (opAt l k)] W (fun e w' => e = .returned (.bool (opensV (opAt l k))) ∧ W = w')) := fun W => ⟨ropens_any (opAt l k) W⟩
      have hxe2 : (xe ++ [-1]).length = k + 1 := by simp [hxe]
      have HB3 : Hid _ := h3b
      have HT2 : Hid _ := T2
      have hT2s := T2.size
      obtain ⟨o, ho⟩ : ∃ o, o = opAt l k := ⟨_, rfl⟩
      rw [← ho] at hcl HOPE c0
      have HO : Hid _ := ho
      have hlo : (opRow op).length = M := by rw [opRow_len, hM]
      clear hr0 h3a T1 tI ho
      have HST : Hid _ := hst
      clear hst
      cases op with
      | nil =>
        have hM0 : ¬ ((0 : Int) < (M : Int)) := by simp at hM; omega
        have htv : topV [] = -1 := rfl
        rw [htv] at hrI
        clear htv
        by_cases h21 : o = 21
        · have hx := True.intro
          rw [h21] at HOPE
          have HN1 : Hid (runV true mayV l (k + 1) = ⟨[k], wr_⟩) := by
            show _ = _
            rw [HNX.out]
            rw [st_open (o := o) HO.out (by rw [h21]; rfl) (by rw [h21]; rfl), h21]; rfl
          obtain ⟨a1, c1, w8, a2, c2, w9, hrC, hrP, hx9, T9⟩ := R3.consO (op := []) HB3.out hM (by simp) HT2.out k
          have HX9 : Hid _ := hx9
          have HT9 : Hid _ := T9
          clear hx9 T9
          subst h21
          have hopv : opensV 21 = true := rfl
          have hrcl : rclV 21 = 0 := rfl
          rw [hopv] at HOPE
          rw [hrcl] at hcl
          clear h3 h3b hT T2 hM hlen hpl hwl HNX HST HO hr2 tE hlo
          go_wp2_with (at_builtin; first | (refine Lib.wpList_append_run _ rfl (.tmp 37) (.tmp 39) _ _ rfl _ _ rfl rfl _ _ hrI ?_) | (refine Lib.wpList_append_run _ rfl (.tmp 41) (.tmp 42) _ _ rfl _ _ rfl rfl _ _ hrE ?_))
          refine hcl.out.mono ?_
          rintro e wb ⟨rfl, rfl⟩
          clear hcl
          go_wp2_with fail
          refine (HOPE.out _).out.mono ?_
          rintro e wd ⟨rfl, rfl⟩
          clear HOPE
          go_wp2_with (at_builtin; first | (refine Lib.wpList_append_run _ rfl (.tmp 123) (.tmp 124) _ _ rfl _ _ rfl rfl _ _ hrC ?_) | (refine Lib.wpList_append_run _ rfl (.tmp 125) (.tmp 127) _ _ rfl _ _ rfl rfl _ _ hrP ?_))
          go_wp2
          go_roundw
          case rel => exact ⟨k + 1, rfl, by omega, by first | (rw [HN1.out]; done) | (rw [HN1.out]; rfl), ⟨_, hxe2, by rw [HN1.out, HIS.out]; exact HX9.out⟩, HT9.out⟩
          case measure => simp [intOf]; omega
        · by_cases h23 : o = 23
          · have hx := True.intro
            rw [h23] at HOPE
            cases wr_ with
            | none =>
              simp only [wrI]
              have HN1 : Hid (runV true mayV l (k + 1) = ⟨[k], some k⟩) := by
                show _ = _
                rw [HNX.out]
                rw [st_open (o := o) HO.out (by rw [h23]; rfl) (by rw [h23]; rfl), h23, if_neg (by simp [mayR]), show blameV k none = some k from rfl]
              obtain ⟨a1, c1, w8, a2, c2, w9, hrC, hrP, hx9, T9⟩ := R3.consO (op := []) HB3.out hM (by simp) HT2.out k
              have HX9 : Hid _ := hx9
              have HT9 : Hid _ := T9
              clear hx9 T9
              subst h23
              have hopv : opensV 23 = true := rfl
              have hrcl : rclV 23 = 0 := rfl
              rw [hopv] at HOPE
              rw [hrcl] at hcl
              clear h3 h3b hT T2 hM hlen hpl hwl HNX HST HO hr2 tE hlo
              go_wp2_with (at_builtin; first | (refine Lib.wpList_append_run _ rfl (.tmp 37) (.tmp 39) _ _ rfl _ _ rfl rfl _ _ hrI ?_) | (refine Lib.wpList_append_run _ rfl (.tmp 41) (.tmp 42) _ _ rfl _ _ rfl rfl _ _ hrE ?_))
              refine hcl.out.mono ?_
              rintro e wb ⟨rfl, rfl⟩
              clear hcl
              go_wp2_with fail
              refine (HOPE.out _).out.mono ?_
              rintro e wd ⟨rfl, rfl⟩
              clear HOPE
              go_wp2_with (at_builtin; first | (refine Lib.wpList_append_run _ rfl (.tmp 123) (.tmp 124) _ _ rfl _ _ rfl rfl _ _ hrC ?_) | (refine Lib.wpList_append_run _ rfl (.tmp 125) (.tmp 127) _ _ rfl _ _ rfl rfl _ _ hrP ?_))
              go_wp2
              go_roundw
              case rel => exact ⟨k + 1, rfl, by omega, by first | (rw [HN1.out]; done) | (rw [HN1.out]; rfl), ⟨_, hxe2, by rw [HN1.out, HIS.out]; exact HX9.out⟩, HT9.out⟩
              case measure => simp [intOf]; omega
            | some j =>
              have hjk := hwl j rfl
              have hj0 : ¬ ((j : Int) < 0) := by omega
              have hjk' : ¬ ((k : Int) < (j : Int)) := by omega
              have hbl := blame_past hjk
              simp only [wrI]
              have HN1 : Hid (runV true mayV l (k + 1) = ⟨[k], some j⟩) := by
                show _ = _
                rw [HNX.out]
                rw [st_open (o := o) HO.out (by rw [h23]; rfl) (by rw [h23]; rfl), h23, if_neg (by simp [mayR]), hbl]
              obtain ⟨a1, c1, w8, a2, c2, w9, hrC, hrP, hx9, T9⟩ := R3.consO (op := []) HB3.out hM (by simp) HT2.out k
              have HX9 : Hid _ := hx9
              have HT9 : Hid _ := T9
              clear hx9 T9
              subst h23
              have hopv : opensV 23 = true := rfl
              have hrcl : rclV 23 = 0 := rfl
              rw [hopv] at HOPE
              rw [hrcl] at hcl
              clear h3 h3b hT T2 hM hlen hpl hwl HNX HST HO hr2 tE hlo
              go_wp2_with (at_builtin; first | (refine Lib.wpList_append_run _ rfl (.tmp 37) (.tmp 39) _ _ rfl _ _ rfl rfl _ _ hrI ?_) | (refine Lib.wpList_append_run _ rfl (.tmp 41) (.tmp 42) _ _ rfl _ _ rfl rfl _ _ hrE ?_))
              refine hcl.out.mono ?_
              rintro e wb ⟨rfl, rfl⟩
              clear hcl
              go_wp2_with fail
              refine (HOPE.out _).out.mono ?_
              rintro e wd ⟨rfl, rfl⟩
              clear HOPE
              go_wp2_with (at_builtin; first | (refine Lib.wpList_append_run _ rfl (.tmp 123) (.tmp 124) _ _ rfl _ _ rfl rfl _ _ hrC ?_) | (refine Lib.wpList_append_run _ rfl (.tmp 125) (.tmp 127) _ _ rfl _ _ rfl rfl _ _ hrP ?_))
              go_wp2
              go_roundw
              case rel => exact ⟨k + 1, rfl, by omega, by first | (rw [HN1.out]; done) | (rw [HN1.out]; rfl), ⟨_, hxe2, by rw [HN1.out, HIS.out]; exact HX9.out⟩, HT9.out⟩
              case measure => simp [intOf]; omega
          · have b21 : (o == 21) = false := by simpa using h21
            have b23 : (o == 23) = false := by simpa using h23
            cases hc : closesV o with
            | true =>
              have hrn := rcl_ne hc
              generalize hrc : rclV o = rc at *
              cases wr_ with
              | none =>
                simp only [wrI]
                cases hov : opensV o with
                | true =>
                  have HN1 : Hid (runV true mayV l (k + 1) = ⟨[k], some k⟩) := by
                    show _ = _
                    rw [HNX.out]
                    rw [st_close_open (o := o) HO.out hc hov, st_bad0 (o := o) HO.out hc, show blameV k none = some k from rfl]
                  obtain ⟨a1, c1, w8, a2, c2, w9, hrC, hrP, hx9, T9⟩ := R3.consO (op := []) HB3.out hM (by simp) HT2.out k
                  have HX9 : Hid _ := hx9
                  have HT9 : Hid _ := T9
                  clear hx9 T9
                  rw [hov] at HOPE
                  clear h3 h3b hT T2 hM hlen hpl hwl HNX HST HO hr2 tE hlo
                  go_wp2_with (at_builtin; first | (refine Lib.wpList_append_run _ rfl (.tmp 37) (.tmp 39) _ _ rfl _ _ rfl rfl _ _ hrI ?_) | (refine Lib.wpList_append_run _ rfl (.tmp 41) (.tmp 42) _ _ rfl _ _ rfl rfl _ _ hrE ?_))
                  refine hcl.out.mono ?_
                  rintro e wb ⟨rfl, rfl⟩
                  clear hcl
                  go_wp2_with fail
                  refine (HOPE.out _).out.mono ?_
                  rintro e wd ⟨rfl, rfl⟩
                  clear HOPE
                  go_wp2_with (at_builtin; first | (refine Lib.wpList_append_run _ rfl (.tmp 123) (.tmp 124) _ _ rfl _ _ rfl rfl _ _ hrC ?_) | (refine Lib.wpList_append_run _ rfl (.tmp 125) (.tmp 127) _ _ rfl _ _ rfl rfl _ _ hrP ?_))
                  go_wp2
                  go_roundw
                  case rel => exact ⟨k + 1, rfl, by omega, by first | (rw [HN1.out]; done) | (rw [HN1.out]; rfl), ⟨_, hxe2, by rw [HN1.out, HIS.out]; exact HX9.out⟩, HT9.out⟩
                  case measure => simp [intOf]; omega
                | false =>
                  have HN1 : Hid (runV true mayV l (k + 1) = ⟨[], some k⟩) := by
                    show _ = _
                    rw [HNX.out]
                    rw [st_close (o := o) HO.out hc hov, st_bad0 (o := o) HO.out hc, show blameV k none = some k from rfl]
                  have hx9 := HB3.out
                  have T9 := HT2.out
                  have HX9 : Hid _ := hx9
                  have HT9 : Hid _ := T9
                  clear hx9 T9
                  rw [hov] at HOPE
                  clear h3 h3b hT T2 hM hlen hpl hwl HNX HST HO hr2 tE hlo
                  go_wp2_with (at_builtin; first | (refine Lib.wpList_append_run _ rfl (.tmp 37) (.tmp 39) _ _ rfl _ _ rfl rfl _ _ hrI ?_) | (refine Lib.wpList_append_run _ rfl (.tmp 41) (.tmp 42) _ _ rfl _ _ rfl rfl _ _ hrE ?_))
                  refine hcl.out.mono ?_
                  rintro e wb ⟨rfl, rfl⟩
                  clear hcl
                  go_wp2_with fail
                  refine (HOPE.out _).out.mono ?_
                  rintro e wd ⟨rfl, rfl⟩
                  clear HOPE
                  go_wp2
                  go_roundw
                  case rel => exact ⟨k + 1, rfl, by omega, by first | (rw [HN1.out]; done) | (rw [HN1.out]; rfl), ⟨_, hxe2, by rw [HN1.out, HIS.out]; exact HX9.out⟩, HT9.out⟩
                  case measure => simp [intOf]; omega
              | some j =>
                have hjk := hwl j rfl
                have hj0 : ¬ ((j : Int) < 0) := by omega
                have hjk' : ¬ ((k : Int) < (j : Int)) := by omega
                have hbl := blame_past hjk
                simp only [wrI]
                cases hov : opensV o with
                | true =>
                  have HN1 : Hid (runV true mayV l (k + 1) = ⟨[k], some j⟩) := by
                    show _ = _
                    rw [HNX.out]
                    rw [st_close_open (o := o) HO.out hc hov, st_bad0 (o := o) HO.out hc, hbl]
                  obtain ⟨a1, c1, w8, a2, c2, w9, hrC, hrP, hx9, T9⟩ := R3.consO (op := []) HB3.out hM (by simp) HT2.out k
                  have HX9 : Hid _ := hx9
                  have HT9 : Hid _ := T9
                  clear hx9 T9
                  rw [hov] at HOPE
                  clear h3 h3b hT T2 hM hlen hpl hwl HNX HST HO hr2 tE hlo
                  go_wp2_with (at_builtin; first | (refine Lib.wpList_append_run _ rfl (.tmp 37) (.tmp 39) _ _ rfl _ _ rfl rfl _ _ hrI ?_) | (refine Lib.wpList_append_run _ rfl (.tmp 41) (.tmp 42) _ _ rfl _ _ rfl rfl _ _ hrE ?_))
                  refine hcl.out.mono ?_
                  rintro e wb ⟨rfl, rfl⟩
                  clear hcl
                  go_wp2_with fail
                  refine (HOPE.out _).out.mono ?_
                  rintro e wd ⟨rfl, rfl⟩
                  clear HOPE
                  go_wp2_with (at_builtin; first | (refine Lib.wpList_append_run _ rfl (.tmp 123) (.tmp 124) _ _ rfl _ _ rfl rfl _ _ hrC ?_) | (refine Lib.wpList_append_run _ rfl (.tmp 125) (.tmp 127) _ _ rfl _ _ rfl rfl _ _ hrP ?_))
                  go_wp2
                  go_roundw
                  case rel => exact ⟨k + 1, rfl, by omega, by first | (rw [HN1.out]; done) | (rw [HN1.out]; rfl), ⟨_, hxe2, by rw [HN1.out, HIS.out]; exact HX9.out⟩, HT9.out⟩
                  case measure => simp [intOf]; omega
                | false =>
                  have HN1 : Hid (runV true mayV l (k + 1) = ⟨[], some j⟩) := by
                    show _ = _
                    rw [HNX.out]
                    rw [st_close (o := o) HO.out hc hov, st_bad0 (o := o) HO.out hc, hbl]
                  have hx9 := HB3.out
                  have T9 := HT2.out
                  have HX9 : Hid _ := hx9
                  have HT9 : Hid _ := T9
                  clear hx9 T9
                  rw [hov] at HOPE
                  clear h3 h3b hT T2 hM hlen hpl hwl HNX HST HO hr2 tE hlo
                  go_wp2_with (at_builtin; first | (refine Lib.wpList_append_run _ rfl (.tmp 37) (.tmp 39) _ _ rfl _ _ rfl rfl _ _ hrI ?_) | (refine Lib.wpList_append_run _ rfl (.tmp 41) (.tmp 42) _ _ rfl _ _ rfl rfl _ _ hrE ?_))
                  refine hcl.out.mono ?_
                  rintro e wb ⟨rfl, rfl⟩
                  clear hcl
                  go_wp2_with fail
                  refine (HOPE.out _).out.mono ?_
                  rintro e wd ⟨rfl, rfl⟩
                  clear HOPE
                  go_wp2
                  go_roundw
                  case rel => exact ⟨k + 1, rfl, by omega, by first | (rw [HN1.out]; done) | (rw [HN1.out]; rfl), ⟨_, hxe2, by rw [HN1.out, HIS.out]; exact HX9.out⟩, HT9.out⟩
                  case measure => simp [intOf]; omega
            | false =>
              have hov : opensV o = false := by
                have h24 : o ≠ 24 := fun q => by rw [q] at hc; simp [closesV] at hc
                simp [opensV, h21, h23, h24]
              have hrcl : rclV o = 0 := by
                have q : o ≠ 22 ∧ o ≠ 24 ∧ o ≠ 25 := by simpa [closesV] using hc
                simp [rclV, q]
              have HN1 : Hid (runV true mayV l (k + 1) = ⟨[], wr_⟩) := by
                show _ = _
                rw [HNX.out]
                rw [st_none (o := o) HO.out hc hov]
              have hx9 := HB3.out
              have T9 := HT2.out
              have HX9 : Hid _ := hx9
              have HT9 : Hid _ := T9
              clear hx9 T9
              rw [hov] at HOPE
              rw [hrcl] at hcl
              clear h3 h3b hT T2 hM hlen hpl hwl HNX HST HO hr2 tE hlo
              go_wp2_with (at_builtin; first | (refine Lib.wpList_append_run _ rfl (.tmp 37) (.tmp 39) _ _ rfl _ _ rfl rfl _ _ hrI ?_) | (refine Lib.wpList_append_run _ rfl (.tmp 41) (.tmp 42) _ _ rfl _ _ rfl rfl _ _ hrE ?_))
              refine hcl.out.mono ?_
              rintro e wb ⟨rfl, rfl⟩
              clear hcl
              go_wp2_with fail
              refine (HOPE.out _).out.mono ?_
              rintro e wd ⟨rfl, rfl⟩
              clear HOPE
              go_wp2
              go_roundw
              case rel => exact ⟨k + 1, rfl, by omega, by first | (rw [HN1.out]; done) | (rw [HN1.out]; rfl), ⟨_, hxe2, by rw [HN1.out, HIS.out]; exact HX9.out⟩, HT9.out⟩
              case measure => simp [intOf]; omega
      | cons t r =>
        have htk : t < k := hpl t (by simp)
        have hMr : M = r.length + 1 := by simpa using hM
        obtain ⟨go, cp', hap⟩ := Go.Joins.ownsRow_form h3.o (by rw [opRow_len]; simp)
        rw [opRow_len, ← hM] at hap
        simp only [Value.slice.injEq, true_and] at hap
        obtain ⟨rfl, rfl⟩ := hap
        have hro := h3.o
        unfold intOwnV at hro
        rw [opRow_len, ← hM] at hro
        have dt := hro.cellAt r.length (by omega)
        rw [List.getElem?_map, opRow_cons, List.getElem?_append_right (by rw [opRow_len]; exact Nat.le_refl _), opRow_len, Nat.sub_self] at dt
        simp only [List.getElem?_cons_zero, Option.map_some] at dt
        have hM0 : (0 : Int) < (M : Int) := by omega
        have hMw : IntKind.i64.wrap ((M : Int) - 1) = r.length := by rw [IntKind.wrap_i64]; omega
        have hrM : (r.length : Int) < M := by omega
        have hr0' : (0 : Int) ≤ (r.length : Int) := by omega
        have ht0 : (0 : Int) ≤ (t : Int) := by omega
        have ht1 : ¬ ((t : Int) < 0) := by omega
        have htN : (t : Int) < N := by omega
        have hr20 := hr2
        rw [HN.out] at hr20
        obtain ⟨g', off', eg, _, c0t, c1t, _⟩ := insv_at hr20 t (by omega)
        simp only [Option.some.injEq, Addr.mk.injEq] at eg
        obtain ⟨rfl, rfl, _⟩ := eg
        have htv : topV (t :: r) = (t : Int) := rfl
        rw [htv] at hrI
        clear hro hr20 htv
        by_cases h21 : o = 21
        · have hx := True.intro
          rw [h21] at HOPE
          cases wr_ with
          | none =>
            simp only [wrI]
            have HN1 : Hid (runV true mayV l (k + 1) = ⟨k :: t :: r, some k⟩) := by
              show _ = _
              rw [HNX.out]
              rw [st_open (o := o) HO.out (by rw [h21]; rfl) (by rw [h21]; rfl), h21, if_neg (by simp [mayR]), show blameV k none = some k from rfl]
            obtain ⟨a1, c1, w8, a2, c2, w9, hrC, hrP, hx9, T9⟩ := R3.consO (op := (t :: r)) HB3.out hM (by simp at hlen ⊢; omega) HT2.out k
            have HX9 : Hid _ := hx9
            have HT9 : Hid _ := T9
            clear hx9 T9
            subst h21
            have hopv : opensV 21 = true := rfl
            have hrcl : rclV 21 = 0 := rfl
            rw [hopv] at HOPE
            rw [hrcl] at hcl
            generalize r.length = rl at *
            clear h3 h3b hT T2 hM hlen hpl hwl HNX HST HO hr2 tE hlo hMr
            go_wp2_with (at_builtin; first | (refine Lib.wpList_append_run _ rfl (.tmp 37) (.tmp 39) _ _ rfl _ _ rfl rfl _ _ hrI ?_) | (refine Lib.wpList_append_run _ rfl (.tmp 41) (.tmp 42) _ _ rfl _ _ rfl rfl _ _ hrE ?_))
            refine hcl.out.mono ?_
            rintro e wb ⟨rfl, rfl⟩
            clear hcl
            go_wp2_with fail
            refine (HOPE.out _).out.mono ?_
            rintro e wd ⟨rfl, rfl⟩
            clear HOPE
            go_wp2_with (at_builtin; first | (refine Lib.wpList_append_run _ rfl (.tmp 123) (.tmp 124) _ _ rfl _ _ rfl rfl _ _ hrC ?_) | (refine Lib.wpList_append_run _ rfl (.tmp 125) (.tmp 127) _ _ rfl _ _ rfl rfl _ _ hrP ?_))
            go_wp2
            go_roundw
            case rel => exact ⟨k + 1, rfl, by omega, by first | (rw [HN1.out]; done) | (rw [HN1.out]; rfl), ⟨_, hxe2, by rw [HN1.out, HIS.out]; exact HX9.out⟩, HT9.out⟩
            case measure => simp [intOf]; omega
          | some j =>
            have hjk := hwl j rfl
            have hj0 : ¬ ((j : Int) < 0) := by omega
            have hjk' : ¬ ((k : Int) < (j : Int)) := by omega
            have hbl := blame_past hjk
            simp only [wrI]
            have HN1 : Hid (runV true mayV l (k + 1) = ⟨k :: t :: r, some j⟩) := by
              show _ = _
              rw [HNX.out]
              rw [st_open (o := o) HO.out (by rw [h21]; rfl) (by rw [h21]; rfl), h21, if_neg (by simp [mayR]), hbl]
            obtain ⟨a1, c1, w8, a2, c2, w9, hrC, hrP, hx9, T9⟩ := R3.consO (op := (t :: r)) HB3.out hM (by simp at hlen ⊢; omega) HT2.out k
            have HX9 : Hid _ := hx9
            have HT9 : Hid _ := T9
            clear hx9 T9
            subst h21
            have hopv : opensV 21 = true := rfl
            have hrcl : rclV 21 = 0 := rfl
            rw [hopv] at HOPE
            rw [hrcl] at hcl
            generalize r.length = rl at *
            clear h3 h3b hT T2 hM hlen hpl hwl HNX HST HO hr2 tE hlo hMr
            go_wp2_with (at_builtin; first | (refine Lib.wpList_append_run _ rfl (.tmp 37) (.tmp 39) _ _ rfl _ _ rfl rfl _ _ hrI ?_) | (refine Lib.wpList_append_run _ rfl (.tmp 41) (.tmp 42) _ _ rfl _ _ rfl rfl _ _ hrE ?_))
            refine hcl.out.mono ?_
            rintro e wb ⟨rfl, rfl⟩
            clear hcl
            go_wp2_with fail
            refine (HOPE.out _).out.mono ?_
            rintro e wd ⟨rfl, rfl⟩
            clear HOPE
            go_wp2_with (at_builtin; first | (refine Lib.wpList_append_run _ rfl (.tmp 123) (.tmp 124) _ _ rfl _ _ rfl rfl _ _ hrC ?_) | (refine Lib.wpList_append_run _ rfl (.tmp 125) (.tmp 127) _ _ rfl _ _ rfl rfl _ _ hrP ?_))
            go_wp2
            go_roundw
            case rel => exact ⟨k + 1, rfl, by omega, by first | (rw [HN1.out]; done) | (rw [HN1.out]; rfl), ⟨_, hxe2, by rw [HN1.out, HIS.out]; exact HX9.out⟩, HT9.out⟩
            case measure => simp [intOf]; omega
        · by_cases h23 : o = 23
          · have hx := True.intro
            rw [h23] at HOPE
            have harms : HidC _ _ _ _ _ := ⟨arms_any HN.out hn hr2 HB3.out.o hM (fun x hx => by have := hpl x hx; omega) (by omega)⟩
            by_cases h4 : armsV l (t :: r) < 4
            · have h4' : ¬ ((4 : Int) ≤ (armsV l (t :: r) : Int)) := by omega
              have HN1 : Hid (runV true mayV l (k + 1) = ⟨k :: t :: r, wr_⟩) := by
                show _ = _
                rw [HNX.out]
                rw [st_open (o := o) HO.out (by rw [h23]; rfl) (by rw [h23]; rfl), h23, if_pos (by simp [mayR, h4])]
              obtain ⟨a1, c1, w8, a2, c2, w9, hrC, hrP, hx9, T9⟩ := R3.consO (op := (t :: r)) HB3.out hM (by simp at hlen ⊢; omega) HT2.out k
              have HX9 : Hid _ := hx9
              have HT9 : Hid _ := T9
              clear hx9 T9
              subst h23
              have hopv : opensV 23 = true := rfl
              have hrcl : rclV 23 = 0 := rfl
              rw [hopv] at HOPE
              rw [hrcl] at hcl
              generalize r.length = rl at *
              generalize armsV l (t :: r) = am at *
              clear h3 h3b hT T2 hM hlen hpl hwl HNX HST HO hr2 tE hlo hMr
              go_wp2_with (at_builtin; first | (refine Lib.wpList_append_run _ rfl (.tmp 37) (.tmp 39) _ _ rfl _ _ rfl rfl _ _ hrI ?_) | (refine Lib.wpList_append_run _ rfl (.tmp 41) (.tmp 42) _ _ rfl _ _ rfl rfl _ _ hrE ?_))
              refine harms.out.mono ?_
              rintro e wa ⟨rfl, rfl⟩
              clear harms
              go_wp2_with fail
              refine hcl.out.mono ?_
              rintro e wb ⟨rfl, rfl⟩
              clear hcl
              go_wp2_with fail
              refine (HOPE.out _).out.mono ?_
              rintro e wd ⟨rfl, rfl⟩
              clear HOPE
              go_wp2_with (at_builtin; first | (refine Lib.wpList_append_run _ rfl (.tmp 123) (.tmp 124) _ _ rfl _ _ rfl rfl _ _ hrC ?_) | (refine Lib.wpList_append_run _ rfl (.tmp 125) (.tmp 127) _ _ rfl _ _ rfl rfl _ _ hrP ?_))
              go_wp2
              go_roundw
              case rel => exact ⟨k + 1, rfl, by omega, by first | (rw [HN1.out]; done) | (rw [HN1.out]; rfl), ⟨_, hxe2, by rw [HN1.out, HIS.out]; exact HX9.out⟩, HT9.out⟩
              case measure => simp [intOf]; omega
            · have h4' : (4 : Int) ≤ (armsV l (t :: r) : Int) := by omega
              cases wr_ with
              | none =>
                simp only [wrI]
                have HN1 : Hid (runV true mayV l (k + 1) = ⟨k :: t :: r, some k⟩) := by
                  show _ = _
                  rw [HNX.out]
                  rw [st_open (o := o) HO.out (by rw [h23]; rfl) (by rw [h23]; rfl), h23, if_neg (by simp [mayR]; omega), show blameV k none = some k from rfl]
                obtain ⟨a1, c1, w8, a2, c2, w9, hrC, hrP, hx9, T9⟩ := R3.consO (op := (t :: r)) HB3.out hM (by simp at hlen ⊢; omega) HT2.out k
                have HX9 : Hid _ := hx9
                have HT9 : Hid _ := T9
                clear hx9 T9
                subst h23
                have hopv : opensV 23 = true := rfl
                have hrcl : rclV 23 = 0 := rfl
                rw [hopv] at HOPE
                rw [hrcl] at hcl
                generalize r.length = rl at *
                generalize armsV l (t :: r) = am at *
                clear h3 h3b hT T2 hM hlen hpl hwl HNX HST HO hr2 tE hlo hMr
                go_wp2_with (at_builtin; first | (refine Lib.wpList_append_run _ rfl (.tmp 37) (.tmp 39) _ _ rfl _ _ rfl rfl _ _ hrI ?_) | (refine Lib.wpList_append_run _ rfl (.tmp 41) (.tmp 42) _ _ rfl _ _ rfl rfl _ _ hrE ?_))
                refine harms.out.mono ?_
                rintro e wa ⟨rfl, rfl⟩
                clear harms
                go_wp2_with fail
                refine hcl.out.mono ?_
                rintro e wb ⟨rfl, rfl⟩
                clear hcl
                go_wp2_with fail
                refine (HOPE.out _).out.mono ?_
                rintro e wd ⟨rfl, rfl⟩
                clear HOPE
                go_wp2_with (at_builtin; first | (refine Lib.wpList_append_run _ rfl (.tmp 123) (.tmp 124) _ _ rfl _ _ rfl rfl _ _ hrC ?_) | (refine Lib.wpList_append_run _ rfl (.tmp 125) (.tmp 127) _ _ rfl _ _ rfl rfl _ _ hrP ?_))
                go_wp2
                go_roundw
                case rel => exact ⟨k + 1, rfl, by omega, by first | (rw [HN1.out]; done) | (rw [HN1.out]; rfl), ⟨_, hxe2, by rw [HN1.out, HIS.out]; exact HX9.out⟩, HT9.out⟩
                case measure => simp [intOf]; omega
              | some j =>
                have hjk := hwl j rfl
                have hj0 : ¬ ((j : Int) < 0) := by omega
                have hjk' : ¬ ((k : Int) < (j : Int)) := by omega
                have hbl := blame_past hjk
                simp only [wrI]
                have HN1 : Hid (runV true mayV l (k + 1) = ⟨k :: t :: r, some j⟩) := by
                  show _ = _
                  rw [HNX.out]
                  rw [st_open (o := o) HO.out (by rw [h23]; rfl) (by rw [h23]; rfl), h23, if_neg (by simp [mayR]; omega), hbl]
                obtain ⟨a1, c1, w8, a2, c2, w9, hrC, hrP, hx9, T9⟩ := R3.consO (op := (t :: r)) HB3.out hM (by simp at hlen ⊢; omega) HT2.out k
                have HX9 : Hid _ := hx9
                have HT9 : Hid _ := T9
                clear hx9 T9
                subst h23
                have hopv : opensV 23 = true := rfl
                have hrcl : rclV 23 = 0 := rfl
                rw [hopv] at HOPE
                rw [hrcl] at hcl
                generalize r.length = rl at *
                generalize armsV l (t :: r) = am at *
                clear h3 h3b hT T2 hM hlen hpl hwl HNX HST HO hr2 tE hlo hMr
                go_wp2_with (at_builtin; first | (refine Lib.wpList_append_run _ rfl (.tmp 37) (.tmp 39) _ _ rfl _ _ rfl rfl _ _ hrI ?_) | (refine Lib.wpList_append_run _ rfl (.tmp 41) (.tmp 42) _ _ rfl _ _ rfl rfl _ _ hrE ?_))
                refine harms.out.mono ?_
                rintro e wa ⟨rfl, rfl⟩
                clear harms
                go_wp2_with fail
                refine hcl.out.mono ?_
                rintro e wb ⟨rfl, rfl⟩
                clear hcl
                go_wp2_with fail
                refine (HOPE.out _).out.mono ?_
                rintro e wd ⟨rfl, rfl⟩
                clear HOPE
                go_wp2_with (at_builtin; first | (refine Lib.wpList_append_run _ rfl (.tmp 123) (.tmp 124) _ _ rfl _ _ rfl rfl _ _ hrC ?_) | (refine Lib.wpList_append_run _ rfl (.tmp 125) (.tmp 127) _ _ rfl _ _ rfl rfl _ _ hrP ?_))
                go_wp2
                go_roundw
                case rel => exact ⟨k + 1, rfl, by omega, by first | (rw [HN1.out]; done) | (rw [HN1.out]; rfl), ⟨_, hxe2, by rw [HN1.out, HIS.out]; exact HX9.out⟩, HT9.out⟩
                case measure => simp [intOf]; omega
          · have b21 : (o == 21) = false := by simpa using h21
            have b23 : (o == 23) = false := by simpa using h23
            cases hc : closesV o with
            | true =>
              have hrn := rcl_ne hc
              have hci := closer_iff (x := opAt l t) hc
              generalize hrc : rclV o = rc at *
              by_cases hmt : opAt l t = rc
              · have hcv := hci.2 hmt
                have hmt' : (opAt l t == rc) = true := by simpa using hmt
                obtain ⟨ge, ce', hae⟩ := Go.Joins.ownsRow_form h3b.e (by rw [hxe2]; omega)
                rw [hxe2] at hae
                simp only [Value.slice.injEq, true_and] at hae
                obtain ⟨rfl, rfl⟩ := hae
                have hre := h3b.e
                unfold intOwnV at hre
                rw [hxe2] at hre
                have de := hre.cellAt t (by omega)
                have hte : t < (xe ++ [-1]).length := by omega
                rw [List.getElem?_map, List.getElem?_eq_getElem hte] at de
                simp only [Option.map_some] at de
                have fe := hre.frozenAt t
                generalize (xe ++ [-1])[t] = y at de
                obtain ⟨h3c, T3⟩ := h3b.setE hxe2 HT2.out t (k : Int)
                have hroc := h3c.o
                unfold intOwnV at hroc
                rw [opRow_len, ← hM] at hroc
                have hfst := own_firstV hroc r.length (by omega)
                have hys : intOwnV (w2.setCell ⟨ge, t, none⟩ (.int .i64 (k : Int))) w.heap.size (.slice (some ⟨go, 0, none⟩) (opRow r).length cp) (opRow r) := by
                  unfold intOwnV
                  rw [opRow_len]
                  have e : ((opRow (t :: r)).map (Value.int .i64)).take (r.length * 1) = (opRow r).map (Value.int .i64) := by
                    rw [opRow_cons, List.map_append, List.take_append_of_le_length (by rw [List.length_map, opRow_len]; omega), List.take_of_length_le (by rw [List.length_map, opRow_len]; omega)]
                  rw [e] at hfst
                  exact hfst
                obtain ⟨a4, c4, w4, hrK, o4, t4, f4⟩ := clone_own (B := w.heap.size) (srow_int hys) (by rw [opRow_len]; omega) T3.size 88
                obtain ⟨h3d, T4⟩ := h3c.newO T3 t4 o4 f4
                rw [opRow_len, show (w2.setCell ⟨ge, t, none⟩ (.int .i64 (k : Int))).heap.size = w2.heap.size from by simp] at hrK
                rw [opRow_len] at h3d
                have hr40 := SRow.keep HR.out T4 (by simp)
                rw [HN.out] at hr40
                obtain ⟨g4, off4, eg, _, _, c1t4, _⟩ := insv_at hr40 t (by omega)
                simp only [Option.some.injEq, Addr.mk.injEq] at eg
                obtain ⟨rfl, rfl, _⟩ := eg
                have hcpM : M ≤ cp := by
                  rcases hroc.2 with ⟨q, _⟩ | ⟨_, _, _, q, _, _, h1, _⟩
                  · simp at q
                  · simp only [Value.slice.injEq] at q; omega
                have hrc' : (r.length : Int) ≤ cp := by omega
                have hrM' : (r.length : Int) ≤ M := by omega
                have htk1 : (t : Int) < (k : Int) + 1 := by omega
                have htk2 : (t : Int) < ((k + 1 : Nat) : Int) := by omega
                have hxs : ((xe ++ [-1]).set t (k : Int)).length = k + 1 := by rw [List.length_set]; exact hxe2
                generalize hag : argAt l t = ag at *
                have H4 : Hid _ := h3d
                have HT4 : Hid _ := T4
                have HHM : Hid (opAt l t = rc) := hmt
                clear hre hroc hfst hys h3c T3 o4 t4 f4 hr40 hmt hcpM
                by_cases hak : ag = (k : Int)
                · have bak : (ag == (k : Int)) = true := by simpa using hak
                  cases hov : opensV o with
                  | true =>
                    have HN1 : Hid (runV true mayV l (k + 1) = ⟨k :: r, wr_⟩) := by
                      show _ = _
                      rw [HNX.out]
                      rw [st_close_open (o := o) HO.out hc hov, st_match (o := o) HO.out hc hcv, hag, if_neg (fun q => q hak)]
                    obtain ⟨a1, c1, w8, a2, c2, w9, hrC, hrP, hx9, T9⟩ := R3.consO (op := r) H4.out rfl (by simp at hlen; omega) HT4.out k
                    have HX9 : Hid _ := hx9
                    have HT9 : Hid _ := T9
                    clear hx9 T9
                    rw [hov] at HOPE
                    rw [HHM.out] at c0t
                    generalize r.length = rl at *
                    clear HHM hci hcv hag h3d T4
                    clear h3 h3b hT T2 hM hlen hpl hwl HNX HST HO hr2 tE hlo hMr
                    go_wp2_with (at_builtin; first | (refine Lib.wpList_append_run _ rfl (.tmp 37) (.tmp 39) _ _ rfl _ _ rfl rfl _ _ hrI ?_) | (refine Lib.wpList_append_run _ rfl (.tmp 41) (.tmp 42) _ _ rfl _ _ rfl rfl _ _ hrE ?_))
                    refine hcl.out.mono ?_
                    rintro e wb ⟨rfl, rfl⟩
                    clear hcl
                    go_wp2_with (at_builtin; first | (refine Lib.wpList_append_run _ rfl (.tmp 83) (.tmp 88) _ _ rfl _ _ rfl rfl _ _ hrK ?_))
                    refine (HOPE.out _).out.mono ?_
                    rintro e wd ⟨rfl, rfl⟩
                    clear HOPE
                    go_wp2_with (at_builtin; first | (refine Lib.wpList_append_run _ rfl (.tmp 123) (.tmp 124) _ _ rfl _ _ rfl rfl _ _ hrC ?_) | (refine Lib.wpList_append_run _ rfl (.tmp 125) (.tmp 127) _ _ rfl _ _ rfl rfl _ _ hrP ?_))
                    go_wp2
                    go_roundw
                    case rel => exact ⟨k + 1, rfl, by omega, by first | (rw [HN1.out]; done) | (rw [HN1.out]; rfl), ⟨_, hxs, by rw [HN1.out, HIS.out]; exact HX9.out⟩, HT9.out⟩
                    case measure => simp [intOf]; omega
                  | false =>
                    have HN1 : Hid (runV true mayV l (k + 1) = ⟨r, wr_⟩) := by
                      show _ = _
                      rw [HNX.out]
                      rw [st_close (o := o) HO.out hc hov, st_match (o := o) HO.out hc hcv, hag, if_neg (fun q => q hak)]
                    rw [hov] at HOPE
                    rw [HHM.out] at c0t
                    generalize r.length = rl at *
                    clear HHM hci hcv hag h3d T4
                    clear h3 h3b hT T2 hM hlen hpl hwl HNX HST HO hr2 tE hlo hMr
                    go_wp2_with (at_builtin; first | (refine Lib.wpList_append_run _ rfl (.tmp 37) (.tmp 39) _ _ rfl _ _ rfl rfl _ _ hrI ?_) | (refine Lib.wpList_append_run _ rfl (.tmp 41) (.tmp 42) _ _ rfl _ _ rfl rfl _ _ hrE ?_))
                    refine hcl.out.mono ?_
                    rintro e wb ⟨rfl, rfl⟩
                    clear hcl
                    go_wp2_with (at_builtin; first | (refine Lib.wpList_append_run _ rfl (.tmp 83) (.tmp 88) _ _ rfl _ _ rfl rfl _ _ hrK ?_))
                    refine (HOPE.out _).out.mono ?_
                    rintro e wd ⟨rfl, rfl⟩
                    clear HOPE
                    go_wp2
                    go_roundw
                    case rel => exact ⟨k + 1, rfl, by omega, by first | (rw [HN1.out]; done) | (rw [HN1.out]; rfl), ⟨_, hxs, by rw [HN1.out, HIS.out]; exact H4.out⟩, HT4.out⟩
                    case measure => simp [intOf]; omega
                · have bak : (ag == (k : Int)) = false := by simpa using hak
                  cases wr_ with
                  | none =>
                    simp only [wrI]
                    cases hov : opensV o with
                    | true =>
                      have HN1 : Hid (runV true mayV l (k + 1) = ⟨k :: r, some t⟩) := by
                        show _ = _
                        rw [HNX.out]
                        rw [st_close_open (o := o) HO.out hc hov, st_match (o := o) HO.out hc hcv, hag, if_pos hak, show blameV t none = some t from rfl]
                      obtain ⟨a1, c1, w8, a2, c2, w9, hrC, hrP, hx9, T9⟩ := R3.consO (op := r) H4.out rfl (by simp at hlen; omega) HT4.out k
                      have HX9 : Hid _ := hx9
                      have HT9 : Hid _ := T9
                      clear hx9 T9
                      rw [hov] at HOPE
                      rw [HHM.out] at c0t
                      generalize r.length = rl at *
                      clear HHM hci hcv hag h3d T4
                      clear h3 h3b hT T2 hM hlen hpl hwl HNX HST HO hr2 tE hlo hMr
                      go_wp2_with (at_builtin; first | (refine Lib.wpList_append_run _ rfl (.tmp 37) (.tmp 39) _ _ rfl _ _ rfl rfl _ _ hrI ?_) | (refine Lib.wpList_append_run _ rfl (.tmp 41) (.tmp 42) _ _ rfl _ _ rfl rfl _ _ hrE ?_))
                      refine hcl.out.mono ?_
                      rintro e wb ⟨rfl, rfl⟩
                      clear hcl
                      go_wp2_with (at_builtin; first | (refine Lib.wpList_append_run _ rfl (.tmp 83) (.tmp 88) _ _ rfl _ _ rfl rfl _ _ hrK ?_))
                      refine (HOPE.out _).out.mono ?_
                      rintro e wd ⟨rfl, rfl⟩
                      clear HOPE
                      go_wp2_with (at_builtin; first | (refine Lib.wpList_append_run _ rfl (.tmp 123) (.tmp 124) _ _ rfl _ _ rfl rfl _ _ hrC ?_) | (refine Lib.wpList_append_run _ rfl (.tmp 125) (.tmp 127) _ _ rfl _ _ rfl rfl _ _ hrP ?_))
                      go_wp2
                      go_roundw
                      case rel => exact ⟨k + 1, rfl, by omega, by first | (rw [HN1.out]; done) | (rw [HN1.out]; rfl), ⟨_, hxs, by rw [HN1.out, HIS.out]; exact HX9.out⟩, HT9.out⟩
                      case measure => simp [intOf]; omega
                    | false =>
                      have HN1 : Hid (runV true mayV l (k + 1) = ⟨r, some t⟩) := by
                        show _ = _
                        rw [HNX.out]
                        rw [st_close (o := o) HO.out hc hov, st_match (o := o) HO.out hc hcv, hag, if_pos hak, show blameV t none = some t from rfl]
                      rw [hov] at HOPE
                      rw [HHM.out] at c0t
                      generalize r.length = rl at *
                      clear HHM hci hcv hag h3d T4
                      clear h3 h3b hT T2 hM hlen hpl hwl HNX HST HO hr2 tE hlo hMr
                      go_wp2_with (at_builtin; first | (refine Lib.wpList_append_run _ rfl (.tmp 37) (.tmp 39) _ _ rfl _ _ rfl rfl _ _ hrI ?_) | (refine Lib.wpList_append_run _ rfl (.tmp 41) (.tmp 42) _ _ rfl _ _ rfl rfl _ _ hrE ?_))
                      refine hcl.out.mono ?_
                      rintro e wb ⟨rfl, rfl⟩
                      clear hcl
                      go_wp2_with (at_builtin; first | (refine Lib.wpList_append_run _ rfl (.tmp 83) (.tmp 88) _ _ rfl _ _ rfl rfl _ _ hrK ?_))
                      refine (HOPE.out _).out.mono ?_
                      rintro e wd ⟨rfl, rfl⟩
                      clear HOPE
                      go_wp2
                      go_roundw
                      case rel => exact ⟨k + 1, rfl, by omega, by first | (rw [HN1.out]; done) | (rw [HN1.out]; rfl), ⟨_, hxs, by rw [HN1.out, HIS.out]; exact H4.out⟩, HT4.out⟩
                      case measure => simp [intOf]; omega
                  | some j =>
                    have hj0 : ¬ ((j : Int) < 0) := by omega
                    simp only [wrI]
                    by_cases htj : t < j
                    · have htj' : (t : Int) < j := by omega
                      have hbl : blameV t (some j) = some t := by simp [blameV, htj]
                      cases hov : opensV o with
                      | true =>
                        have HN1 : Hid (runV true mayV l (k + 1) = ⟨k :: r, some t⟩) := by
                          show _ = _
                          rw [HNX.out]
                          rw [st_close_open (o := o) HO.out hc hov, st_match (o := o) HO.out hc hcv, hag, if_pos hak, hbl]
                        obtain ⟨a1, c1, w8, a2, c2, w9, hrC, hrP, hx9, T9⟩ := R3.consO (op := r) H4.out rfl (by simp at hlen; omega) HT4.out k
                        have HX9 : Hid _ := hx9
                        have HT9 : Hid _ := T9
                        clear hx9 T9
                        rw [hov] at HOPE
                        rw [HHM.out] at c0t
                        generalize r.length = rl at *
                        clear HHM hci hcv hag h3d T4
                        clear h3 h3b hT T2 hM hlen hpl hwl HNX HST HO hr2 tE hlo hMr
                        go_wp2_with (at_builtin; first | (refine Lib.wpList_append_run _ rfl (.tmp 37) (.tmp 39) _ _ rfl _ _ rfl rfl _ _ hrI ?_) | (refine Lib.wpList_append_run _ rfl (.tmp 41) (.tmp 42) _ _ rfl _ _ rfl rfl _ _ hrE ?_))
                        refine hcl.out.mono ?_
                        rintro e wb ⟨rfl, rfl⟩
                        clear hcl
                        go_wp2_with (at_builtin; first | (refine Lib.wpList_append_run _ rfl (.tmp 83) (.tmp 88) _ _ rfl _ _ rfl rfl _ _ hrK ?_))
                        refine (HOPE.out _).out.mono ?_
                        rintro e wd ⟨rfl, rfl⟩
                        clear HOPE
                        go_wp2_with (at_builtin; first | (refine Lib.wpList_append_run _ rfl (.tmp 123) (.tmp 124) _ _ rfl _ _ rfl rfl _ _ hrC ?_) | (refine Lib.wpList_append_run _ rfl (.tmp 125) (.tmp 127) _ _ rfl _ _ rfl rfl _ _ hrP ?_))
                        go_wp2
                        go_roundw
                        case rel => exact ⟨k + 1, rfl, by omega, by first | (rw [HN1.out]; done) | (rw [HN1.out]; rfl), ⟨_, hxs, by rw [HN1.out, HIS.out]; exact HX9.out⟩, HT9.out⟩
                        case measure => simp [intOf]; omega
                      | false =>
                        have HN1 : Hid (runV true mayV l (k + 1) = ⟨r, some t⟩) := by
                          show _ = _
                          rw [HNX.out]
                          rw [st_close (o := o) HO.out hc hov, st_match (o := o) HO.out hc hcv, hag, if_pos hak, hbl]
                        rw [hov] at HOPE
                        rw [HHM.out] at c0t
                        generalize r.length = rl at *
                        clear HHM hci hcv hag h3d T4
                        clear h3 h3b hT T2 hM hlen hpl hwl HNX HST HO hr2 tE hlo hMr
                        go_wp2_with (at_builtin; first | (refine Lib.wpList_append_run _ rfl (.tmp 37) (.tmp 39) _ _ rfl _ _ rfl rfl _ _ hrI ?_) | (refine Lib.wpList_append_run _ rfl (.tmp 41) (.tmp 42) _ _ rfl _ _ rfl rfl _ _ hrE ?_))
                        refine hcl.out.mono ?_
                        rintro e wb ⟨rfl, rfl⟩
                        clear hcl
                        go_wp2_with (at_builtin; first | (refine Lib.wpList_append_run _ rfl (.tmp 83) (.tmp 88) _ _ rfl _ _ rfl rfl _ _ hrK ?_))
                        refine (HOPE.out _).out.mono ?_
                        rintro e wd ⟨rfl, rfl⟩
                        clear HOPE
                        go_wp2
                        go_roundw
                        case rel => exact ⟨k + 1, rfl, by omega, by first | (rw [HN1.out]; done) | (rw [HN1.out]; rfl), ⟨_, hxs, by rw [HN1.out, HIS.out]; exact H4.out⟩, HT4.out⟩
                        case measure => simp [intOf]; omega
                    · have htj' : ¬ ((t : Int) < j) := by omega
                      have hbl : blameV t (some j) = some j := by simp [blameV, htj]
                      cases hov : opensV o with
                      | true =>
                        have HN1 : Hid (runV true mayV l (k + 1) = ⟨k :: r, some j⟩) := by
                          show _ = _
                          rw [HNX.out]
                          rw [st_close_open (o := o) HO.out hc hov, st_match (o := o) HO.out hc hcv, hag, if_pos hak, hbl]
                        obtain ⟨a1, c1, w8, a2, c2, w9, hrC, hrP, hx9, T9⟩ := R3.consO (op := r) H4.out rfl (by simp at hlen; omega) HT4.out k
                        have HX9 : Hid _ := hx9
                        have HT9 : Hid _ := T9
                        clear hx9 T9
                        rw [hov] at HOPE
                        rw [HHM.out] at c0t
                        generalize r.length = rl at *
                        clear HHM hci hcv hag h3d T4
                        clear h3 h3b hT T2 hM hlen hpl hwl HNX HST HO hr2 tE hlo hMr
                        go_wp2_with (at_builtin; first | (refine Lib.wpList_append_run _ rfl (.tmp 37) (.tmp 39) _ _ rfl _ _ rfl rfl _ _ hrI ?_) | (refine Lib.wpList_append_run _ rfl (.tmp 41) (.tmp 42) _ _ rfl _ _ rfl rfl _ _ hrE ?_))
                        refine hcl.out.mono ?_
                        rintro e wb ⟨rfl, rfl⟩
                        clear hcl
                        go_wp2_with (at_builtin; first | (refine Lib.wpList_append_run _ rfl (.tmp 83) (.tmp 88) _ _ rfl _ _ rfl rfl _ _ hrK ?_))
                        refine (HOPE.out _).out.mono ?_
                        rintro e wd ⟨rfl, rfl⟩
                        clear HOPE
                        go_wp2_with (at_builtin; first | (refine Lib.wpList_append_run _ rfl (.tmp 123) (.tmp 124) _ _ rfl _ _ rfl rfl _ _ hrC ?_) | (refine Lib.wpList_append_run _ rfl (.tmp 125) (.tmp 127) _ _ rfl _ _ rfl rfl _ _ hrP ?_))
                        go_wp2
                        go_roundw
                        case rel => exact ⟨k + 1, rfl, by omega, by first | (rw [HN1.out]; done) | (rw [HN1.out]; rfl), ⟨_, hxs, by rw [HN1.out, HIS.out]; exact HX9.out⟩, HT9.out⟩
                        case measure => simp [intOf]; omega
                      | false =>
                        have HN1 : Hid (runV true mayV l (k + 1) = ⟨r, some j⟩) := by
                          show _ = _
                          rw [HNX.out]
                          rw [st_close (o := o) HO.out hc hov, st_match (o := o) HO.out hc hcv, hag, if_pos hak, hbl]
                        rw [hov] at HOPE
                        rw [HHM.out] at c0t
                        generalize r.length = rl at *
                        clear HHM hci hcv hag h3d T4
                        clear h3 h3b hT T2 hM hlen hpl hwl HNX HST HO hr2 tE hlo hMr
                        go_wp2_with (at_builtin; first | (refine Lib.wpList_append_run _ rfl (.tmp 37) (.tmp 39) _ _ rfl _ _ rfl rfl _ _ hrI ?_) | (refine Lib.wpList_append_run _ rfl (.tmp 41) (.tmp 42) _ _ rfl _ _ rfl rfl _ _ hrE ?_))
                        refine hcl.out.mono ?_
                        rintro e wb ⟨rfl, rfl⟩
                        clear hcl
                        go_wp2_with (at_builtin; first | (refine Lib.wpList_append_run _ rfl (.tmp 83) (.tmp 88) _ _ rfl _ _ rfl rfl _ _ hrK ?_))
                        refine (HOPE.out _).out.mono ?_
                        rintro e wd ⟨rfl, rfl⟩
                        clear HOPE
                        go_wp2
                        go_roundw
                        case rel => exact ⟨k + 1, rfl, by omega, by first | (rw [HN1.out]; done) | (rw [HN1.out]; rfl), ⟨_, hxs, by rw [HN1.out, HIS.out]; exact H4.out⟩, HT4.out⟩
                        case measure => simp [intOf]; omega
              · have hcv : closerV (opAt l t) ≠ o := fun q => hmt (hci.1 q)
                have hmt' : (opAt l t == rc) = false := by simpa using hmt
                have hmt2 : (opAt l t != rc) = true := by simp [hmt]
                cases wr_ with
                | none =>
                  simp only [wrI]
                  cases hov : opensV o with
                  | true =>
                    have HN1 : Hid (runV true mayV l (k + 1) = ⟨k :: t :: r, some k⟩) := by
                      show _ = _
                      rw [HNX.out]
                      rw [st_close_open (o := o) HO.out hc hov, st_badm (o := o) HO.out hc hcv, show blameV k none = some k from rfl]
                    obtain ⟨a1, c1, w8, a2, c2, w9, hrC, hrP, hx9, T9⟩ := R3.consO (op := (t :: r)) HB3.out hM (by simp at hlen ⊢; omega) HT2.out k
                    have HX9 : Hid _ := hx9
                    have HT9 : Hid _ := T9
                    clear hx9 T9
                    rw [hov] at HOPE
                    generalize r.length = rl at *
                    generalize opAt l t = ot at *
                    clear hci hcv
                    clear h3 h3b hT T2 hM hlen hpl hwl HNX HST HO hr2 tE hlo hMr
                    go_wp2_with (at_builtin; first | (refine Lib.wpList_append_run _ rfl (.tmp 37) (.tmp 39) _ _ rfl _ _ rfl rfl _ _ hrI ?_) | (refine Lib.wpList_append_run _ rfl (.tmp 41) (.tmp 42) _ _ rfl _ _ rfl rfl _ _ hrE ?_))
                    refine hcl.out.mono ?_
                    rintro e wb ⟨rfl, rfl⟩
                    clear hcl
                    go_wp2_with fail
                    refine (HOPE.out _).out.mono ?_
                    rintro e wd ⟨rfl, rfl⟩
                    clear HOPE
                    go_wp2_with (at_builtin; first | (refine Lib.wpList_append_run _ rfl (.tmp 123) (.tmp 124) _ _ rfl _ _ rfl rfl _ _ hrC ?_) | (refine Lib.wpList_append_run _ rfl (.tmp 125) (.tmp 127) _ _ rfl _ _ rfl rfl _ _ hrP ?_))
                    go_wp2
                    go_roundw
                    case rel => exact ⟨k + 1, rfl, by omega, by first | (rw [HN1.out]; done) | (rw [HN1.out]; rfl), ⟨_, hxe2, by rw [HN1.out, HIS.out]; exact HX9.out⟩, HT9.out⟩
                    case measure => simp [intOf]; omega
                  | false =>
                    have HN1 : Hid (runV true mayV l (k + 1) = ⟨t :: r, some k⟩) := by
                      show _ = _
                      rw [HNX.out]
                      rw [st_close (o := o) HO.out hc hov, st_badm (o := o) HO.out hc hcv, show blameV k none = some k from rfl]
                    have hx9 := HB3.out
                    have T9 := HT2.out
                    have HX9 : Hid _ := hx9
                    have HT9 : Hid _ := T9
                    clear hx9 T9
                    rw [hov] at HOPE
                    generalize r.length = rl at *
                    generalize opAt l t = ot at *
                    clear hci hcv
                    clear h3 h3b hT T2 hM hlen hpl hwl HNX HST HO hr2 tE hlo hMr
                    go_wp2_with (at_builtin; first | (refine Lib.wpList_append_run _ rfl (.tmp 37) (.tmp 39) _ _ rfl _ _ rfl rfl _ _ hrI ?_) | (refine Lib.wpList_append_run _ rfl (.tmp 41) (.tmp 42) _ _ rfl _ _ rfl rfl _ _ hrE ?_))
                    refine hcl.out.mono ?_
                    rintro e wb ⟨rfl, rfl⟩
                    clear hcl
                    go_wp2_with fail
                    refine (HOPE.out _).out.mono ?_
                    rintro e wd ⟨rfl, rfl⟩
                    clear HOPE
                    go_wp2
                    go_roundw
                    case rel => exact ⟨k + 1, rfl, by omega, by first | (rw [HN1.out]; done) | (rw [HN1.out]; rfl), ⟨_, hxe2, by rw [HN1.out, HIS.out]; exact HX9.out⟩, HT9.out⟩
                    case measure => simp [intOf]; omega
                | some j =>
                  have hjk := hwl j rfl
                  have hj0 : ¬ ((j : Int) < 0) := by omega
                  have hjk' : ¬ ((k : Int) < (j : Int)) := by omega
                  have hbl := blame_past hjk
                  simp only [wrI]
                  cases hov : opensV o with
                  | true =>
                    have HN1 : Hid (runV true mayV l (k + 1) = ⟨k :: t :: r, some j⟩) := by
                      show _ = _
                      rw [HNX.out]
                      rw [st_close_open (o := o) HO.out hc hov, st_badm (o := o) HO.out hc hcv, hbl]
                    obtain ⟨a1, c1, w8, a2, c2, w9, hrC, hrP, hx9, T9⟩ := R3.consO (op := (t :: r)) HB3.out hM (by simp at hlen ⊢; omega) HT2.out k
                    have HX9 : Hid _ := hx9
                    have HT9 : Hid _ := T9
                    clear hx9 T9
                    rw [hov] at HOPE
                    generalize r.length = rl at *
                    generalize opAt l t = ot at *
                    clear hci hcv
                    clear h3 h3b hT T2 hM hlen hpl hwl HNX HST HO hr2 tE hlo hMr
                    go_wp2_with (at_builtin; first | (refine Lib.wpList_append_run _ rfl (.tmp 37) (.tmp 39) _ _ rfl _ _ rfl rfl _ _ hrI ?_) | (refine Lib.wpList_append_run _ rfl (.tmp 41) (.tmp 42) _ _ rfl _ _ rfl rfl _ _ hrE ?_))
                    refine hcl.out.mono ?_
                    rintro e wb ⟨rfl, rfl⟩
                    clear hcl
                    go_wp2_with fail
                    refine (HOPE.out _).out.mono ?_
                    rintro e wd ⟨rfl, rfl⟩
                    clear HOPE
                    go_wp2_with (at_builtin; first | (refine Lib.wpList_append_run _ rfl (.tmp 123) (.tmp 124) _ _ rfl _ _ rfl rfl _ _ hrC ?_) | (refine Lib.wpList_append_run _ rfl (.tmp 125) (.tmp 127) _ _ rfl _ _ rfl rfl _ _ hrP ?_))
                    go_wp2
                    go_roundw
                    case rel => exact ⟨k + 1, rfl, by omega, by first | (rw [HN1.out]; done) | (rw [HN1.out]; rfl), ⟨_, hxe2, by rw [HN1.out, HIS.out]; exact HX9.out⟩, HT9.out⟩
                    case measure => simp [intOf]; omega
                  | false =>
                    have HN1 : Hid (runV true mayV l (k + 1) = ⟨t :: r, some j⟩) := by
                      show _ = _
                      rw [HNX.out]
                      rw [st_close (o := o) HO.out hc hov, st_badm (o := o) HO.out hc hcv, hbl]
                    have hx9 := HB3.out
                    have T9 := HT2.out
                    have HX9 : Hid _ := hx9
                    have HT9 : Hid _ := T9
                    clear hx9 T9
                    rw [hov] at HOPE
                    generalize r.length = rl at *
                    generalize opAt l t = ot at *
                    clear hci hcv
                    clear h3 h3b hT T2 hM hlen hpl hwl HNX HST HO hr2 tE hlo hMr
                    go_wp2_with (at_builtin; first | (refine Lib.wpList_append_run _ rfl (.tmp 37) (.tmp 39) _ _ rfl _ _ rfl rfl _ _ hrI ?_) | (refine Lib.wpList_append_run _ rfl (.tmp 41) (.tmp 42) _ _ rfl _ _ rfl rfl _ _ hrE ?_))
                    refine hcl.out.mono ?_
                    rintro e wb ⟨rfl, rfl⟩
                    clear hcl
                    go_wp2_with fail
                    refine (HOPE.out _).out.mono ?_
                    rintro e wd ⟨rfl, rfl⟩
                    clear HOPE
                    go_wp2
                    go_roundw
                    case rel => exact ⟨k + 1, rfl, by omega, by first | (rw [HN1.out]; done) | (rw [HN1.out]; rfl), ⟨_, hxe2, by rw [HN1.out, HIS.out]; exact HX9.out⟩, HT9.out⟩
                    case measure => simp [intOf]; omega
            | false =>
              have hgl := True.intro
              have hov : opensV o = false := by
                have h24 : o ≠ 24 := fun q => by rw [q] at hc; simp [closesV] at hc
                simp [opensV, h21, h23, h24]
              have hrcl : rclV o = 0 := by
                have q : o ≠ 22 ∧ o ≠ 24 ∧ o ≠ 25 := by simpa [closesV] using hc
                simp [rclV, q]
              have HN1 : Hid (runV true mayV l (k + 1) = ⟨(t :: r), wr_⟩) := by
                show _ = _
                rw [HNX.out]
                rw [st_none (o := o) HO.out hc hov]
              have hx9 := HB3.out
              have T9 := HT2.out
              have HX9 : Hid _ := hx9
              have HT9 : Hid _ := T9
              clear hx9 T9
              rw [hov] at HOPE
              rw [hrcl] at hcl
              clear h3 h3b hT T2 hM hlen hpl hwl HNX HST HO hr2 tE hlo hMr
              go_wp2_with (at_builtin; first | (refine Lib.wpList_append_run _ rfl (.tmp 37) (.tmp 39) _ _ rfl _ _ rfl rfl _ _ hrI ?_) | (refine Lib.wpList_append_run _ rfl (.tmp 41) (.tmp 42) _ _ rfl _ _ rfl rfl _ _ hrE ?_))
              refine hcl.out.mono ?_
              rintro e wb ⟨rfl, rfl⟩
              clear hcl
              go_wp2_with fail
              refine (HOPE.out _).out.mono ?_
              rintro e wd ⟨rfl, rfl⟩
              clear HOPE
              go_wp2
              go_roundw
              case rel => exact ⟨k + 1, rfl, by omega, by first | (rw [HN1.out]; done) | (rw [HN1.out]; rfl), ⟨_, hxe2, by rw [HN1.out, HIS.out]; exact HX9.out⟩, HT9.out⟩
              case measure => simp [intOf]; omega
    · obtain rfl : k = N := by omega
      have HFI : Hid _ := h3
      have HTT : Hid _ := hT
      have HOP : Hid (runV true mayV l l.length = ⟨op, wr_⟩) := by show _ = _; rw [← HN.out, hst]
      have HPOST : Hid (∀ v ve W, intOwnV W w.heap.size v (ansI ⟨op, wr_⟩ (insV l k)) → Touch w W [] → BrkPost w l (.returned (.tuple #[v, ve, .int .i64 (ansK ⟨op, wr_⟩), .int .i64 (ansE ⟨op, wr_⟩)])) W) := fun v ve W q t => by
        unfold BrkPost
        rw [HOP.out, ← HN.out]
        exact ⟨v, ve, rfl, q, t⟩
      cases wr_ with
      | some j =>
        have hj0 : ¬ ((j : Int) < 0) := by omega
        have hj1 : (0 : Int) ≤ j := by omega
        simp only [wrI]
        clear h3 hT hst
        go_wp2
        refine bodyPost_ret (v := .tuple #[.slice none 0 0, .slice none 0 0, .int .i64 j, .int .i64 8]) (by simp [results, Tryz.results76, go_sem]) rfl ?_
        exact HPOST.out _ _ _ (World.ownsRow_nil _ _ _ _) HTT.out
      | none =>
        simp only [wrI]
        cases op with
        | nil =>
          have hM0 : ¬ ((0 : Int) < (M : Int)) := by simp at hM; omega
          clear h3 hT hst
          go_wp2
          refine bodyPost_ret (v := .tuple #[.slice ai k ci, .slice ae k ce, .int .i64 0, .int .i64 0]) (by simp [results, Tryz.results76, go_sem]) rfl ?_
          exact HPOST.out _ _ _ (by have q := HFI.out.i; show intOwnV _ _ _ (insV l k); exact q) HTT.out
        | cons t r =>
          have hMr : M = r.length + 1 := by simpa using hM
          obtain ⟨go, cp', hap⟩ := Go.Joins.ownsRow_form h3.o (by rw [opRow_len]; simp)
          rw [opRow_len, ← hM] at hap
          simp only [Value.slice.injEq, true_and] at hap
          obtain ⟨rfl, rfl⟩ := hap
          have hro := h3.o
          unfold intOwnV at hro
          rw [opRow_len, ← hM] at hro
          have dt := hro.cellAt r.length (by omega)
          rw [List.getElem?_map, opRow_cons, List.getElem?_append_right (by rw [opRow_len]; exact Nat.le_refl _), opRow_len, Nat.sub_self] at dt
          simp only [List.getElem?_cons_zero, Option.map_some] at dt
          have hM0 : (0 : Int) < (M : Int) := by omega
          have hMw : IntKind.i64.wrap ((M : Int) - 1) = r.length := by rw [IntKind.wrap_i64]; omega
          have hrM : (r.length : Int) < M := by omega
          have hr0' : (0 : Int) ≤ (r.length : Int) := by omega
          have ht1 : (0 : Int) ≤ (t : Int) := by omega
          clear h3 hT hst hro hM hMr
          generalize r.length = rl at *
          go_wp2
          refine bodyPost_ret (v := .tuple #[.slice none 0 0, .slice none 0 0, .int .i64 t, .int .i64 8]) (by simp [results, Tryz.results76, go_sem]) rfl ?_
          exact HPOST.out _ _ _ (World.ownsRow_nil _ _ _ _) HTT.out

end Go.Proofs.YtcbkafbchpjnoaaGreatDoor

/-
  package norec: Step BY ITS CONTRACT.
-/
import Derived.Test.YtinhdpiecifmhaaNrKeep
namespace Go.Proofs.Ytinhdpiecifmhaa.Nr
set_option linter.unusedVariables false
set_option linter.unusedSimpArgs false
open Go.RowKit Go.Maps

theorem place_all {N : Nat} {w : World} {X : ELoc} {E : Eng} {k : Nat} {l : Loc} {A : Att} (h : At w X E k l A) (hE : EWf N E) (h16 : A.ask.k = 1 ∨ A.ask.k = 6) :
    Calls Try.prog 35 #[ptr X.e, ptr l.a] w (RPost w X (placeE E k A).2 (placeE E k A).1) := by
  have hA := hE.th k A h.hA
  have hev := hE.ev
  have hnb := hE.nb
  unfold placeE
  by_cases p1 : A.place = 1
  · rw [if_pos p1]
    have h1 : A.ask.k = 1 := h16.elim id (fun q => by have := hA.pl6 q; omega)
    exact place1_any h p1 (fun V hV => noteValue_any hV (hA.rd (.inl h1)) hE.hp12)
  rw [if_neg p1]
  by_cases p2 : A.place = 2
  · rw [if_pos p2]
    exact place2_any h p2 (fun V hV => readNoted_any hV hA.k4 hA.thr hA.num hE.pg (by omega) hA.t hA.val)
  rw [if_neg p2]
  by_cases p3 : A.place = 3
  · rw [if_pos p3]
    exact place3_any h p3 (fun V hV => try_any hV hA.k4 hA.thr (by omega))
  rw [if_neg p3]
  by_cases p4 : A.place = 4
  · rw [if_pos p4]
    exact place4_any h p4 (fun V hV => takeLock_any hV hA.k4 hA.thr hA.num hE.pg (by omega) hE.lk0)
  rw [if_neg p4]
  by_cases p5 : A.place = 5
  · rw [if_pos p5]
    exact place5_any h p5 (fun V hV => store_any hV (hA.p5 p5) (allA_in hA) hE.hp12)
  rw [if_neg p5]
  by_cases p6 : A.place = 6
  · rw [if_pos p6]
    exact place6_any h p6 (fun V hV => unlock_any hV hA.k4 hA.thr (by omega) hE.lk0 (by have := hE.lk1; omega))
  rw [if_neg p6]
  by_cases p7 : A.place = 7
  · rw [if_pos p7]
    exact place7_any h p7 (fun V hV => noteCount_any hV hE.lk0)
  rw [if_neg p7]
  by_cases p8 : A.place = 8
  · rw [if_pos p8]
    exact place8_any h p8 (fun V hV => compare_any hV hA.k4 hA.thr hA.num hE.pg (by omega) (hA.p8 p8) hA.L hE.hp12)
  rw [if_neg p8]
  exact place9_any h (by omega) (fun V hV => settle_any hV hA.num hE.pg)

theorem enterOf {k : Nat} {fn : Func} (hf : Try.prog.funcs[k]? = some fn) (hn : (fn.name == "runtime.NumGoroutine") = false) (hb : fn.body.isNone = false) (w : World) (cap : Array Value) : (callFunc k cap).run Try.prog w = .ok (.enter k cap) w := by
  simp only [callFunc, Sem.run_bind, run_program, Result.andThen_ok, hf, hn, hb, Bool.false_eq_true, if_false, Sem.run_pure]

theorem goOn_all {N : Nat} {w : World} {X : ELoc} {E : Eng} {k : Nat} {l : Loc} {A : Att} (h : At w X E k l A) (hE : EWf N E) (h0 : ¬ A.ask.k = 0) :
    Calls Try.prog 18 #[ptr X.e, ptr l.a] w (RPost w X (goE E k A).2 (goE E k A).1) := by
  have hA := hE.th k A h.hA
  have hev := hE.ev
  have hnb := hE.nb
  have hkk := hA.kk
  unfold goE
  by_cases k1 : A.ask.k = 1
  · rw [if_pos k1]
    refine goOn1_any h k1 hA.t (by omega) (fun v hv => ?_) (fun hn V hV => ?_)
    · rw [hv]; exact ⟨rfl, rfl⟩
    · rw [hn]; exact place_all hV hE (.inl k1)
  rw [if_neg k1]
  by_cases k6 : A.ask.k = 6
  · rw [if_pos k6]
    exact goOn6_any h k6 (fun V hV => place_all hV hE (.inr k6))
  rw [if_neg k6]
  by_cases k2 : A.ask.k = 2
  · rw [if_pos k2]
    exact goOn2_any h k2 (fun V hV => write_any hV hA.k4 hA.thr hA.num hE.pg (by omega) hA.t hA.v)
  rw [if_neg k2]
  by_cases k3 : A.ask.k = 3
  · rw [if_pos k3]
    exact goOn3_any h k3 (fun V hV => frame_any hV (by omega) 4 _ (pushS A.Fs) (enterOf Try.func38 (by kernel_rfl) (by kernel_rfl)) (fun W ch hp => push_any hp))
  rw [if_neg k3]
  by_cases k4 : A.ask.k = 4
  · rw [if_pos k4]
    exact goOn4_any h k4 (fun V hV => frame_any hV (by omega) 5 _ (dropS A.Fs) (enterOf Try.func39 (by kernel_rfl) (by kernel_rfl)) (fun W ch hp => drop_any hp))
  rw [if_neg k4]
  by_cases k5 : A.ask.k = 5
  · rw [if_pos k5]
    exact goOn5_any h k5 (fun V hV => frame_any hV (by omega) 6 _ (mergeS A.Fs) (enterOf Try.func40 (by kernel_rfl) (by kernel_rfl)) (fun W ch hp => merge_any hp))
  rw [if_neg k5]
  exact goOn7_any h (by omega) (fun V hV => abort_any hV hA.k4 hA.thr hA.num hE.pg (by omega) 4)

def stepE (E : Eng) (th : Int) : RpD × Eng :=
  if ¬ (0 ≤ th ∧ th < 4) then ({ rp0 with err := 2 }, E)
  else match E.th th.toNat with
    | none => ({ rp0 with err := 8 }, E)
    | some A => if A.ask.k = 0 then ({ rp0 with err := 8 }, E) else goE E th.toNat A

theorem step_no (X : ELoc) (E : Eng) (th : Int) (hth : ¬ (0 ≤ th ∧ th < 4)) (w : World) (h : EObj w X E) :
    Calls Try.prog 6 #[ptr X.e, .int .i64 th] w (RPost w X E { rp0 with err := 2 }) := by
  have M0 : Hid (Mid w X (w.alloc (rpC rp0)) X) := Mid.start h
  have HO0 : Hid (EObj (w.alloc (rpC rp0)) X E) := h.fresh ((Touch.refl w []).alloc _)
  have TH := HidC.mk (thread_no X th hth (w.alloc (rpC rp0)))
  clear h
  go_enter Try.func6, Try.ntmps6
  go_wp2_with fail
  refine TH.out.mono ?_
  rintro x w3 ⟨rfl, rfl⟩
  clear TH
  have M := M0
  have HO := HO0
  clear M0 HO0
  have HEND : Hid _ := M.out.end HO.out ({ rp0 with err := 2 })
  clear M HO
  go_wp2_with (refine wpList_store_mid rfl 38 _ _ rfl w.heap.size 0 (rpL ({ rp0 with err := 2 })).toArray rfl rfl HEND.out.1 Try.size_reply (rp_one _) ?_; refine wpList_name fun W3 hW3 => ?_; obtain ⟨g1, g2, g3⟩ := HEND.out.2 W3 hW3; clear hW3)
  refine bodyPost_ret (v := RpD.val' ({ rp0 with err := 2 })) (Slot.load g1 _ rfl rfl) rfl ?_
  exact ⟨_, rfl, g2, g3⟩

theorem step_none (X : ELoc) (E : Eng) (k : Nat) (hk : k < 4) (hn : E.th k = none) (w : World) (h : EObj w X E) :
    Calls Try.prog 6 #[ptr X.e, .int .i64 k] w (RPost w X E { rp0 with err := 8 }) := by
  have M0 : Hid (Mid w X (w.alloc (rpC rp0)) X) := Mid.start h
  have h1 := h.fresh ((Touch.refl w []).alloc (rpC rp0))
  have HO0 : Hid (EObj (w.alloc (rpC rp0)) X E) := h1
  have TH := HidC.mk (thread_any X E k hk (w.alloc (rpC rp0)) h1)
  rw [h.noatt hn] at TH
  simp only [tptr] at TH
  clear h h1
  go_enter Try.func6, Try.ntmps6
  go_wp2_with fail
  refine TH.out.mono ?_
  rintro x w3 ⟨rfl, rfl⟩
  clear TH
  have M := M0
  have HO := HO0
  clear M0 HO0
  have HEND : Hid _ := M.out.end HO.out ({ rp0 with err := 8 })
  clear M HO
  go_wp2_with (refine wpList_store_mid rfl 38 _ _ rfl w.heap.size 0 (rpL ({ rp0 with err := 8 })).toArray rfl rfl HEND.out.1 Try.size_reply (rp_one _) ?_; refine wpList_name fun W3 hW3 => ?_; obtain ⟨g1, g2, g3⟩ := HEND.out.2 W3 hW3; clear hW3)
  refine bodyPost_ret (v := RpD.val' ({ rp0 with err := 8 })) (Slot.load g1 _ rfl rfl) rfl ?_
  exact ⟨_, rfl, g2, g3⟩

theorem step_idle (X : ELoc) (E : Eng) (k : Nat) (hk : k < 4) (l : Loc) (A : Att) (w : World) (h : At w X E k l A) (h0 : A.ask.k = 0) :
    Calls Try.prog 6 #[ptr X.e, .int .i64 k] w (RPost w X E { rp0 with err := 8 }) := by
  have M0 : Hid (Mid w X (w.alloc (rpC rp0)) X) := Mid.start h.h
  have h1 := h.fresh ((Touch.refl w []).alloc (rpC rp0))
  have HO0 : Hid (EObj (w.alloc (rpC rp0)) X E) := h1.h
  have TH := HidC.mk (thread_any X E k hk (w.alloc (rpC rp0)) h1.h)
  rw [h.hl] at TH
  simp only [tptr] at TH
  have c2 := h.obj.cells.c2
  rw [h0] at c2
  have hla := lt_of_heap h.obj.st
  clear h h1
  go_enter Try.func6, Try.ntmps6
  go_wp2_with fail
  refine TH.out.mono ?_
  rintro x w3 ⟨rfl, rfl⟩
  clear TH
  have M := M0
  have HO := HO0
  clear M0 HO0
  have HEND : Hid _ := M.out.end HO.out ({ rp0 with err := 8 })
  clear M HO
  go_wp2_with (refine wpList_store_mid rfl 38 _ _ rfl w.heap.size 0 (rpL ({ rp0 with err := 8 })).toArray rfl rfl HEND.out.1 Try.size_reply (rp_one _) ?_; refine wpList_name fun W3 hW3 => ?_; obtain ⟨g1, g2, g3⟩ := HEND.out.2 W3 hW3; clear hW3)
  refine bodyPost_ret (v := RpD.val' ({ rp0 with err := 8 })) (Slot.load g1 _ rfl rfl) rfl ?_
  exact ⟨_, rfl, g2, g3⟩

theorem step_go {N : Nat} (X : ELoc) (E : Eng) (k : Nat) (hk : k < 4) (l : Loc) (A : Att) (w : World) (h : At w X E k l A) (hE : EWf N E) (h0 : ¬ A.ask.k = 0) :
    Calls Try.prog 6 #[ptr X.e, .int .i64 k] w (RPost w X (goE E k A).2 (goE E k A).1) := by
  have M0 : Hid (Mid w X (w.alloc (rpC rp0)) X) := Mid.start h.h
  have h1 := h.fresh ((Touch.refl w []).alloc (rpC rp0))
  have TH := HidC.mk (thread_any X E k hk (w.alloc (rpC rp0)) h1.h)
  rw [h.hl] at TH
  simp only [tptr] at TH
  have GO := HidC.mk (goOn_all h1 hE h0)
  have c2 := h.obj.cells.c2
  have h0' : (A.ask.k == 0) = false := by simpa using h0
  have hla := lt_of_heap h.obj.st
  generalize goE E k A = RR at *
  obtain ⟨R, E'⟩ := RR
  clear h h1
  go_enter Try.func6, Try.ntmps6
  go_wp2_with fail
  refine TH.out.mono ?_
  rintro x w3 ⟨rfl, rfl⟩
  clear TH
  go_wp2_with fail
  refine GO.out.mono ?_
  rintro x w5 ⟨X5, rfl, h5, n5⟩
  have M : Hid (Mid w X w5 X5) := M0.out.next n5
  have HO : Hid _ := h5
  clear GO h5 n5 M0 c2
  have HEND : Hid _ := M.out.end HO.out (R)
  clear M HO
  go_wp2_with (refine wpList_store_mid rfl 38 _ _ rfl w.heap.size 0 (rpL (R)).toArray rfl rfl HEND.out.1 Try.size_reply (rp_one _) ?_; refine wpList_name fun W3 hW3 => ?_; obtain ⟨g1, g2, g3⟩ := HEND.out.2 W3 hW3; clear hW3)
  refine bodyPost_ret (v := RpD.val' (R)) (Slot.load g1 _ rfl rfl) rfl ?_
  exact ⟨_, rfl, g2, g3⟩

theorem step_any {N : Nat} (X : ELoc) (E : Eng) (th : Int) (w : World) (h : EObj w X E) (hE : EWf N E) :
    Calls Try.prog 6 #[ptr X.e, .int .i64 th] w (RPost w X (stepE E th).2 (stepE E th).1) := by
  unfold stepE
  by_cases hth : 0 ≤ th ∧ th < 4
  · rw [if_neg (fun e => e hth)]
    obtain ⟨k, hk⟩ : ∃ k : Nat, (k : Int) = th := ⟨th.toNat, by omega⟩
    subst hk
    simp only [Int.toNat_natCast]
    have hk4 : k < 4 := by omega
    cases hA : E.th k with
    | none => exact step_none X E k hk4 hA w h
    | some A =>
      obtain ⟨l, hl, _⟩ := h.att hA
      simp only
      by_cases h0 : A.ask.k = 0
      · rw [if_pos h0]; exact step_idle X E k hk4 l A w ⟨h, hl, hA⟩ h0
      · rw [if_neg h0]; exact step_go X E k hk4 l A w ⟨h, hl, hA⟩ hE h0
  · rw [if_pos hth]; exact step_no X E th hth w h

theorem step_keep {N : Nat} {E : Eng} (h : EWf N E) (hb : N + 2 < 90000) (th : Int) : EWf (N + 2) (stepE E th).2 := by
  unfold stepE
  split
  · exact h.up _ (by omega) hb
  · split
    · exact h.up _ (by omega) hb
    · rename_i A hA
      split
      · exact h.up _ (by omega) hb
      · exact goE_keep h hb (h.th _ _ hA)

end Go.Proofs.Ytinhdpiecifmhaa.Nr

/-
  NorecAlone: WHAT ONE THREAD ALONE COMES TO (plain data), AND THE LAW, WALKED.
-/
import Derived.Test.YtlfnmnchhhlhiaaNrAlone
namespace Go.Proofs.Ytlfnmnchhhlhiaa.Nr
set_option linter.unusedVariables false
set_option linter.unusedSimpArgs false
open Go.RowKit Go.Maps

/-- An attempt alone: it has the lock while it stores, else the lock counts what it began at, and it never looks again. -/
structure AlA (c o s : Int) (A : Att) : Prop where
  held : A.ask.k = 6 → A.place = 5 ∨ A.place = 6 → c % 2 = 1 ∧ o = 2
  free : ¬ (A.ask.k = 6 ∧ (A.place = 5 ∨ A.place = 6)) → c % 2 = 0 ∧ c = s
  low : A.ask.k = 1 ∨ A.ask.k = 6 → A.place < 7
def Al (E : Eng) : Prop := match E.th 2 with
  | none => E.lk.c % 2 = 0
  | some A => AlA E.lk.c E.lk.o (E.pg.getD A.num ⟨0, false, 0⟩).s A
theorem Al.none {E : Eng} (h : Al E) (hn : E.th 2 = none) : E.lk.c % 2 = 0 := by unfold Al at h; rw [hn] at h; exact h
theorem Al.some {E : Eng} {A : Att} (h : Al E) (hn : E.th 2 = some A) : AlA E.lk.c E.lk.o (E.pg.getD A.num ⟨0, false, 0⟩).s A := by unfold Al at h; rw [hn] at h; exact h
theorem al_none {E : Eng} (hn : E.th 2 = none) (h : E.lk.c % 2 = 0) : Al E := by unfold Al; rw [hn]; exact h
theorem al_some {E : Eng} {A : Att} (hn : E.th 2 = some A) (h : AlA E.lk.c E.lk.o (E.pg.getD A.num ⟨0, false, 0⟩).s A) : Al E := by unfold Al; rw [hn]; exact h

theorem al_new (l : List Int) : Al (newEng l) := al_none rfl (by simp [newEng])

theorem al_begin {E : Eng} (h : Al E) : Al (beginE E 2).2 ∧ ((beginE E 2).1.2 == 7) = false := by
  unfold beginE
  rw [if_neg (by decide)]
  show Al (match E.th 2 with | Option.some _ => ((0, 8), E) | Option.none => _ : (Int × Int) × Eng).2 ∧ _
  cases hA : E.th 2 with
  | some A => simp only [show (2 : Int).toNat = 2 from rfl, hA]; exact ⟨h, rfl⟩
  | none =>
    simp only [show (2 : Int).toNat = 2 from rfl, hA]
    have he := h.none hA
    have hs : Sq.snapS E.lk = (E.lk.c, 0) := by unfold Sq.snapS; rw [if_neg (by omega)]
    rw [hs]
    split
    · exact ⟨h, rfl⟩
    · rw [if_neg (by simp)]
      refine ⟨al_some (put_th _ _ _) ?_, rfl⟩
      have e : (((enterE E E.lk.c).put 2 (Option.some (newA 2 E.pg.length))).pg.getD (newA 2 E.pg.length).num ⟨0, false, 0⟩).s = E.lk.c := by
        simp [enterE, noteE, Eng.put, newA, List.getD_eq_getElem?_getD]
      rw [e]
      exact ⟨fun q => by simp [newA] at q, fun _ => ⟨he, rfl⟩, fun q => by simp [newA] at q⟩

theorem al_ask {E : Eng} (h : Al E) (a : AskD) : Al (askE E 2 a).2 := by
  unfold askE
  rw [if_neg (by decide)]
  simp only [show (2 : Int).toNat = 2 from rfl]
  cases hA : E.th 2 with
  | none => exact h
  | some A =>
    simp only
    split
    · exact h
    · rename_i h0
      have h0' : A.ask.k = 0 := Classical.not_not.1 h0
      split
      · exact h
      · refine al_some (put_th _ _ _) ?_
        have hf := (h.some hA).free (fun q => by omega)
        refine ⟨fun q q' => ?_, fun _ => hf, fun q => ?_⟩
        · simp only [askedA, firstE] at q q'
          rw [q] at q'
          simp at q'
        · simp only [askedA, firstE] at q ⊢
          rcases q with q | q <;> rw [q] <;> decide

/-- What a step leaves. -/
def AlR (r : RpD × Eng) : Prop := Al r.2 ∧ r.1.busy = false ∧ (r.1.why == 1) = false

theorem al_done {E E1 : Eng} {A A1 : Att} (hf : E.lk.c % 2 = 0 ∧ E.lk.c = (E.pg.getD A.num ⟨0, false, 0⟩).s) (hl : E1.lk = E.lk) (hp : E1.pg = E.pg) (hn : A1.num = A.num) (hk : A1.ask.k = 0) : Al (E1.put 2 (some A1)) := by
  refine al_some (put_th _ _ _) ?_
  show AlA E1.lk.c E1.lk.o (E1.pg.getD A1.num ⟨0, false, 0⟩).s A1
  rw [hl, hp, hn]
  exact ⟨fun q => by omega, fun _ => hf, fun q => by omega⟩

theorem al_step {E : Eng} {N : Nat} (h : Al E) (hE : EWf N E) : AlR (stepE E 2) := by
  unfold stepE
  rw [if_neg (by decide)]
  simp only [show (2 : Int).toNat = 2 from rfl]
  cases hA : E.th 2 with
  | none => exact ⟨h, rfl, rfl⟩
  | some A =>
    simp only
    split
    · exact ⟨h, rfl, rfl⟩
    · rename_i hk0
      have ha := h.some hA
      have hw := hE.th 2 A hA
      unfold goE
      split
      · -- read
        rename_i hk1
        have hf := ha.free (fun q => by omega)
        split
        · exact ⟨al_done hf rfl rfl rfl rfl, rfl, rfl⟩
        · have hlow := ha.low (.inl hk1)
          have hpl := hw.pl1 hk1
          unfold placeE
          rcases hpl with p | p | p
          · rw [if_pos p]
            refine ⟨al_some (put_th _ _ _) ⟨fun q => ?_, fun _ => hf, fun _ => ?_⟩, rfl, rfl⟩
            · simp only [movedA, valA] at q; omega
            · simp only [movedA, valA]; decide
          · rw [if_neg (by omega), if_pos p]
            unfold readNotedE
            rw [if_neg (fun q => q hf.2)]
            simp only
            split
            · exact ⟨al_none (put_th _ _ _) hf.1, rfl, rfl⟩
            · exact ⟨al_done (E := E) (A := A) hf rfl rfl rfl rfl, rfl, rfl⟩
          · omega
      · split
        · rename_i hk1 hk6
          have hlow := ha.low (.inr hk6)
          unfold placeE
          rcases hw.pl6 hk6 with p | p | p | p | p
          · have hf := ha.free (fun q => by omega)
            rw [if_neg (by omega), if_neg (by omega), if_pos p]
            unfold tryE
            split
            · exact ⟨al_none (put_th _ _ _) hf.1, rfl, rfl⟩
            · refine ⟨al_some (put_th _ _ _) ⟨fun q q' => ?_, fun _ => hf, fun _ => ?_⟩, rfl, rfl⟩
              · simp only [movedA] at q'; omega
              · simp only [movedA]; decide
          · have hf := ha.free (fun q => by omega)
            rw [if_neg (by omega), if_neg (by omega), if_neg (by omega), if_pos p]
            unfold takeLockE
            have ht : Sq.tryS E.lk (2 : Nat) (E.pg.getD A.num ⟨0, false, 0⟩).s = (0, ⟨E.lk.c + 1, 2⟩) := by
              unfold Sq.tryS
              rw [if_neg (by decide), if_neg (by omega), if_neg (fun q => q hf.2), if_neg (by have := hE.lk1; have := hE.nb; omega)]
              rfl
            simp only [ht]
            rw [if_pos trivial]
            refine ⟨al_some (put_th _ _ _) ⟨fun q q' => ?_, fun q => ?_, fun _ => ?_⟩, rfl, rfl⟩
            · exact ⟨by show (E.lk.c + 1) % 2 = 1; omega, rfl⟩
            · exact absurd ⟨hk6, .inl rfl⟩ q
            · simp only [movedA]; decide
          · have hh := ha.held hk6 (.inl p)
            rw [if_neg (by omega), if_neg (by omega), if_neg (by omega), if_neg (by omega), if_pos p]
            unfold storeE
            simp only
            split
            · refine ⟨al_some (put_th _ _ _) ⟨fun q q' => hh, fun q => absurd ⟨hk6, .inr rfl⟩ q, fun _ => ?_⟩, rfl, rfl⟩
              simp only [movedA]; decide
            · refine ⟨al_some (put_th _ _ _) ⟨fun q q' => hh, fun q => absurd ⟨hk6, .inl p⟩ q, fun _ => ?_⟩, rfl, rfl⟩
              simp only [goneB]; omega
          · have hh := ha.held hk6 (.inr p)
            rw [if_neg (by omega), if_neg (by omega), if_neg (by omega), if_neg (by omega), if_neg (by omega), if_pos p]
            refine ⟨al_none (put_th _ _ _) ?_, rfl, rfl⟩
            have hv : Sq.leaveS E.lk (2 : Nat) (E.lk.c + 1) = (0, ⟨E.lk.c + 1, 0⟩) := by
              unfold Sq.leaveS
              rw [if_pos ⟨hh.1, hh.2⟩]
            show (Sq.leaveS E.lk (2 : Nat) (E.lk.c + 1)).2.c % 2 = 0
            rw [hv]; simp only; omega
          · omega
        · rename_i hk1 hk6
          have hf := ha.free (fun q => hk6 q.1)
          split
          · unfold writeE
            simp only
            split
            · exact ⟨al_none (put_th _ _ _) hf.1, rfl, rfl⟩
            · exact ⟨al_done (E := E) (A := A) hf rfl rfl rfl rfl, rfl, rfl⟩
          · split
            · exact ⟨al_done (E := E) (A := A) hf rfl rfl rfl rfl, rfl, rfl⟩
            · split
              · exact ⟨al_done (E := E) (A := A) hf rfl rfl rfl rfl, rfl, rfl⟩
              · split
                · exact ⟨al_done (E := E) (A := A) hf rfl rfl rfl rfl, rfl, rfl⟩
                · exact ⟨al_none (put_th _ _ _) hf.1, rfl, rfl⟩

set_option maxRecDepth 100000 in
set_option maxHeartbeats 6400000 in
theorem nalone_any (ao : Option Addr) (cap : Nat) (l : List DeedN) (w : World) (hr : DeedNRow w (.slice ao l.length cap) l) (hw : ∀ d ∈ l, d.Wf) :
    Calls Try.prog 3 #[.slice ao l.length cap] w fun x w' => x = .returned (.bool true) ∧ Touch w w' [] := by
  obtain ⟨N, hN⟩ : ∃ N, N = l.length := ⟨_, rfl⟩
  have HN : Hid _ := hN
  have HR : Hid (∀ k (hk : k < l.length), _) := fun k hk => hr.five k hk
  rw [← hN]
  clear hN hr
  go_enter Try.func3, Try.ntmps3
  go_wp2_with fail
  refine (first_any w).mono ?_
  rintro x w1 ⟨rfl, o1, t1⟩
  have NW := HidC.mk (ow_new (R := []) t1 o1 (by decide) (by decide) first_right (by simp))
  clear o1 t1
  go_wp2_with fail
  refine NW.out.mono ?_
  rintro x w2 ⟨eb, rfl, h2, _⟩
  clear NW
  have H2 : Hid _ := h2
  clear h2
  go_wp2_with fail
  refine (nlive_any _).mono ?_
  rintro e w3 ⟨rfl, t3⟩
  have H3 : Hid _ := H2.out.fresh t3
  clear H2 t3
  go_wp2_with fail
  go_loopw [4] (fun i wr => ∃ (k : Nat) (E : Eng), i = .int .i64 k ∧ k ≤ N ∧ k ≤ 120 ∧ Ow w wr eb E [] ∧ Al E ∧ EWf (2 * k) E) (fun i _ => 120 - (intOf i).toNat)
  case atStart => exact ⟨0, _, rfl, Nat.zero_le _, by omega, H3.out, al_new _, newEng_wf⟩
  case round =>
    obtain ⟨k, E, rfl, hk, hk6, hb, hal, hE⟩ := hrel
    clear H3
    by_cases hlt : k < N ∧ k < 120
    · obtain ⟨hlt, hlt6⟩ := hlt
      have hlt' : (k : Int) < N := by omega
      have hlt6' : (k : Int) < 120 := by omega
      have hkl : k < l.length := by rw [← HN.out]; exact hlt
      obtain ⟨g, off, rfl, hg, M0, M1, M2, M3, M4⟩ := HR.out k hkl
      have t := hb.touch
      have m0 := (t.cell (p := ⟨g, off + k * 5, none⟩) hg (by simp)).trans M0
      have m2 := (t.cell (p := ⟨g, off + k * 5 + 2, none⟩) hg (by simp)).trans M2
      have m3 := (t.cell (p := ⟨g, off + k * 5 + 3, none⟩) hg (by simp)).trans M3
      have m4 := (t.cell (p := ⟨g, off + k * 5 + 4, none⟩) hg (by simp)).trans M4
      have hwf := hw l[k] (List.getElem_mem hkl)
      obtain ⟨d, hd⟩ : ∃ d, d = l[k] := ⟨_, rfl⟩
      rw [← hd] at m0 m2 m3 m4 hwf
      obtain ⟨dk, dth, ⟨ak, at', av⟩⟩ := d
      simp only at m0 m2 m3 m4
      clear hd t M0 M1 M2 M3 M4 HR hw
      by_cases d0 : dk = 0
      · subst d0
        obtain ⟨a1, a2⟩ := al_begin hal
        have hE1 : Hid (EWf (2 * (k + 1)) (beginE E 2).2) := begin_keep hE (by omega) 2
        have HC := HidC.mk (ow_begin hb hE 2 rfl rfl)
        have HA : Hid _ := a1
        generalize beginE E 2 = r at *
        obtain ⟨⟨r1, r2⟩, E1⟩ := r
        simp only at a2 HC HA hE1
        clear hb hal hE a1 hwf
        go_wp2_with fail
        refine HC.out.mono ?_
        rintro e w4 ⟨rfl, h4⟩
        clear HC m0 m2 m3 m4
        have H4 : Hid _ := h4
        clear h4
        go_wp2
        go_roundw
        case rel => exact ⟨k + 1, E1, by go_num, by omega, by omega, H4.out, HA.out, hE1.out⟩
        case measure => simp [intOf]; omega
      by_cases d1 : dk = 1
      · subst d1
        have hE1 : Hid (EWf (2 * (k + 1)) (askE E 2 ⟨ak, at', av⟩).2) := ask_keep hE (by omega) 2 _ hwf.k hwf.t hwf.v
        have HC := HidC.mk (ow_ask hb hE 2 ⟨ak, at', av⟩ rfl rfl)
        have HA : Hid _ := al_ask hal ⟨ak, at', av⟩
        generalize askE E 2 ⟨ak, at', av⟩ = r at *
        clear hb hal hE hwf
        go_wp2_with fail
        refine HC.out.mono ?_
        rintro e w4 ⟨rfl, h4⟩
        clear HC m0 m2 m3 m4
        have H4 : Hid _ := h4
        clear h4
        go_wp2
        go_roundw
        case rel => exact ⟨k + 1, r.2, by go_num, by omega, by omega, H4.out, HA.out, hE1.out⟩
        case measure => simp [intOf]; omega
      by_cases d2 : dk = 2
      · subst d2
        obtain ⟨a1, a2, a3⟩ := al_step hal hE
        have hE1 : Hid (EWf (2 * (k + 1)) (stepE E 2).2) := step_keep hE (by omega) 2
        have HC := HidC.mk (ow_step hb hE 2 rfl rfl)
        have HA : Hid _ := a1
        generalize stepE E 2 = r at *
        obtain ⟨⟨r0, r1, r2, r3, r4, r5, r6⟩, E1⟩ := r
        simp only at a2 a3
        simp only [RpD.val'] at HC
        subst a2
        clear hb hal hE hwf a1
        go_wp2_with fail
        refine HC.out.mono ?_
        rintro e w4 ⟨rfl, h4⟩
        clear HC m0 m2 m3 m4
        have H4 : Hid (Ow w (w4.alloc (.cells #[.bool r0, .int .u64 r1, .bool false, .int .i64 r3, .bool r4, .int .u8 r5, .int .i64 r6] 41)) eb E1 []) := h4.fresh ((Touch.refl w4 []).alloc _)
        clear h4
        go_wp2
        go_roundw
        case rel => exact ⟨k + 1, E1, by go_num, by omega, by omega, H4.out, HA.out, hE1.out⟩
        case measure => simp [intOf]; omega
      have z0 : (dk == 0) = false := by simpa using d0
      have z1 : (dk == 1) = false := by simpa using d1
      have z2 : (dk == 2) = false := by simpa using d2
      have H4 : Hid _ := hb
      have HA : Hid _ := hal
      have hE1 : Hid (EWf (2 * (k + 1)) E) := hE.up _ (by omega) (by omega)
      clear hb hal hE d0 d1 d2 hwf
      go_wp2
      go_roundw
      case rel => exact ⟨k + 1, E, by go_num, by omega, by omega, H4.out, HA.out, hE1.out⟩
      case measure => simp [intOf]; omega
    · have HT : Hid _ := hb.touch
      clear hb HR hal hE hw
      by_cases hlt1 : (k : Int) < N
      · have hlt2 : ¬ (k : Int) < 120 := by omega
        clear hlt
        go_wp2
        go_ret
        exact ⟨rfl, HT.out⟩
      · clear hlt
        go_wp2
        go_ret
        exact ⟨rfl, HT.out⟩

end Go.Proofs.Ytlfnmnchhhlhiaa.Nr

/-
  package norec: WHAT ALWAYS HOLDS IS KEPT BY EACH STEP. No walk.
-/
import Derived.Test.YtinhdpiecifmhaaNrPlain
namespace Go.Proofs.Ytinhdpiecifmhaa.Nr
set_option linter.unusedVariables false
set_option linter.unusedSimpArgs false
open Go.RowKit Go.Maps

theorem allK_mem {G : Int → Option Int} {n : Nat} {p : Int × Int} (h : p ∈ allK G n) : ∃ i : Nat, i < n ∧ p.1 = i ∧ G i = some p.2 := by
  unfold allK at h
  rw [List.mem_filterMap] at h
  obtain ⟨i, hi, hp⟩ := h
  rw [List.mem_range] at hi
  cases hg : G i with
  | none => rw [hg] at hp; cases hp
  | some v =>
    rw [hg] at hp
    simp only [Option.map_some, Option.some.injEq] at hp
    subst hp
    exact ⟨i, hi, rfl, hg⟩
theorem getF_mem {Fs : List Fr} {t v : Int} (h : getF Fs t = some v) : ∃ f ∈ Fs, fget f t = some v := by
  unfold getF at h
  obtain ⟨f, hf, hv⟩ := List.exists_of_findSome?_eq_some h
  exact ⟨f, hf, hv⟩
theorem allA_in {n m k : Nat} {A : Att} (h : AWf n m k A) : ∀ p ∈ allA A, 0 ≤ p.1 ∧ p.1 < n := fun p hp => by
  obtain ⟨i, _, e, hg⟩ := allK_mem hp
  obtain ⟨f, hf, hv⟩ := getF_mem hg
  rw [e]; exact h.fin f hf i _ hv
theorem allA_wf {n m k : Nat} {A : Att} (h : AWf n m k A) : ∀ p ∈ allA A, Wf64 p.2 := fun p hp => by
  obtain ⟨i, _, e, hg⟩ := allK_mem hp
  obtain ⟨f, hf, hv⟩ := getF_mem hg
  exact fget_wf (h.ok f hf) hv

theorem Wf64_getD {l : List Int} (h : ∀ v ∈ l, Wf64 v) (i : Nat) : Wf64 (l.getD i 0) := by
  rw [List.getD_eq_getElem?_getD]
  by_cases hi : i < l.length
  · rw [List.getElem?_eq_getElem hi]; exact h _ (List.getElem_mem hi)
  · rw [List.getElem?_eq_none (by omega)]; simp [Wf64]

theorem valA_wf {n m k : Nat} {A : Att} (h : AWf n m k A) {v : Int} (hv : Wf64 v) : AWf n m k (valA A v) := { h with val := hv }
theorem countA_wf {n m k : Nat} {A : Att} (h : AWf n m k A) (c : Int) : AWf n m k (countA A c) := { h with }

theorem abort_keep {N : Nat} {E E1 : Eng} {k : Nat} {A1 : Att} (h : EWf N E) (hb : N + 2 < 90000) (hhp : E1.hp = E.hp) (hpg : E1.pg.length = E.pg.length) (hev : E1.ev = E.ev) (hlk : 0 ≤ E1.lk.c ∧ E1.lk.c ≤ N + 2) (ho : ∀ j, j ≠ k → E1.th j = E.th j) (why : Int) : EWf (N + 2) (abortE E1 k A1 why) := by
  refine h.upd hb k (by simp [abortE, Eng.put, giveUpE, noteE, pageE, hhp]) (by simpa [abortE, Eng.put, giveUpE, noteE, pageE, hhp] using h.hv) (by simp [abortE, Eng.put, giveUpE, noteE, pageE, hpg])
    (by have := h.ev; simp [abortE, Eng.put, giveUpE, noteE, pageE, hev]; omega) hlk (fun j hj => by rw [abortE, put_other _ _ _ _ hj]; exact ho j hj) (fun A' hA' => by rw [abortE, put_th] at hA'; cases hA')
theorem commit_keep {N : Nat} {E E1 : Eng} {k : Nat} {A1 : Att} (h : EWf N E) (hb : N + 2 < 90000) (hhp : E1.hp = E.hp) (hpg : E1.pg.length = E.pg.length) (hev : E1.ev.length ≤ E.ev.length + 1) (hlk : 0 ≤ E1.lk.c ∧ E1.lk.c ≤ N + 2) (ho : ∀ j, j ≠ k → E1.th j = E.th j) : EWf (N + 2) (commitE E1 k A1) := by
  refine h.upd hb k (by simp [commitE, Eng.put, tellE, noteE, hhp]) (by simpa [commitE, Eng.put, tellE, noteE, hhp] using h.hv) (by simp [commitE, Eng.put, tellE, noteE, hpg])
    (by have := h.ev; simp [commitE, Eng.put, tellE, noteE]; omega) hlk (fun j hj => by rw [commitE, put_other _ _ _ _ hj]; exact ho j hj) (fun A' hA' => by rw [commitE, put_th] at hA'; cases hA')
theorem put_keep {N : Nat} {E : Eng} {k : Nat} {A1 : Att} (h : EWf N E) (hb : N + 2 < 90000) (hA : AWf E.hp.length E.pg.length k A1) : EWf (N + 2) (E.put k (some A1)) :=
  h.att hb k rfl rfl (by simp [Eng.put]) rfl (fun j hj => put_other _ _ _ _ hj) (fun A' hA' => by rw [put_th] at hA'; cases hA'; exact hA)
theorem tellput_keep {N : Nat} {E : Eng} {k : Nat} {A1 A2 B : Att} {a b c : Int} (h : EWf N E) (hb : N + 2 < 90000) (hA : AWf E.hp.length E.pg.length k B) : EWf (N + 2) ((tellE (E.put k (some A1)) A2 a b c).put k (some B)) :=
  h.att hb k rfl rfl (by simp [Eng.put, tellE, noteE]) rfl (fun j hj => by rw [put_other _ _ _ _ hj]; exact put_other _ _ _ _ hj) (fun A' hA' => by rw [put_th] at hA'; cases hA'; exact hA)
theorem tellput_keep' {N : Nat} {E : Eng} {k : Nat} {A2 B : Att} {a b c : Int} (h : EWf N E) (hb : N + 2 < 90000) (hA : AWf E.hp.length E.pg.length k B) : EWf (N + 2) ((tellE E A2 a b c).put k (some B)) :=
  h.att hb k rfl rfl (by simp [Eng.put, tellE, noteE]) rfl (fun j hj => by rw [put_other _ _ _ _ hj]; rfl) (fun A' hA' => by rw [put_th] at hA'; cases hA'; exact hA)

theorem lk_in {N : Nat} {E E' : Eng} (h : EWf N E) (e : E'.lk = E.lk) : 0 ≤ E'.lk.c ∧ E'.lk.c ≤ N + 2 := by rw [e]; have := h.lk0; have := h.lk1; omega

theorem addE_in {n : Nat} {L : List Rd.EntD} {e : Rd.EntD} (h : ∀ x ∈ L, 0 ≤ x.tvar ∧ x.tvar < n) (he : 0 ≤ e.tvar ∧ e.tvar < n) : ∀ x ∈ (Rd.addE L e).2, 0 ≤ x.tvar ∧ x.tvar < n := by
  unfold Rd.addE
  split
  · exact h
  · split
    · exact h
    · split
      · exact h
      · intro x hx
        rcases List.mem_append.1 hx with q | q
        · exact h x q
        · simp only [List.mem_singleton] at q; rw [q]; exact he

theorem place_keep {N : Nat} {E : Eng} {k : Nat} {A : Att} (h : EWf N E) (hb : N + 2 < 90000) (hA : AWf E.hp.length E.pg.length k A) (h16 : A.ask.k = 1 ∨ A.ask.k = 6) : EWf (N + 2) (placeE E k A).2 := by
  have hth : ∀ j, j ≠ k → E.th j = E.th j := fun _ _ => rfl
  unfold placeE
  split
  · rename_i hp
    have h1 : A.ask.k = 1 := h16.elim id (fun q => by have := hA.pl6 q; omega)
    exact put_keep h hb (movedA_wf (valA_wf hA (Wf64_getD h.hv _)) 2 (by omega) (fun q => by simp only [valA] at q; omega) (fun _ => .inr (.inl rfl)) (fun q => by simp only [valA] at q; omega))
  split
  · rename_i hp
    have h1 : A.ask.k = 1 := h16.elim id (fun q => by have := hA.pl6 q; omega)
    have hr := hA.rd (.inl h1)
    unfold readNotedE
    split
    · refine put_keep h hb (movedA_wf (A := backA A 1) { hA with pl1 := fun q => by have := hA.pl1 q; simp only [backA]; omega, pl6 := fun q => by simp only [backA] at q; omega } 7 (by omega) (fun q => by simp only [backA] at q; omega) (fun _ => .inr (.inr ⟨by omega, by omega, rfl⟩)) (fun q => by simp only [backA] at q; omega))
    · have hL := addE_in (e := entOf A) hA.L hr
      have hA1 : AWf E.hp.length E.pg.length k { A with L := (Rd.addE A.L (entOf A)).2 } := { hA with L := hL, p8 := fun q => by simp only at q; omega }
      simp only
      split
      · exact abort_keep (E1 := E.put k (some { A with L := (Rd.addE A.L (entOf A)).2 })) h hb rfl rfl rfl (lk_in h rfl) (fun j hj => put_other _ _ _ _ hj) 2
      · exact tellput_keep h hb (doneA_wf hA1)
  split
  · rename_i hp
    have h6 : A.ask.k = 6 := h16.elim (fun q => by have := hA.pl1 q; omega) id
    unfold tryE
    split
    · exact commit_keep (E1 := tellE E A 7 0 0) h hb rfl rfl (by simp [tellE, noteE]) (lk_in h rfl) (fun j hj => rfl)
    · rename_i hz
      have hpos := lenF_pos (hA.one h6) hz hA.ok
      exact tellput_keep' h hb (movedA_wf hA 4 (by omega) (fun _ _ => hpos) (fun q => by omega) (fun _ => by omega))
  split
  · rename_i hp
    have h6 : A.ask.k = 6 := h16.elim (fun q => by have := hA.pl1 q; omega) id
    have hpos := hA.nz h6 (by omega)
    have hlk : ∀ p, 0 ≤ (Sq.tryS E.lk k p).2.c ∧ (Sq.tryS E.lk k p).2.c ≤ (N : Int) + 2 := fun p => by
      have := h.lk0; have := h.lk1
      unfold Sq.tryS
      repeat' split
      all_goals simp only <;> omega
    unfold takeLockE
    simp only
    split
    · refine h.upd hb k rfl h.hv (by simp [Eng.put, pageE, lockE]) (by have := h.ev; simp [Eng.put, pageE, lockE]; omega) (hlk _) (fun j hj => by rw [put_other _ _ _ _ hj]; rfl) (fun A' hA' => ?_)
      rw [put_th] at hA'
      cases hA'
      exact movedA_wf hA 5 (fun _ => hpos) (fun _ _ => hpos) (fun q => by omega) (fun _ => by omega)
    · split
      · exact abort_keep (E1 := lockE E (Sq.tryS E.lk k (E.pg.getD A.num ⟨0, false, 0⟩).s).2) h hb rfl rfl rfl (hlk _) (fun j hj => rfl) 2
      · refine h.upd hb k rfl h.hv rfl (by have := h.ev; simp [Eng.put, lockE]; omega) (hlk _) (fun j hj => by rw [put_other _ _ _ _ hj]; rfl) (fun A' hA' => ?_)
        rw [put_th] at hA'
        cases hA'
        refine movedA_wf (A := backA A 4) { hA with pl1 := fun q => by simp only [backA] at q; omega, pl6 := fun q => by have := hA.pl6 q; simp only [backA]; omega } 7 (by omega) (fun _ _ => hpos) (fun q => by simp only [backA] at q; omega) (fun _ => .inr (.inr (.inr (.inr ⟨by omega, by omega, rfl⟩))))
  split
  · rename_i hp
    have h6 : A.ask.k = 6 := h16.elim (fun q => by have := hA.pl1 q; omega) id
    have hpos := hA.nz h6 (by omega)
    obtain ⟨q0, q1⟩ := hA.p5 hp
    have hgw : Wf64 ((allA A).getD A.gone.toNat (0, 0)).2 := by
      rw [List.getD_eq_getElem?_getD, List.getElem?_eq_getElem (by omega)]
      exact allA_wf hA _ (List.getElem_mem (by omega))
    have hhv : ∀ v ∈ (heapE E ((allA A).getD A.gone.toNat (0, 0)).1.toNat ((allA A).getD A.gone.toNat (0, 0)).2).hp, Wf64 v := fun v hv => by
      simp only [heapE] at hv
      rcases List.mem_or_eq_of_mem_set hv with q | q
      · exact h.hv v q
      · rw [q]; exact hgw
    unfold storeE
    simp only
    split
    · refine h.upd hb k (by simp [Eng.put, heapE]) hhv rfl (by have := h.ev; simp [Eng.put, heapE]; omega) (lk_in h rfl) (fun j hj => by rw [put_other _ _ _ _ hj]; rfl) (fun A' hA' => ?_)
      rw [put_th] at hA'
      cases hA'
      exact movedA_wf hA 6 (by omega) (fun _ _ => hpos) (fun q => by omega) (fun _ => by omega)
    · rename_i hne
      refine h.upd hb k (by simp [Eng.put, heapE]) hhv rfl (by have := h.ev; simp [Eng.put, heapE]; omega) (lk_in h rfl) (fun j hj => by rw [put_other _ _ _ _ hj]; rfl) (fun A' hA' => ?_)
      rw [put_th] at hA'
      cases hA'
      exact { hA with p5 := fun _ => by show 0 ≤ A.gone + 1 ∧ A.gone + 1 < ((allA A).length : Int); omega, p8 := fun q => by simp only [goneB] at q; omega }
  split
  · unfold unlockE
    refine commit_keep (E1 := lockE E (Sq.leaveS E.lk k (E.lk.c + 1)).2) h hb rfl rfl (by simp [lockE]) ?_ (fun j hj => rfl)
    have := h.lk0; have := h.lk1
    simp only [lockE, Sq.leaveS]
    split <;> simp only <;> omega
  split
  · rename_i hp
    unfold noteCountE
    split
    · exact h.up _ (by omega) hb
    · refine put_keep h hb (movedA_wf (countA_wf hA _) 8 (by omega) (fun q _ => hA.nz q (by omega)) (fun q => .inr (.inr ⟨by omega, by omega, ?_⟩)) (fun q => .inr (.inr (.inr (.inr ⟨by omega, by omega, ?_⟩)))))
      · have := hA.pl1 q; simp only [countA]; omega
      · have := hA.pl6 q; simp only [countA]; omega
  split
  · rename_i hp
    obtain ⟨q0, q1⟩ := hA.p8 hp
    unfold compareE
    split
    · refine put_keep h hb (movedA_wf hA 9 (by omega) (fun q _ => hA.nz q (by omega)) (fun q => by have := hA.pl1 q; omega) (fun q => by have := hA.pl6 q; omega))
    · simp only
      split
      · exact abort_keep h hb rfl rfl rfl (lk_in h rfl) (fun j hj => rfl) 1
      · exact put_keep h hb { hA with p5 := fun q => by simp only [goneA] at q; omega, p8 := fun _ => by simp only [goneA]; omega }
  · rename_i p1 p2 p3 p4 p5 p6 p7 p8
    have hpl : 7 ≤ A.place ∧ A.place ≤ 9 ∧ (A.ask.k = 1 → A.back = 1) ∧ (A.ask.k = 6 → A.back = 4) := by
      rcases h16 with q | q
      · have := hA.pl1 q; omega
      · have := hA.pl6 q; omega
    unfold settleE
    split
    · exact put_keep h hb (movedA_wf hA 7 (by omega) (fun q _ => hA.nz q (by omega)) (fun q => by omega) (fun q => by omega))
    · refine h.att hb k rfl (by simp [Eng.put, pageE]) (by simp [Eng.put, pageE]) rfl (fun j hj => by rw [put_other _ _ _ _ hj]; rfl) (fun A' hA' => ?_)
      rw [put_th] at hA'
      cases hA'
      exact movedA_wf hA A.back (by omega) (fun q _ => hA.nz q (by omega)) (fun q => by omega) (fun q => by omega)

theorem Fs_wf {n m k : Nat} {A : Att} (h : AWf n m k A) (h2 : A.ask.k ≠ 6) (h1 : A.ask.k ≠ 1) {Fs : List Fr} (hok : ∀ f ∈ Fs, FrOk f) (hin : ∀ f ∈ Fs, FrIn n f) (hne : Fs ≠ []) : AWf n m k (doneA { A with Fs := Fs }) :=
  { h with
    t := by simp [doneA]
    v := by simp [doneA, Wf64]
    val := by simp [doneA, Wf64]
    kk := by simp [doneA]
    rd := by intro q; simp [doneA] at q
    ok := hok
    fin := hin
    ne := hne
    p5 := by intro q; simp [doneA] at q
    p8 := by intro q; simp [doneA] at q
    one := by intro q; simp [doneA] at q
    nz := by intro q; simp [doneA] at q
    pl1 := by intro q; simp [doneA] at q
    pl6 := by intro q; simp [doneA] at q }

theorem goE_keep {N : Nat} {E : Eng} {k : Nat} {A : Att} (h : EWf N E) (hb : N + 2 < 90000) (hA : AWf E.hp.length E.pg.length k A) : EWf (N + 2) (goE E k A).2 := by
  have h12 := h.hp12
  unfold goE
  split
  · rename_i h1
    split
    · exact tellput_keep' h hb (doneA_wf hA)
    · exact place_keep h hb hA (.inl h1)
  split
  · rename_i h6
    exact place_keep h hb hA (.inr h6)
  rename_i n1 n6
  split
  · rename_i h2
    obtain ⟨t0, t1⟩ := hA.rd (.inr h2)
    have hFs : (∀ f ∈ (putS A.Fs A.ask.t A.ask.v).2, FrOk f) ∧ (∀ f ∈ (putS A.Fs A.ask.t A.ask.v).2, FrIn E.hp.length f) ∧ (putS A.Fs A.ask.t A.ask.v).2 ≠ [] := by
      match hF : A.Fs with
      | [] => exact absurd hF hA.ne
      | f :: r =>
        have o := hA.ok; have i := hA.fin
        rw [hF] at o i
        simp only [putS]
        split
        · exact ⟨o, i, by simp⟩
        · split
          · exact ⟨o, i, by simp⟩
          · split
            · exact ⟨o, i, by simp⟩
            · refine ⟨fun g hg => ?_, fun g hg => ?_, by simp⟩
              · rcases List.mem_cons.1 hg with q | q
                · rw [q]; exact (o f (by simp)).put hA.v
                · exact o g (by simp [q])
              · rcases List.mem_cons.1 hg with q | q
                · subst q
                  intro t v hv
                  rw [fget_put (o f (by simp)) (by omega)] at hv
                  split at hv
                  · rename_i e; rw [e]; exact ⟨t0, t1⟩
                  · exact i f (by simp) t v hv
                · exact i g (by simp [q])
    unfold writeE
    simp only
    split
    · exact abort_keep (E1 := E.put k (some { A with Fs := (putS A.Fs A.ask.t A.ask.v).2 })) h hb rfl rfl rfl (lk_in h rfl) (fun j hj => put_other _ _ _ _ hj) 2
    · exact tellput_keep h hb (Fs_wf hA n6 n1 hFs.1 hFs.2.1 hFs.2.2)
  split
  · refine tellput_keep h hb (Fs_wf hA n6 n1 (fun f hf => ?_) (fun f hf => ?_) ?_)
    · unfold pushS at hf
      split at hf
      · exact hA.ok f hf
      · rcases List.mem_cons.1 hf with q | q
        · rw [q]; exact FrOk.f0
        · exact hA.ok f q
    · unfold pushS at hf
      split at hf
      · exact hA.fin f hf
      · rcases List.mem_cons.1 hf with q | q
        · rw [q]; intro t v hv; rw [fget_f0] at hv; cases hv
        · exact hA.fin f q
    · unfold pushS
      split
      · exact hA.ne
      · simp
  split
  · have hs : ∀ f ∈ (dropS A.Fs).2, f ∈ A.Fs := fun f hf => by
      match hF : A.Fs with
      | [] => rw [hF] at hf; exact hf
      | [x] => rw [hF] at hf; exact hf
      | x :: y :: r => rw [hF] at hf; simp only [dropS] at hf; exact List.mem_cons_of_mem _ hf
    refine tellput_keep h hb (Fs_wf hA n6 n1 (fun f hf => hA.ok f (hs f hf)) (fun f hf => hA.fin f (hs f hf)) ?_)
    match hF : A.Fs with
    | [] => exact absurd hF hA.ne
    | [x] => simp [dropS]
    | x :: y :: r => simp [dropS]
  split
  · match hF : A.Fs with
    | [] => exact absurd hF hA.ne
    | [x] =>
      have o := hA.ok; have i := hA.fin
      rw [hF] at o i
      exact tellput_keep h hb (Fs_wf hA n6 n1 (by simpa [mergeS] using o) (by simpa [mergeS] using i) (by simp [mergeS]))
    | x :: y :: r =>
      have o := hA.ok; have i := hA.fin
      rw [hF] at o i
      refine tellput_keep h hb (Fs_wf hA n6 n1 (fun f hf => ?_) (fun f hf => ?_) (by simp [mergeS]))
      · simp only [mergeS] at hf
        rcases List.mem_cons.1 hf with q | q
        · rw [q]; exact (o x (by simp)).over (o y (by simp))
        · exact o f (by simp [q])
      · simp only [mergeS] at hf
        rcases List.mem_cons.1 hf with q | q
        · subst q
          intro t v hv
          rw [fget_over (o x (by simp)) (o y (by simp))] at hv
          cases hx : fget x t with
          | some u => exact i x (by simp) t u hx
          | none => rw [hx] at hv; simp only [Option.none_or] at hv; exact i y (by simp) t v hv
        · exact i f (by simp [q])
  · exact abort_keep h hb rfl rfl rfl (lk_in h rfl) (fun j hj => rfl) 4

end Go.Proofs.Ytinhdpiecifmhaa.Nr

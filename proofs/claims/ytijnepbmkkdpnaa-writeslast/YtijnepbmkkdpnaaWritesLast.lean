/-
  WritesLast, WALKED.
-/
import Derived.Test.YtijnepbmkkdpnaaWritesLaws
namespace Go.Proofs.Ytijnepbmkkdpnaa
set_option linter.unusedVariables false
set_option linter.unusedSimpArgs false
open Go.RowKit Go.Maps Go.Shelf

/-! ### There are never more than sixteen values -/
theorem cnt_set : ∀ (f : Fr) (n : Nat) (v : Int) (h : n < f.length), fcnt (f.set n (some v)) = fcnt f + if (f[n]).isSome then 0 else 1
  | [], n, v, h => by simp at h
  | o :: f, 0, v, h => by
    cases o <;> simp [fcnt, List.filter]
  | o :: f, n + 1, v, h => by
    have ih := cnt_set f n v (by simpa using h)
    unfold fcnt at ih ⊢
    simp only [List.set_cons_succ, List.getElem_cons_succ, List.filter_cons]
    cases o with
    | none => simpa using ih
    | some y => simp only [Option.isSome_some, if_true, List.length_cons]; omega
theorem fcnt_put {f : Fr} (h : FrOk f) {t : Int} (ht : 0 ≤ t ∧ t < 12) (v : Int) : fcnt (fput f t v) = fcnt f + if (fget f t).isSome then 0 else 1 := by
  obtain ⟨n, rfl⟩ := Int.eq_ofNat_of_zero_le ht.1
  have hn : n < 12 := by omega
  have hl : n < f.length := by rw [h.len]; exact hn
  rw [fget_at h n hn]
  unfold fput
  rw [Int.toNat_natCast]
  exact cnt_set f n v hl
theorem fcnt_over : ∀ (f g : Fr), fcnt (fover f g) ≤ fcnt f + fcnt g
  | [], g => by simp [fover, fcnt]
  | o :: f, [] => by simp [fover, fcnt]
  | o :: f, q :: g => by
    have ih := fcnt_over f g
    unfold fcnt fover at ih ⊢
    simp only [List.zipWith_cons_cons, List.filter_cons]
    cases o <;> cases q <;> simp <;> omega
theorem lenF_cons (f : Fr) (r : List Fr) : lenF (f :: r) = fcnt f + lenF r := by simp [lenF]
theorem put16 {Fs : List Fr} (hok : ∀ f ∈ Fs, FrOk f) (h : lenF Fs ≤ 16) (t v : Int) : lenF (putS Fs t v).2 ≤ 16 := by
  cases Fs with
  | nil => simp [putS, lenF]
  | cons f r =>
    unfold putS
    dsimp only
    split
    · exact h
    · rename_i h0
      split
      · exact h
      · split
        · exact h
        · rename_i h1
          simp only
          rw [lenF_cons, fcnt_put (hok f (by simp)) (Decidable.not_not.1 h0)]
          rw [lenF_cons] at h h1
          cases hq : (fget f t).isSome with
          | true => simp; exact h
          | false =>
            have : ¬ 16 ≤ fcnt f + lenF r := fun hh => h1 ⟨hq, hh⟩
            simp
            omega
theorem step16 {Fs : List Fr} (hok : ∀ f ∈ Fs, FrOk f) (h : lenF Fs ≤ 16) (x : DeedD) : lenF (stepS Fs x) ≤ 16 := by
  unfold stepS
  split
  · exact put16 hok h _ _
  · split
    · unfold pushS
      split
      · exact h
      · simp only; rw [lenF_cons]; have : fcnt f0 = 0 := by decide
        omega
    · split
      · match Fs, h with
        | [], h => exact h
        | [f], h => exact h
        | f :: g :: r, h => simp only [dropS]; rw [lenF_cons] at h; omega
      · split
        · match Fs, h with
          | [], h => exact h
          | [f], h => exact h
          | f :: g :: r, h =>
            simp only [mergeS]
            rw [lenF_cons, lenF_cons] at h
            rw [lenF_cons]
            have := fcnt_over f g
            omega
        · exact h
theorem step_ok {Fs : List Fr} (hok : ∀ f ∈ Fs, FrOk f) (x : DeedD) (hx : x.Wf) : ∀ f ∈ stepS Fs x, FrOk f := by
  unfold stepS
  split
  · cases Fs with
    | nil => simp [putS]
    | cons f r =>
      unfold putS
      dsimp only
      split
      · exact hok
      · split
        · exact hok
        · split
          · exact hok
          · intro y hy
            rw [List.mem_cons] at hy
            rcases hy with rfl | hy
            · exact (hok f (by simp)).put hx.v
            · exact hok y (List.mem_cons_of_mem _ hy)
  · split
    · unfold pushS
      split
      · exact hok
      · intro y hy
        rw [List.mem_cons] at hy
        rcases hy with rfl | hy
        · exact FrOk.f0
        · exact hok y hy
    · split
      · match Fs, hok with
        | [], hok => exact hok
        | [f], hok => exact hok
        | f :: g :: r, hok => exact fun y hy => hok y (List.mem_cons_of_mem _ hy)
      · split
        · match Fs, hok with
          | [], hok => exact hok
          | [f], hok => exact hok
          | f :: g :: r, hok =>
            intro y hy
            simp only [mergeS, List.mem_cons] at hy
            rcases hy with rfl | hy
            · exact (hok f (by simp)).over (hok g (by simp))
            · exact hok y (by simp [hy])
        · exact hok
theorem run16 (l : List DeedD) : ∀ (Fs : List Fr), (∀ e ∈ l, e.Wf) → (∀ f ∈ Fs, FrOk f) → lenF Fs ≤ 16 → lenF (runF Fs l) ≤ 16 := by
  induction l with
  | nil => intro Fs _ _ h; exact h
  | cons x l ih => intro Fs hw hok h; exact ih (stepS Fs x) (fun e he => hw e (List.mem_cons_of_mem _ he)) (step_ok hok x (hw x (by simp))) (step16 hok h x)

theorem PLog.oks' {B : Nat} {w : World} {b : Nat} {ch : List (Nat × Nat)} {Fs : List Fr} (h : PLog B w b ch Fs) : ∀ f ∈ Fs, FrOk f := fun f hf => by
  obtain ⟨i, hi, rfl⟩ := List.getElem_of_mem hf
  exact (h.fr i (by rw [h.len]; exact hi) hi).ok

/-! ### What Put leaves of all -/
theorem getF_put {f : Fr} {r : List Fr} (h : FrOk f) {t : Int} (ht : 0 ≤ t ∧ t < 12) (v s : Int) : getF (fput f t v :: r) s = if s = t then some v else getF (f :: r) s := by
  unfold getF
  rw [List.findSome?_cons, List.findSome?_cons, fget_put h ht]
  by_cases e : s = t
  · rw [if_pos e, if_pos e]
  · rw [if_neg e, if_neg e]

/-- All but one variable. -/
def butT (t : Int) (l : List (Int × Int)) : List (Int × Int) := l.filter fun p => !(p.1 == t)
theorem allK_but {G G' : Int → Option Int} {t : Int} (h : ∀ s, s ≠ t → G' s = G s) (k : Nat) : butT t (allK G' k) = butT t (allK G k) := by
  induction k with
  | zero => rfl
  | succ k ih =>
    by_cases hk : (k : Int) = t
    · have e1 : butT t (allK G' (k + 1)) = butT t (allK G' k) := by
        cases hq : G' k with
        | none => rw [allK_none hq]
        | some v => rw [allK_some hq]; unfold butT; rw [List.filter_append]; simp [hk]
      have e2 : butT t (allK G (k + 1)) = butT t (allK G k) := by
        cases hq : G k with
        | none => rw [allK_none hq]
        | some v => rw [allK_some hq]; unfold butT; rw [List.filter_append]; simp [hk]
      rw [e1, e2, ih]
    · have hG := h k hk
      cases hq : G k with
      | none => rw [allK_none (hG.trans hq), allK_none hq, ih]
      | some v =>
        rw [allK_some (hG.trans hq), allK_some hq]
        unfold butT at ih ⊢
        rw [List.filter_append, List.filter_append, ih]

theorem put_ways {Fs : List Fr} (hne : Fs ≠ []) (h : lenF Fs ≤ 16) (t v : Int) : (∃ z, putS Fs t v = (z, Fs) ∧ (z = 2 ∨ z = 3 ∨ z = 4 ∧ lenF Fs = 16)) ∨ (∃ f r, Fs = f :: r ∧ (0 ≤ t ∧ t < 12) ∧ putS Fs t v = (0, fput f t v :: r)) := by
  cases Fs with
  | nil => exact absurd rfl hne
  | cons f r =>
    unfold putS
    dsimp only
    split
    · exact .inl ⟨2, rfl, .inl rfl⟩
    · rename_i h0
      split
      · exact .inl ⟨3, rfl, .inr (.inl rfl)⟩
      · split
        · rename_i h1; exact .inl ⟨4, rfl, .inr (.inr ⟨rfl, by omega⟩)⟩
        · exact .inr ⟨f, r, rfl, Decidable.not_not.1 h0, rfl⟩

theorem but_skip {t : Int} {l : List (Int × Int)} {i : Nat} (hi : i < l.length) (h : l[i].1 = t) : butT t (l.drop i) = butT t (l.drop (i + 1)) := by
  rw [List.drop_eq_getElem_cons hi]
  unfold butT
  rw [List.filter_cons]
  simp [h]
theorem but_keep {t : Int} {l : List (Int × Int)} {i : Nat} (hi : i < l.length) (h : ¬ l[i].1 = t) : butT t (l.drop i) = l[i] :: butT t (l.drop (i + 1)) := by
  rw [List.drop_eq_getElem_cons hi]
  unfold butT
  rw [List.filter_cons]
  simp [h]

set_option maxRecDepth 100000 in
set_option maxHeartbeats 2000000 in
theorem wlast_any (ao : Option Addr) (cap : Nat) (l : List DeedD) (pt pv : Int) (w : World) (hr : DeedRow w (.slice ao l.length cap) l) (hl : l.length ≤ maxLen) (hwf : ∀ e ∈ l, e.Wf)
    (hpt : -9223372036854775808 ≤ pt ∧ pt ≤ 9223372036854775807) (hpv : Wf64 pv) :
    Calls Try.prog 5 #[.slice ao l.length cap, .agg #[.int .i64 pt, .int .u64 pv]] w (TrueN w) := by
  have h16 := run16 (l.take 60) [f0] (fun e he => hwf e (List.mem_of_mem_take he)) (by simp [FrOk.f0]) (by decide)
  have T0 : Touch w (w.alloc (.cells #[.int .i64 pt, .int .u64 pv] 40)) [] := (Touch.refl w []).alloc _
  have E0 : (w.alloc (.cells #[.int .i64 pt, .int .u64 pv] 40)).heap[w.heap.size]? = some (.cells #[.int .i64 pt, .int .u64 pv] 40 (0, 0)) := heap_alloc_new w _
  have hp := play_any ao cap l _ (SRow.keep hr T0 (by simp)) hl hwf
  have HE0 : Hid _ := E0
  have HT0 : Hid _ := T0
  clear hr hl hwf E0 T0
  go_enter Try.func5, Try.ntmps5
  go_wp2_with fail
  refine hp.mono ?_
  rintro e w1 ⟨b, ch, rb, vr, rfl, h1, t1⟩
  generalize runF [f0] (l.take 60) = Fs at *
  have H1 : Hid _ := h1.p
  have hle := allK_le (getF Fs) 12
  have E1 : Hid _ := (t1.block _ (lt_of_heap HE0.out) (by simp)).trans HE0.out
  have t01 := HT0.out.trans t1 (by simp)
  clear hp h1 t1
  go_wp2_with fail
  refine (live_any w1).mono ?_
  rintro e w2 ⟨rfl, t2⟩
  have hp2 := H1.out.touch t2
  have a1 := all_any hp2
  have t02 := t01.trans t2 (by simp)
  have E2 : Hid _ := (t2.block _ (lt_of_heap E1.out) (by simp)).trans E1.out
  have H2 : Hid _ := hp2
  clear H1 hp2 t01 t2 E1
  go_wp2_with fail
  refine a1.mono ?_
  rintro e w3 ⟨v3, B3, rfl, q3, hB3, t3⟩
  have hp3 := H2.out.touch t3
  have a2 := len_any hp3
  have Q3 : Hid _ := srow_of_owns (cells := pairC) (n := 2) (fun _ => rfl) q3
  have hv3 : ∀ k, v3.ownBlock = some k → w2.heap.size ≤ k := fun k hk => Nat.le_trans hB3 (q3.lt k hk).1
  have hex := owns_form q3
  have t03 := t02.trans t3 (by simp)
  have hf2 := H2.out.foot_lt
  have E3 : Hid _ := (t3.block _ (lt_of_heap E2.out) (by simp)).trans E2.out
  have H3 : Hid _ := hp3
  clear a1 q3 hp3 t02 t3 H2 E2
  obtain ⟨ao3, cap3, e3⟩ := hex
  rw [e3] at Q3 hv3 ⊢
  go_wp2_with fail
  refine a2.mono ?_
  rintro e w4 ⟨rfl, t4⟩
  have hp4 := H3.out.touch t4
  have Q4 : Hid _ := SRow.keep Q3.out t4 (by simp)
  have E4 := (t4.block _ (lt_of_heap E3.out) (by simp)).trans E3.out
  have m0 : w4.cell? ⟨w.heap.size, 0, none⟩ = some (.int .i64 pt) := by simp [World.cell?, E4]
  have m1 : w4.cell? ⟨w.heap.size, 1, none⟩ = some (.int .u64 pv) := by simp [World.cell?, E4]
  have hput := fun W (t : Touch w4 W []) => put_any (hp4.touch t) pt pv hpt hpv
  have t04 := t03.trans t4 (by simp)
  have HE4 : Hid _ := E4
  have H4 : Hid _ := hp4
  clear a2 t03 t4 Q3 H3 E3 hp4 E4
  have hne : Fs ≠ [] := fun e => by have h1 := H4.out.pos; have h2 := H4.out.len; rw [e] at h2; rw [h2] at h1; simp at h1
  rcases put_ways hne h16 pt pv with ⟨z, hz, hzw⟩ | ⟨f, r, hF, hptr, hz⟩
  · have o5 := hput w4 (Touch.refl _ _)
    rw [hz] at o5
    have hz0 : ¬ z = 0 := by rcases hzw with h | h | ⟨h, _⟩ <;> omega
    clear hput hz hne
    go_wp2_with fail
    refine o5.mono ?_
    rintro e w5 ⟨ch5, rfl, p5, t5, x5⟩
    have Q5 : Hid _ := srow_keep Q4.out t5 (fun k hk hs => by have h1 := hv3 k hk; have h2 := (hf2 k hs).2; omega)
    have t05 : Touch w w5 [] := t04.trans t5 (fun x hx => .inr (Nat.le_trans HT0.out.size (H4.out.foot_lt x hx).1))
    have a5 := all_any p5
    have P5 : Hid (PLog _ w5 b ch5 Fs) := p5
    have hz0' : (z == 0) = false := by simpa using hz0
    clear o5 t5 Q4 p5 m0 m1 t04
    go_wp2_with fail
    refine a5.mono ?_
    rintro e w6 ⟨v6, B6, rfl, q6, hB6, t6⟩
    have a6 := samePairs v6 _ (allK (getF Fs) 12) w6 (by omega) (srow_of_owns (cells := pairC) (n := 2) (fun _ => rfl) q6) (SRow.keep Q5.out t6 (by simp))
    have t06 := t05.trans t6 (by simp)
    have P6 : Hid _ := P5.out.touch t6
    clear a5 q6 Q5 t6 t05 P5
    go_wp2_with fail
    refine a6.mono ?_
    rintro e w7 ⟨rfl, t7⟩
    have a7 := len_any (P6.out.touch t7)
    have t07 := t06.trans t7 (by simp)
    clear a6 t7 t06
    go_wp2_with fail
    refine a7.mono ?_
    rintro e w8 ⟨rfl, t8⟩
    clear a7
    rcases hzw with h | h | ⟨h, hl⟩
    · subst h
      go_wp2
      go_ret
      exact ⟨by simp, t07.trans t8 (by simp)⟩
    · subst h
      go_wp2
      go_ret
      exact ⟨by simp, t07.trans t8 (by simp)⟩
    · subst h
      rw [hl]
      go_wp2
      go_ret
      exact ⟨by simp, t07.trans t8 (by simp)⟩
  · have o5 := hput w4 (Touch.refl _ _)
    rw [hz] at o5
    have hoks := H4.out.oks'
    have hgp : ∀ s, getF (fput f pt pv :: r) s = if s = pt then some pv else getF Fs s := fun s => by rw [hF]; exact getF_put (hoks f (by rw [hF]; simp)) hptr pv s
    have hbut : butT pt (allK (getF (fput f pt pv :: r)) 12) = butT pt (allK (getF Fs) 12) := allK_but (fun s hs => by rw [hgp, if_neg hs]) 12
    have hlen16 : lenF (fput f pt pv :: r) ≤ 16 := by have := put16 hoks h16 pt pv; rw [hz] at this; exact this
    have hlenge : lenF Fs ≤ lenF (fput f pt pv :: r) := by
      rw [hF, lenF_cons, lenF_cons, fcnt_put (hoks f (by rw [hF]; simp)) hptr]; omega
    have hgt : getF (fput f pt pv :: r) pt = some pv := by rw [hgp, if_pos rfl]
    have hle2 := allK_le (getF (fput f pt pv :: r)) 12
    have hF' : Hid _ := hF
    generalize fput f pt pv :: r = Gs at *
    clear hput hz hne hF hgp
    go_wp2_with fail
    refine o5.mono ?_
    rintro e w5 ⟨ch5, rfl, p5, t5, x5⟩
    have Q5 : Hid _ := srow_keep Q4.out t5 (fun k hk hs => by have h1 := hv3 k hk; have h2 := (hf2 k hs).2; omega)
    have t05 : Touch w w5 [] := t04.trans t5 (fun x hx => .inr (Nat.le_trans HT0.out.size (H4.out.foot_lt x hx).1))
    have hxs : w.heap.size ∉ pfoot b ch := fun hh => by have h := (H4.out.foot_lt _ hh).1; rw [World.size_alloc] at h; omega
    have E5 := (t5.block _ (lt_of_heap HE4.out) hxs).trans HE4.out
    have n0 : w5.cell? ⟨w.heap.size, 0, none⟩ = some (.int .i64 pt) := by simp [World.cell?, E5]
    have a5 := get_any p5 pt hpt
    simp only at a5
    rw [hgt] at a5
    simp only [Option.getD_some, Option.isSome_some] at a5
    have P5 : Hid (PLog _ w5 b ch5 Gs) := p5
    have HE5 : Hid _ := E5
    clear o5 t5 Q4 p5 m0 m1 t04 E5
    go_wp2_with fail
    refine a5.mono ?_
    rintro e w6 ⟨rfl, t6⟩
    have a6 := all_any (P5.out.touch t6)
    have Q6 : Hid _ := SRow.keep Q5.out t6 (by simp)
    have t06 := t05.trans t6 (by simp)
    have HE6 : Hid _ := (t6.block _ (lt_of_heap HE5.out) (by simp)).trans HE5.out
    have P6 : Hid _ := P5.out.touch t6
    clear a5 t05 t6 Q5 n0 HE5 P5
    go_wp2_with fail
    refine a6.mono ?_
    rintro e w7 ⟨v7, B7, rfl, q7, hB7, t7⟩
    have hex7 := owns_form q7
    have R7 : Hid _ := srow_of_owns (cells := pairC) (n := 2) (fun _ => rfl) q7
    have Q7 : Hid _ := SRow.keep Q6.out t7 (by simp)
    have t07 := t06.trans t7 (by simp)
    have HE7 : Hid _ := (t7.block _ (lt_of_heap HE6.out) (by simp)).trans HE6.out
    have P7 : Hid _ := P6.out.touch t7
    obtain ⟨ao7, cap7, e7⟩ := hex7
    rw [e7] at R7 ⊢
    obtain ⟨L, hL⟩ : ∃ L, L = allK (getF Fs) 12 := ⟨_, rfl⟩
    obtain ⟨L2, hL2⟩ : ∃ L2, L2 = allK (getF Gs) 12 := ⟨_, rfl⟩
    obtain ⟨M, hM⟩ : ∃ M, M = L.length := ⟨_, rfl⟩
    obtain ⟨M2, hM2⟩ : ∃ M2, M2 = L2.length := ⟨_, rfl⟩
    rw [← hL] at Q7 hle hbut
    rw [← hL2] at R7 hle2 hbut
    have HT7 : Hid _ := t07
    have HBUT : Hid _ := hbut
    have HM : Hid (M = L.length) := hM
    have HM2 : Hid (M2 = L2.length) := hM2
    rw [← hL, ← hL2, ← hM, ← hM2]
    rw [← hM] at hle
    rw [← hM2] at hle2
    clear a6 q7 t7 t06 Q6 HE6 P6 hL hL2 hM hM2 e7 hbut t07 hv3
    have hps := lt_of_heap HE7.out
    go_wp2_with fail
    go_loopw [14, 15] (fun vk vi wr => ∃ i k : Nat, vi = .int .i64 i ∧ vk = .int .i64 k ∧ i ≤ M2 ∧ k ≤ M ∧ butT pt (L2.drop i) = butT pt (L.drop k) ∧ Touch w7 wr []) (fun _ vi _ => M2 - (intOf vi).toNat)
    case atStart => exact ⟨0, 0, rfl, rfl, Nat.zero_le _, Nat.zero_le _, by simpa using HBUT.out, Touch.refl _ _⟩
    case round =>
      obtain ⟨i, k, rfl, rfl, hi, hk, hb, hT⟩ := hrel
      have HB : Hid _ := hb
      have HT : Hid _ := hT
      by_cases hlt : i < M2
      · have hlt' : (i : Int) < M2 := by omega
        have hil : i < L2.length := by rw [← HM2.out]; exact hlt
        obtain ⟨g2, o2, rfl, hg2, b0, b1⟩ := PairRow.two R7.out i hil
        have y0 := (hT.cell (p := ⟨g2, o2 + i * 2, none⟩) hg2 (by simp)).trans b0
        have y1 := (hT.cell (p := ⟨g2, o2 + i * 2 + 1, none⟩) hg2 (by simp)).trans b1
        have z0 : wr.cell? ⟨w.heap.size, 0, none⟩ = some (.int .i64 pt) := by
          have := (hT.block _ hps (by simp)).trans HE7.out
          simp [World.cell?, this]
        have hsk := but_skip (t := pt) hil
        have hkp := but_keep (t := pt) hil
        obtain ⟨e2, he2⟩ : ∃ e2, e2 = L2[i] := ⟨_, rfl⟩
        rw [← he2] at y0 y1 hsk hkp
        obtain ⟨c0, c1⟩ := e2
        simp only at y0 y1 hsk hkp
        clear b0 b1 he2 hb hT
        by_cases hc : c0 = pt
        · have hb2 := (hsk hc).symm.trans HB.out
          have HB2 : Hid _ := hb2
          subst hc
          clear hb2 hsk hkp
          go_wp2_with fail
          go_quiet (fail)
          go_wp2
          go_roundw
          case rel => exact ⟨i + 1, k, by go_num, rfl, by omega, hk, HB2.out, HT.out.drewN _⟩
          case measure => simp [intOf]; omega
        · have hb2 := (hkp hc).symm.trans HB.out
          have HB2 : Hid _ := hb2
          have hc' : (c0 == pt) = false := by simpa using hc
          clear hb2 hsk hkp
          go_wp2_with fail
          go_quiet (fail)
          have HTq : Hid (Touch w7 (wr.drewN nq) []) := HT.out.drewN _
          have y0q : (wr.drewN nq).cell? ⟨g2, o2 + i * 2, none⟩ = some (.int .i64 c0) := y0
          have y1q : (wr.drewN nq).cell? ⟨g2, o2 + i * 2 + 1, none⟩ = some (.int .u64 c1) := y1
          generalize wr.drewN nq = Wq at *
          clear y0 y1 z0 HT HB
          go_wp2_with fail
          go_loopw [14] (fun vk wx => ∃ (k2 : Nat) (nx : Nat), vk = .int .i64 k2 ∧ k2 ≤ M ∧ (c0, c1) :: butT pt (L2.drop (i + 1)) = butT pt (L.drop k2) ∧ wx = Wq.drewN nx) (fun vk _ => M - (intOf vk).toNat)
          case atStart => exact ⟨k, 0, rfl, hk, HB2.out, rfl⟩
          case round =>
            obtain ⟨k2, nx, rfl, hk2, hb3, rfl⟩ := hrel
            clear HB2
            by_cases hkM : k2 < M
            · have hkM' : (k2 : Int) < M := by omega
              have hkl : k2 < L.length := by rw [← HM.out]; exact hkM
              obtain ⟨g1, o1, rfl, hg1, d0, d1⟩ := PairRow.two Q7.out k2 hkl
              have x0 : Wq.cell? ⟨g1, o1 + k2 * 2, none⟩ = _ := (HTq.out.cell (p := ⟨g1, o1 + k2 * 2, none⟩) hg1 (by simp)).trans d0
              have x1 : Wq.cell? ⟨g1, o1 + k2 * 2 + 1, none⟩ = _ := (HTq.out.cell (p := ⟨g1, o1 + k2 * 2 + 1, none⟩) hg1 (by simp)).trans d1
              have z0 : Wq.cell? ⟨w.heap.size, 0, none⟩ = some (.int .i64 pt) := by
                have := (HTq.out.block _ hps (by simp)).trans HE7.out
                simp [World.cell?, this]
              have hsk := but_skip (t := pt) hkl
              have hkp := but_keep (t := pt) hkl
              obtain ⟨e1, he1⟩ : ∃ e1, e1 = L[k2] := ⟨_, rfl⟩
              rw [← he1] at x0 x1 hsk hkp
              obtain ⟨q0, q1⟩ := e1
              simp only at x0 x1 hsk hkp
              clear d0 d1 he1
              by_cases hq : q0 = pt
              · have hb4 := hb3.trans (hsk hq)
                have HB4 : Hid _ := hb4
                subst hq
                clear hb3 hb4 hsk hkp
                go_wp2_with fail
                go_quiet (fail)
                go_wp2
                go_roundw
                case rel => exact ⟨k2 + 1, _, by go_num, by omega, HB4.out, by first | rfl | trivial⟩
                case measure => simp [intOf]; omega
              · have hb4 := hb3.trans (hkp hq)
                rw [List.cons.injEq, Prod.mk.injEq] at hb4
                obtain ⟨⟨hc0, hc1⟩, hbb⟩ := hb4
                have HB4 : Hid _ := hbb
                subst hc0 hc1
                have hq' : (c0 == pt) = false := by simpa using hq
                clear hb3 hsk hkp hbb
                go_wp2_with fail
                go_quiet (fail)
                go_wp2_with fail
                go_quiet (fail)
                go_wp2
                exact ⟨⟨i + 1, k2 + 1, by go_num, by go_num, by omega, by omega, HB4.out, by first | exact ((HTq.out.drewN _).drewN _).drewN _ | exact (HTq.out.drewN _).drewN _ | exact HTq.out.drewN _⟩, by simp [intOf]; omega⟩
            · exfalso
              have e : L.drop k2 = [] := List.drop_eq_nil_of_le (by have := HM.out; omega)
              rw [e] at hb3
              simp [butT] at hb3
      · clear hb hT
        have E8 := (HT.out.block _ hps (by simp)).trans HE7.out
        have z1 : wr.cell? ⟨w.heap.size, 1, none⟩ = some (.int .u64 pv) := by simp [World.cell?, E8]
        have a8 := fun W (t : Touch wr W []) => len_any ((P7.out.touch HT.out).touch t)
        have hl1 : ((lenF Gs : Nat) : Int) ≤ 16 := by omega
        have hl2 : ((lenF Fs : Nat) : Int) ≤ (lenF Gs : Nat) := by omega
        clear E8
        go_wp2_with fail
        refine (a8 _ (Touch.refl _ _)).mono ?_
        rintro e w8 ⟨rfl, t8⟩
        go_wp2_with fail
        refine (a8 _ t8).mono ?_
        rintro e w9 ⟨rfl, t9⟩
        clear a8
        go_wp2
        go_ret
        exact ⟨by simp, ((HT7.out.trans HT.out (by simp)).trans t8 (by simp)).trans t9 (by simp)⟩

end Go.Proofs.Ytijnepbmkkdpnaa

/-
  package rowlockref09: turned BY ITS CONTRACT.
-/
import Derived.Test.YtjacclbifeoclaaOpqTurn
import Derived.Test.YtjacclbifeoclaaOpqLive
import Derived.Test.YtjacclbifeoclaaOpqFew
namespace Go.Proofs.Ytjacclbifeoclaa
set_option linter.unusedVariables false
set_option linter.unusedSimpArgs false
open Go.RowKit Go.Maps Go.Shelf
attribute [local go_sem] Oper.semAt_some

def sliceLen : Value → Nat
  | .slice _ n _ => n
  | _ => 0
theorem irow_drop {w : World} {g off c c' : Nat} {l : List Int} (h : IRow w (.slice (some ⟨g, off, none⟩) l.length c) l) (k : Nat) : IRow w (.slice (some ⟨g, off + k, none⟩) (l.drop k).length c') (l.drop k) := by
  refine ⟨_, _, rfl, fun hne => ?_⟩
  have hl : l ≠ [] := fun e => hne (by rw [e]; simp)
  obtain ⟨ao, cap, e, hh⟩ := h
  simp only [Value.slice.injEq, true_and] at e
  obtain ⟨rfl, rfl⟩ := e
  obtain ⟨g', off', e2, hg, hc⟩ := hh hl
  simp only [Option.some.injEq, Addr.mk.injEq] at e2
  obtain ⟨rfl, rfl, _⟩ := e2
  refine ⟨g, off + k, rfl, hg, fun j hj i hi => ?_⟩
  rw [List.length_drop] at hj
  have := hc (k + j) (by omega) i hi
  rw [List.getElem_drop]
  rw [← this]
  congr 2
  omega

set_option maxRecDepth 100000 in
set_option maxHeartbeats 8000000 in
theorem turned_any {w : World} {va : Value} {xs : List Int} (ha : IRow w va xs) (hl : xs.length ≤ 6) (k : Nat) (hk : k < fac xs.length) :
    Calls Try.prog 29 #[va, .int .i64 k] w fun e w' => ∃ v, e = .returned v ∧ intOwn w' w.heap.size v (turnF xs.length xs k) ∧ Touch w w' [] := by
  obtain ⟨ao, cap, rfl⟩ := ha.form
  obtain ⟨i0, hi, hz0, hz1, hz2⟩ := info_partsO Try.info_int
  have HI0 : Hid _ := And.intro hi (And.intro hz0 (And.intro hz1 hz2))
  have t0 := (Touch.refl w []).alloc (.cells #[] 3)
  obtain ⟨v1, w1, hrun, o1, g1, b1⟩ := run_app (P := Try.prog) (cells := fun x : Int => [Value.int .i64 x]) 24 24 3 i0 _ 1 8 Try.underlying24 hi hz0 hz1 hz2 rfl (by decide) (fun _ => rfl) (by simp [Value.oneCell']) (empty_row w 3 1) (SRow.keep ha t0 (by simp)) (by omega) (by decide) (by simp)
  rw [Nat.zero_add, List.nil_append, flat_one] at o1
  have T1 : Touch w w1 [] := t0.grown g1 (by intro k hk; cases hk; exact .inr (Nat.le_refl _))
  have hcap1 := own_cap o1
  have hir1 : IRow w1 v1 xs := irow_of o1
  obtain ⟨a1, c1, rfl⟩ := hir1.form
  have HIR1 : Hid (IRow w1 (.slice a1 xs.length c1) xs) := hir1
  have HC1 : Hid (∀ ao n cap, Value.slice a1 xs.length c1 = .slice ao n cap → n ≤ cap) := hcap1
  have HT1 : Hid (Touch w w1 []) := T1
  obtain ⟨res, hres⟩ : ∃ r, r = turnF xs.length xs k := ⟨_, rfl⟩
  rw [← hres]
  have HRES : Hid (res = turnF xs.length xs k) := hres
  have HK : Hid (k < fac xs.length) := hk
  obtain ⟨N, hN⟩ : ∃ N, N = xs.length := ⟨_, rfl⟩
  have HN : Hid (N = xs.length) := hN
  have hk7 : k < 1000 := Nat.lt_of_lt_of_le hk (Nat.le_trans (fac_le _ hl) (by decide))
  rw [← hN] at hl hrun ⊢
  clear ha hi hz0 hz1 hz2 t0 o1 g1 b1 T1 hcap1 hir1 hres hN hk
  go_enter Try.func29, Try.ntmps29
  go_wp2_with (at_builtin; refine Lib.wpList_append_run _ rfl _ _ _ _ rfl _ _ rfl rfl _ _ hrun ?_)
  clear hrun
  go_loopw [6, 7] (fun m i wr => ∃ j : Nat, i = .int .i64 j ∧ m = .int .i64 (fac (j - 1) : Nat) ∧ 2 ≤ j ∧ (j ≤ N ∨ j = 2) ∧ wr = w1) (fun _ i _ => N - (intOf i).toNat)
  case atStart => exact ⟨2, rfl, rfl, by omega, .inr rfl, rfl⟩
  case round =>
    obtain ⟨j, rfl, rfl, hj2, hjn, hwr⟩ := hrel
    subst wr
    by_cases hlt : j < N
    · have q1 : (j : Int) < N := by omega
      have hj6 : j < 6 := by omega
      obtain ⟨j', rfl⟩ : ∃ j', j = j' + 1 := ⟨j - 1, by omega⟩
      have hmul : ((fac (j' + 1 - 1) : Nat) : Int) * ((j' + 1 : Nat) : Int) = ((fac (j' + 1) : Nat) : Int) := by
        rw [Nat.add_sub_cancel, ← Int.natCast_mul]
        show _ = (((j' + 1) * fac j' : Nat) : Int)
        rw [Nat.mul_comm]
      have hb := fac_le (j' + 1) (by omega)
      have HF : Hid (fac (j' + 1) = fac (j' + 1 + 1 - 1)) := rfl
      generalize fac (j' + 1) = M2 at *
      generalize fac (j' + 1 - 1) = M1 at *
      generalize j' + 1 = j at *
      go_wp2
      go_roundw
      case rel => exact ⟨j + 1, by go_num, by rw [← HF.out], by omega, by omega, by trivial⟩
      case measure => simp [intOf]; omega
    · have q1 : ¬ (j : Int) < N := by omega
      have hfac : fac (j - 1) = fac (N - 1) := by
        rcases hjn with h | h
        · have : j = N := by omega
          rw [this]
        · subst h
          have : N = 0 ∨ N = 1 ∨ N = 2 := by omega
          rcases this with rfl | rfl | rfl <;> rfl
      rw [hfac]
      clear hfac hjn hj2 hlt
      have HK7 : Hid (k < 1000) := hk7
      have HL6 : Hid (N ≤ 6) := hl
      go_wp2_with fail
      go_loopw [1, 5, 6, 8] (fun sk s5 sm s8 wr => ∃ (kk : Nat) (left outl : List Int) (a5 a8 : Option Addr) (c5 c8 : Nat), sk = .int .i64 kk ∧ s5 = .slice a5 left.length c5 ∧ s8 = .slice a8 outl.length c8 ∧ IRow wr (.slice a5 left.length c5) left ∧ left.length ≤ c5 ∧ sm = .int .i64 (fac (left.length - 1) : Nat) ∧ intOwn wr w.heap.size (.slice a8 outl.length c8) outl ∧ (left ≠ [] → ∀ g, (Value.slice a8 outl.length c8).ownBlock = some g → (Value.slice a5 left.length c5).ownBlock ≠ some g) ∧ outl.length + left.length = N ∧ kk < fac left.length ∧ res = outl ++ turnF left.length left kk ∧ Touch w wr []) (fun _ s5 _ _ _ => sliceLen s5)
      case atStart =>
        refine ⟨k, xs, [], a1, none, c1, 0, rfl, by rw [HN.out], rfl, HIR1.out, HC1.out _ _ _ rfl, by rw [HN.out], World.ownsRow_nil _ _ _ _, fun _ g hg => by simp [Value.ownBlock] at hg, by rw [HN.out]; simp, HK.out, by rw [HRES.out]; rfl, HT1.out⟩
      case round =>
        obtain ⟨kk, left, outl, a5, a8, c5, c8, rfl, rfl, rfl, hir, hc5, rfl, hown, hap, hsum, hkk, hrs, t⟩ := hrel
        clear HIR1 HC1 HT1 HRES HK
        have HT : Hid (Touch w wr []) := t
        have HOWN : Hid (intOwn wr w.heap.size (.slice a8 outl.length c8) outl) := hown
        have HRS : Hid (res = outl ++ turnF left.length left kk) := hrs
        by_cases hne : left.length = 0
        · have hnil : left = [] := List.length_eq_zero_iff.1 hne
          subst hnil
          have HR : Hid (res = outl) := by show _ = _; rw [HRS.out]; simp [turnF]
          clear hir hown hap hrs t HRS
          simp only [List.length_nil] at hc5 ⊢
          generalize outl.length = NO at *
          go_wp2
          go_ret
          exact ⟨_, rfl, by rw [HR.out]; exact HOWN.out, HT.out⟩
        · obtain ⟨m, hm⟩ : ∃ m, left.length = m + 1 := ⟨left.length - 1, by omega⟩
          have HM : Hid (left.length = m + 1) := hm
          have hm6 : m + 1 ≤ 6 := by have := HL6.out; omega
          obtain ⟨M, hM⟩ : ∃ M, M = fac m := ⟨_, rfl⟩
          have hM1 : 1 ≤ M := by rw [hM]; exact fac_pos m
          have hM7 : M ≤ 720 := by rw [hM]; exact fac_le m (by omega)
          obtain ⟨i, hi⟩ : ∃ i, i = kk / M := ⟨_, rfl⟩
          obtain ⟨j, hj⟩ : ∃ j, j = kk % M := ⟨_, rfl⟩
          have hkk7 : kk < 1000 := Nat.lt_of_lt_of_le hkk (Nat.le_trans (fac_le _ (by omega)) (by decide))
          have him : i < m + 1 := by
            rw [hi, Nat.div_lt_iff_lt_mul (by omega), hM]
            rw [hm] at hkk
            exact hkk
          have hjm : j < M := by rw [hj]; exact Nat.mod_lt _ (by omega)
          have hq : (kk : Int) / (M : Int) = (i : Int) := by rw [hi]; exact (Int.natCast_ediv _ _).symm
          have hr : (kk : Int) % (M : Int) = (j : Int) := by rw [hj]; exact (Int.natCast_emod _ _).symm
          have hil : i < left.length := by omega
          have HRS2 : Hid (res = (outl ++ [left[i]]) ++ turnF m (left.eraseIdx i) j) := by
            show _ = _
            have e : left.getD i 0 = left[i] := by simp [List.getD_eq_getElem?_getD, hil]
            rw [HRS.out, hm]
            conv => lhs; unfold turnF
            rw [← hM, ← hi, ← hj, e]
            simp
          obtain ⟨g, off, hgo, hg, d0⟩ := IRow.one hir i hil
          subst hgo
          obtain ⟨hi0, hz0, hz1, hz2⟩ := HI0.out
          -- the append of one
          have hnew := srow_new (cells := fun x : Int => [Value.int .i64 x]) (n := 1) (fun _ => rfl) wr [left[i]] 3 1
          have o8 := ownsRow_touch hown ((Touch.refl wr []).alloc (.cells #[.int .i64 left[i]] 3)) (by simp)
          have hts := t.size
          obtain ⟨v8, w2, hrun8, o9, g9, b9⟩ := run_app (P := Try.prog) (cells := fun x : Int => [Value.int .i64 x]) 24 24 3 i0 _ 1 8 Try.underlying24 hi0 hz0 hz1 hz2 rfl (by decide) (fun _ => rfl) (by simp [Value.oneCell']) o8 hnew (by simp; omega) (by decide) (by simp; omega)
          have hT2 : Touch w w2 [] := (t.alloc _).grown g9 (fun x hx => .inr (hown.lt x hx).1)
          have hT2' : Touch wr w2 (Value.slice a8 outl.length c8).ownBlock.toList := ((Touch.refl wr _).alloc _).grown g9 (fun x hx => .inl (by rw [hx]; simp))
          have hir2 : IRow w2 (.slice (some ⟨g, off, none⟩) left.length c5) left := SRow.keepB hir hT2' (fun hne2 q hq2 hmem => hap hne2 q (by simpa using hmem) hq2)
          have ho9 : intOwn w2 w.heap.size v8 (outl ++ [left[i]]) := by
            show World.ownsRow _ _ _ _ _ _ _
            have := o9
            simpa using this
          obtain ⟨a9, c9, hf9⟩ := owns_slice ho9
          subst hf9
          have hg2 : g < w2.heap.size := Nat.lt_of_lt_of_le hg hT2'.size
          -- the two appends
          have T3 : Touch w2 (w2.alloc (.cells #[] 3)).drew [] := ((Touch.refl w2 []).alloc _).drew
          have e3 : (w2.alloc (.cells #[] 3)).drew.ownsRow w2.heap.size 3 1 (.slice (some ⟨w2.heap.size, 0, none⟩) 0 0) 0 [] := ownsRow_touch (empty_row w2 3 1) ((Touch.refl _ []).drew) (by simp)
          obtain ⟨v4, w4, hrun4, o4, g4, b4⟩ := run_app (P := Try.prog) (cells := fun x : Int => [Value.int .i64 x]) 24 24 3 i0 _ 1 8 Try.underlying24 hi0 hz0 hz1 hz2 rfl (by decide) (fun _ => rfl) (by simp [Value.oneCell']) e3 (SRow.keep (SRow.first hir2 i (by omega)) T3 (by simp)) (by simp; omega) (by decide) (by simp)
          have T4 : Touch w2 w4 [] := T3.grown g4 (fun x hx => .inr (by cases hx; exact Nat.le_refl _))
          obtain ⟨A2, hA2, hirD⟩ : ∃ A2 : Addr, (if c5 = i + 1 then some (⟨g, off, none⟩ : Addr) else some ⟨g, off + (i + 1), none⟩) = some A2 ∧ IRow w2 (.slice (some A2) (left.drop (i + 1)).length (c5 - (i + 1))) (left.drop (i + 1)) := by
            by_cases hcc : c5 = i + 1
            · refine ⟨⟨g, off, none⟩, by rw [if_pos hcc], _, _, rfl, fun hne2 => ?_⟩
              exact absurd (List.drop_of_length_le (by omega)) hne2
            · exact ⟨⟨g, off + (i + 1), none⟩, by rw [if_neg hcc], irow_drop hir2 (i + 1)⟩
          obtain ⟨v5, w5, hrun5, o5, g5, b5⟩ := run_app (P := Try.prog) (cells := fun x : Int => [Value.int .i64 x]) 24 24 3 i0 _ 1 8 Try.underlying24 hi0 hz0 hz1 hz2 rfl (by decide) (fun _ => rfl) (by simp [Value.oneCell']) o4 (SRow.keep hirD T4 (by simp)) (by simp; omega) (by decide) T4.size
          have T5 : Touch w2 w5 [] := T4.grown g5 (fun x hx => .inr (o4.lt x hx).1)
          have hln : left.length - (i + 1) = m - i := by omega
          have hl5 : left.length = m + 1 := hm
          have ho5 : w5.ownsRow w2.heap.size 3 1 v5 m ((left.eraseIdx i).map (Value.int .i64)) := by
            have h1 := o5
            rw [List.nil_append, flat_one, flat_one, ← List.map_append, ← List.eraseIdx_eq_take_drop_succ] at h1
            have h2 : 0 + (left.take i).length + (left.drop (i + 1)).length = m := by simp; omega
            rw [h2] at h1
            exact h1
          obtain ⟨a6, c6, hf6⟩ := owns_slice ho5
          subst hf6
          have hlen5 : (left.eraseIdx i).length = m := by rw [List.length_eraseIdx_of_lt hil]; omega
          have hc6 : m ≤ c6 := own_cap ho5 _ _ _ rfl
          have hir5 : IRow w5 (.slice a6 (left.eraseIdx i).length c6) (left.eraseIdx i) := by
            refine irow_of (B := w2.heap.size) ?_
            show World.ownsRow _ _ _ _ _ _ _
            rw [hlen5]
            exact ho5
          have ho9' : intOwn w5 w.heap.size (.slice a9 (outl ++ [left[i]]).length c9) (outl ++ [left[i]]) := ownsRow_touch ho9 T5 (by simp)
          obtain ⟨N9, hN9⟩ : ∃ N9, N9 = (outl ++ [left[i]]).length := ⟨_, rfl⟩
          have HNX : Hid (∀ sm' : Value, sm' = .int .i64 (fac (m - 1) : Nat) → ∃ (kk : Nat) (left outl : List Int) (b5 b8 : Option Addr) (d5 d8 : Nat), Value.int .i64 (j : Int) = .int .i64 kk ∧ Value.slice a6 m c6 = .slice b5 left.length d5 ∧ Value.slice a9 N9 c9 = .slice b8 outl.length d8 ∧ IRow w5 (.slice b5 left.length d5) left ∧ left.length ≤ d5 ∧ sm' = .int .i64 (fac (left.length - 1) : Nat) ∧ intOwn w5 w.heap.size (.slice b8 outl.length d8) outl ∧ (left ≠ [] → ∀ g, (Value.slice b8 outl.length d8).ownBlock = some g → (Value.slice b5 left.length d5).ownBlock ≠ some g) ∧ outl.length + left.length = N ∧ kk < fac left.length ∧ res = outl ++ turnF left.length left kk ∧ Touch w w5 []) := fun sm' hsm => by
            refine ⟨j, left.eraseIdx i, outl ++ [left[i]], a6, a9, c6, c9, rfl, by rw [hlen5], by rw [hN9], hir5, by rw [hlen5]; exact hc6, by rw [hlen5]; exact hsm, ho9', fun _ q hq1 hq2 => ?_, by rw [hlen5]; simp; omega, by rw [hlen5, ← hM]; exact hjm, by rw [hlen5]; exact HRS2.out, hT2.trans T5 (by simp)⟩
            have h1 := (ho9.lt q hq1).2
            rw [hlen5] at hq2
            have h2 := (ho5.lt q hq2).1
            omega
          have hti : (left.take i).length = i := by simp; omega
          have hdi : (left.drop (i + 1)).length = m + 1 - (i + 1) := by simp; omega
          obtain ⟨a4, c4, hf4⟩ := owns_slice o4
          subst hf4
          simp only [hti, hdi, Nat.zero_add] at hrun4 hrun5
          rw [← hN9] at hrun8
          simp only [List.flatMap_cons, List.flatMap_nil, List.append_nil, List.length_singleton] at hrun8
          have hfm : fac (left.length - 1) = M := by rw [hm, hM]; rfl
          have HMF : Hid (M = fac m) := hM
          rw [hfm, hm]
          rw [hm] at hc5
          have HR4 : Hid ((Builtin.append_ #[24, 24] 24 #[.slice (some ⟨w2.heap.size, 0, none⟩) 0 0, .slice (some ⟨g, off, none⟩) i c5]).run Try.prog (w2.alloc (.cells #[] 3)).drew = .ok (.slice a4 i c4) w4) := hrun4
          have HR5 : Hid ((Builtin.append_ #[24, 24] 24 #[.slice a4 i c4, .slice (some A2) (m + 1 - (i + 1)) (c5 - (i + 1))]).run Try.prog w4 = .ok (.slice a6 m c6) w5) := hrun5
          clear hrun4 hrun5 hirD HRS HRS2 HOWN HT hir hown hap hrs t hir2 hir5 ho5 ho9 ho9' o5 o4 o9 o8 g4 g5 g9 b4 b5 b9 T3 T4 T5 e3 hT2 hT2' hnew hi hj hkk hln hl5 hfm hM HM hi0 hz0 hz1 hz2 hN9 hlen5 hti hdi hne hm
          generalize left[i] = x at *
          generalize outl.length = N8 at *
          have h0 : (0 : Int) ≤ i := by omega
          have h00 : (0 : Int) ≤ (i : Int) + 1 := by omega
          have h1 : (i : Int) < ((m + 1 : Nat) : Int) := by omega
          have h2 : (i : Int) ≤ c5 := by omega
          have h3 : (i : Int) + 1 ≤ ((m + 1 : Nat) : Int) := by omega
          have h4 : ((m + 1 : Nat) : Int) ≤ c5 := by omega
          have hp0 : (0 : Int) < ((m + 1 : Nat) : Int) := by omega
          have hi1000 : i < 1000 := by omega
          have hwr : IntKind.i64.wrap ((i : Int) + 1) = (i : Int) + 1 := by rw [IntKind.wrap_i64]; omega
          have hmm : m < m + 1 := by omega
          generalize m + 1 = m1 at *
          clear hc5 him hil
          go_wp2_with (at_builtin; refine Lib.wpList_append_run _ rfl _ _ _ _ rfl _ _ rfl rfl _ _ hrun8 ?_)
          clear hrun8
          refine wp_region_held_drew (S := fun _ => True) (by kernel_rfl) True.intro (fun hHeld => ?_)
          refine wpAnyH_take (i := 1) (v := (.slice (some ⟨g, off, none⟩) m1 c5)) rfl (by kernel_rfl) (by kernel_rfl) (by kernel_rfl) (fun _ _ _ h => h) (Or.inl ⟨by rfl, ?_⟩) hHeld ?_
          · intro w' hSw
            try simp only [Act.put, List.getElem_toArray, List.getElem_cons_succ, List.getElem_cons_zero, List.setIfInBounds_toArray, List.set_cons_zero, List.set_cons_succ]
            go_simp
          try simp only [Act.put, List.getElem_toArray, List.getElem_cons_succ, List.getElem_cons_zero, List.setIfInBounds_toArray, List.set_cons_zero, List.set_cons_succ]
          refine wpAnyH_take (i := 2) (v := (.int .i64 (i : Int))) rfl (by kernel_rfl) (by kernel_rfl) (by kernel_rfl) (fun _ _ _ h => h) (Or.inl ⟨by rfl, ?_⟩) hHeld ?_
          · intro w' hSw
            try simp only [Act.put, List.getElem_toArray, List.getElem_cons_succ, List.getElem_cons_zero, List.setIfInBounds_toArray, List.set_cons_zero, List.set_cons_succ]
            go_simp
          try simp only [Act.put, List.getElem_toArray, List.getElem_cons_succ, List.getElem_cons_zero, List.setIfInBounds_toArray, List.set_cons_zero, List.set_cons_succ]
          refine wpAnyH_take (i := 3) (v := (.slice (some ⟨g, off, none⟩) i c5)) rfl (by kernel_rfl) (by kernel_rfl) (by kernel_rfl) (fun _ _ _ h => h) (Or.inl ⟨by rfl, ?_⟩) hHeld ?_
          · intro w' hSw
            try simp only [Act.put, List.getElem_toArray, List.getElem_cons_succ, List.getElem_cons_zero, List.setIfInBounds_toArray, List.set_cons_zero, List.set_cons_succ]
            go_simp
          try simp only [Act.put, List.getElem_toArray, List.getElem_cons_succ, List.getElem_cons_zero, List.setIfInBounds_toArray, List.set_cons_zero, List.set_cons_succ]
          refine wpAnyH_take (i := 5) (v := (.slice (some ⟨g, off, none⟩) m1 c5)) rfl (by kernel_rfl) (by kernel_rfl) (by kernel_rfl) (fun _ _ _ h => h) (Or.inl ⟨by rfl, ?_⟩) hHeld ?_
          · intro w' hSw
            try simp only [Act.put, List.getElem_toArray, List.getElem_cons_succ, List.getElem_cons_zero, List.setIfInBounds_toArray, List.set_cons_zero, List.set_cons_succ]
            go_simp
          try simp only [Act.put, List.getElem_toArray, List.getElem_cons_succ, List.getElem_cons_zero, List.setIfInBounds_toArray, List.set_cons_zero, List.set_cons_succ]
          refine wpAnyH_take (i := 6) (v := (.int .i64 (i : Int))) rfl (by kernel_rfl) (by kernel_rfl) (by kernel_rfl) (fun _ _ _ h => h) (Or.inl ⟨by rfl, ?_⟩) hHeld ?_
          · intro w' hSw
            try simp only [Act.put, List.getElem_toArray, List.getElem_cons_succ, List.getElem_cons_zero, List.setIfInBounds_toArray, List.set_cons_zero, List.set_cons_succ]
            go_simp
          try simp only [Act.put, List.getElem_toArray, List.getElem_cons_succ, List.getElem_cons_zero, List.setIfInBounds_toArray, List.set_cons_zero, List.set_cons_succ]
          refine wpAnyH_take (i := 7) (v := (.int .i64 ((i : Int) + 1))) rfl (by kernel_rfl) (by kernel_rfl) (by kernel_rfl) (fun _ _ _ h => h) (Or.inl ⟨by rfl, ?_⟩) hHeld ?_
          · intro w' hSw
            try simp only [Act.put, List.getElem_toArray, List.getElem_cons_succ, List.getElem_cons_zero, List.setIfInBounds_toArray, List.set_cons_zero, List.set_cons_succ]
            go_simp
          try simp only [Act.put, List.getElem_toArray, List.getElem_cons_succ, List.getElem_cons_zero, List.setIfInBounds_toArray, List.set_cons_zero, List.set_cons_succ]
          refine wpAnyH_take (i := 8) (v := (.slice (some A2) (m1 - (i + 1)) (c5 - (i + 1)))) rfl (by kernel_rfl) (by kernel_rfl) (by kernel_rfl) (fun _ _ _ h => h) (Or.inl ⟨by rfl, ?_⟩) hHeld ?_
          · intro w' hSw
            try simp only [Act.put, List.getElem_toArray, List.getElem_cons_succ, List.getElem_cons_zero, List.setIfInBounds_toArray, List.set_cons_zero, List.set_cons_succ]
            go_simp
          try simp only [Act.put, List.getElem_toArray, List.getElem_cons_succ, List.getElem_cons_zero, List.setIfInBounds_toArray, List.set_cons_zero, List.set_cons_succ]
          clear hHeld
          refine wpAnyH_ready (rs := [0]) (by kernel_rfl) (by simp) (AllReadyH.cons rfl (fun K hK => ?_) AllReadyH.nil)
          rw [if_pos (by rfl)]
          go_simp
          refine hK.out _ _ True.intro (fun hHeld => ?_)
          clear hK
          try simp only [Act.put, List.getElem_toArray, List.getElem_cons_succ, List.getElem_cons_zero, List.setIfInBounds_toArray, List.set_cons_zero, List.set_cons_succ]
          clear hHeld
          refine wpAnyH_ready (rs := [4]) (by kernel_rfl) (by simp) (AllReadyH.cons rfl (fun K hK => ?_) AllReadyH.nil)
          refine step_append_run (by rfl) _ _ _ 24 (by rfl) (by rfl) _ _ _ w4 (by rfl) (by rfl) HR4.out ?_
          refine hK.out _ _ True.intro (fun hHeld => ?_)
          clear hK
          try simp only [Act.put, List.getElem_toArray, List.getElem_cons_succ, List.getElem_cons_zero, List.setIfInBounds_toArray, List.set_cons_zero, List.set_cons_succ]
          clear hHeld
          refine wpAnyH_ready (rs := [9]) (by kernel_rfl) (by simp) (AllReadyH.cons rfl (fun K hK => ?_) AllReadyH.nil)
          refine step_append_run (by rfl) _ _ _ 24 (by rfl) (by rfl) _ _ _ w5 (by rfl) (by rfl) HR5.out ?_
          refine hK.out _ _ True.intro (fun hHeld => ?_)
          clear hK
          try simp only [Act.put, List.getElem_toArray, List.getElem_cons_succ, List.getElem_cons_zero, List.setIfInBounds_toArray, List.set_cons_zero, List.set_cons_succ]
          refine wpAnyH_take (i := 10) (v := (.slice a6 m c6)) rfl (by kernel_rfl) (by kernel_rfl) (by kernel_rfl) (fun _ _ _ h => h) (Or.inl ⟨by rfl, ?_⟩) hHeld ?_
          · intro w' hSw
            try simp only [Act.put, List.getElem_toArray, List.getElem_cons_succ, List.getElem_cons_zero, List.setIfInBounds_toArray, List.set_cons_zero, List.set_cons_succ]
            go_simp
          try simp only [Act.put, List.getElem_toArray, List.getElem_cons_succ, List.getElem_cons_zero, List.setIfInBounds_toArray, List.set_cons_zero, List.set_cons_succ]
          clear hHeld
          refine wpAnyH_done (by kernel_rfl) ?_ _
          by_cases hm0 : m = 0
          · have hmz : ¬ (0 : Int) < (m : Int) := by omega
            have HFM : Hid (M = fac (m - 1)) := by show _ = _; rw [HMF.out, hm0]
            clear hm0 HMF
            go_wp2
            go_roundw
            case rel => exact HNX.out _ (by rw [HFM.out])
            case measure => simp [sliceLen]; omega
          · have hmz : (0 : Int) < (m : Int) := by omega
            obtain ⟨M2, hM2⟩ : ∃ M2, M2 = fac (m - 1) := ⟨_, rfl⟩
            have HM2 : Hid (M2 = fac (m - 1)) := hM2
            have hM27 : M2 ≤ 720 := by rw [hM2]; exact fac_le _ (by omega)
            have hdv : (M : Int) / (m : Int) = (M2 : Int) := by
              obtain ⟨m', rfl⟩ : ∃ m', m = m' + 1 := ⟨m - 1, by omega⟩
              rw [HMF.out, hM2]
              show ((((m' + 1) * fac m' : Nat)) : Int) / _ = _
              rw [Int.natCast_mul, Int.mul_ediv_cancel_left _ (by omega)]
              rfl
            clear hm0 HMF hM2
            go_wp2
            go_roundw
            case rel => exact HNX.out _ (by rw [HM2.out])
            case measure => simp [sliceLen]; omega

end Go.Proofs.Ytjacclbifeoclaa

/-
  play AND live OF THE STATEMENTS OF PACKAGE reads, AND WHAT THE DOCUMENT CALLS BROKEN, BY THEIR CONTRACTS.
-/
import Derived.Test.YtbiinldodhkkbaaReadsRef
namespace Go.Proofs.Ytbiinldodhkkbaa
set_option linter.unusedVariables false
set_option linter.unusedSimpArgs false
open Go.RowKit Go.Maps

/-- What is noted behind entries. -/
def runE (L : List EntD) (l : List EntD) : List EntD := l.foldl (fun L e => (addE L e).2) L

theorem runE_snoc {l : List EntD} {k : Nat} (hk : k < l.length) (L : List EntD) : runE L (l.take (k + 1)) = (addE (runE L (l.take k)) l[k]).2 := by
  rw [List.take_succ_eq_append_getElem hk, runE, List.foldl_append]; rfl

/-- Both sets, apart. -/
structure EPair (B : Nat) (w : World) (b m : Nat) (vl : Value) (rb : Nat) (vr : Value) (L : List EntD) : Prop where
  s : RdSet B w b m vl L
  r : RfSet B w rb vr L
  ne : ∀ k ∈ rdfoot b m vl, k ∉ rffoot rb vr

theorem EPair.keep {B : Nat} {w w' : World} {b m : Nat} {vl : Value} {rb : Nat} {vr : Value} {L : List EntD} (h : EPair B w b m vl rb vr L) (t : Touch w w' []) : EPair B w' b m vl rb vr L := ⟨h.s.keep t (by simp), h.r.keep t (by simp), h.ne⟩

/-- What play leaves. -/
def EPlayed (w : World) (l : List EntD) (x : Ending) (w' : World) : Prop :=
  ∃ b m vl rb vr, x = .returned (.tuple #[.pointer (some ⟨b, 0, none⟩), .pointer (some ⟨rb, 0, none⟩), .bool true]) ∧ EPair w.heap.size w' b m vl rb vr (runE [] (l.take 30)) ∧ Touch w w' []

set_option maxRecDepth 100000 in
set_option maxHeartbeats 1600000 in
theorem eplay_any (ao : Option Addr) (cap : Nat) (l : List EntD) (w : World) (hr : EntRow w (.slice ao l.length cap) l) (hl : l.length ≤ maxLen) (hwf : ∀ e ∈ l, e.Wf) :
    Calls Try.prog 7 #[.slice ao l.length cap] w (EPlayed w l) := by
  unfold maxLen at hl
  obtain ⟨N, hN⟩ : ∃ N, N = l.length := ⟨_, rfl⟩
  rw [← hN] at hl
  have HN : Hid (N = l.length) := hN
  go_enter Try.func7, Try.ntmps7
  rw [← hN]
  clear hN
  go_wp2_with fail
  refine (rdnew_any w).mono ?_
  rintro e w1 ⟨b, m, rfl, s1, t1⟩
  go_wp2_with fail
  refine (rfnew_any w1).mono ?_
  rintro e w2 ⟨rb, rfl, r2, t2⟩
  have hb0 : EPair w.heap.size w2 b m (.slice none 0 0) rb (.slice none 0 0) [] := by
    refine ⟨s1.keep t2 (by simp), ⟨Nat.le_trans t1.size r2.hb, r2.st, World.ownsRow_nil _ _ _ _, SetL.nil⟩, fun k hk hk' => ?_⟩
    have h1 := (s1.foot_lt k hk).2
    have h2 := (r2.foot_lt k hk').1
    omega
  have t02 : Touch w w2 [] := t1.trans t2 (by simp)
  clear s1 r2 t1 t2
  go_wp2_with fail
  go_loopw [7] (fun i wr => ∃ (k : Nat) (vl vr : Value), i = .int .i64 k ∧ k ≤ N ∧ k ≤ 30 ∧ EPair w.heap.size wr b m vl rb vr (runE [] (l.take k)) ∧ Touch w wr []) (fun i _ => 30 - (intOf i).toNat)
  case atStart => exact ⟨0, _, _, rfl, Nat.zero_le _, by omega, hb0, t02⟩
  case round =>
    obtain ⟨k, vl, vr, rfl, hk, hk60, hb, t⟩ := hrel
    by_cases hlt : k < N ∧ k < 30
    · obtain ⟨hlt, hlt6⟩ := hlt
      have hlt' : (k : Int) < N := by omega
      have hlt6' : (k : Int) < 30 := by omega
      have hkl : k < l.length := by rw [← HN.out]; exact hlt
      obtain ⟨g, off, rfl, hg, M0, M1, M2⟩ := EntRow.three hr k hkl
      have m0 := (t.cell (p := ⟨g, off + k * 3, none⟩) hg (by simp)).trans M0
      have m1 := (t.cell (p := ⟨g, off + k * 3 + 1, none⟩) hg (by simp)).trans M1
      have m2 := (t.cell (p := ⟨g, off + k * 3 + 2, none⟩) hg (by simp)).trans M2
      have hn := runE_snoc hkl []
      have hew := hwf l[k] (List.getElem_mem hkl)
      obtain ⟨o, ho⟩ : ∃ o, o = l[k] := ⟨_, rfl⟩
      rw [← ho] at m0 m1 m2 M0 M1 M2 hn hew
      obtain ⟨a0, a1, a2⟩ := o
      simp only at m0 m1 m2 M0 M1 M2
      have HNX : Hid _ := hn
      have HT : Hid _ := t
      have HP : Hid _ := hb
      clear ho hn hb t hr
      go_wp2_with fail
      have hs := add_any (HP.out.s.keep (Touch.refl wr []).drew (by simp)) (by have := HT.out.size; simp; omega) ⟨a0, a1, a2⟩ hew
      have hrr := fun (W : World) (hW : RfSet w.heap.size W rb vr (runE [] (l.take k))) (hz : w.heap.size ≤ W.heap.size) => radd_any hW hz ⟨a0, a1, a2⟩ hew
      generalize addE (runE [] (l.take k)) ⟨a0, a1, a2⟩ = R at *
      have hfg : ∀ q ∈ rdfoot b m vl, q ≠ g := fun q hq => by have := (HP.out.s.foot_lt q hq).1; omega
      have hfr : ∀ q ∈ rffoot rb vr, q ≠ g := fun q hq => by have := (HP.out.r.foot_lt q hq).1; omega
      have hgw : g < wr.heap.size := Nat.lt_of_lt_of_le hg HT.out.size
      have three : ∀ {X : World} {S : List Nat}, Touch wr X S → g ∉ S → X.cell? ⟨g, off + k * 3, none⟩ = some (.int .i64 a0) ∧ X.cell? ⟨g, off + k * 3 + 1, none⟩ = some (.int .u64 a1) ∧ X.cell? ⟨g, off + k * 3 + 2, none⟩ = some (.int .u64 a2) := fun tX hS => ⟨(tX.cell (p := ⟨g, _, none⟩) hgw hS).trans m0, (tX.cell (p := ⟨g, _, none⟩) hgw hS).trans m1, (tX.cell (p := ⟨g, _, none⟩) hgw hS).trans m2⟩
      have hgS : g ∉ rdfoot b m vl := fun h => hfg g h rfl
      have hgR : g ∉ rdfoot b m vl ++ [rb] := by
        simp only [List.mem_append, List.mem_cons, List.not_mem_nil, or_false, not_or]
        exact ⟨hgS, fun h => hfr rb (by simp [rffoot]) h.symm⟩
      go_region_held3 (fun w' => w'.cell? ⟨g, off + k * 3, none⟩ = some (.int .i64 a0) ∧ w'.cell? ⟨g, off + k * 3 + 1, none⟩ = some (.int .u64 a1) ∧ w'.cell? ⟨g, off + k * 3 + 2, none⟩ = some (.int .u64 a2)) ((first | exact three (Touch.refl _ []).drew (by simp) | exact three t5 hgR | exact three t3 hgS)) ((first | (go_at_call 15; refine hs.mono ?_; rintro e w3 ⟨vl', rfl, s3, t3', f3⟩; have t3 : Touch wr w3 (rdfoot b m vl) := ((Touch.refl _ _).drew).trans t3' (fun x hx => .inl hx); have r3 := HP.out.r.keep t3 (fun q hq hq' => HP.out.ne q hq' hq)) | (go_at_call 16; refine (hrr _ r3 (Nat.le_trans (Nat.le_refl _) (Nat.le_trans HT.out.size t3.size))).mono ?_; rintro e w4 ⟨vr', rfl, r4, t4', f4⟩; have t5 : Touch wr w4 (rdfoot b m vl ++ [rb]) := (t3.mono (by intro x hx; simp [hx])).trans t4' (fun x hx => .inl (by simp at hx; simp [hx])))))
      have HP4 : Hid (EPair w.heap.size w4 b m vl' rb vr' R.2) := by
        have hs4 := t3.size
        refine ⟨s3.keep t4' (fun q hq hq' => ?_), r4, fun q hq hq' => ?_⟩
        · have hq'' : q = rb := by simpa using hq'
          subst hq''
          rcases f3 q hq with h1 | h1
          · exact HP.out.ne q h1 (by simp [rffoot])
          · have := (HP.out.r.foot_lt q (by simp [rffoot])).2
            simp at h1
            omega
        · rcases f4 q hq' with h1 | h1
          · rcases f3 q hq with h2 | h2
            · exact HP.out.ne q h2 h1
            · have := (HP.out.r.foot_lt q h1).2
              simp at h2
              omega
          · have := (s3.foot_lt q hq).2
            omega
      have HT4 : Hid (Touch w w4 []) := HT.out.trans t5 (fun x hx => by
        simp only [List.mem_append, List.mem_cons, List.not_mem_nil, or_false] at hx
        rcases hx with hx | rfl
        · exact .inr (Nat.le_trans (Nat.le_refl _) ((HP.out.s.foot_lt x hx).1))
        · exact .inr (Nat.le_trans (Nat.le_refl _) ((HP.out.r.foot_lt x (by simp [rffoot])).1)))
      clear s3 r4 t3 t3' t4' t5 f3 f4 r3 hs hrr three hfg hfr m0 m1 m2 M0 M1 M2 HP HT
      go_wp2
      go_roundw
      case rel => exact ⟨k + 1, vl', vr', by go_num, by omega, by omega, by rw [HNX.out]; exact HP4.out, HT4.out⟩
      case measure => simp [intOf]; omega
    · have he : l.take k = l.take 30 := by
        have := HN.out
        by_cases h6 : k = 30
        · rw [h6]
        · rw [List.take_of_length_le (by omega), List.take_of_length_le (by omega)]
      have HB : Hid (EPair w.heap.size wr b m vl rb vr (runE [] (l.take 30))) := by rw [← he]; exact hb
      have HT : Hid _ := t
      clear he hb hr t
      by_cases hlt1 : (k : Int) < N
      · have hlt2 : ¬ (k : Int) < 30 := by omega
        clear hlt
        go_wp2
        go_ret3
        exact ⟨b, m, vl, rb, vr, rfl, HB.out, HT.out⟩
      · clear hlt
        go_wp2
        go_ret3
        exact ⟨b, m, vl, rb, vr, rfl, HB.out, HT.out⟩

end Go.Proofs.Ytbiinldodhkkbaa

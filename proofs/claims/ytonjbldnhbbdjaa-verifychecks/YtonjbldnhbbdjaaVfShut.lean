/-
  package verify: shut BY ITS CONTRACT.
-/
import Derived.Test.YtonjbldnhbbdjaaVfBegin
import Derived.Test.YtonjbldnhbbdjaaSameInts
namespace Go.Proofs.Ytonjbldnhbbdjaa
set_option linter.unusedVariables false
set_option linter.unusedSimpArgs false
open Go.RowKit
attribute [local go_sem] Oper.semAt_some

theorem own_firstV {w : World} {B g cap n size : Nat} {e : TypeId} {xs : List Value} (h : w.ownsRow B e size (.slice (some ⟨g, 0, none⟩) n cap) n xs) (i : Nat) (hi : i ≤ n) : w.ownsRow B e size (.slice (some ⟨g, 0, none⟩) i cap) i (xs.take (i * size)) := by
  have hmul : i * size ≤ n * size := Nat.mul_le_mul_right _ hi
  refine ⟨by rw [List.length_take, h.1]; omega, .inr ?_⟩
  rcases h.2 with ⟨e, _⟩ | ⟨g', cap', cur, e, hB, hg, h1, h2, h3, h4⟩
  · simp at e
  · simp only [Value.slice.injEq, Option.some.injEq, Addr.mk.injEq] at e
    obtain ⟨⟨rfl, _⟩, _, rfl⟩ := e
    refine ⟨g, cap, cur, rfl, hB, hg, by omega, h2, h3, ?_⟩
    rw [← h4, List.take_take, Nat.min_eq_left hmul]

/-- pop, of a matching. -/
theorem vpop_any {B : Nat} {l : List InsD} {w : World} {b : Nat} {vo vi : Value} {t : Nat} {r : List Nat} {wr : Option Nat} {xs : List Int} (h : MAt B l w b vo vi ⟨t :: r, wr⟩ xs) (hl : r.length ≤ 1000) :
    Calls Try.prog 53 #[.pointer (some ⟨b, 0, none⟩)] w fun e w' => e = .returned (.tuple #[]) ∧ ∃ vo', MAt B l w' b vo' vi ⟨r, wr⟩ xs ∧ Touch w w' [b] ∧ vo'.ownBlock = vo.ownBlock := by
  obtain ⟨g, cap, e⟩ := Go.Joins.ownsRow_form h.op (by rw [brRow_len]; simp)
  have hlen : (brRow l (t :: r)).length = r.length + 1 := by rw [brRow_len]; rfl
  have hst := h.st
  have hop := h.op
  unfold brOwn at hop
  simp only at hop hst
  rw [hlen] at e
  rw [e] at hst
  rw [e, hlen] at hop
  have hcap : r.length + 1 ≤ cap := by
    rcases hop.2 with ⟨q, _⟩ | ⟨g', cap', cur, q, _, _, h1, _⟩
    · simp at q
    · simp only [Value.slice.injEq] at q
      omega
  refine (pop_any hst rfl hl hcap).mono ?_
  rintro e2 w' ⟨rfl, rfl⟩
  have t1 : Touch w (w.drew.setCell ⟨b, 0, none⟩ (.slice (some ⟨g, 0, none⟩) r.length cap)) [b] := ((Touch.refl w [b]).drew).setCell (.inl (by simp)) _
  refine ⟨rfl, .slice (some ⟨g, 0, none⟩) r.length cap, ⟨?_, ?_, ?_⟩, t1, by rw [e]; rfl⟩
  · have hst' : w.drew.heap[b]? = _ := hst
    rw [heap_setCell_same _ _ _ _ _ _ hst']; rfl
  · have h1 := own_firstV hop r.length (by omega)
    have e3 : ((brRow l (t :: r)).flatMap BrD.cells).take (r.length * 2) = (brRow l r).flatMap BrD.cells := by
      rw [brRow_cons, List.flatMap_append, List.take_append_of_le_length (by rw [br_flat, brRow_len]; exact Nat.le_refl _), List.take_of_length_le (by rw [br_flat, brRow_len]; exact Nat.le_refl _)]
    rw [e3] at h1
    show World.ownsRow _ _ _ _ _ (brRow l r).length _
    rw [brRow_len]
    exact ownsRow_touch h1 t1 (fun g' hg hs => by simp at hs; subst hs; exact h.nb (by rw [e]; exact hg))
  · exact ownsRow_touch h.inn t1 (fun g' hg hs => by simp at hs; subst hs; exact h.ni hg)

/-- blame, of a matching. -/
theorem mblame_any {B : Nat} {l : List InsD} {w : World} {b : Nat} {vo vi : Value} {op : List Nat} {wr : Option Nat} {xs : List Int} (h : MAt B l w b vo vi ⟨op, wr⟩ xs) (k : Nat) :
    Calls Try.prog 27 #[.pointer (some ⟨b, 0, none⟩), .int .i64 k] w fun e w' => e = .returned (.tuple #[]) ∧ MAt B l w' b vo vi ⟨op, blameV k wr⟩ xs ∧ Touch w w' [b] := by
  refine (vblame_any wr k h.st).mono ?_
  rintro e w' ⟨rfl, p1, p2⟩
  exact ⟨rfl, ⟨p1, ownsRow_touch h.op p2 (fun g hg hs => by simp at hs; subst hs; exact h.nb hg), ownsRow_touch h.inn p2 (fun g hg hs => by simp at hs; subst hs; exact h.ni hg)⟩, p2⟩

set_option maxRecDepth 100000 in
theorem shut_any {B : Nat} {l : List InsD} {w : World} {b : Nat} {vo vi : Value} {s : MD} {xs : List Int} (h : MAt B l w b vo vi s xs) (hl : s.op.length ≤ 999) {ao : Option Addr} {N cap : Nat} (hN : N = l.length) (hn : N ≤ 1000) (hr : InsV w (.slice ao N cap) l) (k : Nat) (hk : k < N) (hop : ∀ t ∈ s.op, t < k) :
    Calls Try.prog 41 #[.pointer (some ⟨b, 0, none⟩), .slice ao N cap, .int .i64 k] w (MPost B l w b vo vi (shutV true l k s) xs) := by
  have hr0 := hr
  rw [hN] at hr0
  obtain ⟨g, off, rfl, hg, ck, _, _⟩ := insv_at hr0 k (by omega)
  have HC : Hid (∀ W, Touch w W [] → W.cell? ⟨g, off + k * 3, none⟩ = some (.int .u8 (opAt l k))) := fun W t => (t.cell (p := ⟨g, _, none⟩) hg (by simp)).trans ck
  have hkN : (k : Int) < N := by omega
  have hk0 : (0 : Int) ≤ k := by omega
  have ht : HidC _ _ _ _ _ := ⟨vtop_any h.st h.op (by omega)⟩
  have HM : Hid _ := h
  obtain ⟨op, wr⟩ := s
  obtain ⟨o, ho⟩ : ∃ o, o = opAt l k := ⟨_, rfl⟩
  rw [← ho] at HC
  clear h ck hr
  cases op with
  | nil =>
    have e : shutV true l k ⟨[], wr⟩ = ⟨[], blameV k wr⟩ := rfl
    rw [e]
    simp only [topB] at ht
    go_enter Try.func41, Try.ntmps41
    go_wp2_with fail
    refine ht.out.mono ?_
    rintro e w1 ⟨rfl, t1⟩
    have tt : Touch w (w1.alloc (.cells #[.int .i64 0, .int .u8 0] 50)) [] := t1.alloc _
    have ck := HC.out _ tt
    have hbl : HidC _ _ _ _ _ := ⟨mblame_any (HM.out.keep0 tt.drew) k⟩
    have T1 : Hid _ := tt
    clear ht t1 tt HC
    have hd : decide (([] : List Nat) ≠ []) = false := by simp
    rw [hd]
    go_wp2_with fail
    go_region
    go_wp2_with fail
    refine hbl.out.mono ?_
    rintro e w2 ⟨rfl, p1, p2⟩
    go_wp2
    go_end0
    exact ⟨vo, rfl, p1, ((T1.out.drew).mono (by simp)).trans p2 (by simp), fun g hg => .inl hg⟩
  | cons t r =>
    have htk : t < k := hop t (by simp)
    obtain ⟨g', off', e', _, _, ct, _⟩ := insv_at hr0 t (by omega)
    simp only [Option.some.injEq, Addr.mk.injEq] at e'
    obtain ⟨rfl, rfl, _⟩ := e'
    have htN : (t : Int) < N := by omega
    have ht0 : (0 : Int) ≤ t := by omega
    have HC2 : Hid (∀ W, Touch w W [] → W.cell? ⟨g, off + t * 3 + 1, none⟩ = some (.int .i64 (argAt l t))) := fun W t => (t.cell (p := ⟨g, _, none⟩) hg (by simp)).trans ct
    obtain ⟨c, hc⟩ : ∃ c, c = closerV (opAt l t) := ⟨_, rfl⟩
    obtain ⟨a, ha⟩ : ∃ a, a = argAt l t := ⟨_, rfl⟩
    have e : shutV true l k ⟨t :: r, wr⟩ = if c = o then ⟨r, if a ≠ (k : Int) then blameV t wr else wr⟩ else ⟨t :: r, blameV k wr⟩ := by
      simp only [shutV, ← hc, ← ho, ← ha, true_and]
    rw [e]
    simp only [topB, ← hc] at ht
    rw [← ha] at HC2
    clear e ct hr0 hop ho hc ha
    have hd : decide ((t :: r : List Nat) ≠ []) = true := by simp
    rw [hd] at ht
    clear hd
    by_cases hco : c = o
    · rw [if_pos hco]
      subst hco
      by_cases hak : a = (k : Int)
      · have e2 : (if a ≠ (k : Int) then blameV t wr else wr) = wr := by simp [hak]
        rw [e2]
        subst hak
        clear e2
        go_enter Try.func41, Try.ntmps41
        go_wp2_with fail
        refine ht.out.mono ?_
        rintro e w1 ⟨rfl, t1⟩
        have tt : Touch w (w1.alloc (.cells #[.int .i64 t, .int .u8 c] 50)) [] := t1.alloc _
        have ck := HC.out _ tt
        have ck2 := HC2.out _ tt
        have hp : HidC _ _ _ _ _ := ⟨vpop_any (HM.out.keep0 tt.drew) (by simp at hl; omega)⟩
        have T1 : Hid _ := tt
        clear ht t1 tt HC HC2
        go_wp2_with fail
        go_region
        go_wp2_with fail
        refine hp.out.mono ?_
        rintro e w2 ⟨rfl, vo', p1, p2, p3⟩
        go_wp2
        go_end0
        exact ⟨vo', rfl, p1, ((T1.out.drew).mono (by simp)).trans p2 (by simp), fun g hg => .inl (by rw [← p3]; exact hg)⟩
      · have e2 : (if a ≠ (k : Int) then blameV t wr else wr) = blameV t wr := by simp [hak]
        rw [e2]
        have hak' : (a == (k : Int)) = false := by simpa using hak
        clear e2
        go_enter Try.func41, Try.ntmps41
        go_wp2_with fail
        refine ht.out.mono ?_
        rintro e w1 ⟨rfl, t1⟩
        have tt : Touch w (w1.alloc (.cells #[.int .i64 t, .int .u8 c] 50)) [] := t1.alloc _
        have ck := HC.out _ tt
        have ck2 := HC2.out _ tt
        have hbl : HidC _ _ _ _ _ := ⟨mblame_any (HM.out.keep0 tt.drew) t⟩
        have T1 : Hid _ := tt
        clear ht t1 tt HC HC2
        go_wp2_with fail
        go_region
        go_wp2_with fail
        refine hbl.out.mono ?_
        rintro e w2 ⟨rfl, p1, p2⟩
        have hp : HidC _ _ _ _ _ := ⟨vpop_any p1 (by simp at hl; omega)⟩
        have P2 : Hid _ := p2
        clear p1 p2 hbl
        go_wp2_with fail
        refine hp.out.mono ?_
        rintro e w3 ⟨rfl, vo', p1, p2, p3⟩
        go_wp2
        go_end0
        exact ⟨vo', rfl, p1, (((T1.out.drew).mono (by simp)).trans P2.out (by simp)).trans p2 (by simp), fun g hg => .inl (by rw [← p3]; exact hg)⟩
    · rw [if_neg hco]
      have hco' : (c == o) = false := by simpa using hco
      go_enter Try.func41, Try.ntmps41
      go_wp2_with fail
      refine ht.out.mono ?_
      rintro e w1 ⟨rfl, t1⟩
      have tt : Touch w (w1.alloc (.cells #[.int .i64 t, .int .u8 c] 50)) [] := t1.alloc _
      have ck := HC.out _ tt
      have hbl : HidC _ _ _ _ _ := ⟨mblame_any (HM.out.keep0 tt.drew) k⟩
      have T1 : Hid _ := tt
      clear ht t1 tt HC HC2
      go_wp2_with fail
      go_region
      go_wp2_with fail
      refine hbl.out.mono ?_
      rintro e w2 ⟨rfl, p1, p2⟩
      go_wp2
      go_end0
      exact ⟨vo, rfl, p1, ((T1.out.drew).mono (by simp)).trans p2 (by simp), fun g hg => .inl hg⟩

end Go.Proofs.Ytonjbldnhbbdjaa

/-
  NorecGone, WALKED.
-/
import Derived.Test.YtlfnmnchhhlhiaaNrAlone
import Derived.BigQuiet
namespace Go.Proofs.Ytlfnmnchhhlhiaa.Nr
set_option linter.unusedVariables false
set_option linter.unusedSimpArgs false
open Go.RowKit Go.Maps

theorem ow_attempt {w W : World} {eb : Nat} {E : Eng} {R : List (Nat × Obj)} (h : Ow w W eb E R) (th : Int) {r : Int × Bool} (hr : attE E th = r) :
    Calls Try.prog 14 #[ptr eb, .int .i64 th] W fun x w' => x = .returned (.tuple #[.int .i64 r.1, .bool r.2]) ∧ W = w' := by
  subst hr
  obtain ⟨X, rfl, ho, t, f, hR⟩ := h.ex
  exact attempt_any ho th
theorem ow_holds {w W : World} {eb N : Nat} {E : Eng} {R : List (Nat × Obj)} (h : Ow w W eb E R) (hE : EWf N E) (th : Int) {b : Bool} (hb : holdsE E th = b) :
    Calls Try.prog 16 #[ptr eb, .int .i64 th] W fun x w' => x = .returned (.bool b) ∧ Ow w w' eb E R := by
  subst hb
  have h0 := h
  obtain ⟨X, rfl, ho, t, f, hR⟩ := h.ex
  exact (holds_any ho hE.lk0 th).mono fun x w' ⟨e, t⟩ => ⟨e, h0.fresh t⟩
theorem ow_why {w W : World} {eb N : Nat} {E : Eng} {R : List (Nat × Obj)} (h : Ow w W eb E R) (hE : EWf N E) (k : Nat) (hk : k < E.pg.length) {y : Int} (hy : E.pg[k].why = y) :
    Calls Try.prog 19 #[ptr eb, .int .i64 k] W fun x w' => x = .returned (.int .u8 y) ∧ W = w' := by
  subst hy
  obtain ⟨X, rfl, ho, t, f, hR⟩ := h.ex
  exact eng_why ho k hk hE.pg

abbrev VRow1 := SRow 1 (fun x : Int => [Value.int .u64 x])
theorem vrow_of {W : World} {g cap : Nat} {cur : Array Value} {T : TypeId} {l : List Int} (h : W.heap[g]? = some (.cells cur T (0, 0))) (hc : ∀ k (hk : k < l.length), cur[k]? = some (.int .u64 l[k])) : VRow1 W (.slice (some ⟨g, 0, none⟩) l.length cap) l :=
  ⟨_, cap, rfl, fun _ => ⟨g, 0, rfl, lt_of_heap h, fun k hk j hj => by
    have : j = 0 := by omega
    subst this
    simp [World.cell?, h, hc k hk]⟩⟩
theorem ow_heap {w W : World} {eb N : Nat} {E : Eng} {R : List (Nat × Obj)} (h : Ow w W eb E R) (hE : EWf N E) :
    Calls Try.prog 15 #[ptr eb] W fun x w' => ∃ g cap cur, x = .returned (.slice (some ⟨g, 0, none⟩) E.hp.length cap) ∧ (∀ k (hk : k < E.hp.length), cur[k]? = some (.int .u64 E.hp[k])) ∧ Ow w w' eb E ((g, .cells cur 30 (0, 0)) :: R) := by
  have h0 := h
  obtain ⟨X, rfl, ho, t, f, hR⟩ := h.ex
  refine (heap_any ho hE).mono ?_
  rintro x w' ⟨v, rfl, o, t'⟩
  rcases o.2 with ⟨_, e⟩ | ⟨g, cap, cur, rfl, hB, hg, h1, h2, h3, h4⟩
  · have := hE.hp1; omega
  · refine ⟨g, cap, cur, rfl, fun k hk => ?_, h0.more t' hB hg⟩
    have e : (cur.toList.take (E.hp.length * 1))[k]? = (E.hp.map (Value.int .u64))[k]? := by rw [h4]
    rw [List.getElem?_take_of_lt (by omega)] at e
    simpa [hk] using e

theorem VRow1.one {w : World} {ao : Option Addr} {cap : Nat} {l : List Int} (h : VRow1 w (.slice ao l.length cap) l) (k : Nat) (hk : k < l.length) :
    ∃ g off, ao = some ⟨g, off, none⟩ ∧ g < w.heap.size ∧ w.cell? ⟨g, off + k, none⟩ = some (.int .u64 l[k]) := by
  obtain ⟨g, off, e, hlt, hc⟩ := h.at k hk
  exact ⟨g, off, e, hlt, by simpa using hc 0 (by omega)⟩

set_option maxRecDepth 100000 in
set_option maxHeartbeats 1600000 in
theorem sameV_any (ao bo : Option Addr) (ca cb : Nat) (xs : List Int) (w : World) (hn : xs.length ≤ 1000) (ha : VRow1 w (.slice ao xs.length ca) xs) (hb : VRow1 w (.slice bo xs.length cb) xs) :
    Calls Try.prog 18 #[.slice ao xs.length ca, .slice bo xs.length cb] w fun e w' => e = .returned (.bool true) ∧ Touch w w' [] := by
  have HA : Hid (VRow1 w (.slice ao xs.length ca) xs) := ha
  have HB : Hid (VRow1 w (.slice bo xs.length cb) xs) := hb
  obtain ⟨n, hN⟩ : ∃ n, n = xs.length := ⟨_, rfl⟩
  have HN : Hid (n = xs.length) := hN
  rw [← hN] at hn ⊢
  clear ha hb hN
  go_enter Try.func18, Try.ntmps18
  go_wp2_with fail
  go_loopw [5] (fun i wr => ∃ k : Nat, i = .int .i64 k ∧ k ≤ n ∧ Touch w wr []) (fun i _ => n - (intOf i).toNat)
  case atStart => exact ⟨0, rfl, Nat.zero_le _, Touch.refl _ _⟩
  case round =>
    obtain ⟨k, rfl, hk, t⟩ := hrel
    by_cases hlt : k < n
    · have h1 : (k : Int) < n := by omega
      have h0 : (0 : Int) ≤ k := by omega
      have hkl : k < xs.length := by rw [← HN.out]; exact hlt
      obtain ⟨ga, oa, rfl, hga, c1⟩ := VRow1.one (SRow.keep HA.out t (by simp)) k hkl
      obtain ⟨gb, ob, rfl, hgb, c2⟩ := VRow1.one (SRow.keep HB.out t (by simp)) k hkl
      generalize xs[k] = x at *
      go_wp2_with fail
      go_quiet (fail)
      go_wp2
      go_roundw
      case rel => exact ⟨k + 1, by go_num, by omega, t.drewN _⟩
      case measure => simp [intOf]; omega
    · go_wp2
      go_ret
      exact ⟨rfl, t⟩

theorem kill_why (E : Eng) (k : Nat) (A : Att) (hn : A.num < E.pg.length) : ∃ h : A.num < (abortE E k A 3).pg.length, ((abortE E k A 3).pg[A.num]).why = 3 := by
  have h : A.num < (abortE E k A 3).pg.length := by simp [abortE, Eng.put, giveUpE, noteE, pageE, hn]
  exact ⟨h, by simp [abortE, Eng.put, giveUpE, noteE, pageE]⟩

set_option maxRecDepth 100000 in
set_option maxHeartbeats 6400000 in
theorem gone_any (ao : Option Addr) (cap : Nat) (l : List DeedN) (th : Int) (g0 : 0 ≤ th) (g1 : th ≤ 255) (w : World) (hr : DeedNRow w (.slice ao l.length cap) l) (hw : ∀ d ∈ l, d.Wf) :
    Calls Try.prog 5 #[.slice ao l.length cap, .int .u8 th] w fun x w' => x = .returned (.bool true) ∧ Touch w w' [] := by
  have AL := HidC.mk (alone_any ao cap l w hr hw)
  have hE : EWf 240 (runN (newEng firstL) (l.take 120)) := by
    by_cases hl : 120 ≤ l.length
    · exact runN_keep hw 120 (by omega) hl
    · have := runN_keep hw l.length (by omega) (Nat.le_refl _)
      rw [List.take_of_length_le (Nat.le_refl _)] at this
      rw [List.take_of_length_le (by omega)]
      exact this.up _ (by omega) (by decide)
  generalize runN (newEng firstL) (l.take 120) = E at *
  clear hr hw
  obtain ⟨i, hi⟩ : ∃ i : Nat, (i : Int) = th % 4 := ⟨(th % 4).toNat, by omega⟩
  have hi4 : i < 4 := by omega
  have hmod : th.tmod 4 = (i : Int) := by rw [hi, Int.tmod_eq_emod_of_nonneg g0]
  have HI : Hid (th % 4 = (i : Int)) := hi.symm
  have hrng : (0 : Int) ≤ i ∧ (i : Int) < 4 := by omega
  clear hi
  have HP := fun (W : World) (eb : Nat) (R) (h : Ow w W eb E R) => HidC.mk (ow_heap h hE)
  cases hA : E.th i with
  | none =>
    have eA : attE E i = (0, false) := by unfold attE; rw [if_neg (fun e => e hrng), Int.toNat_natCast, hA]
    have eK : killE E i = (8, E) := by unfold killE; rw [if_neg (fun e => e hrng), Int.toNat_natCast, hA]
    have AT := fun (W : World) (eb : Nat) (R) (h : Ow w W eb E R) => HidC.mk (ow_attempt h i eA)
    have HL := fun (W : World) (eb : Nat) (R) (h : Ow w W eb E R) => HidC.mk (ow_holds h hE i rfl)
    have KL := fun (W : World) (eb : Nat) (R) (h : Ow w W eb E R) => HidC.mk (ow_kill h hE i (r := 8) (E' := E) (by rw [eK]) (by rw [eK]))
    generalize holdsE E i = b at HL
    clear eA eK hE hA hrng hi4
    go_enter Try.func5, Try.ntmps5
    go_wp2_with fail
    refine AL.out.mono ?_
    rintro e w1 ⟨eb, rfl, h1⟩
    clear AL
    go_wp2_with fail
    refine (nlive_any _).mono ?_
    rintro e w2 ⟨rfl, t2⟩
    have h2 := h1.fresh t2
    clear h1 t2
    go_wp2_with fail
    refine (AT _ _ _ h2).out.mono ?_
    rintro e w3 ⟨rfl, rfl⟩
    go_wp2_with fail
    refine (HP _ _ _ h2).out.mono ?_
    rintro e w4 ⟨g, gc, gcur, rfl, hg, h4⟩
    clear h2
    go_wp2_with fail
    refine (HL _ _ _ h4).out.mono ?_
    rintro e w5 ⟨rfl, h5⟩
    clear h4
    go_wp2_with fail
    refine (KL _ _ _ h5).out.mono ?_
    rintro e w6 ⟨rfl, h6⟩
    clear h5 AT HL KL
    have HT : Hid _ := h6.touch
    clear h6 hg HP
    go_wp2
    go_ret
    exact ⟨rfl, HT.out⟩
  | some A =>
    have eA : attE E i = ((A.num : Int), true) := by unfold attE; rw [if_neg (fun e => e hrng), Int.toNat_natCast, hA]
    have AT := fun (W : World) (eb : Nat) (R) (h : Ow w W eb E R) => HidC.mk (ow_attempt h i eA)
    cases hb : holdsE E i with
    | true =>
      have eK : killE E i = (8, E) := by unfold killE; rw [if_neg (fun e => e hrng), Int.toNat_natCast, hA]; simp only; rw [if_pos hb]
      have HL := fun (W : World) (eb : Nat) (R) (h : Ow w W eb E R) => HidC.mk (ow_holds h hE i hb)
      have KL := fun (W : World) (eb : Nat) (R) (h : Ow w W eb E R) => HidC.mk (ow_kill h hE i (r := 8) (E' := E) (by rw [eK]) (by rw [eK]))
      clear eA eK hE hA hrng hi4 hb
      generalize A.num = num at *
      go_enter Try.func5, Try.ntmps5
      go_wp2_with fail
      refine AL.out.mono ?_
      rintro e w1 ⟨eb, rfl, h1⟩
      clear AL
      go_wp2_with fail
      refine (nlive_any _).mono ?_
      rintro e w2 ⟨rfl, t2⟩
      have h2 := h1.fresh t2
      clear h1 t2
      go_wp2_with fail
      refine (AT _ _ _ h2).out.mono ?_
      rintro e w3 ⟨rfl, rfl⟩
      go_wp2_with fail
      refine (HP _ _ _ h2).out.mono ?_
      rintro e w4 ⟨g, gc, gcur, rfl, hg, h4⟩
      clear h2
      go_wp2_with fail
      refine (HL _ _ _ h4).out.mono ?_
      rintro e w5 ⟨rfl, h5⟩
      clear h4
      go_wp2_with fail
      refine (KL _ _ _ h5).out.mono ?_
      rintro e w6 ⟨rfl, h6⟩
      clear h5 AT HL KL
      have HT : Hid _ := h6.touch
      clear h6 hg HP
      go_wp2
      go_ret
      exact ⟨rfl, HT.out⟩
    | false =>
      obtain ⟨E2, hE2⟩ : ∃ E2, E2 = abortE E i A 3 := ⟨_, rfl⟩
      have eK : killE E i = (0, E2) := by unfold killE; rw [if_neg (fun e => e hrng), Int.toNat_natCast, hA]; simp only; rw [if_neg (by rw [hb]; simp), hE2]
      have HL := fun (W : World) (eb : Nat) (R) (h : Ow w W eb E R) => HidC.mk (ow_holds h hE i hb)
      have KL := fun (W : World) (eb : Nat) (R) (h : Ow w W eb E R) => HidC.mk (ow_kill h hE i (r := 0) (E' := E2) (by rw [eK]) (by rw [eK]))
      have hEk : EWf 242 E2 := by have := kill_keep hE (by decide) i; rwa [eK] at this
      have eA2 : attE E2 i = (0, false) := by unfold attE; rw [if_neg (fun e => e hrng), Int.toNat_natCast, hE2]; simp only [abortE]; rw [put_th]
      have hb2 : holdsE E2 i = false := by rw [hE2]; exact hb
      have hp2 : E2.hp = E.hp := by rw [hE2]; rfl
      obtain ⟨hnum, hwhy⟩ := kill_why E i A (hE.th i A hA).num
      rw [← hE2] at hnum
      have hwhy' : E2.pg[A.num].why = 3 := by subst hE2; exact hwhy
      have AT2 := fun (W : World) (eb : Nat) (R) (h : Ow w W eb E2 R) => HidC.mk (ow_attempt h i eA2)
      have HL2 := fun (W : World) (eb : Nat) (R) (h : Ow w W eb E2 R) => HidC.mk (ow_holds h hEk i hb2)
      have HP2 := fun (W : World) (eb : Nat) (R) (h : Ow w W eb E2 R) => HidC.mk (ow_heap h hEk)
      have WY := fun (W : World) (eb : Nat) (R) (h : Ow w W eb E2 R) => HidC.mk (ow_why h hEk A.num hnum hwhy')
      have hlen := hE.hp12
      rw [hp2] at HP2
      clear eA eK hE hA hrng hi4 hb hE2 eA2 hb2 hwhy hwhy' hnum hp2 hEk
      generalize A.num = num at *
      generalize E.hp = hp at *
      go_enter Try.func5, Try.ntmps5
      go_wp2_with fail
      refine AL.out.mono ?_
      rintro e w1 ⟨eb, rfl, h1⟩
      clear AL
      go_wp2_with fail
      refine (nlive_any _).mono ?_
      rintro e w2 ⟨rfl, t2⟩
      have h2 := h1.fresh t2
      clear h1 t2
      go_wp2_with fail
      refine (AT _ _ _ h2).out.mono ?_
      rintro e w3 ⟨rfl, rfl⟩
      go_wp2_with fail
      refine (HP _ _ _ h2).out.mono ?_
      rintro e w4 ⟨g, gc, gcur, rfl, hg, h4⟩
      clear h2
      go_wp2_with fail
      refine (HL _ _ _ h4).out.mono ?_
      rintro e w5 ⟨rfl, h5⟩
      clear h4
      go_wp2_with fail
      refine (KL _ _ _ h5).out.mono ?_
      rintro e w6 ⟨rfl, h6⟩
      clear h5 AT HL KL
      go_wp2_with fail
      refine (AT2 _ _ _ h6).out.mono ?_
      rintro e w7 ⟨rfl, rfl⟩
      clear AT2
      go_wp2_with fail
      refine (HL2 _ _ _ h6).out.mono ?_
      rintro e w8 ⟨rfl, h8⟩
      clear HL2 h6
      go_wp2_with fail
      refine (HP2 _ _ _ h8).out.mono ?_
      rintro e w9 ⟨g2, gc2, gcur2, rfl, hg2, h9⟩
      clear HP2 h8
      have r1 := vrow_of (cap := gc) (h9.kept (b := g) (o := .cells gcur 30 (0, 0)) (by simp)) hg
      have r2 := vrow_of (cap := gc2) (h9.kept (b := g2) (o := .cells gcur2 30 (0, 0)) (by simp)) hg2
      have SV := HidC.mk (sameV_any _ _ gc2 gc hp w9 (by omega) r2 r1)
      clear r1 r2 hg hg2 HP
      go_wp2_with fail
      refine SV.out.mono ?_
      rintro e w10 ⟨rfl, t10⟩
      have h10 := h9.fresh t10
      clear SV h9 t10
      go_wp2_with fail
      refine (WY _ _ _ h10).out.mono ?_
      rintro e w11 ⟨rfl, rfl⟩
      have HT : Hid _ := h10.touch
      clear WY h10
      go_wp2
      go_ret
      exact ⟨rfl, HT.out⟩

end Go.Proofs.Ytlfnmnchhhlhiaa.Nr

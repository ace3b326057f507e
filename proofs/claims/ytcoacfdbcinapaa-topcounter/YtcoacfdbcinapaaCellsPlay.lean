/-
  play: ops on both kinds of cells: they never part, and each is what the ops tell.
-/
import Derived.Test.YtcoacfdbcinapaaCellsRef
namespace Go.Proofs.Ytcoacfdbcinapaa
set_option linter.unusedVariables false
set_option linter.unusedSimpArgs false
open Go.RowKit

/-- A slice of ops, that can be read. -/
def OpRow (w : World) (v : Value) (l : List OpD) : Prop :=
  ∃ ao cap, v = .slice ao l.length cap ∧ (l ≠ [] → ∃ g off, ao = some ⟨g, off, none⟩ ∧ g < w.heap.size ∧ ∀ k (hk : k < l.length),
    w.cell? ⟨g, off + k * 4, none⟩ = some (.int .u8 l[k].kind) ∧ w.cell? ⟨g, off + k * 4 + 1, none⟩ = some (.int .i64 l[k].cell) ∧ w.cell? ⟨g, off + k * 4 + 2, none⟩ = some (.int .u64 l[k].a) ∧ w.cell? ⟨g, off + k * 4 + 3, none⟩ = some (.int .u64 l[k].b))

theorem OpRow.four {w : World} {ao : Option Addr} {cap : Nat} {l : List OpD} (h : OpRow w (.slice ao l.length cap) l) (k : Nat) (hk : k < l.length) :
    ∃ g off, ao = some ⟨g, off, none⟩ ∧ g < w.heap.size ∧ w.cell? ⟨g, off + k * 4, none⟩ = some (.int .u8 l[k].kind) ∧ w.cell? ⟨g, off + k * 4 + 1, none⟩ = some (.int .i64 l[k].cell) ∧ w.cell? ⟨g, off + k * 4 + 2, none⟩ = some (.int .u64 l[k].a) ∧ w.cell? ⟨g, off + k * 4 + 3, none⟩ = some (.int .u64 l[k].b) := by
  obtain ⟨ao', cap', e, h1⟩ := h
  simp only [Value.slice.injEq, true_and] at e
  obtain ⟨rfl, rfl⟩ := e
  obtain ⟨g, off, rfl, hlt, hc⟩ := h1 (by intro e; rw [e] at hk; simp at hk)
  exact ⟨g, off, rfl, hlt, hc k hk⟩

theorem OpRow.keep {w w' : World} {v : Value} {l : List OpD} {S : List Nat} (h : OpRow w v l) (t : Touch w w' S) (hS : ∀ k ∈ S, w.heap.size ≤ k) : OpRow w' v l := by
  obtain ⟨ao, cap, e, h1⟩ := h
  refine ⟨ao, cap, e, fun hn => ?_⟩
  obtain ⟨g, off, rfl, hlt, hc⟩ := h1 hn
  have hne : g ∉ S := fun hs => by have := hS _ hs; omega
  refine ⟨g, off, rfl, Nat.lt_of_lt_of_le hlt t.size, fun k hk => ?_⟩
  obtain ⟨c0, c1, c2, c3⟩ := hc k hk
  exact ⟨(t.cell (p := ⟨g, _, none⟩) hlt hne).trans c0, (t.cell (p := ⟨g, _, none⟩) hlt hne).trans c1, (t.cell (p := ⟨g, _, none⟩) hlt hne).trans c2, (t.cell (p := ⟨g, _, none⟩) hlt hne).trans c3⟩

/-- Two objects with the same words and log, side by side. -/
structure Both (B : Nat) (w : World) (bc : Nat) (vwc vlc : Value) (br : Nat) (vwr vlr : Value) (ws : List Int) (lg : List DoneD) : Prop where
  c : CObj 69 B w bc vwc vlc ws lg
  r : CObj 66 B w br vwr vlr ws lg
  apart : ∀ k ∈ foot bc vwc vlc, k ∉ foot br vwr vlr

theorem Both.alloc {B : Nat} {w : World} {bc : Nat} {vwc vlc : Value} {br : Nat} {vwr vlr : Value} {ws : List Int} {lg : List DoneD} (h : Both B w bc vwc vlc br vwr vlr ws lg) (o : Obj) : Both B (w.alloc o) bc vwc vlc br vwr vlr ws lg :=
  ⟨h.c.keep ((Touch.refl w []).alloc o) (by simp), h.r.keep ((Touch.refl w []).alloc o) (by simp), h.apart⟩

theorem Both.touch {B : Nat} {w w' : World} {bc : Nat} {vwc vlc : Value} {br : Nat} {vwr vlr : Value} {ws : List Int} {lg : List DoneD} (h : Both B w bc vwc vlc br vwr vlr ws lg) (t : Touch w w' []) : Both B w' bc vwc vlc br vwr vlr ws lg :=
  ⟨h.c.keep t (by simp), h.r.keep t (by simp), h.apart⟩

/-- What play leaves. -/
def PlayPost (w : World) (m : Nat) (l : List OpD) (e : Ending) (w' : World) : Prop :=
  ∃ bc vwc vlc br vwr vlr, e = .returned (.tuple #[.pointer (some ⟨bc, 0, none⟩), .pointer (some ⟨br, 0, none⟩), .bool true]) ∧
    Both w.heap.size w' bc vwc vlc br vwr vlr (runOps (List.replicate m 0) [] (l.take 60)).1 (runOps (List.replicate m 0) [] (l.take 60)).2 ∧ Touch w w' []

theorem runOps_next {m : Nat} {l : List OpD} {k : Nat} (hk : k < l.length) :
    runOps (List.replicate m 0) [] (l.take (k + 1)) = ((doStep (runOps (List.replicate m 0) [] (l.take k)).1 (runOps (List.replicate m 0) [] (l.take k)).2 l[k]).2.2.1, (doStep (runOps (List.replicate m 0) [] (l.take k)).1 (runOps (List.replicate m 0) [] (l.take k)).2 l[k]).2.2.2) := by
  rw [List.take_succ_eq_append_getElem hk, runOps_snoc]

set_option maxRecDepth 100000 in
set_option maxHeartbeats 3200000 in
theorem play_any (n : Int) (h0 : 0 ≤ n) (h1 : n ≤ 255) (v : Value) (l : List OpD) (hwf : ∀ o ∈ l, o.Wf) (w : World) (hr : OpRow w v l) (hl : l.length ≤ maxLen) :
    Calls Try.prog 9 #[.int .u8 n, v] w (PlayPost w (n % 5 + 1).toNat l) := by
  unfold maxLen at hl
  obtain ⟨m, hm⟩ : ∃ m : Nat, (m : Int) = n % 5 + 1 := ⟨(n % 5 + 1).toNat, by omega⟩
  have hm1 : 0 < m := by omega
  have hm2 : m ≤ 32 := by omega
  have hmt : (n % 5 + 1).toNat = m := by omega
  rw [hmt]
  have hnew := new_ok w.heap.size w m hm1 hm2 (Nat.le_refl _)
  rw [hm] at hnew
  obtain ⟨ao, cap, rfl, hrow⟩ := hr
  have hr : OpRow w (.slice ao l.length cap) l := ⟨ao, cap, rfl, hrow⟩
  clear hrow
  obtain ⟨N, hN⟩ : ∃ N, N = l.length := ⟨_, rfl⟩
  rw [← hN] at hl
  have HN : Hid (N = l.length) := hN
  have HM : Hid ((m : Int) = n % 5 + 1) := hm
  go_enter Try.func9, Try.ntmps9
  rw [← hN]
  clear hN hm hmt
  go_wp2_with fail
  refine hnew.mono ?_
  rintro e w1 ⟨bc, vwc, rfl, hoc, t1, ft1⟩
  clear hnew
  go_wp2_with fail
  have hnewr := rnew_ok w.heap.size w1 m hm1 hm2 t1.size
  rw [HM.out] at hnewr
  refine hnewr.mono ?_
  rintro e w2 ⟨br, vwr, rfl, hor, t2, ft2⟩
  clear hnewr
  have hb0 : Both w.heap.size w2 bc vwc (.slice none 0 0) br vwr (.slice none 0 0) (List.replicate m 0) [] :=
    ⟨hoc.keep t2 (by simp), hor, fun k hk hk' => by have := (hoc.foot_lt k hk).2; have := ft2 k hk'; omega⟩
  have t12 : Touch w w2 [] := t1.trans t2 (by simp)
  clear hoc hor t1 t2 ft1 ft2
  go_wp2_with fail
  go_loopw [10] (fun i wr => ∃ (k : Nat) (vwc vlc vwr vlr : Value), i = .int .i64 k ∧ k ≤ N ∧ k ≤ 60 ∧ Both w.heap.size wr bc vwc vlc br vwr vlr (runOps (List.replicate m 0) [] (l.take k)).1 (runOps (List.replicate m 0) [] (l.take k)).2 ∧
      (runOps (List.replicate m 0) [] (l.take k)).1.length = m ∧ (runOps (List.replicate m 0) [] (l.take k)).2.length ≤ k ∧ Touch w wr []) (fun i _ => 60 - (intOf i).toNat)
  case atStart => exact ⟨0, _, _, _, _, rfl, Nat.zero_le _, by omega, hb0, by simp [runOps], by simp [runOps], t12⟩
  case round =>
    obtain ⟨k, vwc', vlc, vwr', vlr, rfl, hk, hk60, hb, hws, hlg, t⟩ := hrel
    by_cases hlt : k < N ∧ k < 60
    · obtain ⟨hlt, hlt6⟩ := hlt
      have hlt' : (k : Int) < N := by omega
      have hlt6' : (k : Int) < 60 := by omega
      have hkl : k < l.length := by rw [← HN.out]; exact hlt
      obtain ⟨g, off, rfl, hg, M0, M1, M2, M3⟩ := hr.four k hkl
      have m0 := (t.cell (p := ⟨g, off + k * 4, none⟩) hg (by simp)).trans M0
      have m1 := (t.cell (p := ⟨g, off + k * 4 + 1, none⟩) hg (by simp)).trans M1
      have m2 := (t.cell (p := ⟨g, off + k * 4 + 2, none⟩) hg (by simp)).trans M2
      have m3 := (t.cell (p := ⟨g, off + k * 4 + 3, none⟩) hg (by simp)).trans M3
      have hn := runOps_next (m := m) hkl
      have hdw := hwf l[k] (List.getElem_mem hkl)
      obtain ⟨o, ho⟩ : ∃ o, o = l[k] := ⟨_, rfl⟩
      rw [← ho] at m0 m1 m2 m3 M0 M1 M2 M3 hn hdw
      generalize hS : runOps (List.replicate m 0) [] (l.take k) = S at *
      obtain ⟨ws, lg⟩ := S
      simp only at hb hws hlg hn
      have hwl := doStep_length ws lg o
      have hll := doStep_log_length ws lg o
      have hdo := do_any hb.c t.size o hdw (by omega) (by omega)
      have hrdo := fun (X : World) (hX : CObj 66 w.heap.size X br vwr' vlr ws lg) (hs : w.heap.size ≤ X.heap.size) => rdo_any hX hs o hdw (by omega) (by omega)
      obtain ⟨⟨d', e', ws', lg'⟩, hr1⟩ : ∃ r, r = doStep ws lg o := ⟨_, rfl⟩
      rw [← hr1] at hn hdo hrdo hwl hll
      simp only at hn hdo hrdo hwl hll
      obtain ⟨⟨b0, b1, b2, b3⟩, b4, b5⟩ := d'
      obtain ⟨a0, a1, a2, a3⟩ := o
      simp only [DoneD.val, OpD.val] at hdo hrdo m0 m1 m2 m3 M0 M1 M2 M3
      have HB : Hid _ := hb
      have HT : Hid _ := t
      have HNX : Hid _ := hn
      have HRD : Hid _ := hrdo
      clear ho hr1 hb t hn hrdo hS hr
      go_wp2_with fail
      refine hdo.mono ?_
      rintro e w3 ⟨vwc2, vlc2, rfl, hc2, t3, ft3⟩
      clear hdo
      have hs3 := t3.size
      have hrk := HB.out.r.keep t3 (fun q hq hq' => HB.out.apart q hq' hq)
      have t03 : Touch w w3 [] := HT.out.trans t3 (fun q hq => .inr (HB.out.c.foot_lt q hq).1)
      have m0' := cell_alloc ((t03.cell (p := ⟨g, off + k * 4, none⟩) hg (by simp)).trans M0)
      have m1' := cell_alloc ((t03.cell (p := ⟨g, off + k * 4 + 1, none⟩) hg (by simp)).trans M1)
      have m2' := cell_alloc ((t03.cell (p := ⟨g, off + k * 4 + 2, none⟩) hg (by simp)).trans M2)
      have m3' := cell_alloc ((t03.cell (p := ⟨g, off + k * 4 + 3, none⟩) hg (by simp)).trans M3)
      have HC2 : Hid _ := hc2
      have HF3 : Hid _ := ft3
      have HT3 : Hid _ := t03
      have HRK : Hid _ := hrk
      have hwr := HT.out.size
      clear m0 m1 m2 m3 M0 M1 M2 M3 hc2 ft3 t03 hrk t3
      go_wp2_with fail
      refine (HRD.out _ (HRK.out.keep ((Touch.refl w3 []).alloc _) (by simp)) (by simp; omega)).mono ?_
      rintro e w4 ⟨vwr2, vlr2, rfl, hr2, t4, ft4⟩
      have hs4 := t4.size
      simp only [World.size_alloc] at hs4
      have D1 := (t4.block w3.heap.size (by simp) (fun hq => by have := (HRK.out.foot_lt _ hq).2; omega)).trans (heap_alloc_new w3 _)
      obtain ⟨⟨c0, c1, c2, c3, c4, c5⟩, _⟩ := cells_done D1
      have k0 := cell_alloc c0
      have k1 := cell_alloc c1
      have k2 := cell_alloc c2
      have k3 := cell_alloc c3
      have k4 := cell_alloc c4
      have k5 := cell_alloc c5
      have hck := (HC2.out.keep ((Touch.refl w3 []).alloc _) (by simp)).keep t4 (fun q hq hq' => by
        rcases HF3.out q hq with hq1 | hq1
        · exact HB.out.apart q hq1 hq'
        · have := (HB.out.r.foot_lt q hq').2; omega)
      have hb4 : Both w.heap.size w4 bc vwc2 vlc2 br vwr2 vlr2 ws' lg' := ⟨hck, hr2, fun q hq hq' => by
        rcases ft4 q hq' with hq1 | hq1
        · rcases HF3.out q hq with hq2 | hq2
          · exact HB.out.apart q hq2 hq1
          · have := (HB.out.r.foot_lt q hq1).2; omega
        · have := (HC2.out.foot_lt q hq).2; simp at hq1; omega⟩
      have t04 : Touch w w4 [] := (HT3.out.alloc _).trans t4 (fun q hq => .inr (HRK.out.foot_lt q hq).1)
      have HB4 : Hid _ := hb4
      have HT4 : Hid _ := t04
      clear D1 c0 c1 c2 c3 c4 c5 hck hb4 t04 t4 ft4 hr2 m0' m1' m2' m3' HRD HB HT
      go_wp2
      go_roundw
      case rel => exact ⟨k + 1, vwc2, vlc2, vwr2, vlr2, by go_num, by omega, by omega, by rw [HNX.out]; exact HB4.out.alloc _, by rw [HNX.out]; simp only; omega, by rw [HNX.out]; simp only; omega, HT4.out.alloc _⟩
      case measure => simp [intOf]; omega
    · have he : l.take k = l.take 60 := by
        have := HN.out
        by_cases h6 : k = 60
        · rw [h6]
        · rw [List.take_of_length_le (by omega), List.take_of_length_le (by omega)]
      have HE : Hid (l.take k = l.take 60) := he
      have HB : Hid _ := hb
      clear he hb hr
      by_cases hlt1 : (k : Int) < N
      · have hlt2 : ¬ (k : Int) < 60 := by omega
        clear hlt
        go_wp2
        go_ret3
        refine ⟨bc, vwc', vlc, br, vwr', vlr, rfl, ?_, t⟩
        rw [← HE.out]; exact HB.out
      · clear hlt
        go_wp2
        go_ret3
        refine ⟨bc, vwc', vlc, br, vwr', vlr, rfl, ?_, t⟩
        rw [← HE.out]; exact HB.out

end Go.Proofs.Ytcoacfdbcinapaa

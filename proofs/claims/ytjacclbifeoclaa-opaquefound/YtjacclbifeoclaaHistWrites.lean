/-
  package history: StateOf, Writes BY THEIR CONTRACTS.
-/
import Derived.Test.YtjacclbifeoclaaHistStates
namespace Go.Proofs.Ytjacclbifeoclaa
set_option linter.unusedVariables false
set_option linter.unusedSimpArgs false
open Go.RowKit Go.Maps
attribute [local go_sem] Oper.semAt_some

set_option maxRecDepth 100000 in
theorem stateOf_any {w : World} {ao : Option Addr} {cap : Nat} {l : List EvD} (hr : EvRow w (.slice ao l.length cap) l) (hl : l.length ≤ 1000) (hwf : ∀ e ∈ l, e.Wf) (a : Int) (ha : W64 a) :
    Calls Try.prog 22 #[.slice ao l.length cap, .int .i64 a] w fun x w' => x = .returned (.int .u8 (stateS l a)) ∧ Touch w w' [] := by
  have hs := states_any hr hl hwf
  clear hr hl hwf
  generalize l.length = N at *
  go_enter Try.func22, Try.ntmps22
  go_wp2_with fail
  refine hs.mono ?_
  rintro x w1 ⟨mb, n, G, rfl, _, hG, hy, t1⟩
  have hlk := hG.look Try.underlying80 (Try.zeroValue45 _) ha
  rw [hy a] at hlk
  clear hs hG hy
  go_wp2
  go_ret
  exact ⟨rfl, t1⟩

/-- A log behind events. -/
def noteAll (Fs : List Fr) (l : List EvD) : List Fr := l.foldl (fun Fs e => (noteS Fs e).2) Fs
theorem noteAll_snoc {Fs : List Fr} {l : List EvD} {k : Nat} (hk : k < l.length) : noteAll Fs (l.take (k + 1)) = (noteS (noteAll Fs (l.take k)) l[k]).2 := by
  unfold noteAll
  rw [List.take_succ_eq_append_getElem hk, List.foldl_append]
  rfl

/-- A row of events of its own, read. -/
theorem ev_form {w : World} {B : Nat} {v : Value} {l : List EvD} (h : evOwn w B v l) : ∃ ao cap, v = .slice ao l.length cap ∧ ∀ k (hk : k < l.length), ∃ g, ao = some ⟨g, 0, none⟩ ∧ B ≤ g ∧ g < w.heap.size ∧ w.cell? ⟨g, k * 4, none⟩ = some (.int .u8 l[k].k) ∧ w.cell? ⟨g, k * 4 + 1, none⟩ = some (.int .i64 l[k].a) ∧ w.cell? ⟨g, k * 4 + 2, none⟩ = some (.int .i64 l[k].t) ∧ w.cell? ⟨g, k * 4 + 3, none⟩ = some (.int .u64 l[k].v) := by
  have hfl : ∀ (l : List EvD) (k : Nat) (hk : k < l.length) (j : Nat), j < 4 → (l.flatMap EvD.cells)[k * 4 + j]? = (EvD.cells l[k])[j]? := by
    intro l
    induction l with
    | nil => intro k hk; simp at hk
    | cons e l ih =>
      intro k hk j hj
      rw [List.flatMap_cons]
      cases k with
      | zero => rw [List.getElem?_append_left (by simp [EvD.cells]; omega)]; simp
      | succ k =>
        rw [List.getElem?_append_right (by simp [EvD.cells]; omega)]
        have := ih k (by simpa using hk) j hj
        rw [show (k + 1) * 4 + j - (EvD.cells e).length = k * 4 + j by simp [EvD.cells]; omega, this]
        simp
  rcases h.2 with ⟨e, h0⟩ | ⟨g, cap, cur, e, hb, hg, _⟩
  · exact ⟨none, 0, by rw [e, h0], fun k hk => by omega⟩
  · subst e
    refine ⟨_, _, rfl, fun k hk => ⟨g, rfl, hb, lt_of_heap hg, ?_⟩⟩
    have hc : ∀ j, j < 4 → ∀ u, (EvD.cells l[k])[j]? = some u → w.cell? ⟨g, k * 4 + j, none⟩ = some u := fun j hj u hu => by
      have := h.cells (g := g) rfl (k * 4 + j) u (by rw [hfl l k hk j hj]; exact hu)
      rw [Addr.add_lit] at this
      simpa using this
    exact ⟨by simpa using hc 0 (by omega) _ rfl, hc 1 (by omega) _ rfl, hc 2 (by omega) _ rfl, hc 3 (by omega) _ rfl⟩

theorem cutS_wf {l : List EvD} (h : ∀ e ∈ l, e.Wf) (a : Int) : ∀ e ∈ cutS a l, e.Wf := fun e he => h e (List.mem_filter.1 he).1

set_option maxRecDepth 100000 in
set_option maxHeartbeats 2000000 in
theorem writes_any {w : World} {ao : Option Addr} {cap : Nat} {l : List EvD} (hr : EvRow w (.slice ao l.length cap) l) (hl : l.length ≤ 1000) (hwf : ∀ e ∈ l, e.Wf) (a : Int) :
    Calls Try.prog 88 #[.slice ao l.length cap, .int .i64 a] w (AllE w (allK (getF (noteAll [f0] (cutS a l))) 12)) := by
  have hcut := fun W (t : Touch w W []) => cut_any (SRow.keep hr t (by simp)) hl a
  have hcl := Nat.le_trans (cutS_le a l) hl
  have hcw := cutS_wf hwf a
  clear hr hl hwf
  generalize l.length = N at *
  generalize cutS a l = c at *
  go_enter Try.func88, Try.ntmps88
  go_wp2_with fail
  refine (new_any w).mono ?_
  rintro x w1 ⟨b, ch, rfl, hp, t1⟩
  have hc1 := hcut w1 t1
  have HP : Hid _ := hp
  clear hcut hp
  go_wp2_with fail
  refine hc1.mono ?_
  rintro x w2 ⟨v2, rfl, hrow, t2⟩
  obtain ⟨ao2, cap2, rfl, hcell⟩ := ev_form hrow
  obtain ⟨M, hM⟩ : ∃ M, M = c.length := ⟨_, rfl⟩
  have HM : Hid _ := hM
  rw [← hM] at hcl ⊢
  have HC : Hid _ := hcell
  have HP2 : Hid _ := HP.out.touch t2
  have hs2 := t2.size
  have HT2 : Hid (Touch w w2 []) := t1.trans t2 (by simp)
  have HFT : Hid _ := HP.out.foot_lt
  have hs1 := t1.size
  have HCW : Hid _ := hcw
  clear hc1 hrow hcell t2 HP hM hcw
  go_wp2_with fail
  go_loopw [13] (fun i wr => ∃ j : Nat, i = .int .i64 j ∧ j ≤ M ∧ ∃ ch2, PLog w.heap.size wr b ch2 (noteAll [f0] (c.take j)) ∧ Touch w wr [] ∧ Touch w2 wr (pfoot b ch) ∧ (∀ x ∈ pfoot b ch2, x ∈ pfoot b ch ∨ w2.heap.size ≤ x)) (fun i _ => M - (intOf i).toNat)
  case atStart => exact ⟨0, rfl, Nat.zero_le _, ch, HP2.out, HT2.out, Touch.refl _ _, fun x hx => .inl hx⟩
  case round =>
    obtain ⟨j, rfl, hj, ch2, hp, tx, tx2, hfx⟩ := hrel
    by_cases hjt : j < M
    · have h1 : (j : Int) < M := by omega
      have h0 : (0 : Int) ≤ j := by omega
      have hjl : j < c.length := by rw [← HM.out]; exact hjt
      obtain ⟨g, rfl, hgB, hg, m0, m1, m2, m3⟩ := HC.out j hjl
      have hgn : g ∉ pfoot b ch := fun h => by have := (HFT.out g h).2; omega
      have d0 := (tx2.cell (p := ⟨g, j * 4, none⟩) hg hgn).trans m0
      have d1 := (tx2.cell (p := ⟨g, j * 4 + 1, none⟩) hg hgn).trans m1
      have d2 := (tx2.cell (p := ⟨g, j * 4 + 2, none⟩) hg hgn).trans m2
      have d3 := (tx2.cell (p := ⟨g, j * 4 + 3, none⟩) hg hgn).trans m3
      have hwe := HCW.out _ (List.getElem_mem hjl)
      have hsn := noteAll_snoc (Fs := [f0]) hjl
      obtain ⟨e, he⟩ : ∃ e, e = c[j] := ⟨_, rfl⟩
      rw [← he] at d0 d1 d2 d3 hwe hsn
      have T1 : Touch wr (wr.alloc e.obj) [] := (Touch.refl wr []).alloc _
      have hno := note_any (hp.touch T1) e hwe
      have HSN : Hid _ := hsn
      have HX : Hid _ := tx
      have HX2 : Hid _ := tx2
      have HFX : Hid _ := hfx
      have HPF : Hid _ := hp.foot_lt
      have HT1 : Hid _ := T1
      clear m0 m1 m2 m3 he hsn tx tx2 hfx hp T1
      generalize noteAll [f0] (c.take j) = Fs at *
      go_wp2_with fail
      refine hno.mono ?_
      rintro x w4 ⟨ch4, rfl, p4, t4, f4⟩
      have hs5 := HX2.out.size
      have HP4 : Hid _ := p4
      have t4' : Touch wr w4 (pfoot b ch2) := (HT1.out.mono (by simp)).trans t4 (fun x hx => .inl hx)
      have HT4 : Hid (Touch w w4 []) := HX.out.trans t4' (fun x hx => .inr (HPF.out x hx).1)
      have HT5 : Hid (Touch w2 w4 (pfoot b ch)) := HX2.out.trans t4' (fun x hx => (HFX.out x hx))
      have HF4 : Hid (∀ x ∈ pfoot b ch4, x ∈ pfoot b ch ∨ w2.heap.size ≤ x) := fun x hx => by
        rcases f4 x hx with h | h
        · exact HFX.out x h
        · have := HT1.out.size
          exact .inr (by omega)
      clear hno p4 t4 f4 t4' d0 d1 d2 d3
      go_wp2
      go_roundw
      case rel => exact ⟨j + 1, by go_num, by omega, ch4, by rw [HSN.out]; exact HP4.out, HT4.out, HT5.out, HF4.out⟩
      case measure => simp [intOf]; omega
    · obtain rfl : j = M := by omega
      have hall : c.take j = c := by rw [HM.out, List.take_length]
      rw [hall] at hp
      have hal := all_any hp
      have HX : Hid _ := tx
      clear hp tx tx2 hfx hall
      generalize allK (getF (noteAll [f0] c)) 12 = ls at *
      go_wp2_with fail
      refine hal.mono ?_
      rintro x w4 ⟨v4, B4, rfl, hp4, hB4, t4⟩
      have HR4 : Hid _ := hp4
      clear hal hp4
      go_wp2
      go_ret
      exact ⟨_, B4, rfl, HR4.out, Nat.le_trans HX.out.size hB4, HX.out.trans t4 (by simp)⟩

end Go.Proofs.Ytjacclbifeoclaa

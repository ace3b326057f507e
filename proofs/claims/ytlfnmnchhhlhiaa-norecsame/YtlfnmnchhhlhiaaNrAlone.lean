/-
  alone OF PACKAGE rowlocklaw11, WALKED: deeds by the program alone.
-/
import Derived.Test.YtlfnmnchhhlhiaaNrLive
import Derived.Test.YtlfnmnchhhlhiaaRowsOf
namespace Go.Proofs.Ytlfnmnchhhlhiaa.Nr
set_option linter.unusedVariables false
set_option linter.unusedSimpArgs false
open Go.RowKit Go.Maps

/-- A deed. -/
structure DeedN where
  k : Int
  th : Int
  a : AskD
def DeedN.cells (d : DeedN) : List Value := [.int .i64 d.k, .int .i64 d.th, .int .u8 d.a.k, .int .i64 d.a.t, .int .u64 d.a.v]
structure DeedN.Wf (d : DeedN) : Prop where
  k : 0 ≤ d.a.k ∧ d.a.k ≤ 255
  t : -9223372036854775808 ≤ d.a.t ∧ d.a.t ≤ 9223372036854775807
  v : Wf64 d.a.v
abbrev DeedNRow := SRow 5 DeedN.cells
theorem DeedNRow.five {w : World} {ao : Option Addr} {cap : Nat} {l : List DeedN} (h : DeedNRow w (.slice ao l.length cap) l) (k : Nat) (hk : k < l.length) :
    ∃ g off, ao = some ⟨g, off, none⟩ ∧ g < w.heap.size ∧ w.cell? ⟨g, off + k * 5, none⟩ = some (.int .i64 l[k].k) ∧ w.cell? ⟨g, off + k * 5 + 1, none⟩ = some (.int .i64 l[k].th) ∧ w.cell? ⟨g, off + k * 5 + 2, none⟩ = some (.int .u8 l[k].a.k) ∧ w.cell? ⟨g, off + k * 5 + 3, none⟩ = some (.int .i64 l[k].a.t) ∧ w.cell? ⟨g, off + k * 5 + 4, none⟩ = some (.int .u64 l[k].a.v) := by
  obtain ⟨g, off, e, hlt, hc⟩ := h.at k hk
  exact ⟨g, off, e, hlt, hc 0 (by omega), hc 1 (by omega), hc 2 (by omega), hc 3 (by omega), hc 4 (by omega)⟩

def doN (E : Eng) (d : DeedN) : Eng :=
  if d.k = 0 then (beginE E d.th).2 else if d.k = 1 then (askE E d.th d.a).2 else if d.k = 2 then (stepE E d.th).2 else if d.k = 3 then (killE E d.th).2 else E
def runN (E : Eng) (l : List DeedN) : Eng := l.foldl doN E
theorem runN_snoc {l : List DeedN} {k : Nat} (hk : k < l.length) (E : Eng) : runN E (l.take (k + 1)) = doN (runN E (l.take k)) l[k] := by
  rw [List.take_succ_eq_append_getElem hk]
  simp only [runN, List.foldl_append, List.foldl_cons, List.foldl_nil]
theorem doN_keep {N : Nat} {E : Eng} (h : EWf N E) (hb : N + 2 < 90000) {d : DeedN} (hd : d.Wf) : EWf (N + 2) (doN E d) := by
  unfold doN
  split
  · exact begin_keep h hb _
  · split
    · exact ask_keep h hb _ _ hd.k hd.t hd.v
    · split
      · exact step_keep h hb _
      · split
        · exact kill_keep h hb _
        · exact h.up _ (by omega) hb
theorem runN_keep {l : List DeedN} (hl : ∀ d ∈ l, d.Wf) : ∀ (k : Nat), k ≤ 200 → k ≤ l.length → EWf (2 * k) (runN (newEng firstL) (l.take k)) := by
  intro k
  induction k with
  | zero => intro _ _; simpa [runN] using newEng_wf
  | succ k ih =>
    intro h1 h2
    rw [runN_snoc (by omega)]
    have := doN_keep (ih (by omega) (by omega)) (by omega) (hl l[k] (List.getElem_mem (by omega)))
    rwa [show 2 * k + 2 = 2 * (k + 1) by omega] at this

set_option maxRecDepth 100000 in
set_option maxHeartbeats 6400000 in
theorem alone_any (ao : Option Addr) (cap : Nat) (l : List DeedN) (w : World) (hr : DeedNRow w (.slice ao l.length cap) l) (hw : ∀ d ∈ l, d.Wf) :
    Calls Try.prog 13 #[.slice ao l.length cap] w fun x w' => ∃ eb, x = .returned (ptr eb) ∧ Ow w w' eb (runN (newEng firstL) (l.take 120)) [] := by
  obtain ⟨N, hN⟩ : ∃ N, N = l.length := ⟨_, rfl⟩
  have HN : Hid _ := hN
  have HR : Hid (∀ k (hk : k < l.length), _) := fun k hk => hr.five k hk
  rw [← hN]
  clear hN hr
  go_enter Try.func13, Try.ntmps13
  go_wp2_with fail
  refine (first_any w).mono ?_
  rintro x w1 ⟨rfl, o1, t1⟩
  have NW := HidC.mk (ow_new (R := []) t1 o1 (by decide) (by decide) first_right (by simp))
  clear o1 t1
  go_wp2_with fail
  refine NW.out.mono ?_
  rintro x w2 ⟨eb, rfl, h2, _⟩
  clear NW
  have H2 : Hid _ := h2
  clear h2
  go_wp2_with fail
  go_loopw [4] (fun i wr => ∃ (k : Nat), i = .int .i64 k ∧ k ≤ N ∧ k ≤ 120 ∧ Ow w wr eb (runN (newEng firstL) (l.take k)) []) (fun i _ => 120 - (intOf i).toNat)
  case atStart => exact ⟨0, rfl, Nat.zero_le _, by omega, by simpa [runN] using H2.out⟩
  case round =>
    obtain ⟨k, rfl, hk, hk6, hb⟩ := hrel
    clear H2
    by_cases hlt : k < N ∧ k < 120
    · obtain ⟨hlt, hlt6⟩ := hlt
      have hlt' : (k : Int) < N := by omega
      have hlt6' : (k : Int) < 120 := by omega
      have hkl : k < l.length := by rw [← HN.out]; exact hlt
      obtain ⟨g, off, rfl, hg, M0, M1, M2, M3, M4⟩ := HR.out k hkl
      have t := hb.touch
      have m0 := (t.cell (p := ⟨g, off + k * 5, none⟩) hg (by simp)).trans M0
      have m1 := (t.cell (p := ⟨g, off + k * 5 + 1, none⟩) hg (by simp)).trans M1
      have m2 := (t.cell (p := ⟨g, off + k * 5 + 2, none⟩) hg (by simp)).trans M2
      have m3 := (t.cell (p := ⟨g, off + k * 5 + 3, none⟩) hg (by simp)).trans M3
      have m4 := (t.cell (p := ⟨g, off + k * 5 + 4, none⟩) hg (by simp)).trans M4
      have hn := runN_snoc hkl (newEng firstL)
      have hE := runN_keep hw k (by omega) (by omega)
      obtain ⟨d, hd⟩ : ∃ d, d = l[k] := ⟨_, rfl⟩
      rw [← hd] at m0 m1 m2 m3 m4 hn
      generalize runN (newEng firstL) (l.take k) = E at *
      obtain ⟨dk, dth, ⟨ak, at', av⟩⟩ := d
      simp only at m0 m1 m2 m3 m4
      have h1 := hb.fresh ((Touch.refl wr []).alloc (.cells #[.int .i64 dk, .int .i64 dth, .int .u8 ak, .int .i64 at', .int .u64 av] 34))
      have HNX : Hid _ := hn
      clear hd hn hb t M0 M1 M2 M3 M4 HR hw
      by_cases d0 : dk = 0
      · subst d0
        have HC := HidC.mk (ow_begin h1 hE dth rfl rfl)
        clear h1
        go_wp2_with fail
        refine HC.out.mono ?_
        rintro e w3 ⟨rfl, h3⟩
        clear HC m0 m1 m2 m3 m4
        have H3 : Hid _ := h3
        clear h3
        go_wp2
        go_roundw
        case rel => exact ⟨k + 1, by go_num, by omega, by omega, by rw [HNX.out]; exact H3.out⟩
        case measure => simp [intOf]; omega
      by_cases d1 : dk = 1
      · subst d1
        have HC := HidC.mk (ow_ask h1 hE dth ⟨ak, at', av⟩ rfl rfl)
        clear h1
        go_wp2_with fail
        refine HC.out.mono ?_
        rintro e w3 ⟨rfl, h3⟩
        clear HC m0 m1 m2 m3 m4
        have H3 : Hid _ := h3
        clear h3
        go_wp2
        go_roundw
        case rel => exact ⟨k + 1, by go_num, by omega, by omega, by rw [HNX.out]; exact H3.out⟩
        case measure => simp [intOf]; omega
      by_cases d2 : dk = 2
      · subst d2
        have HC := HidC.mk (ow_step h1 hE dth rfl rfl)
        clear h1
        go_wp2_with fail
        refine HC.out.mono ?_
        rintro e w3 ⟨rfl, h3⟩
        clear HC m0 m1 m2 m3 m4
        have H3 : Hid _ := h3
        clear h3
        go_wp2
        go_roundw
        case rel => exact ⟨k + 1, by go_num, by omega, by omega, by rw [HNX.out]; exact H3.out⟩
        case measure => simp [intOf]; omega
      by_cases d3 : dk = 3
      · subst d3
        have HC := HidC.mk (ow_kill h1 hE dth rfl rfl)
        clear h1
        go_wp2_with fail
        refine HC.out.mono ?_
        rintro e w3 ⟨rfl, h3⟩
        clear HC m0 m1 m2 m3 m4
        have H3 : Hid _ := h3
        clear h3
        go_wp2
        go_roundw
        case rel => exact ⟨k + 1, by go_num, by omega, by omega, by rw [HNX.out]; exact H3.out⟩
        case measure => simp [intOf]; omega
      have hx : doN E ⟨dk, dth, ⟨ak, at', av⟩⟩ = E := by unfold doN; rw [if_neg d0, if_neg d1, if_neg d2, if_neg d3]
      have HX : Hid _ := hx
      clear hx
      have z0 : (dk == 0) = false := by simpa using d0
      have z1 : (dk == 1) = false := by simpa using d1
      have z2 : (dk == 2) = false := by simpa using d2
      have z3 : (dk == 3) = false := by simpa using d3
      have H3 : Hid _ := h1
      clear h1 d0 d1 d2 d3
      go_wp2
      go_roundw
      case rel => exact ⟨k + 1, by go_num, by omega, by omega, by rw [HNX.out, HX.out]; exact H3.out⟩
      case measure => simp [intOf]; omega
    · have he : l.take k = l.take 120 := by
        have := HN.out
        by_cases h6 : k = 120
        · rw [h6]
        · rw [List.take_of_length_le (by omega), List.take_of_length_le (by omega)]
      have HB : Hid (Ow w wr eb (runN (newEng firstL) (l.take 120)) []) := by rw [← he]; exact hb
      clear he hb HR
      by_cases hlt1 : (k : Int) < N
      · have hlt2 : ¬ (k : Int) < 120 := by omega
        clear hlt
        go_wp2
        go_ret
        exact ⟨eb, rfl, HB.out⟩
      · clear hlt
        go_wp2
        go_ret
        exact ⟨eb, rfl, HB.out⟩

end Go.Proofs.Ytlfnmnchhhlhiaa.Nr

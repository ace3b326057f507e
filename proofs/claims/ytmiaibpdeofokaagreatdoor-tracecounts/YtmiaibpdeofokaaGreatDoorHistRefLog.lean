/-
  THE DOCUMENT's package rowlockref08: act, own BY THEIR CONTRACTS.
-/
import Derived.Test.YtmiaibpdeofokaaGreatDoorAllB
import Derived.Test.YtmiaibpdeofokaaGreatDoorWritesRefM
namespace Go.Proofs.YtmiaibpdeofokaaGreatDoor
set_option linter.unusedVariables false
set_option linter.unusedSimpArgs false
open Go.RowKit Go.Maps Go.Shelf
attribute [local go_sem] Oper.semAt_some

theorem RPost.after {B : Nat} {w w1 w' : World} {b : Nat} {vl : Value} {res : Int × List Fr} {e : Ending} (h : RPost B w1 b vl res e w') (t : Touch w w1 []) : RPost B w b vl res e w' := by
  obtain ⟨vl', he, hl, ht, hf⟩ := h
  exact ⟨vl', he, hl, (t.mono (by simp)).trans ht (fun x hx => .inl hx), fun x hx => (hf x hx).imp id (fun h => Nat.le_trans t.size h)⟩

set_option maxRecDepth 100000 in
theorem ract_any {B : Nat} {w : World} {b : Nat} {vl : Value} {Fs : List Fr} (h : RLog B w b vl Fs.reverse) (e : EvD) (he : e.Wf) : Calls Tryz.prog 79 #[ptr b, e.val] w (RPost B w b vl (noteS Fs e)) := by
  obtain ⟨k, a, t, v⟩ := e
  obtain ⟨_, _, ht, hv⟩ := he
  have tt := (Touch.refl w []).alloc (EvD.obj ⟨k, a, t, v⟩)
  have h1 := h.touch tt
  unfold noteS EvD.val
  unfold EvD.obj at h1 tt
  simp only at h1 tt ht hv ⊢
  by_cases h3 : k = 3
  · subst h3
    rw [if_pos rfl]
    have c := rput_any h1 t v hv
    have HT : Hid _ := tt
    clear h h1 tt
    generalize putS Fs t v = res at *
    go_enter Tryz.func79, Tryz.ntmps79
    go_wp2_with fail
    refine c.mono ?_
    intro x w1 hp
    obtain ⟨vl', rfl, p1, t1, x1⟩ := hp.after HT.out
    clear c hp
    go_wp2
    go_ret
    exact ⟨vl', rfl, p1, t1, x1⟩
  · rw [if_neg h3]
    by_cases h4 : k = 4
    · subst h4
      rw [if_pos rfl]
      have c := rpush_any h1
      have HT : Hid _ := tt
      clear h h1 tt
      generalize pushS Fs = res at *
      go_enter Tryz.func79, Tryz.ntmps79
      go_wp2_with fail
      refine c.mono ?_
      intro x w1 hp
      obtain ⟨vl', rfl, p1, t1, x1⟩ := hp.after HT.out
      clear c hp
      go_wp2
      go_ret
      exact ⟨vl', rfl, p1, t1, x1⟩
    · rw [if_neg h4]
      by_cases h5 : k = 5
      · subst h5
        rw [if_pos rfl]
        have c := rdrop_any h1
        have HT : Hid _ := tt
        clear h h1 tt
        generalize dropS Fs = res at *
        go_enter Tryz.func79, Tryz.ntmps79
        go_wp2_with fail
        refine c.mono ?_
        intro x w1 hp
        obtain ⟨vl', rfl, p1, t1, x1⟩ := hp.after HT.out
        clear c hp
        go_wp2
        go_ret
        exact ⟨vl', rfl, p1, t1, x1⟩
      · rw [if_neg h5]
        by_cases h6 : k = 6
        · subst h6
          rw [if_pos rfl]
          have c := rmerge_any h1
          have HT : Hid _ := tt
          clear h h1 tt
          generalize mergeS Fs = res at *
          go_enter Tryz.func79, Tryz.ntmps79
          go_wp2_with fail
          refine c.mono ?_
          intro x w1 hp
          obtain ⟨vl', rfl, p1, t1, x1⟩ := hp.after HT.out
          clear c hp
          go_wp2
          go_ret
          exact ⟨vl', rfl, p1, t1, x1⟩
        · rw [if_neg h6]
          have HQ : Hid _ := h
          have HT : Hid _ := tt
          clear h h1 tt
          go_enter Tryz.func79, Tryz.ntmps79
          go_wp2
          go_ret
          exact HQ.out.stays HT.out 0

set_option maxRecDepth 100000 in
set_option maxHeartbeats 2000000 in
theorem rown_any {w : World} {ao : Option Addr} {cap : Nat} {l : List EvD} (hr : EvRow w (.slice ao l.length cap) l) (hl : l.length ≤ 1000) (hwf : ∀ e ∈ l, e.Wf) (n : Nat) (hn : n ≤ l.length) (a : Int) :
    Calls Tryz.prog 78 #[.slice ao l.length cap, .int .i64 n, .int .i64 a] w fun x w' => ∃ b vl, x = .returned (ptr b) ∧ RLog w.heap.size w' b vl (noteAll [f0] (cutS a (l.take n))).reverse ∧ Touch w w' [] := by
  obtain ⟨N, hN⟩ : ∃ N, N = l.length := ⟨_, rfl⟩
  have HN : Hid (N = l.length) := hN
  have HR : Hid (EvRow w (.slice ao l.length cap) l) := hr
  have HW : Hid _ := hwf
  rw [← hN] at hl hn ⊢
  clear hN hr hwf
  go_enter Tryz.func78, Tryz.ntmps78
  go_wp2_with fail
  refine (rnew_any _).mono ?_
  rintro x w1 ⟨b, vl, rfl, hL, hT1⟩
  have HL1 : Hid (RLog w.heap.size w1 b vl [f0]) := hL
  have HT1 : Hid _ := hT1
  clear hL hT1
  go_wp2_with fail
  go_loopw [8] (fun i wr => ∃ k : Nat, i = .int .i64 k ∧ k ≤ n ∧ ∃ vl, RLog w.heap.size wr b vl (noteAll [f0] (cutS a (l.take k))).reverse ∧ Touch w wr []) (fun i _ => n - (intOf i).toNat)
  case atStart => exact ⟨0, rfl, Nat.zero_le _, vl, HL1.out, HT1.out⟩
  case round =>
    obtain ⟨k, rfl, hk, vl, hL, hT⟩ := hrel
    have HT : Hid _ := hT
    clear HL1 HT1
    by_cases hlt' : k < n
    · have hlt : k < N := by omega
      have hkn : (k : Int) < n := by omega
      have h1 : (k : Int) < N := by omega
      have h0 : (0 : Int) ≤ k := by omega
      have hkl : k < l.length := by rw [← HN.out]; exact hlt
      obtain ⟨g, off, rfl, hg, m0, m1, m2, m3⟩ := HR.out.one k hkl
      have d0 := (hT.cell (p := ⟨g, off + k * 4, none⟩) hg (by simp)).trans m0
      have d1 := (hT.cell (p := ⟨g, off + k * 4 + 1, none⟩) hg (by simp)).trans m1
      have d2 := (hT.cell (p := ⟨g, off + k * 4 + 2, none⟩) hg (by simp)).trans m2
      have d3 := (hT.cell (p := ⟨g, off + k * 4 + 3, none⟩) hg (by simp)).trans m3
      have hwe := HW.out _ (List.getElem_mem hkl)
      have hnt := note_cut (a := a) hkl
      obtain ⟨e, he⟩ : ∃ e, e = l[k] := ⟨_, rfl⟩
      rw [← he] at d0 d1 d2 d3 hwe hnt
      have HNT : Hid _ := hnt
      clear m0 m1 m2 m3 he hT hnt
      by_cases ha : e.a = a
      · have ha' : (e.a == a) = true := by simpa using ha
        rw [if_pos ha] at HNT
        have HA : Hid _ := ha
        clear ha
        have c := ract_any hL e hwe
        have HFT : Hid _ := hL.foot_lt
        generalize noteAll [f0] (cutS a (l.take k)) = Fs at *
        clear hL
        go_wp2_with fail
        refine c.mono ?_
        rintro x w2 ⟨vl', rfl, hL2, t2, _⟩
        have HL2 : Hid (RLog w.heap.size w2 b vl' (noteAll [f0] (cutS a (l.take (k + 1)))).reverse) := by show RLog _ _ _ _ _; rw [HNT.out]; exact hL2
        have HT2 : Hid (Touch w w2 []) := HT.out.trans t2 (fun x hx => .inr (HFT.out x hx).1)
        clear c hL2 t2 d0 d1 d2 d3
        go_wp2
        go_roundw
        case rel => exact ⟨k + 1, by go_num, by omega, _, HL2.out, HT2.out⟩
        case measure => simp [intOf]; omega
      · have ha' : (e.a == a) = false := by simpa using ha
        rw [if_neg ha] at HNT
        have HL2 : Hid (RLog w.heap.size wr b vl (noteAll [f0] (cutS a (l.take (k + 1)))).reverse) := by show RLog _ _ _ _ _; rw [HNT.out]; exact hL
        clear ha hL
        go_wp2
        go_roundw
        case rel => exact ⟨k + 1, by go_num, by omega, _, HL2.out, HT.out⟩
        case measure => simp [intOf]; omega
    · obtain rfl : k = n := by omega
      have HL2 : Hid (RLog w.heap.size wr b vl (noteAll [f0] (cutS a (l.take k))).reverse) := hL
      clear hL hT
      go_wp2
      go_ret
      exact ⟨_, _, rfl, HL2.out, HT.out⟩

end Go.Proofs.YtmiaibpdeofokaaGreatDoor

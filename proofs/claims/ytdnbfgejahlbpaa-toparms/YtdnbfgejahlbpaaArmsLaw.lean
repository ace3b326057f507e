/-
  TopArms: A LOG OF FRAMES IS WHAT ITS EVENTS TELL; walked.
-/
import Derived.Test.YtdnbfgejahlbpaaArmsBase
import Derived.Test.YtdnbfgejahlbpaaHistSame
namespace Go.Proofs.Ytdnbfgejahlbpaa
set_option linter.unusedVariables false
set_option linter.unusedSimpArgs false
open Go.RowKit Go.Maps Go.Shelf
attribute [local go_sem] Oper.semAt_some

def TrueN (w : World) (e : Ending) (w' : World) : Prop := e = .returned (.bool true) ∧ Touch w w' []
def twoC (p : Int × Int) : List Value := [.int .u8 p.1, .int .u8 p.2]
abbrev TwoRow := SRow 2 twoC
theorem TwoRow.one {w : World} {ao : Option Addr} {cap : Nat} {l : List (Int × Int)} (h : TwoRow w (.slice ao l.length cap) l) (k : Nat) (hk : k < l.length) :
    ∃ g off, ao = some ⟨g, off, none⟩ ∧ g < w.heap.size ∧ w.cell? ⟨g, off + k * 2, none⟩ = some (.int .u8 l[k].1) ∧ w.cell? ⟨g, off + k * 2 + 1, none⟩ = some (.int .u8 l[k].2) := by
  obtain ⟨g, off, e, hlt, hc⟩ := h.at k hk
  exact ⟨g, off, e, hlt, by simpa [twoC] using hc 0 (by omega), by simpa [twoC] using hc 1 (by omega)⟩

/-- What is kept between two deeds. -/
structure Arm (w : World) (b : Nat) (i : Nat) (ve : Value) (W : World) (es : List EvD) (Fs : List Fr) (ch : List (Nat × Nat)) : Prop where
  len : es.length ≤ i + 1
  told : Told es Fs
  row : evOwn W w.heap.size ve es
  log : PLog w.heap.size W b ch Fs
  t : Touch w W []

set_option maxRecDepth 100000 in
set_option maxHeartbeats 4000000 in
theorem toparms_any (ao : Option Addr) (cap : Nat) (l : List (Int × Int)) (w : World) (hr : TwoRow w (.slice ao l.length cap) l) (hl : l.length ≤ maxLen) (hwf : ∀ p ∈ l, (0 ≤ p.1 ∧ p.1 ≤ 255) ∧ (0 ≤ p.2 ∧ p.2 ≤ 255)) :
    Calls Try.prog 3 #[.slice ao l.length cap] w (TrueN w) := by
  obtain ⟨N, hN⟩ : ∃ N, N = l.length := ⟨_, rfl⟩
  have HN : Hid (N = l.length) := hN
  have HR : Hid (TwoRow w (.slice ao l.length cap) l) := hr
  have HW : Hid _ := hwf
  unfold maxLen at hl
  rw [← hN] at hl ⊢
  clear hN hr hwf
  obtain ⟨i0, hi, hz0, hz1, hz2⟩ := info_parts Try.info_ev
  go_enter Try.func3, Try.ntmps3
  go_wp2_with fail
  refine (new_any w).mono ?_
  rintro e w1 ⟨b, ch, rfl, hp, t1⟩
  have HA0 : Hid (Arm w b 0 (.slice (some ⟨w1.heap.size, 0, none⟩) 1 1) (w1.alloc (.cells #[.int .u8 1, .int .i64 2, .int .i64 0, .int .u64 0] 29)) [⟨1, 2, 0, 0⟩] [f0] ch) := by
    have ta := (Touch.refl w1 []).alloc (.cells #[.int .u8 1, .int .i64 2, .int .i64 0, .int .u64 0] 29)
    refine ⟨by simp, Told.start, ?_, hp.touch ta, t1.trans ta (by simp)⟩
    have := World.ownsRow_lit (base := w.heap.size) (e := 29) (size := 4) w1 #[.int .u8 1, .int .i64 2, .int .i64 0, .int .u64 0] 1 t1.size (by unfold maxLen; omega) (by rfl)
    exact this
  clear hp t1
  go_wp2_with fail
  go_loopw [4, 5] (fun ve vi wr => ∃ (i : Nat) (es : List EvD) (Fs : List Fr) (ch : List (Nat × Nat)), vi = .int .i64 i ∧ i ≤ N ∧ i ≤ 60 ∧ Arm w b i ve wr es Fs ch) (fun _ vi _ => N - (intOf vi).toNat)
  case atStart => exact ⟨0, _, _, _, rfl, by omega, by omega, HA0.out⟩
  case round =>
    obtain ⟨i, es, Fs, ch2, rfl, hiN, hi60, hA⟩ := hrel
    clear HA0
    have HA : Hid _ := hA
    clear hA
    by_cases hlt : i < N ∧ i < 60
    · obtain ⟨hlN, hl60⟩ := hlt
      have h1 : (i : Int) < N := by omega
      have h60 : (i : Int) < 60 := by omega
      have h0 : (0 : Int) ≤ i := by omega
      have hil : i < l.length := by rw [← HN.out]; exact hlN
      obtain ⟨g, off, rfl, hg, m0, m1⟩ := HR.out.one i hil
      have d0 := (HA.out.t.cell (p := ⟨g, off + i * 2, none⟩) hg (by simp)).trans m0
      have d1 := (HA.out.t.cell (p := ⟨g, off + i * 2 + 1, none⟩) hg (by simp)).trans m1
      have hbw := HW.out _ (List.getElem_mem hil)
      obtain ⟨q, hq⟩ : ∃ q, q = l[i] := ⟨_, rfl⟩
      rw [← hq] at d0 d1 hbw
      obtain ⟨a0, a1⟩ := q
      simp only at d0 d1 hbw
      obtain ⟨⟨ha0, ha1⟩, ⟨hb0, hb1⟩⟩ := hbw
      have T1 : Touch wr (wr.alloc (.cells #[.int .u8 0, .int .i64 2, .int .i64 0, .int .u64 0] 29)) [] := (Touch.refl wr []).alloc _
      have hx0 : (wr.alloc (.cells #[.int .u8 0, .int .i64 2, .int .i64 0, .int .u64 0] 29)).heap[wr.heap.size]? = some (.cells #[.int .u8 0, .int .i64 2, .int .i64 0, .int .u64 0] 29 (0, 0)) := heap_alloc_new wr _
      have hgw := Nat.lt_of_lt_of_le hg HA.out.t.size
      have e0 := (T1.cell (p := ⟨g, off + i * 2, none⟩) hgw (by simp)).trans d0
      have e1 := (T1.cell (p := ⟨g, off + i * 2 + 1, none⟩) hgw (by simp)).trans d1
      have HX0 : Hid _ := hx0
      have HT1 : Hid _ := T1
      have hlog := HA.out.log.touch T1
      have HROW : Hid (evOwn (wr.alloc (.cells #[.int .u8 0, .int .i64 2, .int .i64 0, .int .u64 0] 29)) w.heap.size u4 es) := HA.out.row.alloc _
      clear m0 m1 hq hx0 T1
      have hmod : a0 % 6 = 0 ∨ a0 % 6 = 1 ∨ a0 % 6 = 2 ∨ (¬ a0 % 6 = 0 ∧ ¬ a0 % 6 = 1 ∧ ¬ a0 % 6 = 2) := by omega
      rcases hmod with hm | hm | hm | ⟨hm0, hm1, hm2⟩
      ·
        have hop := push_any hlog
        have HLOG : Hid _ := hlog
        have HERR : Hid ((pushS Fs).1 ≠ 0 → (pushS Fs).2 = Fs) := fun h => push_err h
        have HNT : Hid (noteS Fs ⟨4, 2, 0, 0⟩ = pushS Fs) := by show _ = _; unfold noteS; simp
        clear hlog
        generalize pushS Fs = nr at *
        obtain ⟨z, Gs⟩ := nr
        simp only at HERR
        go_wp2_with fail
        refine hop.mono ?_
        rintro e w2 ⟨ch3, rfl, p2, t2, f2⟩
        simp only at p2 ⊢
        have hs2 := t2.size
        rw [World.size_alloc] at hs2
        have hx2 : w2.heap[wr.heap.size]? = some (.cells #[.int .u8 0, .int .i64 2, .int .i64 0, .int .u64 0] 29 (0, 0)) := (t2.block _ (lt_of_heap HX0.out) (fun h => by have := (HA.out.log.foot_lt _ h).2; omega)).trans HX0.out
        have c0 : w2.cell? ⟨wr.heap.size, 0, none⟩ = some (.int .u8 0) := by simp [World.cell?, hx2]
        have c1 : w2.cell? ⟨wr.heap.size, 1, none⟩ = some (.int .i64 2) := by simp [World.cell?, hx2]
        have c2 : w2.cell? ⟨wr.heap.size, 2, none⟩ = some (.int .i64 0) := by simp [World.cell?, hx2]
        have c3 : w2.cell? ⟨wr.heap.size, 3, none⟩ = some (.int .u64 0) := by simp [World.cell?, hx2]
        have fz : w2.frozen? ⟨wr.heap.size, 0, none⟩ = false := by simp [World.frozen?, hx2]
        have hx3 : (w2.setCell ⟨wr.heap.size, 0, none⟩ (.int .u8 4)).heap[wr.heap.size]? = some (EvD.obj ⟨4, 2, 0, 0⟩) := heap_setCell_same _ _ _ _ _ _ hx2
        have tS : Touch w2 (w2.setCell ⟨wr.heap.size, 0, none⟩ (.int .u8 4)) [wr.heap.size] := (Touch.refl w2 _).setCell (.inl (by simp)) _
        have hrow3 : evOwn (w2.setCell ⟨wr.heap.size, 0, none⟩ (.int .u8 4)) w.heap.size u4 es := ownsRow_touch (HROW.out.log HLOG.out t2) tS (fun q hq hs => by simp at hs; have := (HA.out.row.lt q hq).2; omega)
        have HLOG3 : Hid (PLog w.heap.size (w2.setCell ⟨wr.heap.size, 0, none⟩ (.int .u8 4)) b ch3 Gs) := p2.keep tS (fun x hx hs => by
          simp at hs
          rcases f2 x hx with h | h
          · have := (HA.out.log.foot_lt x h).2; omega
          · rw [World.size_alloc] at h; omega)
        have HT3 : Hid (Touch w (w2.setCell ⟨wr.heap.size, 0, none⟩ (.int .u8 4)) []) := ((HA.out.t.trans HT1.out (by simp)).trans t2 (fun x hx => .inr (HA.out.log.foot_lt x hx).1)).trans tS (fun x hx => .inr (by simp at hx; have := HA.out.t.size; omega))
        have hts := HT3.out.size
        clear hop p2 t2 f2 tS hx2
        by_cases hz : z = 0
        · subst hz
          have HTOLD : Hid (Told (es ++ [⟨4, 2, 0, 0⟩]) Gs) := HA.out.told.more ⟨4, 2, 0, 0⟩ rfl (by decide) (by kernel_rfl) HNT.out ⟨by decide, by decide, by decide, by unfold Wf64; decide⟩
          have hnew : ∀ j u, (EvD.cells ⟨4, 2, 0, 0⟩)[j]? = some u → ((w2.setCell ⟨wr.heap.size, 0, none⟩ (.int .u8 4)).alloc (EvD.obj ⟨4, 2, 0, 0⟩)).cell? (Addr.add ⟨w2.heap.size, 0, none⟩ j) = some u := by
            have := World.news_of_block (cs := #[.int .u8 4, .int .i64 2, .int .i64 0, .int .u64 0]) (t := 29) (fr := (0, 0)) (heap_alloc_new (w2.setCell ⟨wr.heap.size, 0, none⟩ (.int .u8 4)) (EvD.obj ⟨4, 2, 0, 0⟩))
            simpa [EvD.cells] using this
          have hel := HA.out.len
          have HX3 : Hid _ := hx3
          have hsz : (w2.setCell ⟨wr.heap.size, 0, none⟩ (.int .u8 4)).heap.size = w2.heap.size := by simp
          have hwsz : w.heap.size ≤ w2.heap.size := by omega
          unfold evOwn at hrow3
          clear hx3 hts hsz
          go_wp2_with (at_builtin; refine wpList_append_own _ rfl _ _ 30 rfl w.heap.size 29 i0 _ 4 32 Try.underlying30 hi hz0 hz1 hz2 rfl (by decide) _ _ _ rfl (hrow3.alloc _) ⟨w2.heap.size, 0, none⟩ 1 1 (EvD.cells ⟨4, 2, 0, 0⟩) rfl rfl hnew (by simp [EvD.cells, Value.oneCell']) (by unfold maxLen; omega) (by omega) (by simp; omega) ?_)
          intro v' w4 hown' hgrow _
          have hrb : ∀ q, u4.ownBlock = some q → w.heap.size ≤ q := fun q hq => (hrow3.lt q hq).1
          have tg : Touch (w2.setCell ⟨wr.heap.size, 0, none⟩ (.int .u8 4)) w4 u4.ownBlock.toList := ((Touch.refl _ _).alloc _).grown hgrow (fun q hq => .inl (by simp [hq]))
          have HARM : Hid (Arm w b (i + 1) v' w4 (es ++ [⟨4, 2, 0, 0⟩]) Gs ch3) := by
            refine ⟨by simp; omega, HTOLD.out, ?_, HLOG3.out.keep tg (fun x hx hs => ?_), HT3.out.trans tg (fun x hx => .inr (hrb x (by simpa using hx)))⟩
            · show w4.ownsRow _ _ _ _ _ _
              rw [List.length_append, List.flatMap_append]
              simpa using hown'
            · have hq : u4.ownBlock = some x := by simpa using hs
              rcases hrow3.2 with ⟨e, _⟩ | ⟨g', cap', cur, e, _, hg', _⟩
              · rw [e] at hq; simp [Value.ownBlock] at hq
              · rw [e] at hq
                obtain rfl : g' = x := by simpa [Value.ownBlock] using hq
                exact HLOG3.out.untypedA (T := 29) (by decide) (by decide) g' hx _ _ hg'
          clear hown' hgrow hrow3 hnew tg hrb
          go_wp2
          go_roundw
          case rel => exact ⟨i + 1, _, _, _, by go_num, by omega, by omega, HARM.out⟩
          case measure => simp [intOf]; omega
        · have hze : (z == 0) = false := by simpa using hz
          have hG := HERR.out hz
          have HARM : Hid (Arm w b (i + 1) u4 (w2.setCell ⟨wr.heap.size, 0, none⟩ (.int .u8 4)) es Fs ch3) := ⟨by have := HA.out.len; omega, HA.out.told, hrow3, by rw [← hG]; exact HLOG3.out, HT3.out⟩
          clear hz hG hrow3 hx3
          go_wp2
          go_roundw
          case rel => exact ⟨i + 1, _, _, _, by go_num, by omega, by omega, HARM.out⟩
          case measure => simp [intOf]; omega
      ·
        have hop := drop_any hlog
        have HLOG : Hid _ := hlog
        have HERR : Hid ((dropS Fs).1 ≠ 0 → (dropS Fs).2 = Fs) := fun h => drop_err h
        have HNT : Hid (noteS Fs ⟨5, 2, 0, 0⟩ = dropS Fs) := by show _ = _; unfold noteS; simp
        clear hlog
        generalize dropS Fs = nr at *
        obtain ⟨z, Gs⟩ := nr
        simp only at HERR
        go_wp2_with fail
        refine hop.mono ?_
        rintro e w2 ⟨ch3, rfl, p2, t2, f2⟩
        simp only at p2 ⊢
        have hs2 := t2.size
        rw [World.size_alloc] at hs2
        have hx2 : w2.heap[wr.heap.size]? = some (.cells #[.int .u8 0, .int .i64 2, .int .i64 0, .int .u64 0] 29 (0, 0)) := (t2.block _ (lt_of_heap HX0.out) (fun h => by have := (HA.out.log.foot_lt _ h).2; omega)).trans HX0.out
        have c0 : w2.cell? ⟨wr.heap.size, 0, none⟩ = some (.int .u8 0) := by simp [World.cell?, hx2]
        have c1 : w2.cell? ⟨wr.heap.size, 1, none⟩ = some (.int .i64 2) := by simp [World.cell?, hx2]
        have c2 : w2.cell? ⟨wr.heap.size, 2, none⟩ = some (.int .i64 0) := by simp [World.cell?, hx2]
        have c3 : w2.cell? ⟨wr.heap.size, 3, none⟩ = some (.int .u64 0) := by simp [World.cell?, hx2]
        have fz : w2.frozen? ⟨wr.heap.size, 0, none⟩ = false := by simp [World.frozen?, hx2]
        have hx3 : (w2.setCell ⟨wr.heap.size, 0, none⟩ (.int .u8 5)).heap[wr.heap.size]? = some (EvD.obj ⟨5, 2, 0, 0⟩) := heap_setCell_same _ _ _ _ _ _ hx2
        have tS : Touch w2 (w2.setCell ⟨wr.heap.size, 0, none⟩ (.int .u8 5)) [wr.heap.size] := (Touch.refl w2 _).setCell (.inl (by simp)) _
        have hrow3 : evOwn (w2.setCell ⟨wr.heap.size, 0, none⟩ (.int .u8 5)) w.heap.size u4 es := ownsRow_touch (HROW.out.log HLOG.out t2) tS (fun q hq hs => by simp at hs; have := (HA.out.row.lt q hq).2; omega)
        have HLOG3 : Hid (PLog w.heap.size (w2.setCell ⟨wr.heap.size, 0, none⟩ (.int .u8 5)) b ch3 Gs) := p2.keep tS (fun x hx hs => by
          simp at hs
          rcases f2 x hx with h | h
          · have := (HA.out.log.foot_lt x h).2; omega
          · rw [World.size_alloc] at h; omega)
        have HT3 : Hid (Touch w (w2.setCell ⟨wr.heap.size, 0, none⟩ (.int .u8 5)) []) := ((HA.out.t.trans HT1.out (by simp)).trans t2 (fun x hx => .inr (HA.out.log.foot_lt x hx).1)).trans tS (fun x hx => .inr (by simp at hx; have := HA.out.t.size; omega))
        have hts := HT3.out.size
        clear hop p2 t2 f2 tS hx2
        by_cases hz : z = 0
        · subst hz
          have HTOLD : Hid (Told (es ++ [⟨5, 2, 0, 0⟩]) Gs) := HA.out.told.more ⟨5, 2, 0, 0⟩ rfl (by decide) (by kernel_rfl) HNT.out ⟨by decide, by decide, by decide, by unfold Wf64; decide⟩
          have hnew : ∀ j u, (EvD.cells ⟨5, 2, 0, 0⟩)[j]? = some u → ((w2.setCell ⟨wr.heap.size, 0, none⟩ (.int .u8 5)).alloc (EvD.obj ⟨5, 2, 0, 0⟩)).cell? (Addr.add ⟨w2.heap.size, 0, none⟩ j) = some u := by
            have := World.news_of_block (cs := #[.int .u8 5, .int .i64 2, .int .i64 0, .int .u64 0]) (t := 29) (fr := (0, 0)) (heap_alloc_new (w2.setCell ⟨wr.heap.size, 0, none⟩ (.int .u8 5)) (EvD.obj ⟨5, 2, 0, 0⟩))
            simpa [EvD.cells] using this
          have hel := HA.out.len
          have HX3 : Hid _ := hx3
          have hsz : (w2.setCell ⟨wr.heap.size, 0, none⟩ (.int .u8 5)).heap.size = w2.heap.size := by simp
          have hwsz : w.heap.size ≤ w2.heap.size := by omega
          unfold evOwn at hrow3
          clear hx3 hts hsz
          go_wp2_with (at_builtin; refine wpList_append_own _ rfl _ _ 30 rfl w.heap.size 29 i0 _ 4 32 Try.underlying30 hi hz0 hz1 hz2 rfl (by decide) _ _ _ rfl (hrow3.alloc _) ⟨w2.heap.size, 0, none⟩ 1 1 (EvD.cells ⟨5, 2, 0, 0⟩) rfl rfl hnew (by simp [EvD.cells, Value.oneCell']) (by unfold maxLen; omega) (by omega) (by simp; omega) ?_)
          intro v' w4 hown' hgrow _
          have hrb : ∀ q, u4.ownBlock = some q → w.heap.size ≤ q := fun q hq => (hrow3.lt q hq).1
          have tg : Touch (w2.setCell ⟨wr.heap.size, 0, none⟩ (.int .u8 5)) w4 u4.ownBlock.toList := ((Touch.refl _ _).alloc _).grown hgrow (fun q hq => .inl (by simp [hq]))
          have HARM : Hid (Arm w b (i + 1) v' w4 (es ++ [⟨5, 2, 0, 0⟩]) Gs ch3) := by
            refine ⟨by simp; omega, HTOLD.out, ?_, HLOG3.out.keep tg (fun x hx hs => ?_), HT3.out.trans tg (fun x hx => .inr (hrb x (by simpa using hx)))⟩
            · show w4.ownsRow _ _ _ _ _ _
              rw [List.length_append, List.flatMap_append]
              simpa using hown'
            · have hq : u4.ownBlock = some x := by simpa using hs
              rcases hrow3.2 with ⟨e, _⟩ | ⟨g', cap', cur, e, _, hg', _⟩
              · rw [e] at hq; simp [Value.ownBlock] at hq
              · rw [e] at hq
                obtain rfl : g' = x := by simpa [Value.ownBlock] using hq
                exact HLOG3.out.untypedA (T := 29) (by decide) (by decide) g' hx _ _ hg'
          clear hown' hgrow hrow3 hnew tg hrb
          go_wp2
          go_roundw
          case rel => exact ⟨i + 1, _, _, _, by go_num, by omega, by omega, HARM.out⟩
          case measure => simp [intOf]; omega
        · have hze : (z == 0) = false := by simpa using hz
          have hG := HERR.out hz
          have HARM : Hid (Arm w b (i + 1) u4 (w2.setCell ⟨wr.heap.size, 0, none⟩ (.int .u8 5)) es Fs ch3) := ⟨by have := HA.out.len; omega, HA.out.told, hrow3, by rw [← hG]; exact HLOG3.out, HT3.out⟩
          clear hz hG hrow3 hx3
          go_wp2
          go_roundw
          case rel => exact ⟨i + 1, _, _, _, by go_num, by omega, by omega, HARM.out⟩
          case measure => simp [intOf]; omega
      ·
        have hop := merge_any hlog
        have HLOG : Hid _ := hlog
        have HERR : Hid ((mergeS Fs).1 ≠ 0 → (mergeS Fs).2 = Fs) := fun h => merge_err h
        have HNT : Hid (noteS Fs ⟨6, 2, 0, 0⟩ = mergeS Fs) := by show _ = _; unfold noteS; simp
        clear hlog
        generalize mergeS Fs = nr at *
        obtain ⟨z, Gs⟩ := nr
        simp only at HERR
        go_wp2_with fail
        refine hop.mono ?_
        rintro e w2 ⟨ch3, rfl, p2, t2, f2⟩
        simp only at p2 ⊢
        have hs2 := t2.size
        rw [World.size_alloc] at hs2
        have hx2 : w2.heap[wr.heap.size]? = some (.cells #[.int .u8 0, .int .i64 2, .int .i64 0, .int .u64 0] 29 (0, 0)) := (t2.block _ (lt_of_heap HX0.out) (fun h => by have := (HA.out.log.foot_lt _ h).2; omega)).trans HX0.out
        have c0 : w2.cell? ⟨wr.heap.size, 0, none⟩ = some (.int .u8 0) := by simp [World.cell?, hx2]
        have c1 : w2.cell? ⟨wr.heap.size, 1, none⟩ = some (.int .i64 2) := by simp [World.cell?, hx2]
        have c2 : w2.cell? ⟨wr.heap.size, 2, none⟩ = some (.int .i64 0) := by simp [World.cell?, hx2]
        have c3 : w2.cell? ⟨wr.heap.size, 3, none⟩ = some (.int .u64 0) := by simp [World.cell?, hx2]
        have fz : w2.frozen? ⟨wr.heap.size, 0, none⟩ = false := by simp [World.frozen?, hx2]
        have hx3 : (w2.setCell ⟨wr.heap.size, 0, none⟩ (.int .u8 6)).heap[wr.heap.size]? = some (EvD.obj ⟨6, 2, 0, 0⟩) := heap_setCell_same _ _ _ _ _ _ hx2
        have tS : Touch w2 (w2.setCell ⟨wr.heap.size, 0, none⟩ (.int .u8 6)) [wr.heap.size] := (Touch.refl w2 _).setCell (.inl (by simp)) _
        have hrow3 : evOwn (w2.setCell ⟨wr.heap.size, 0, none⟩ (.int .u8 6)) w.heap.size u4 es := ownsRow_touch (HROW.out.log HLOG.out t2) tS (fun q hq hs => by simp at hs; have := (HA.out.row.lt q hq).2; omega)
        have HLOG3 : Hid (PLog w.heap.size (w2.setCell ⟨wr.heap.size, 0, none⟩ (.int .u8 6)) b ch3 Gs) := p2.keep tS (fun x hx hs => by
          simp at hs
          rcases f2 x hx with h | h
          · have := (HA.out.log.foot_lt x h).2; omega
          · rw [World.size_alloc] at h; omega)
        have HT3 : Hid (Touch w (w2.setCell ⟨wr.heap.size, 0, none⟩ (.int .u8 6)) []) := ((HA.out.t.trans HT1.out (by simp)).trans t2 (fun x hx => .inr (HA.out.log.foot_lt x hx).1)).trans tS (fun x hx => .inr (by simp at hx; have := HA.out.t.size; omega))
        have hts := HT3.out.size
        clear hop p2 t2 f2 tS hx2
        by_cases hz : z = 0
        · subst hz
          have HTOLD : Hid (Told (es ++ [⟨6, 2, 0, 0⟩]) Gs) := HA.out.told.more ⟨6, 2, 0, 0⟩ rfl (by decide) (by kernel_rfl) HNT.out ⟨by decide, by decide, by decide, by unfold Wf64; decide⟩
          have hnew : ∀ j u, (EvD.cells ⟨6, 2, 0, 0⟩)[j]? = some u → ((w2.setCell ⟨wr.heap.size, 0, none⟩ (.int .u8 6)).alloc (EvD.obj ⟨6, 2, 0, 0⟩)).cell? (Addr.add ⟨w2.heap.size, 0, none⟩ j) = some u := by
            have := World.news_of_block (cs := #[.int .u8 6, .int .i64 2, .int .i64 0, .int .u64 0]) (t := 29) (fr := (0, 0)) (heap_alloc_new (w2.setCell ⟨wr.heap.size, 0, none⟩ (.int .u8 6)) (EvD.obj ⟨6, 2, 0, 0⟩))
            simpa [EvD.cells] using this
          have hel := HA.out.len
          have HX3 : Hid _ := hx3
          have hsz : (w2.setCell ⟨wr.heap.size, 0, none⟩ (.int .u8 6)).heap.size = w2.heap.size := by simp
          have hwsz : w.heap.size ≤ w2.heap.size := by omega
          unfold evOwn at hrow3
          clear hx3 hts hsz
          go_wp2_with (at_builtin; refine wpList_append_own _ rfl _ _ 30 rfl w.heap.size 29 i0 _ 4 32 Try.underlying30 hi hz0 hz1 hz2 rfl (by decide) _ _ _ rfl (hrow3.alloc _) ⟨w2.heap.size, 0, none⟩ 1 1 (EvD.cells ⟨6, 2, 0, 0⟩) rfl rfl hnew (by simp [EvD.cells, Value.oneCell']) (by unfold maxLen; omega) (by omega) (by simp; omega) ?_)
          intro v' w4 hown' hgrow _
          have hrb : ∀ q, u4.ownBlock = some q → w.heap.size ≤ q := fun q hq => (hrow3.lt q hq).1
          have tg : Touch (w2.setCell ⟨wr.heap.size, 0, none⟩ (.int .u8 6)) w4 u4.ownBlock.toList := ((Touch.refl _ _).alloc _).grown hgrow (fun q hq => .inl (by simp [hq]))
          have HARM : Hid (Arm w b (i + 1) v' w4 (es ++ [⟨6, 2, 0, 0⟩]) Gs ch3) := by
            refine ⟨by simp; omega, HTOLD.out, ?_, HLOG3.out.keep tg (fun x hx hs => ?_), HT3.out.trans tg (fun x hx => .inr (hrb x (by simpa using hx)))⟩
            · show w4.ownsRow _ _ _ _ _ _
              rw [List.length_append, List.flatMap_append]
              simpa using hown'
            · have hq : u4.ownBlock = some x := by simpa using hs
              rcases hrow3.2 with ⟨e, _⟩ | ⟨g', cap', cur, e, _, hg', _⟩
              · rw [e] at hq; simp [Value.ownBlock] at hq
              · rw [e] at hq
                obtain rfl : g' = x := by simpa [Value.ownBlock] using hq
                exact HLOG3.out.untypedA (T := 29) (by decide) (by decide) g' hx _ _ hg'
          clear hown' hgrow hrow3 hnew tg hrb
          go_wp2
          go_roundw
          case rel => exact ⟨i + 1, _, _, _, by go_num, by omega, by omega, HARM.out⟩
          case measure => simp [intOf]; omega
        · have hze : (z == 0) = false := by simpa using hz
          have hG := HERR.out hz
          have HARM : Hid (Arm w b (i + 1) u4 (w2.setCell ⟨wr.heap.size, 0, none⟩ (.int .u8 6)) es Fs ch3) := ⟨by have := HA.out.len; omega, HA.out.told, hrow3, by rw [← hG]; exact HLOG3.out, HT3.out⟩
          clear hz hG hrow3 hx3
          go_wp2
          go_roundw
          case rel => exact ⟨i + 1, _, _, _, by go_num, by omega, by omega, HARM.out⟩
          case measure => simp [intOf]; omega
      · have hint := vint_ok a1 (by omega) (by omega) (wr.alloc (.cells #[.int .u8 0, .int .i64 2, .int .i64 0, .int .u64 0] 29))
        have hvw := byte_val a1 ⟨hb0, hb1⟩
        generalize hvv : ((ofB (floatOfInt .f64 a1) : Nat) : Int) = v at *
        clear hvv
        have p0 : (a0 % 6 == 0) = false := by simpa using hm0
        have p1 : (a0 % 6 == 1) = false := by simpa using hm1
        have p2 : (a0 % 6 == 2) = false := by simpa using hm2
        go_wp2_with fail
        refine hint.mono ?_
        rintro e w2 ⟨rfl, t2⟩
        clear hint
        go_wp2_with fail
        have hs2 := t2.size
        rw [World.size_alloc] at hs2
        have hx2 : w2.heap[wr.heap.size]? = some (.cells #[.int .u8 0, .int .i64 2, .int .i64 0, .int .u64 0] 29 (0, 0)) := (t2.block _ (lt_of_heap HX0.out) (by simp)).trans HX0.out
        have c0 : w2.cell? ⟨wr.heap.size, 0, none⟩ = some (.int .u8 0) := by simp [World.cell?, hx2]
        have c2 : w2.cell? ⟨wr.heap.size, 2, none⟩ = some (.int .i64 0) := by simp [World.cell?, hx2]
        have c3 : w2.cell? ⟨wr.heap.size, 3, none⟩ = some (.int .u64 0) := by simp [World.cell?, hx2]
        have z0 : w2.frozen? ⟨wr.heap.size, 0, none⟩ = false := by simp [World.frozen?, hx2]
        have z2 : w2.frozen? ⟨wr.heap.size, 2, none⟩ = false := by simp [World.frozen?, hx2]
        have z3 : w2.frozen? ⟨wr.heap.size, 3, none⟩ = false := by simp [World.frozen?, hx2]
        have g0 := (t2.cell (p := ⟨g, off + i * 2, none⟩) (by simp; omega) (by simp)).trans e0
        have hne : g ≠ wr.heap.size := by omega
        have hw0 : IntKind.i64.wrap a0 = a0 := by rw [IntKind.wrap_i64] <;> omega
        have hw12 : IntKind.i64.wrap (a0 % 12) = a0 % 12 := by rw [IntKind.wrap_i64] <;> omega
        have ht12 : a0.tmod 12 = a0 % 12 := Int.tmod_eq_emod_of_nonneg ha0
        have hkp : ∀ w', Touch w2 w' [wr.heap.size] → w'.cell? ⟨g, off + i * 2, none⟩ = some (.int .u8 a0) := fun w' tt => (tt.cell (p := ⟨g, off + i * 2, none⟩) (by simp; omega) (by simpa using hne)).trans g0
        have tD : Touch w2 w2.drew [wr.heap.size] := (Touch.refl _ _).drew
        have tA : Touch w2 (w2.drew.setCell ⟨wr.heap.size, 0, none⟩ (.int .u8 3)) [wr.heap.size] := tD.setCell (.inl (by simp)) _
        have tB : Touch w2 ((w2.drew.setCell ⟨wr.heap.size, 0, none⟩ (.int .u8 3)).setCell ⟨wr.heap.size, 2, none⟩ (.int .i64 (a0 % 12))) [wr.heap.size] := tA.setCell (.inl (by simp)) _
        have tC : Touch w2 (((w2.drew.setCell ⟨wr.heap.size, 0, none⟩ (.int .u8 3)).setCell ⟨wr.heap.size, 2, none⟩ (.int .i64 (a0 % 12))).setCell ⟨wr.heap.size, 3, none⟩ (.int .u64 v)) [wr.heap.size] := tB.setCell (.inl (by simp)) _
        have hx3 : (((w2.drew.setCell ⟨wr.heap.size, 0, none⟩ (.int .u8 3)).setCell ⟨wr.heap.size, 2, none⟩ (.int .i64 (a0 % 12))).setCell ⟨wr.heap.size, 3, none⟩ (.int .u64 v)).heap[wr.heap.size]? = some (EvD.obj ⟨3, 2, a0 % 12, v⟩) := by
          have q1 := heap_setCell_same w2.drew wr.heap.size 0 _ _ (.int .u8 3) hx2
          have q2 := heap_setCell_same _ wr.heap.size 2 _ _ (.int .i64 (a0 % 12)) q1
          have q3 := heap_setCell_same _ wr.heap.size 3 _ _ (.int .u64 v) q2
          exact q3
        have HX3 : Hid _ := hx3
        have HTC : Hid _ := tC
        clear hx3
        refine wp_region_held_drew (S := fun w' => w'.cell? ⟨g, off + i * 2, none⟩ = some (.int .u8 a0)) (by kernel_rfl) (hkp _ tD) (fun hHeld => ?_)
        refine wpAnyH_take (i := 0) (v := (.slice (some ⟨g, off, none⟩) N cap)) rfl (by kernel_rfl) (by kernel_rfl) (by kernel_rfl) (fun _ _ _ h => h) (Or.inl ⟨by rfl, ?_⟩) hHeld ?_
        · intro w' hSw
          try simp only [Act.put, List.getElem_toArray, List.getElem_cons_succ, List.getElem_cons_zero, List.setIfInBounds_toArray, List.set_cons_zero, List.set_cons_succ]
          (have q := hSw; go_simp)
        try simp only [Act.put, List.getElem_toArray, List.getElem_cons_succ, List.getElem_cons_zero, List.setIfInBounds_toArray, List.set_cons_zero, List.set_cons_succ]
        refine wpAnyH_take (i := 1) (v := (.int .i64 (i : Int))) rfl (by kernel_rfl) (by kernel_rfl) (by kernel_rfl) (fun _ _ _ h => h) (Or.inl ⟨by rfl, ?_⟩) hHeld ?_
        · intro w' hSw
          try simp only [Act.put, List.getElem_toArray, List.getElem_cons_succ, List.getElem_cons_zero, List.setIfInBounds_toArray, List.set_cons_zero, List.set_cons_succ]
          (have q := hSw; go_simp)
        try simp only [Act.put, List.getElem_toArray, List.getElem_cons_succ, List.getElem_cons_zero, List.setIfInBounds_toArray, List.set_cons_zero, List.set_cons_succ]
        refine wpAnyH_take (i := 2) (v := (.pointer (some ⟨g, off + i * 2, none⟩))) rfl (by kernel_rfl) (by kernel_rfl) (by kernel_rfl) (fun _ _ _ h => h) (Or.inl ⟨by rfl, ?_⟩) hHeld ?_
        · intro w' hSw
          try simp only [Act.put, List.getElem_toArray, List.getElem_cons_succ, List.getElem_cons_zero, List.setIfInBounds_toArray, List.set_cons_zero, List.set_cons_succ]
          (have q := hSw; go_simp)
        try simp only [Act.put, List.getElem_toArray, List.getElem_cons_succ, List.getElem_cons_zero, List.setIfInBounds_toArray, List.set_cons_zero, List.set_cons_succ]
        refine wpAnyH_take (i := 3) (v := (.pointer (some ⟨g, off + i * 2, none⟩))) rfl (by kernel_rfl) (by kernel_rfl) (by kernel_rfl) (fun _ _ _ h => h) (Or.inl ⟨by rfl, ?_⟩) hHeld ?_
        · intro w' hSw
          try simp only [Act.put, List.getElem_toArray, List.getElem_cons_succ, List.getElem_cons_zero, List.setIfInBounds_toArray, List.set_cons_zero, List.set_cons_succ]
          (have q := hSw; go_simp)
        try simp only [Act.put, List.getElem_toArray, List.getElem_cons_succ, List.getElem_cons_zero, List.setIfInBounds_toArray, List.set_cons_zero, List.set_cons_succ]
        refine wpAnyH_take (i := 4) (v := (.int .u8 a0)) rfl (by kernel_rfl) (by kernel_rfl) (by kernel_rfl) (fun _ _ _ h => h) (Or.inl ⟨by rfl, ?_⟩) hHeld ?_
        · intro w' hSw
          try simp only [Act.put, List.getElem_toArray, List.getElem_cons_succ, List.getElem_cons_zero, List.setIfInBounds_toArray, List.set_cons_zero, List.set_cons_succ]
          (have q := hSw; go_simp)
        try simp only [Act.put, List.getElem_toArray, List.getElem_cons_succ, List.getElem_cons_zero, List.setIfInBounds_toArray, List.set_cons_zero, List.set_cons_succ]
        refine wpAnyH_take (i := 5) (v := (.int .i64 a0)) rfl (by kernel_rfl) (by kernel_rfl) (by kernel_rfl) (fun _ _ _ h => h) (Or.inl ⟨by rfl, ?_⟩) hHeld ?_
        · intro w' hSw
          try simp only [Act.put, List.getElem_toArray, List.getElem_cons_succ, List.getElem_cons_zero, List.setIfInBounds_toArray, List.set_cons_zero, List.set_cons_succ]
          (have q := hSw; go_simp)
        try simp only [Act.put, List.getElem_toArray, List.getElem_cons_succ, List.getElem_cons_zero, List.setIfInBounds_toArray, List.set_cons_zero, List.set_cons_succ]
        refine wpAnyH_take (i := 6) (v := (.int .i64 (a0 % 12))) rfl (by kernel_rfl) (by kernel_rfl) (by kernel_rfl) (fun _ _ _ h => h) (Or.inl ⟨by rfl, ?_⟩) hHeld ?_
        · intro w' hSw
          try simp only [Act.put, List.getElem_toArray, List.getElem_cons_succ, List.getElem_cons_zero, List.setIfInBounds_toArray, List.set_cons_zero, List.set_cons_succ]
          (have q := hSw; go_simp)
        try simp only [Act.put, List.getElem_toArray, List.getElem_cons_succ, List.getElem_cons_zero, List.setIfInBounds_toArray, List.set_cons_zero, List.set_cons_succ]
        refine wpAnyH_take (i := 7) (v := (.int .u64 v)) rfl (by kernel_rfl) (by kernel_rfl) (by kernel_rfl) (fun _ _ _ h => h) (Or.inl ⟨by rfl, ?_⟩) hHeld ?_
        · intro w' hSw
          try simp only [Act.put, List.getElem_toArray, List.getElem_cons_succ, List.getElem_cons_zero, List.setIfInBounds_toArray, List.set_cons_zero, List.set_cons_succ]
          (have q := hSw; go_simp)
        try simp only [Act.put, List.getElem_toArray, List.getElem_cons_succ, List.getElem_cons_zero, List.setIfInBounds_toArray, List.set_cons_zero, List.set_cons_succ]
        refine wpAnyH_take (i := 8) (v := (.pointer (some ⟨wr.heap.size, 0, none⟩))) rfl (by kernel_rfl) (by kernel_rfl) (by kernel_rfl) (fun _ _ _ h => h) (Or.inl ⟨by rfl, ?_⟩) hHeld ?_
        · intro w' hSw
          try simp only [Act.put, List.getElem_toArray, List.getElem_cons_succ, List.getElem_cons_zero, List.setIfInBounds_toArray, List.set_cons_zero, List.set_cons_succ]
          (have q := hSw; go_simp)
        try simp only [Act.put, List.getElem_toArray, List.getElem_cons_succ, List.getElem_cons_zero, List.setIfInBounds_toArray, List.set_cons_zero, List.set_cons_succ]
        clear hHeld
        refine wpAnyH_ready (rs := [9]) (by kernel_rfl) (by simp) (AllReadyH.cons rfl (fun K hK => ?_) AllReadyH.nil)
        rw [if_pos (by rfl)]
        go_simp
        refine hK.out _ _ (hkp _ tA) (fun hHeld => ?_)
        clear hK
        try simp only [Act.put, List.getElem_toArray, List.getElem_cons_succ, List.getElem_cons_zero, List.setIfInBounds_toArray, List.set_cons_zero, List.set_cons_succ]
        refine wpAnyH_take (i := 10) (v := (.pointer (some ⟨wr.heap.size, 2, none⟩))) rfl (by kernel_rfl) (by kernel_rfl) (by kernel_rfl) (fun _ _ _ h => h) (Or.inl ⟨by rfl, ?_⟩) hHeld ?_
        · intro w' hSw
          try simp only [Act.put, List.getElem_toArray, List.getElem_cons_succ, List.getElem_cons_zero, List.setIfInBounds_toArray, List.set_cons_zero, List.set_cons_succ]
          (have q := hSw; go_simp)
        try simp only [Act.put, List.getElem_toArray, List.getElem_cons_succ, List.getElem_cons_zero, List.setIfInBounds_toArray, List.set_cons_zero, List.set_cons_succ]
        clear hHeld
        refine wpAnyH_ready (rs := [11]) (by kernel_rfl) (by simp) (AllReadyH.cons rfl (fun K hK => ?_) AllReadyH.nil)
        rw [if_pos (by rfl)]
        go_simp
        refine hK.out _ _ (hkp _ tB) (fun hHeld => ?_)
        clear hK
        try simp only [Act.put, List.getElem_toArray, List.getElem_cons_succ, List.getElem_cons_zero, List.setIfInBounds_toArray, List.set_cons_zero, List.set_cons_succ]
        refine wpAnyH_take (i := 12) (v := (.pointer (some ⟨wr.heap.size, 3, none⟩))) rfl (by kernel_rfl) (by kernel_rfl) (by kernel_rfl) (fun _ _ _ h => h) (Or.inl ⟨by rfl, ?_⟩) hHeld ?_
        · intro w' hSw
          try simp only [Act.put, List.getElem_toArray, List.getElem_cons_succ, List.getElem_cons_zero, List.setIfInBounds_toArray, List.set_cons_zero, List.set_cons_succ]
          (have q := hSw; go_simp)
        try simp only [Act.put, List.getElem_toArray, List.getElem_cons_succ, List.getElem_cons_zero, List.setIfInBounds_toArray, List.set_cons_zero, List.set_cons_succ]
        clear hHeld
        refine wpAnyH_ready (rs := [13]) (by kernel_rfl) (by simp) (AllReadyH.cons rfl (fun K hK => ?_) AllReadyH.nil)
        rw [if_pos (by rfl)]
        go_simp
        refine hK.out _ _ (hkp _ tC) (fun hHeld => ?_)
        clear hK
        try simp only [Act.put, List.getElem_toArray, List.getElem_cons_succ, List.getElem_cons_zero, List.setIfInBounds_toArray, List.set_cons_zero, List.set_cons_succ]
        clear hHeld
        refine wpAnyH_done (by kernel_rfl) ?_ _
        have h12 : 0 ≤ a0 % 12 ∧ a0 % 12 < 12 := by omega
        clear hkp tD tA tB tC c0 c2 c3 z0 z2 z3 g0 hne hw0 hw12 ht12 hx2
        have HT2 : Hid _ := t2
        clear t2
        have HX3' : Hid (((((w2.setCell ⟨wr.heap.size, 0, none⟩ (.int .u8 3)).setCell ⟨wr.heap.size, 2, none⟩ (.int .i64 (a0 % 12))).setCell ⟨wr.heap.size, 3, none⟩ (.int .u64 v)).drew).heap[wr.heap.size]? = some (EvD.obj ⟨3, 2, a0 % 12, v⟩)) := HX3.out
        have HTC' : Hid (Touch w2 ((((w2.setCell ⟨wr.heap.size, 0, none⟩ (.int .u8 3)).setCell ⟨wr.heap.size, 2, none⟩ (.int .i64 (a0 % 12))).setCell ⟨wr.heap.size, 3, none⟩ (.int .u64 v)).drew) [wr.heap.size]) := HTC.out
        clear HX3 HTC
        have hlog3 : PLog w.heap.size ((((w2.setCell ⟨wr.heap.size, 0, none⟩ (.int .u8 3)).setCell ⟨wr.heap.size, 2, none⟩ (.int .i64 (a0 % 12))).setCell ⟨wr.heap.size, 3, none⟩ (.int .u64 v)).drew) b ch2 Fs := (hlog.touch HT2.out).keep HTC'.out (fun x hx hs => by simp at hs; have := (HA.out.log.foot_lt x hx).2; omega)
        have HROW3 : Hid (evOwn ((((w2.setCell ⟨wr.heap.size, 0, none⟩ (.int .u8 3)).setCell ⟨wr.heap.size, 2, none⟩ (.int .i64 (a0 % 12))).setCell ⟨wr.heap.size, 3, none⟩ (.int .u64 v)).drew) w.heap.size u4 es) := ownsRow_touch (ownsRow_touch HROW.out HT2.out (by simp)) HTC'.out (fun q hq hs => by simp at hs; have := (HA.out.row.lt q hq).2; omega)
        have HT3 : Hid (Touch w ((((w2.setCell ⟨wr.heap.size, 0, none⟩ (.int .u8 3)).setCell ⟨wr.heap.size, 2, none⟩ (.int .i64 (a0 % 12))).setCell ⟨wr.heap.size, 3, none⟩ (.int .u64 v)).drew) []) := ((HA.out.t.trans HT1.out (by simp)).trans HT2.out (by simp)).trans HTC'.out (fun x hx => .inr (by simp at hx; have := HA.out.t.size; omega))
        have hsz3 : wr.heap.size < ((((w2.setCell ⟨wr.heap.size, 0, none⟩ (.int .u8 3)).setCell ⟨wr.heap.size, 2, none⟩ (.int .i64 (a0 % 12))).setCell ⟨wr.heap.size, 3, none⟩ (.int .u64 v)).drew).heap.size := lt_of_heap HX3'.out
        clear HTC' HT2 hlog
        generalize (((w2.setCell ⟨wr.heap.size, 0, none⟩ (.int .u8 3)).setCell ⟨wr.heap.size, 2, none⟩ (.int .i64 (a0 % 12))).setCell ⟨wr.heap.size, 3, none⟩ (.int .u64 v)).drew = w3 at *
        have k0 : w3.cell? ⟨wr.heap.size, 0, none⟩ = some (.int .u8 3) := by simp [World.cell?, HX3'.out, EvD.obj]
        have k2 : w3.cell? ⟨wr.heap.size, 2, none⟩ = some (.int .i64 (a0 % 12)) := by simp [World.cell?, HX3'.out, EvD.obj]
        have k3 : w3.cell? ⟨wr.heap.size, 3, none⟩ = some (.int .u64 v) := by simp [World.cell?, HX3'.out, EvD.obj]
        have hop := put_any hlog3 (a0 % 12) v (by omega) hvw
        have HERR : Hid ((putS Fs (a0 % 12) v).1 ≠ 0 → (putS Fs (a0 % 12) v).2 = Fs) := fun h => put_err h
        have HNT : Hid (noteS Fs ⟨3, 2, a0 % 12, v⟩ = putS Fs (a0 % 12) v) := by show _ = _; unfold noteS; simp
        have hFne : Fs ≠ [] := fun e => by have h1 := HA.out.log.pos; have h2 := HA.out.log.len; rw [e] at h2; rw [h2] at h1; simp at h1
        have HRT : Hid ((putS Fs (a0 % 12) v).1 = 0 → rightB v = true ∧ 0 ≤ a0 % 12 ∧ a0 % 12 < 12) := fun h => put_right hFne h
        have HLOG : Hid _ := hlog3
        clear hlog3 hFne
        generalize a0 % 12 = tv at *
        generalize putS Fs tv v = nr at *
        obtain ⟨z, Gs⟩ := nr
        simp only at HERR HRT
        go_wp2_with fail
        refine hop.mono ?_
        rintro e w4 ⟨ch3, rfl, p4, t4, f4⟩
        simp only at p4 ⊢
        have hx4 : w4.heap[wr.heap.size]? = some (EvD.obj ⟨3, 2, tv, v⟩) := (t4.block _ hsz3 (fun h => by have := (HA.out.log.foot_lt _ h).2; omega)).trans HX3'.out
        have c0 : w4.cell? ⟨wr.heap.size, 0, none⟩ = some (.int .u8 3) := by simp [World.cell?, hx4, EvD.obj]
        have c1 : w4.cell? ⟨wr.heap.size, 1, none⟩ = some (.int .i64 2) := by simp [World.cell?, hx4, EvD.obj]
        have c2 : w4.cell? ⟨wr.heap.size, 2, none⟩ = some (.int .i64 tv) := by simp [World.cell?, hx4, EvD.obj]
        have c3 : w4.cell? ⟨wr.heap.size, 3, none⟩ = some (.int .u64 v) := by simp [World.cell?, hx4, EvD.obj]
        have hrow4 : evOwn w4 w.heap.size u4 es := HROW3.out.log HLOG.out t4
        have HLOG4 : Hid _ := p4
        have HT4 : Hid (Touch w w4 []) := HT3.out.trans t4 (fun x hx => .inr (HA.out.log.foot_lt x hx).1)
        have hwsz := HT4.out.size
        clear hop p4 t4 f4 k0 k2 k3 hx4
        by_cases hz : z = 0
        · subst hz
          obtain ⟨hrv, htv0, htv1⟩ := HRT.out rfl
          have HTOLD : Hid (Told (es ++ [⟨3, 2, tv, v⟩]) Gs) := HA.out.told.more ⟨3, 2, tv, v⟩ rfl (by show (2 : Int) ≤ 3 ∧ (3 : Int) ≤ 6; decide) (by unfold namedS; simp [hrv, htv0, htv1]) HNT.out ⟨by show (0 : Int) ≤ 3 ∧ (3 : Int) ≤ 255; decide, by show W64 2; decide, by show W64 tv; omega, hvw⟩
          have hnew : ∀ j u, (EvD.cells ⟨3, 2, tv, v⟩)[j]? = some u → (w4.alloc (EvD.obj ⟨3, 2, tv, v⟩)).cell? (Addr.add ⟨w4.heap.size, 0, none⟩ j) = some u := by
            have := World.news_of_block (cs := #[.int .u8 3, .int .i64 2, .int .i64 tv, .int .u64 v]) (t := 29) (fr := (0, 0)) (heap_alloc_new w4 (EvD.obj ⟨3, 2, tv, v⟩))
            simpa [EvD.cells] using this
          have hel := HA.out.len
          unfold evOwn at hrow4
          go_wp2_with (at_builtin; refine wpList_append_own _ rfl _ _ 30 rfl w.heap.size 29 i0 _ 4 32 Try.underlying30 hi hz0 hz1 hz2 rfl (by decide) _ _ _ rfl (hrow4.alloc _) ⟨w4.heap.size, 0, none⟩ 1 1 (EvD.cells ⟨3, 2, tv, v⟩) rfl rfl hnew (by simp [EvD.cells, Value.oneCell']) (by unfold maxLen; omega) (by omega) (by simp; omega) ?_)
          intro v' w5 hown' hgrow _
          have hrb : ∀ q, u4.ownBlock = some q → w.heap.size ≤ q := fun q hq => (hrow4.lt q hq).1
          have tg : Touch w4 w5 u4.ownBlock.toList := ((Touch.refl _ _).alloc _).grown hgrow (fun q hq => .inl (by simp [hq]))
          have HARM : Hid (Arm w b (i + 1) v' w5 (es ++ [⟨3, 2, tv, v⟩]) Gs ch3) := by
            refine ⟨by simp; omega, HTOLD.out, ?_, HLOG4.out.keep tg (fun x hx hs => ?_), HT4.out.trans tg (fun x hx => .inr (hrb x (by simpa using hx)))⟩
            · show w5.ownsRow _ _ _ _ _ _
              rw [List.length_append, List.flatMap_append]
              simpa using hown'
            · have hq : u4.ownBlock = some x := by simpa using hs
              rcases hrow4.2 with ⟨e, _⟩ | ⟨g', cap', cur, e, _, hg', _⟩
              · rw [e] at hq; simp [Value.ownBlock] at hq
              · rw [e] at hq
                obtain rfl : g' = x := by simpa [Value.ownBlock] using hq
                exact HLOG4.out.untypedA (T := 29) (by decide) (by decide) g' hx _ _ hg'
          clear hown' hgrow hrow4 hnew tg hrb
          go_wp2
          go_roundw
          case rel => exact ⟨i + 1, _, _, _, by go_num, by omega, by omega, HARM.out⟩
          case measure => simp [intOf]; omega
        · have hze : (z == 0) = false := by simpa using hz
          have hG := HERR.out hz
          have HARM : Hid (Arm w b (i + 1) u4 w4 es Fs ch3) := ⟨by have := HA.out.len; omega, HA.out.told, hrow4, by rw [← hG]; exact HLOG4.out, HT4.out⟩
          clear hz hG hrow4
          go_wp2
          go_roundw
          case rel => exact ⟨i + 1, _, _, _, by go_num, by omega, by omega, HARM.out⟩
          case measure => simp [intOf]; omega
    · have hstop : ¬ ((i : Int) < N) ∨ ((i : Int) < N ∧ ¬ ((i : Int) < 60)) := by omega
      have hA := HA.out
      obtain ⟨ao2, cap2, hv4, hcs⟩ := ev_form hA.row
      clear hcs
      have hes : es.length ≤ 61 := by have := hA.len; omega
      have hrowE : EvRow wr u4 es := srow_of_owns (cells := EvD.cells) (n := 4) (fun _ => rfl) hA.row
      subst hv4
      have hwr := writes_any hrowE (by omega) hA.told.wf 2
      rw [hA.told.cut, hA.told.note] at hwr
      have HROWE : Hid (EvRow wr (.slice ao2 es.length cap2) es) := hrowE
      have hle := allK_le (getF Fs) 12
      have HALL : Hid (∀ W, Touch wr W [] → Calls Try.prog 11 #[ptr b] W (AllE W (allK (getF Fs) 12))) := fun W t => all_any (hA.log.touch t)
      have HRI : Hid (∀ W, Touch wr W [] → Calls Try.prog 12 #[.slice ao2 es.length cap2] W fun e w' => e = .returned (.bool true) ∧ Touch W w' []) := fun W t => by
        have := right_of (SRow.keep HROWE.out t (by simp)) (by omega) hA.told.wf
        rw [hA.told.right (by omega)] at this
        exact this
      have HST : Hid (∀ W, Touch wr W [] → Calls Try.prog 13 #[.slice ao2 es.length cap2, .int .i64 2] W fun e w' => e = .returned (.int .u8 1) ∧ Touch W w' []) := fun W t => by
        have := stateOf_any (SRow.keep HROWE.out t (by simp)) (by omega) hA.told.wf 2 (by decide)
        rw [hA.told.state] at this
        exact this
      have HT : Hid _ := hA.t
      generalize allK (getF Fs) 12 = ls at *
      clear hA HA hlt hrowE HROWE
      generalize es.length = E at *
      rcases hstop with hst | ⟨hst, hst2⟩
      all_goals
        go_wp2_with fail
        refine hwr.mono ?_
        rintro e w2 ⟨v2, B2, rfl, hr2, hB2, t2⟩
        have hal := HALL.out w2 t2
        have HR2 : Hid (PairRow w2 v2 ls) := srow_of_owns (cells := pairC) (n := 2) (fun _ => rfl) hr2
        obtain ⟨ao3, cap3, e3⟩ := owns_form hr2
        subst e3
        clear hwr hr2
        go_wp2_with fail
        refine hal.mono ?_
        rintro e w3 ⟨v3, B3, rfl, hr3, hB3, t3⟩
        have HR3 : Hid (PairRow w3 v3 ls) := srow_of_owns (cells := pairC) (n := 2) (fun _ => rfl) hr3
        obtain ⟨ao4, cap4, e4⟩ := owns_form hr3
        subst e4
        have HR2' : Hid (PairRow w3 (.slice ao3 ls.length cap3) ls) := SRow.keep HR2.out t3 (by simp)
        have HT3 : Hid _ := t2.trans t3 (by simp)
        obtain ⟨X, hX⟩ : ∃ X, X = ls.length := ⟨_, rfl⟩
        have HX : Hid _ := hX
        rw [← hX] at hle ⊢
        clear hal hr3 t2 t3 HR2 hX HALL
        go_wp2_with fail
        go_loopw [12] (fun vi wx => ∃ j : Nat, vi = .int .i64 j ∧ j ≤ X ∧ Touch w3 wx []) (fun vi _ => X - (intOf vi).toNat)
        case atStart => exact ⟨0, rfl, Nat.zero_le _, Touch.refl _ _⟩
        case round =>
          obtain ⟨j, rfl, hj, t⟩ := hrel
          by_cases hjt : j < X
          · have h1 : (j : Int) < X := by omega
            have h0 : (0 : Int) ≤ j := by omega
            have hjl : j < ls.length := by rw [← HX.out]; exact hjt
            obtain ⟨ga, oa, rfl, hga, a0, a1⟩ := PairRow.two HR2'.out j hjl
            obtain ⟨gb, ob, rfl, hgb, b0, b1⟩ := PairRow.two HR3.out j hjl
            obtain ⟨q, hq⟩ : ∃ q, q = ls[j] := ⟨_, rfl⟩
            rw [← hq] at a0 a1 b0 b1
            obtain ⟨z0, z1⟩ := q
            simp only at a0 a1 b0 b1
            have x0 := (t.cell (p := ⟨ga, oa + j * 2, none⟩) hga (by simp)).trans a0
            have x1 := (t.cell (p := ⟨ga, oa + j * 2 + 1, none⟩) hga (by simp)).trans a1
            have y0 := (t.cell (p := ⟨gb, ob + j * 2, none⟩) hgb (by simp)).trans b0
            have y1 := (t.cell (p := ⟨gb, ob + j * 2 + 1, none⟩) hgb (by simp)).trans b1
            clear hq a0 a1 b0 b1
            go_wp2_with fail
            go_quiet (fail)
            go_wp2
            go_roundw
            case rel => exact ⟨j + 1, by go_num, by omega, t.drewN _⟩
            case measure => simp [intOf]; omega
          · obtain rfl : j = X := by omega
            have hri := HRI.out _ (HT3.out.trans t (by simp))
            clear HRI HR2' HR3
            go_wp2_with fail
            refine hri.mono ?_
            rintro e w5 ⟨rfl, t5⟩
            have t05 := (HT3.out.trans t (by simp)).trans t5 (by simp)
            have hst5 := HST.out w5 t05
            clear hri
            go_wp2_with fail
            refine hst5.mono ?_
            rintro e w6 ⟨rfl, t6⟩
            clear hst5
            go_wp2
            go_ret
            exact ⟨by simp, HT.out.trans (t05.trans t6 (by simp)) (by simp)⟩

end Go.Proofs.Ytdnbfgejahlbpaa

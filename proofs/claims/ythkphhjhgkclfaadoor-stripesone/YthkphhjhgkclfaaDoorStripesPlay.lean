/-
  Deeds one behind the other, as plain data; versions never fall; play: deeds on both tables.
-/
import Derived.Test.YthkphhjhgkclfaaDoorStripesLive
namespace Go.Proofs.YthkphhjhgkclfaaDoor
set_option linter.unusedVariables false
set_option linter.unusedSimpArgs false
open Go.RowKit

theorem deed_good {now : Int} {ws : List Int} (G : Good now ws) (d : DeedD) (hv : 0 ≤ d.v) : Good (deedS now ws d).1 (deedS now ws d).2 := by
  unfold deedS
  split
  · exact G.lock _ _
  · split
    · exact G.unlock _ _ hv
    · split
      · exact G.restore _ _
      · split
        · exact G.drop _
        · split
          · unfold tickS
            simp only
            split
            · exact G.tick ‹_›
            · exact G
          · exact G

theorem deed_len (now : Int) (ws : List Int) (d : DeedD) : (deedS now ws d).2.length = ws.length := by
  unfold deedS lockS unlockS restoreS dropS
  repeat' split
  all_goals simp [putS_len]

/-- A stripe's version. -/
def verP (ws : List Int) (q : Nat) : Int := (readP (ws.getD q 0)).2.1

theorem says_ver {now : Int} {ws : List Int} (q : Nat) (hq : q < ws.length) : (saysP ws q).2.1 = verP ws q := by
  unfold saysP
  rw [if_pos (by unfold inS; omega)]
  simp [wordAt, verP]

theorem ver_le {now : Int} {ws : List Int} (G : Good now ws) (q : Nat) (hq : q < ws.length) : verP ws q ≤ now := by
  unfold verP
  rw [List.getD_eq_getElem?_getD, List.getElem?_eq_getElem hq]
  exact (G.word _ (List.getElem_mem hq)).2.2

theorem getD_set (ws : List Int) (i q : Nat) (x : Int) (hi : i < ws.length) : (ws.set i x).getD q 0 = if i = q then x else ws.getD q 0 := by
  rw [List.getD_eq_getElem?_getD, List.getElem?_set, List.getD_eq_getElem?_getD]
  by_cases h : i = q
  · subst h; simp [hi]
  · simp [h]

theorem put_rise {now : Int} {ws : List Int} {s : Int} {r : Int × Int} (hs : inS ws s) (hr : r.2 = 0 → (readP (wordAt ws s)).2.1 ≤ (readP r.1).2.1) (q : Nat) : verP ws q ≤ verP (putS ws s r).2 q := by
  unfold putS
  split
  · unfold verP
    simp only
    rw [getD_set ws s.toNat q r.1 (by unfold inS at hs; omega)]
    split
    · rename_i h0 h1
      subst h1
      exact hr h0
    · exact Int.le_refl _
  · exact Int.le_refl _

theorem deed_rise {now : Int} {ws : List Int} (G : Good now ws) (d : DeedD) (hv : 0 ≤ d.v) (q : Nat) (hq : q < ws.length) : verP ws q ≤ verP (deedS now ws d).2 q := by
  have hc := G.c1
  unfold deedS
  split
  · unfold lockS
    split
    · rename_i hs
      refine put_rise (now := now) hs (fun h0 => ?_) q
      obtain ⟨ho, _, _, e⟩ := lockP_word (G.at hs).1 h0
      rw [e, readP_held' ho (readP_v (G.at hs).1.1) (by have := (G.at hs).2.2; omega)]
      exact Int.le_refl _
    · exact Int.le_refl _
  · split
    · unfold unlockS
      split
      · split
        · exact Int.le_refl _
        · rename_i hs hl
          refine put_rise (now := now) hs (fun h0 => ?_) q
          obtain ⟨_, _, h3, _, h5, e⟩ := unlockP_word h0
          rw [e, readP_free' hv h3]
          exact h5
      · exact Int.le_refl _
    · split
      · unfold restoreS
        split
        · rename_i hs
          refine put_rise (now := now) hs (fun h0 => ?_) q
          obtain ⟨_, _, _, e⟩ := restoreP_word h0
          rw [e, readP_free' (readP_v (G.at hs).1.1) (by have := (G.at hs).2.2; omega)]
          exact Int.le_refl _
        · exact Int.le_refl _
      · split
        · unfold dropS verP
          simp only
          rw [List.getD_eq_getElem?_getD, List.getD_eq_getElem?_getD, List.getElem?_map, List.getElem?_eq_getElem hq]
          simp only [Option.getD_some, Option.map_some]
          have hf := G.word _ (List.getElem_mem hq)
          unfold freed
          split
          · rw [readP_free' (readP_v hf.1.1) (by have := hf.2.2; omega)]
            exact Int.le_refl _
          · exact Int.le_refl _
        · split <;> exact Int.le_refl _

theorem deed_now {now : Int} {ws : List Int} (G : Good now ws) (d : DeedD) : now ≤ (deedS now ws d).1 := by
  unfold deedS
  repeat' split
  all_goals try exact Int.le_refl _
  unfold tickS nextP
  simp only
  repeat' split
  all_goals (try simp only at *)
  all_goals (try omega)

/-- Deeds, one behind the other. -/
def runD (m : Nat) (l : List DeedD) : Int × List Int := l.foldl (fun st d => deedS st.1 st.2 d) (0, List.replicate m 0)
theorem runD_nil (m : Nat) : runD m [] = (0, List.replicate m 0) := rfl
theorem runD_next {m : Nat} {l : List DeedD} {k : Nat} (hk : k < l.length) : runD m (l.take (k + 1)) = deedS (runD m (l.take k)).1 (runD m (l.take k)).2 l[k] := by
  unfold runD
  rw [List.take_succ_eq_append_getElem hk, List.foldl_append]
  rfl
theorem runD_len (m : Nat) (l : List DeedD) (k : Nat) : (runD m (l.take k)).2.length = m := by
  induction k with
  | zero => simp [runD]
  | succ k ih =>
    by_cases hk : k < l.length
    · rw [runD_next hk, deed_len, ih]
    · rw [List.take_of_length_le (by omega)] at ih ⊢
      exact ih

/-- Both tables, side by side. -/
structure Pair (B : Nat) (w : World) (b rb : Nat) (vw : Value) (st : Int × List Int) : Prop where
  t : TObj w b st.1 st.2
  r : RObj B w rb vw st.1 st.2
  g : Good st.1 st.2
  hb : B ≤ b
  a1 : rb ∉ [b]
  a2 : ∀ k, vw.ownBlock = some k → k ∉ [b]

theorem Pair.keep {B : Nat} {w w' : World} {b rb : Nat} {vw : Value} {st : Int × List Int} (h : Pair B w b rb vw st) (t : Touch w w' []) : Pair B w' b rb vw st := ⟨h.t.touch t (by simp), h.r.touch t (by simp) (by simp), h.g, h.hb, h.a1, h.a2⟩
theorem Pair.foot {B : Nat} {w : World} {b rb : Nat} {vw : Value} {st : Int × List Int} (h : Pair B w b rb vw st) : ∀ x ∈ b :: rfoot rb vw, B ≤ x := by
  intro x hx
  simp only [rfoot, List.mem_cons, Option.mem_toList] at hx
  rcases hx with rfl | rfl | hx
  · exact h.hb
  · exact h.r.hb
  · exact (h.r.apart h.g.pos x hx).2.2

/-- A slice of deeds, that can be read. -/
def DeedRow (w : World) (v : Value) (l : List DeedD) : Prop :=
  ∃ ao cap, v = .slice ao l.length cap ∧ (l ≠ [] → ∃ g off, ao = some ⟨g, off, none⟩ ∧ g < w.heap.size ∧ ∀ k (hk : k < l.length),
    w.cell? ⟨g, off + k * 4, none⟩ = some (.int .i64 l[k].kind) ∧ w.cell? ⟨g, off + k * 4 + 1, none⟩ = some (.int .i64 l[k].owner) ∧ w.cell? ⟨g, off + k * 4 + 2, none⟩ = some (.int .i64 l[k].stripe) ∧ w.cell? ⟨g, off + k * 4 + 3, none⟩ = some (.int .u64 l[k].v))

theorem DeedRow.four {w : World} {ao : Option Addr} {cap : Nat} {l : List DeedD} (h : DeedRow w (.slice ao l.length cap) l) (k : Nat) (hk : k < l.length) :
    ∃ g off, ao = some ⟨g, off, none⟩ ∧ g < w.heap.size ∧ w.cell? ⟨g, off + k * 4, none⟩ = some (.int .i64 l[k].kind) ∧ w.cell? ⟨g, off + k * 4 + 1, none⟩ = some (.int .i64 l[k].owner) ∧ w.cell? ⟨g, off + k * 4 + 2, none⟩ = some (.int .i64 l[k].stripe) ∧ w.cell? ⟨g, off + k * 4 + 3, none⟩ = some (.int .u64 l[k].v) := by
  obtain ⟨ao', cap', e, h1⟩ := h
  simp only [Value.slice.injEq, true_and] at e
  obtain ⟨rfl, rfl⟩ := e
  obtain ⟨g, off, rfl, hlt, hc⟩ := h1 (by intro e; rw [e] at hk; simp at hk)
  exact ⟨g, off, rfl, hlt, hc k hk⟩

theorem do_pair {B : Nat} {w : World} {b rb : Nat} {vw : Value} {st : Int × List Int} (h : Pair B w b rb vw st) (S : Sh w) (hg : 0 < B) (d : DeedD) (hv : 0 ≤ d.v) :
    Calls Tryd.prog 14 #[ptr b, ptr rb, d.val] w fun e w' => e = .returned (.bool true) ∧ Pair B w' b rb vw (deedS st.1 st.2 d) ∧ Sh w' ∧ Touch w w' (b :: rfoot rb vw) := by
  have hb := h.hb
  refine (do_any h.t h.r h.g S (by omega) h.a1 h.a2 d hv).mono ?_
  rintro e w' ⟨rfl, h1, h2, t⟩
  exact ⟨rfl, ⟨h1, h2, deed_good h.g d hv, h.hb, h.a1, h.a2⟩, S.touch t (fun hh => by have := h.foot _ hh; omega), t⟩

/-- What play of no deeds leaves. -/
def Play0 (w : World) (m : Nat) (e : Ending) (w' : World) : Prop :=
  ∃ b rb vw, e = .returned (.tuple #[ptr b, ptr rb, .bool true]) ∧ Pair w.heap.size w' b rb vw (0, List.replicate m 0) ∧ Touch w w' []

set_option maxRecDepth 100000 in
theorem play_nil (n : Int) (h0 : 0 ≤ n) (h1 : n ≤ 255) (w : World) : Calls Tryd.prog 7 #[.int .u8 n, .slice none 0 0] w (Play0 w (n % 8 + 1).toNat) := by
  obtain ⟨m, hm⟩ : ∃ m : Nat, (m : Int) = n % 8 + 1 := ⟨(n % 8 + 1).toNat, by omega⟩
  have hmt : (n % 8 + 1).toNat = m := by omega
  rw [hmt]
  have hm1 : 1 ≤ m := by omega
  have hm8 : m ≤ 8 := by omega
  have hnew := tnew_ok m hm1 hm8 w
  rw [hm] at hnew
  have HM : Hid ((m : Int) = n % 8 + 1) := hm
  clear hm hmt
  go_enter Tryd.func7, Tryd.ntmps7
  go_wp2_with fail
  refine hnew.mono ?_
  rintro e w1 ⟨rfl, ho, t1, hs1⟩
  clear hnew
  go_wp2_with fail
  have hr := rnew_ok w.heap.size m hm1 hm8 w1 t1.size
  rw [HM.out] at hr
  refine hr.mono ?_
  rintro e w2 ⟨vw, rfl, hro, t2, hv⟩
  clear hr
  have HP : Hid (Pair w.heap.size w2 w.heap.size (w1.heap.size + 1) vw (0, List.replicate m 0)) :=
    ⟨ho.touch t2 (by simp), hro, good_new m hm1 hm8, Nat.le_refl _, by simp; omega, fun k hk => by have := hv k hk; simp; omega⟩
  have t12 : Touch w w2 [] := t1.trans t2 (by simp)
  clear ho hro t1 t2 hv
  go_wp2_with fail
  go_loopw [10] (fun i wr => i = .int .i64 0 ∧ wr = w2) (fun _ _ => 0)
  case atStart => exact ⟨rfl, rfl⟩
  case round =>
    obtain ⟨rfl, rfl⟩ := hrel
    go_wp2
    go_ret3
    refine ⟨_, _, vw, rfl, ?_, t12⟩
    have := HP.out
    rw [hs1] at this
    exact this

end Go.Proofs.YthkphhjhgkclfaaDoor

/-
  TopCounter: THE WALK: whoever goes on, and however much each adds, true.
-/
import Derived.Test.YtcoacfdbcinapaaCellsSame2
import Derived.Deep.CutBlock
import Derived.Deep.DeepCutAuto
namespace Go.Proofs.Ytcoacfdbcinapaa
set_option linter.unusedVariables false
set_option linter.unusedSimpArgs false
open Go.RowKit

theorem one_load (W : Int) (lg : List DoneD) : doStep [W] lg ⟨1, 0, 0, 0⟩ = (⟨⟨1, 0, 0, 0⟩, W, true⟩, 0, [W], lg ++ [⟨⟨1, 0, 0, 0⟩, W, true⟩]) := by simp [doStep, outc]
theorem one_hit (W t : Int) (lg : List DoneD) : doStep [W] lg ⟨3, 0, W, t⟩ = (⟨⟨3, 0, W, t⟩, W, true⟩, 0, [t], lg ++ [⟨⟨3, 0, W, t⟩, W, true⟩]) := by simp [doStep, outc]
theorem one_miss (W s t : Int) (lg : List DoneD) (h : W ≠ s) : doStep [W] lg ⟨3, 0, s, t⟩ = (⟨⟨3, 0, s, t⟩, W, false⟩, 0, [W], lg ++ [⟨⟨3, 0, s, t⟩, W, false⟩]) := by simp [doStep, outc, h]

/-- What stands at a round's head. -/
structure Counts (w : World) (b ab sb hb : Nat) (a0 a1 : Int) (k : Nat) (W s0 s1 : Int) (h0 h1 : Bool) (lg : List DoneD) (vw vl : Value) (wr : World) : Prop where
  w0 : 0 ≤ W
  w1 : W ≤ 255 * k
  s00 : 0 ≤ s0
  s01 : s0 ≤ W
  s10 : 0 ≤ s1
  s11 : s1 ≤ W
  obj : CObj 69 w.heap.size wr b vw vl [W] lg
  told : Told 1 [W] lg
  len : lg.length ≤ k
  wf : ∀ d ∈ lg, d.op.Wf
  add : wr.heap[ab]? = some (.cells #[.int .u8 a0, .int .u8 a1] 59 (0, 0))
  seen : wr.heap[sb]? = some (.cells #[.int .u64 s0, .int .u64 s1] 44 (0, 0))
  has : wr.heap[hb]? = some (.cells #[.bool h0, .bool h1] 61 (0, 0))
  fa : ab ∉ foot b vw vl
  fs : sb ∉ foot b vw vl
  fh : hb ∉ foot b vw vl
  la : w.heap.size ≤ ab
  ls : w.heap.size ≤ sb
  lh : w.heap.size ≤ hb
  t : Touch w wr []

/-- One round on. -/
theorem Counts.next {w : World} {b ab sb hb : Nat} {a0 a1 : Int} {k : Nat} {W s0 s1 : Int} {h0 h1 : Bool} {lg : List DoneD} {vw vl : Value} {wr : World} (c : Counts w b ab sb hb a0 a1 k W s0 s1 h0 h1 lg vw vl wr)
    {o : OpD} (howf : o.Wf) {W' : Int} {lg' : List DoneD} (hst : (doStep [W] lg o).2.2 = ([W'], lg')) {w2 : World} {vw2 vl2 : Value} (ho2 : CObj 69 w.heap.size w2 b vw2 vl2 [W'] lg') (t2 : Touch wr w2 (foot b vw vl)) (ft2 : ∀ q ∈ foot b vw2 vl2, q ∈ foot b vw vl ∨ wr.heap.size ≤ q)
    {X : World} {R : List Nat} (tX : Touch w2 X R) (hR : ∀ q ∈ R, q = sb ∨ q = hb ∨ (q ∉ foot b vw2 vl2 ∧ q ≠ ab ∧ w.heap.size ≤ q)) {s0' s1' : Int} {h0' h1' : Bool} (hS : X.heap[sb]? = some (.cells #[.int .u64 s0', .int .u64 s1'] 44 (0, 0))) (hH : X.heap[hb]? = some (.cells #[.bool h0', .bool h1'] 61 (0, 0)))
    (b1 : 0 ≤ W' ∧ W' ≤ W + 255) (b2 : 0 ≤ s0' ∧ s0' ≤ W') (b3 : 0 ≤ s1' ∧ s1' ≤ W') (nas : ab ≠ sb) (nah : ab ≠ hb) : Counts w b ab sb hb a0 a1 (k + 1) W' s0' s1' h0' h1' lg' vw2 vl2 X := by
  have hW := c.w1
  have la := lt_of_heap c.add
  have ls := lt_of_heap c.seen
  have lh := lt_of_heap c.has
  have hs2 := t2.size
  have nf : ∀ q, q < wr.heap.size → q ∉ foot b vw vl → q ∉ foot b vw2 vl2 := fun q hq hn h => by
    rcases ft2 q h with h' | h'
    · exact hn h'
    · omega
  have hlog := doStep_log_length [W] lg o
  have hwf := doStep_log_wf [W] lg o c.wf howf
  have htold := c.told.step o
  rw [hst] at hlog hwf htold
  have := c.len
  refine ⟨b1.1, by push_cast; omega, b2.1, b2.2, b3.1, b3.2, ho2.keep tX ?_, htold, by simp only at hlog; omega, hwf, (tX.block ab (by omega) (fun h => by rcases hR _ h with q | q | q; exact nas q; exact nah q; exact q.2.1 rfl)).trans ((t2.block ab la c.fa).trans c.add), hS, hH, nf _ la c.fa, nf _ ls c.fs, nf _ lh c.fh, c.la, c.ls, c.lh, (c.t.trans t2 (fun q hq => .inr (c.obj.foot_lt q hq).1)).trans tX (fun q hq => ?_)⟩
  · intro q hq h
    rcases hR q h with rfl | rfl | h'
    · exact nf _ ls c.fs hq
    · exact nf _ lh c.fh hq
    · exact h'.1 hq
  · rcases hR q hq with rfl | rfl | h'
    · exact .inr c.ls
    · exact .inr c.lh
    · exact .inr h'.2.2

theorem set_two {w : World} {b : Nat} {x y u : Value} {t : TypeId} (h : w.heap[b]? = some (.cells #[x, y] t (0, 0))) : (w.setCell ⟨b, 0, none⟩ u).heap[b]? = some (.cells #[u, y] t (0, 0)) ∧ (w.setCell ⟨b, 1, none⟩ u).heap[b]? = some (.cells #[x, u] t (0, 0)) := by
  constructor
  · rw [heap_setCell_same _ _ _ _ _ _ h]; rfl
  · rw [heap_setCell_same _ _ _ _ _ _ h]; rfl

theorem sets0 {w2 : World} {o : Obj} {sb hb : Nat} {x y x' y' u v : Value} {t t' : TypeId} (hne : sb ≠ hb) (qS : w2.heap[sb]? = some (.cells #[x, y] t (0, 0))) (qH : w2.heap[hb]? = some (.cells #[x', y'] t' (0, 0))) :
    Touch w2 (((w2.alloc o).setCell ⟨sb, 0, none⟩ u).setCell ⟨hb, 0, none⟩ v) [sb, hb] ∧ (((w2.alloc o).setCell ⟨sb, 0, none⟩ u).setCell ⟨hb, 0, none⟩ v).heap[sb]? = some (.cells #[u, y] t (0, 0)) ∧ (((w2.alloc o).setCell ⟨sb, 0, none⟩ u).setCell ⟨hb, 0, none⟩ v).heap[hb]? = some (.cells #[v, y'] t' (0, 0)) := by
  have kS := (Below.heap_alloc w2 o sb (lt_of_heap qS)).trans qS
  have kH := (Below.heap_alloc w2 o hb (lt_of_heap qH)).trans qH
  refine ⟨((((Touch.refl w2 [sb, hb]).alloc o).setCell (.inl (by simp)) _).setCell (.inl (by simp)) _), ?_, ?_⟩
  · rw [Below.heap_setCell _ _ _ _ (by simpa using hne)]; exact (set_two kS).1
  · exact (set_two ((Below.heap_setCell _ _ _ _ (by simpa using Ne.symm hne)).trans kH)).1

theorem sets1 {w2 : World} {o : Obj} {sb hb : Nat} {x y x' y' u v : Value} {t t' : TypeId} (hne : sb ≠ hb) (qS : w2.heap[sb]? = some (.cells #[x, y] t (0, 0))) (qH : w2.heap[hb]? = some (.cells #[x', y'] t' (0, 0))) :
    Touch w2 (((w2.alloc o).setCell ⟨sb, 1, none⟩ u).setCell ⟨hb, 1, none⟩ v) [sb, hb] ∧ (((w2.alloc o).setCell ⟨sb, 1, none⟩ u).setCell ⟨hb, 1, none⟩ v).heap[sb]? = some (.cells #[x, u] t (0, 0)) ∧ (((w2.alloc o).setCell ⟨sb, 1, none⟩ u).setCell ⟨hb, 1, none⟩ v).heap[hb]? = some (.cells #[x', v] t' (0, 0)) := by
  have kS := (Below.heap_alloc w2 o sb (lt_of_heap qS)).trans qS
  have kH := (Below.heap_alloc w2 o hb (lt_of_heap qH)).trans qH
  refine ⟨((((Touch.refl w2 [sb, hb]).alloc o).setCell (.inl (by simp)) _).setCell (.inl (by simp)) _), ?_, ?_⟩
  · rw [Below.heap_setCell _ _ _ _ (by simpa using hne)]; exact (set_two kS).2
  · exact (set_two ((Below.heap_setCell _ _ _ _ (by simpa using Ne.symm hne)).trans kH)).2

theorem set0h {w2 : World} {o : Obj} {sb hb : Nat} {x y x' y' v : Value} {t t' : TypeId} (hne : sb ≠ hb) (qS : w2.heap[sb]? = some (.cells #[x, y] t (0, 0))) (qH : w2.heap[hb]? = some (.cells #[x', y'] t' (0, 0))) :
    Touch w2 ((w2.alloc o).setCell ⟨hb, 0, none⟩ v) [sb, hb] ∧ ((w2.alloc o).setCell ⟨hb, 0, none⟩ v).heap[sb]? = some (.cells #[x, y] t (0, 0)) ∧ ((w2.alloc o).setCell ⟨hb, 0, none⟩ v).heap[hb]? = some (.cells #[v, y'] t' (0, 0)) := by
  have kS := (Below.heap_alloc w2 o sb (lt_of_heap qS)).trans qS
  have kH := (Below.heap_alloc w2 o hb (lt_of_heap qH)).trans qH
  refine ⟨(((Touch.refl w2 [sb, hb]).alloc o).setCell (.inl (by simp)) _), ?_, (set_two kH).1⟩
  rw [Below.heap_setCell _ _ _ _ (by simpa using hne)]; exact kS

theorem set1h {w2 : World} {o : Obj} {sb hb : Nat} {x y x' y' v : Value} {t t' : TypeId} (hne : sb ≠ hb) (qS : w2.heap[sb]? = some (.cells #[x, y] t (0, 0))) (qH : w2.heap[hb]? = some (.cells #[x', y'] t' (0, 0))) :
    Touch w2 ((w2.alloc o).setCell ⟨hb, 1, none⟩ v) [sb, hb] ∧ ((w2.alloc o).setCell ⟨hb, 1, none⟩ v).heap[sb]? = some (.cells #[x, y] t (0, 0)) ∧ ((w2.alloc o).setCell ⟨hb, 1, none⟩ v).heap[hb]? = some (.cells #[x', v] t' (0, 0)) := by
  have kS := (Below.heap_alloc w2 o sb (lt_of_heap qS)).trans qS
  have kH := (Below.heap_alloc w2 o hb (lt_of_heap qH)).trans qH
  refine ⟨(((Touch.refl w2 [sb, hb]).alloc o).setCell (.inl (by simp)) _), ?_, (set_two kH).2⟩
  rw [Below.heap_setCell _ _ _ _ (by simpa using hne)]; exact kS

theorem six_cell {w : World} {p : Nat} {x0 x1 x2 x3 x4 x5 v0 v1 v2 v3 v4 v5 : Value} {t : TypeId} (h : w.heap[p]? = some (.cells #[x0, x1, x2, x3, x4, x5] t (0, 0))) :
    ((((((w.setCell ⟨p, 0, none⟩ v0).setCell ⟨p, 1, none⟩ v1).setCell ⟨p, 2, none⟩ v2).setCell ⟨p, 3, none⟩ v3).setCell ⟨p, 4, none⟩ v4).setCell ⟨p, 5, none⟩ v5).cell? ⟨p, 5, none⟩ = some v5 := by
  have h0 := heap_setCell_same w p 0 _ _ v0 h
  have h1 := heap_setCell_same _ p 1 _ _ v1 h0
  have h2 := heap_setCell_same _ p 2 _ _ v2 h1
  have h3 := heap_setCell_same _ p 3 _ _ v3 h2
  have h4 := heap_setCell_same _ p 4 _ _ v4 h3
  have h5 := heap_setCell_same _ p 5 _ _ v5 h4
  simp [World.cell?, h5]

theorem Counts.hasX {w : World} {b ab sb hb : Nat} {a0 a1 : Int} {k : Nat} {W s0 s1 : Int} {h0 h1 : Bool} {lg : List DoneD} {vw vl : Value} {wr X : World} (c : Counts w b ab sb hb a0 a1 k W s0 s1 h0 h1 lg vw vl wr) (tX : Touch wr X [hb]) {h0' h1' : Bool} (hH : X.heap[hb]? = some (.cells #[.bool h0', .bool h1'] 61 (0, 0))) (nsh : sb ≠ hb) (nah : ab ≠ hb) :
    Counts w b ab sb hb a0 a1 k W s0 s1 h0' h1' lg vw vl X :=
  ⟨c.w0, c.w1, c.s00, c.s01, c.s10, c.s11, c.obj.keep tX (fun q hq h => by have e : q = hb := (by simpa using h); subst e; exact c.fh hq), c.told, c.len, c.wf, (tX.block _ (lt_of_heap c.add) (by simpa using nah)).trans c.add, (tX.block _ (lt_of_heap c.seen) (by simpa using nsh)).trans c.seen, hH, c.fa, c.fs, c.fh, c.la, c.ls, c.lh, c.t.trans tX (fun q hq => by have e : q = hb := (by simpa using hq); subst e; exact .inr c.lh)⟩

theorem Counts.has0 {w : World} {b ab sb hb : Nat} {a0 a1 : Int} {k : Nat} {W s0 s1 : Int} {h0 h1 x : Bool} {lg : List DoneD} {vw vl : Value} {wr : World} (c : Counts w b ab sb hb a0 a1 k W s0 s1 h0 h1 lg vw vl wr) (nsh : sb ≠ hb) (nah : ab ≠ hb) :
    Counts w b ab sb hb a0 a1 k W s0 s1 x h1 lg vw vl (wr.setCell ⟨hb, 0, none⟩ (.bool x)) := c.hasX ((Touch.refl wr _).setCell (.inl (by simp)) _) (set_two c.has).1 nsh nah
theorem Counts.has1 {w : World} {b ab sb hb : Nat} {a0 a1 : Int} {k : Nat} {W s0 s1 : Int} {h0 h1 x : Bool} {lg : List DoneD} {vw vl : Value} {wr : World} (c : Counts w b ab sb hb a0 a1 k W s0 s1 h0 h1 lg vw vl wr) (nsh : sb ≠ hb) (nah : ab ≠ hb) :
    Counts w b ab sb hb a0 a1 k W s0 s1 h0 x lg vw vl (wr.setCell ⟨hb, 1, none⟩ (.bool x)) := c.hasX ((Touch.refl wr _).setCell (.inl (by simp)) _) (set_two c.has).2 nsh nah

set_option maxRecDepth 100000 in
set_option maxHeartbeats 3200000 in
theorem counter_any (a0 a1 : Int) (ha0 : 0 ≤ a0 ∧ a0 ≤ 255) (ha1 : 0 ≤ a1 ∧ a1 ≤ 255) (ao : Option Addr) (N cap : Nat) (w : World) (ps : List Bool) (hN : ps.length = N) (hNm : N ≤ maxLen) (hr : 0 < N → ∃ g off, ao = some ⟨g, off, none⟩ ∧ g < w.heap.size ∧ ∀ k (h : k < ps.length), w.cell? ⟨g, off + k, none⟩ = some (.bool ps[k])) :
    Calls Try.prog 8 #[.slice ao N cap, .agg #[.int .u8 a0, .int .u8 a1]] w fun e w' => e = .returned (.bool true) ∧ Below w.heap.size w w' := by
  unfold maxLen at hNm
  have hnew := fun o => new_ok w.heap.size (w.alloc o) 1 (by omega) (by omega) (by simp)
  go_enter Try.func8, Try.ntmps8
  go_wp2_with fail
  refine (hnew _).mono ?_
  rintro e w1 ⟨b, vw0, rfl, ho0, t0, ft0⟩
  clear hnew
  have hadd := (t0.block w.heap.size (by simp) (by simp)).trans (heap_alloc_new w _)
  have hs0 := t0.size
  simp only [World.size_alloc] at hs0
  have hC : Hid (Counts w b w.heap.size w1.heap.size (w1.heap.size + 1) a0 a1 0 0 0 0 false false [] vw0 (.slice none 0 0) ((w1.alloc (.cells #[.int .u64 0, .int .u64 0] 44)).alloc (.cells #[.bool false, .bool false] 61))) := by
    have hkeep := ho0.keep (((Touch.refl w1 []).alloc (.cells #[.int .u64 0, .int .u64 0] 44)).alloc (.cells #[.bool false, .bool false] 61)) (by simp)
    have h2 := heap_two w1 (.cells #[.int .u64 0, .int .u64 0] 44) (.cells #[.bool false, .bool false] 61)
    have tt : Touch w1 ((w1.alloc (.cells #[.int .u64 0, .int .u64 0] 44)).alloc (.cells #[.bool false, .bool false] 61)) [] := ((Touch.refl w1 []).alloc _).alloc _
    refine ⟨by omega, by omega, by omega, by omega, by omega, by omega, hkeep, Told.start 1, by simp, by simp, (tt.block _ (by omega) (by simp)).trans hadd, h2.1, h2.2, fun h => ?_, fun h => ?_, fun h => ?_, by omega, by omega, by omega, ((((Touch.refl w []).alloc _).trans t0 (by simp)).trans tt (by simp))⟩
    · have := ft0 _ h; simp only [World.size_alloc] at this; omega
    · have := (ho0.foot_lt _ h).2; omega
    · have := (ho0.foot_lt _ h).2; omega
  clear ho0 t0 ft0 hadd
  go_wp2_with fail
  go_loopw [8, 9] (fun want i wr => ∃ (k : Nat) (W s0 s1 : Int) (h0 h1 : Bool) (lg : List DoneD) (vw vl : Value), i = .int .i64 k ∧ want = .int .u64 W ∧ k ≤ N ∧ k ≤ 80 ∧ Counts w b w.heap.size w1.heap.size (w1.heap.size + 1) a0 a1 k W s0 s1 h0 h1 lg vw vl wr) (fun _ i _ => 80 - (intOf i).toNat)
  case atStart => exact ⟨0, 0, 0, 0, false, false, [], _, _, rfl, rfl, Nat.zero_le _, by omega, hC.out⟩
  case round =>
    clear hC
    obtain ⟨k, W, s0, s1, h0, h1, lg, vw, vl, rfl, rfl, hk, hk80, hC⟩ := hrel
    have HC : Hid _ := hC
    obtain ⟨x0, x1, x2, x3, x4, x5, ho, _, hlen, _, hA, hS, hH, _, _, _, _, _, _, t⟩ := hC
    obtain ⟨A0, A1, _, _⟩ := cells_two hA
    obtain ⟨S0, S1, S2, S3⟩ := cells_two hS
    obtain ⟨H0, H1, H2, H3⟩ := cells_two hH
    by_cases hlt : k < N ∧ k < 80
    · obtain ⟨hlt, hlt8⟩ := hlt
      have hlt' : (k : Int) < N := by omega
      have hlt8' : (k : Int) < 80 := by omega
      have hk0 : (0 : Int) ≤ k := by omega
      obtain ⟨g, off, rfl, hg, hp⟩ := hr (by omega)
      have hpk := (t.cell (p := ⟨g, off + k, none⟩) hg (by simp)).trans (hp k (by omega))
      have hpl : k < ps.length := by omega
      cases hpv : ps[k] with
      | false =>
        rw [hpv] at hpk
        clear hp hpv hr hA hS hH
        cases h0 with
        | false =>
          go_wp2_with fail
          refine (do_at ho t.size 1 0 0 0 ⟨by decide, by decide, by decide, by decide, by decide, by decide, by decide, by decide⟩ (by simp) (by omega) (one_load W lg)).mono ?_
          rintro e w2 ⟨vw2, vl2, rfl, ho2, t2, ft2⟩
          have hls := lt_of_heap HC.out.seen
          have hlh := lt_of_heap HC.out.has
          have hs2 := t2.size
          have qS := (t2.block _ hls HC.out.fs).trans HC.out.seen
          have qH := (t2.block _ hlh HC.out.fh).trans HC.out.has
          have tD : Touch w2 (w2.alloc (.cells #[.int .u8 1, .int .i64 0, .int .u64 0, .int .u64 0, .int .u64 W, .bool true] 51)) [] := (Touch.refl w2 []).alloc _
          obtain ⟨S0', S1', S2', S3'⟩ := cells_two ((tD.block _ (by omega) (by simp)).trans qS)
          obtain ⟨H0', H1', H2', H3'⟩ := cells_two ((tD.block _ (by omega) (by simp)).trans qH)
          have ns : ¬ w1.heap.size = w2.heap.size := by omega
          have nh : ¬ w1.heap.size + 1 = w2.heap.size := by omega
          have HX : Hid _ := sets0 (o := .cells #[.int .u8 1, .int .i64 0, .int .u64 0, .int .u64 0, .int .u64 W, .bool true] 51) (u := .int .u64 W) (v := .bool true) (by omega) qS qH
          have HO : Hid _ := ho2
          have HT : Hid _ := t2
          have HF : Hid _ := ft2
          clear ho2 t2 ft2 qS qH tD
          go_wp2
          go_roundw
          case rel => exact ⟨k + 1, W, W, s1, true, h1, _, vw2, vl2, by go_num, rfl, by omega, by omega, HC.out.next (o := ⟨1, 0, 0, 0⟩) ⟨by decide, by decide, by decide, by decide, by decide, by decide, by decide, by decide⟩ (by rw [one_load]) HO.out HT.out HF.out HX.out.1 (fun q hq => by simp at hq; omega) HX.out.2.1 HX.out.2.2 (by omega) (by omega) (by omega) (by omega) (by omega)⟩
          case measure => simp [intOf] <;> omega
        | true =>
          have hls := lt_of_heap HC.out.seen
          have hlh := lt_of_heap HC.out.has
          have hla := lt_of_heap HC.out.add
          have hw1 : IntKind.u64.wrap a0 = a0 := by rw [IntKind.wrap_u64]; omega
          have hw2 : IntKind.u64.wrap (s0 + a0) = s0 + a0 := by rw [IntKind.wrap_u64]; omega
          have hw3 : IntKind.u64.wrap (W + a0) = W + a0 := by rw [IntKind.wrap_u64]; omega
          have dr : Touch wr wr.drew [] := (Touch.refl wr []).drew
          have drA : ∀ o, Touch wr (wr.alloc o).drew [] := fun o => ((Touch.refl wr []).alloc o).drew
          have howf : (⟨3, 0, s0, s0 + a0⟩ : OpD).Wf := ⟨by dsimp only; omega, by dsimp only; omega, by dsimp only; omega, by dsimp only; omega, by dsimp only; omega, by dsimp only; omega, by dsimp only; omega, by dsimp only; omega⟩
          obtain ⟨W', okv, lg', hstep, hW'⟩ : ∃ (W' : Int) (okv : Bool) (lg' : List DoneD), doStep [W] lg ⟨3, 0, s0, s0 + a0⟩ = (⟨⟨3, 0, s0, s0 + a0⟩, W, okv⟩, 0, [W'], lg') ∧ ((okv = true ∧ W' = W + a0) ∨ (okv = false ∧ W' = W)) := by
            by_cases hit : W = s0
            · rw [← hit]; exact ⟨_, _, _, one_hit W _ lg, .inl ⟨rfl, rfl⟩⟩
            · exact ⟨_, _, _, one_miss W _ _ lg hit, .inr ⟨rfl, rfl⟩⟩
          have hd := fun (X : World) (tX : Touch wr X []) => do_at (ho.keep tX (by simp)) (Nat.le_trans t.size tX.size) 3 0 s0 (s0 + a0) howf (by simp) (by omega) hstep
          have HST : Hid _ := hstep
          have HW' : Hid _ := hW'
          have HOW : Hid _ := howf
          have hwb : 0 ≤ W' ∧ W' ≤ W + 255 ∧ W ≤ W' := by rcases hW' with ⟨_, h⟩ | ⟨_, h⟩ <;> omega
          have nA := World.new_ne wr _ A0
          have nS := World.new_ne wr _ S0
          clear hstep hW' howf
          go_upto_region 16 with fail
          go_cut [13, 14] (fun p e wx => ∃ (db : Nat) (vw2 vl2 : Value), p = .pointer (some ⟨db, 0, none⟩) ∧ e = .int .i64 0 ∧ wx.cell? ⟨db, 5, none⟩ = some (.bool okv) ∧ db ≠ w1.heap.size + 1 ∧ Counts w b w.heap.size w1.heap.size (w1.heap.size + 1) a0 a1 (k + 1) W' s0 s1 true h1 lg' vw2 vl2 wx)
          case first =>
            go_region_held3 (fun w' => w'.cell? ⟨w1.heap.size, 0, none⟩ = some (.int .u64 s0) ∧ w'.cell? ⟨w.heap.size, 0, none⟩ = some (.int .u8 a0))
              (go_keep)
              (first
                | (go_at_call 22; refine (hd _ dr).mono ?_; rintro e w2 ⟨vw2, vl2, rfl, ho2, t2, ft2⟩; have cS := (t2.cell (p := ⟨w1.heap.size, 0, none⟩) hls HC.out.fs).trans S0; have cA := (t2.cell (p := ⟨w.heap.size, 0, none⟩) hla HC.out.fa).trans A0; have nA2 := World.new_ne w2 _ cA; have nS2 := World.new_ne w2 _ cS)
                | (go_at_call 22; refine (hd _ (drA _)).mono ?_; rintro e w2 ⟨vw2, vl2, rfl, ho2, t2, ft2⟩; have cS := (t2.cell (p := ⟨w1.heap.size, 0, none⟩) (by simp; omega) HC.out.fs).trans (cell_alloc S0 _); have cA := (t2.cell (p := ⟨w.heap.size, 0, none⟩) (by simp; omega) HC.out.fa).trans (cell_alloc A0 _); have DB := (t2.block wr.heap.size (by simp) (fun hq => by have := (ho.foot_lt _ hq).2; omega)).trans (heap_alloc_new wr _); obtain ⟨⟨D0, D1, D2, D3, D4, D5⟩, F0, F1, F2, F3, F4, F5⟩ := cells_done DB; have HDB : Hid _ := DB; clear DB))
            · have tW : Touch wr w2 (foot b vw vl) := (dr.mono (by simp)).trans t2 (fun q hq => .inl hq)
              have tD : ∀ o, Touch w2 (w2.alloc o) [] := fun o => (Touch.refl w2 []).alloc o
              have hs2 := tW.size
              have HP : Hid _ := fun o => HC.out.next HOW.out (by rw [HST.out]) ho2 tW ft2 (tD o) (by simp) (((tD o).block _ (by omega) (by simp)).trans ((tW.block _ hls HC.out.fs).trans HC.out.seen)) (((tD o).block _ (by omega) (by simp)).trans ((tW.block _ hlh HC.out.fh).trans HC.out.has)) ⟨hwb.1, hwb.2.1⟩ (by omega) (by omega) (by omega) (by omega)
              clear ho2 t2 ft2 tW tD
              go_wp2
              go_meet
              case rel => exact ⟨w2.heap.size, vw2, vl2, rfl, rfl, by first | rfl | simp, by omega, HP.out _⟩
            · have tW : Touch wr w2 (foot b vw vl) := ((drA _).mono (by simp)).trans t2 (fun q hq => .inl hq)
              have hs2 := t2.size
              simp only [World.size_drew, World.size_alloc] at hs2
              have ft3 : ∀ q ∈ foot b vw2 vl2, q ∈ foot b vw vl ∨ wr.heap.size + 1 ≤ q := fun q hq => (ft2 q hq).imp id (fun h => by simp at h; omega)
              have ft4 : ∀ q ∈ foot b vw2 vl2, q ∈ foot b vw vl ∨ wr.heap.size ≤ q := fun q hq => (ft3 q hq).imp id (fun h => by omega)
              have tD : ∀ v0 v1 v2 v3 v4 v5, Touch w2 ((((((w2.setCell ⟨wr.heap.size, 0, none⟩ v0).setCell ⟨wr.heap.size, 1, none⟩ v1).setCell ⟨wr.heap.size, 2, none⟩ v2).setCell ⟨wr.heap.size, 3, none⟩ v3).setCell ⟨wr.heap.size, 4, none⟩ v4).setCell ⟨wr.heap.size, 5, none⟩ v5) [wr.heap.size] := fun v0 v1 v2 v3 v4 v5 => touch_six (Touch.refl w2 _) (.inl (by simp)) v0 v1 v2 v3 v4 v5
              have HP : Hid _ := fun v0 v1 v2 v3 v4 v5 => HC.out.next HOW.out (by rw [HST.out]) ho2 tW ft4 (tD v0 v1 v2 v3 v4 v5) (fun q hq => .inr (.inr (by
                have e : q = wr.heap.size := by simpa using hq
                subst e
                refine ⟨fun hf => ?_, by omega, t.size⟩
                rcases ft3 _ hf with h' | h'
                · have := (ho.foot_lt _ h').2; omega
                · omega))) (((tD v0 v1 v2 v3 v4 v5).block _ (by omega) (by simp; omega)).trans ((tW.block _ hls HC.out.fs).trans HC.out.seen)) (((tD v0 v1 v2 v3 v4 v5).block _ (by omega) (by simp; omega)).trans ((tW.block _ hlh HC.out.fh).trans HC.out.has)) ⟨hwb.1, hwb.2.1⟩ (by omega) (by omega) (by omega) (by omega)
              clear ho2 t2 ft2 tW tD ft3 ft4
              go_wp2
              go_meet
              case rel => exact ⟨wr.heap.size, vw2, vl2, rfl, rfl, six_cell HDB.out, by omega, HP.out _ _ _ _ _ _⟩
          case rest =>
            obtain ⟨db, vw2, vl2, rfl, rfl, hD5, hdb, hC2⟩ := hcut
            have HC2 : Hid _ := hC2
            obtain ⟨Ha0, Ha1, Ha2, Ha3⟩ := cells_two hC2.has
            obtain ⟨Aa0, Aa1, _, _⟩ := cells_two hC2.add
            clear hC2 HC HST HOW hd dr drA nA nS A0 A1 S0 S1 S2 S3 H0 H1 H2 H3 ho t
            rcases HW'.out with ⟨rfl, rfl⟩ | ⟨rfl, rfl⟩
            · go_wp2
              go_roundw
              case rel => exact ⟨k + 1, _, s0, s1, false, h1, lg', vw2, vl2, by go_num, rfl, by omega, by omega, HC2.out.has0 (by omega) (by omega)⟩
              case measure => simp [intOf] <;> omega
            · go_wp2
              go_roundw
              case rel => exact ⟨k + 1, _, s0, s1, false, h1, lg', vw2, vl2, by go_num, rfl, by omega, by omega, HC2.out.has0 (by omega) (by omega)⟩
              case measure => simp [intOf] <;> omega
      | true =>
        rw [hpv] at hpk
        clear hp hpv hr hA hS hH
        cases h1 with
        | false =>
          go_wp2_with fail
          refine (do_at ho t.size 1 0 0 0 ⟨by decide, by decide, by decide, by decide, by decide, by decide, by decide, by decide⟩ (by simp) (by omega) (one_load W lg)).mono ?_
          rintro e w2 ⟨vw2, vl2, rfl, ho2, t2, ft2⟩
          have hls := lt_of_heap HC.out.seen
          have hlh := lt_of_heap HC.out.has
          have hs2 := t2.size
          have qS := (t2.block _ hls HC.out.fs).trans HC.out.seen
          have qH := (t2.block _ hlh HC.out.fh).trans HC.out.has
          have tD : Touch w2 (w2.alloc (.cells #[.int .u8 1, .int .i64 0, .int .u64 0, .int .u64 0, .int .u64 W, .bool true] 51)) [] := (Touch.refl w2 []).alloc _
          obtain ⟨S0', S1', S2', S3'⟩ := cells_two ((tD.block _ (by omega) (by simp)).trans qS)
          obtain ⟨H0', H1', H2', H3'⟩ := cells_two ((tD.block _ (by omega) (by simp)).trans qH)
          have ns : ¬ w1.heap.size = w2.heap.size := by omega
          have nh : ¬ w1.heap.size + 1 = w2.heap.size := by omega
          have HX : Hid _ := sets1 (o := .cells #[.int .u8 1, .int .i64 0, .int .u64 0, .int .u64 0, .int .u64 W, .bool true] 51) (u := .int .u64 W) (v := .bool true) (by omega) qS qH
          have HO : Hid _ := ho2
          have HT : Hid _ := t2
          have HF : Hid _ := ft2
          clear ho2 t2 ft2 qS qH tD
          go_wp2
          go_roundw
          case rel => exact ⟨k + 1, W, s0, W, h0, true, _, vw2, vl2, by go_num, rfl, by omega, by omega, HC.out.next (o := ⟨1, 0, 0, 0⟩) ⟨by decide, by decide, by decide, by decide, by decide, by decide, by decide, by decide⟩ (by rw [one_load]) HO.out HT.out HF.out HX.out.1 (fun q hq => by simp at hq; omega) HX.out.2.1 HX.out.2.2 (by omega) (by omega) (by omega) (by omega) (by omega)⟩
          case measure => simp [intOf] <;> omega
        | true =>
          have hls := lt_of_heap HC.out.seen
          have hlh := lt_of_heap HC.out.has
          have hla := lt_of_heap HC.out.add
          have hw1 : IntKind.u64.wrap a1 = a1 := by rw [IntKind.wrap_u64]; omega
          have hw2 : IntKind.u64.wrap (s1 + a1) = s1 + a1 := by rw [IntKind.wrap_u64]; omega
          have hw3 : IntKind.u64.wrap (W + a1) = W + a1 := by rw [IntKind.wrap_u64]; omega
          have dr : Touch wr wr.drew [] := (Touch.refl wr []).drew
          have drA : ∀ o, Touch wr (wr.alloc o).drew [] := fun o => ((Touch.refl wr []).alloc o).drew
          have howf : (⟨3, 0, s1, s1 + a1⟩ : OpD).Wf := ⟨by dsimp only; omega, by dsimp only; omega, by dsimp only; omega, by dsimp only; omega, by dsimp only; omega, by dsimp only; omega, by dsimp only; omega, by dsimp only; omega⟩
          obtain ⟨W', okv, lg', hstep, hW'⟩ : ∃ (W' : Int) (okv : Bool) (lg' : List DoneD), doStep [W] lg ⟨3, 0, s1, s1 + a1⟩ = (⟨⟨3, 0, s1, s1 + a1⟩, W, okv⟩, 0, [W'], lg') ∧ ((okv = true ∧ W' = W + a1) ∨ (okv = false ∧ W' = W)) := by
            by_cases hit : W = s1
            · rw [← hit]; exact ⟨_, _, _, one_hit W _ lg, .inl ⟨rfl, rfl⟩⟩
            · exact ⟨_, _, _, one_miss W _ _ lg hit, .inr ⟨rfl, rfl⟩⟩
          have hd := fun (X : World) (tX : Touch wr X []) => do_at (ho.keep tX (by simp)) (Nat.le_trans t.size tX.size) 3 0 s1 (s1 + a1) howf (by simp) (by omega) hstep
          have HST : Hid _ := hstep
          have HW' : Hid _ := hW'
          have HOW : Hid _ := howf
          have hwb : 0 ≤ W' ∧ W' ≤ W + 255 ∧ W ≤ W' := by rcases hW' with ⟨_, h⟩ | ⟨_, h⟩ <;> omega
          have nA := World.new_ne wr _ A1
          have nS := World.new_ne wr _ S1
          clear hstep hW' howf
          go_upto_region 16 with fail
          go_cut [13, 14] (fun p e wx => ∃ (db : Nat) (vw2 vl2 : Value), p = .pointer (some ⟨db, 0, none⟩) ∧ e = .int .i64 0 ∧ wx.cell? ⟨db, 5, none⟩ = some (.bool okv) ∧ db ≠ w1.heap.size + 1 ∧ Counts w b w.heap.size w1.heap.size (w1.heap.size + 1) a0 a1 (k + 1) W' s0 s1 h0 true lg' vw2 vl2 wx)
          case first =>
            go_region_held3 (fun w' => w'.cell? ⟨w1.heap.size, 1, none⟩ = some (.int .u64 s1) ∧ w'.cell? ⟨w.heap.size, 1, none⟩ = some (.int .u8 a1))
              (go_keep)
              (first
                | (go_at_call 22; refine (hd _ dr).mono ?_; rintro e w2 ⟨vw2, vl2, rfl, ho2, t2, ft2⟩; have cS := (t2.cell (p := ⟨w1.heap.size, 1, none⟩) hls HC.out.fs).trans S1; have cA := (t2.cell (p := ⟨w.heap.size, 1, none⟩) hla HC.out.fa).trans A1; have nA2 := World.new_ne w2 _ cA; have nS2 := World.new_ne w2 _ cS)
                | (go_at_call 22; refine (hd _ (drA _)).mono ?_; rintro e w2 ⟨vw2, vl2, rfl, ho2, t2, ft2⟩; have cS := (t2.cell (p := ⟨w1.heap.size, 1, none⟩) (by simp; omega) HC.out.fs).trans (cell_alloc S1 _); have cA := (t2.cell (p := ⟨w.heap.size, 1, none⟩) (by simp; omega) HC.out.fa).trans (cell_alloc A1 _); have DB := (t2.block wr.heap.size (by simp) (fun hq => by have := (ho.foot_lt _ hq).2; omega)).trans (heap_alloc_new wr _); obtain ⟨⟨D0, D1, D2, D3, D4, D5⟩, F0, F1, F2, F3, F4, F5⟩ := cells_done DB; have HDB : Hid _ := DB; clear DB))
            · have tW : Touch wr w2 (foot b vw vl) := (dr.mono (by simp)).trans t2 (fun q hq => .inl hq)
              have tD : ∀ o, Touch w2 (w2.alloc o) [] := fun o => (Touch.refl w2 []).alloc o
              have hs2 := tW.size
              have HP : Hid _ := fun o => HC.out.next HOW.out (by rw [HST.out]) ho2 tW ft2 (tD o) (by simp) (((tD o).block _ (by omega) (by simp)).trans ((tW.block _ hls HC.out.fs).trans HC.out.seen)) (((tD o).block _ (by omega) (by simp)).trans ((tW.block _ hlh HC.out.fh).trans HC.out.has)) ⟨hwb.1, hwb.2.1⟩ (by omega) (by omega) (by omega) (by omega)
              clear ho2 t2 ft2 tW tD
              go_wp2
              go_meet
              case rel => exact ⟨w2.heap.size, vw2, vl2, rfl, rfl, by first | rfl | simp, by omega, HP.out _⟩
            · have tW : Touch wr w2 (foot b vw vl) := ((drA _).mono (by simp)).trans t2 (fun q hq => .inl hq)
              have hs2 := t2.size
              simp only [World.size_drew, World.size_alloc] at hs2
              have ft3 : ∀ q ∈ foot b vw2 vl2, q ∈ foot b vw vl ∨ wr.heap.size + 1 ≤ q := fun q hq => (ft2 q hq).imp id (fun h => by simp at h; omega)
              have ft4 : ∀ q ∈ foot b vw2 vl2, q ∈ foot b vw vl ∨ wr.heap.size ≤ q := fun q hq => (ft3 q hq).imp id (fun h => by omega)
              have tD : ∀ v0 v1 v2 v3 v4 v5, Touch w2 ((((((w2.setCell ⟨wr.heap.size, 0, none⟩ v0).setCell ⟨wr.heap.size, 1, none⟩ v1).setCell ⟨wr.heap.size, 2, none⟩ v2).setCell ⟨wr.heap.size, 3, none⟩ v3).setCell ⟨wr.heap.size, 4, none⟩ v4).setCell ⟨wr.heap.size, 5, none⟩ v5) [wr.heap.size] := fun v0 v1 v2 v3 v4 v5 => touch_six (Touch.refl w2 _) (.inl (by simp)) v0 v1 v2 v3 v4 v5
              have HP : Hid _ := fun v0 v1 v2 v3 v4 v5 => HC.out.next HOW.out (by rw [HST.out]) ho2 tW ft4 (tD v0 v1 v2 v3 v4 v5) (fun q hq => .inr (.inr (by
                have e : q = wr.heap.size := by simpa using hq
                subst e
                refine ⟨fun hf => ?_, by omega, t.size⟩
                rcases ft3 _ hf with h' | h'
                · have := (ho.foot_lt _ h').2; omega
                · omega))) (((tD v0 v1 v2 v3 v4 v5).block _ (by omega) (by simp; omega)).trans ((tW.block _ hls HC.out.fs).trans HC.out.seen)) (((tD v0 v1 v2 v3 v4 v5).block _ (by omega) (by simp; omega)).trans ((tW.block _ hlh HC.out.fh).trans HC.out.has)) ⟨hwb.1, hwb.2.1⟩ (by omega) (by omega) (by omega) (by omega)
              clear ho2 t2 ft2 tW tD ft3 ft4
              go_wp2
              go_meet
              case rel => exact ⟨wr.heap.size, vw2, vl2, rfl, rfl, six_cell HDB.out, by omega, HP.out _ _ _ _ _ _⟩
          case rest =>
            obtain ⟨db, vw2, vl2, rfl, rfl, hD5, hdb, hC2⟩ := hcut
            have HC2 : Hid _ := hC2
            obtain ⟨Ha0, Ha1, Ha2, Ha3⟩ := cells_two hC2.has
            obtain ⟨Aa0, Aa1, _, _⟩ := cells_two hC2.add
            clear hC2 HC HST HOW hd dr drA nA nS A0 A1 S0 S1 S2 S3 H0 H1 H2 H3 ho t
            rcases HW'.out with ⟨rfl, rfl⟩ | ⟨rfl, rfl⟩
            · go_wp2
              go_roundw
              case rel => exact ⟨k + 1, _, s0, s1, h0, false, lg', vw2, vl2, by go_num, rfl, by omega, by omega, HC2.out.has1 (by omega) (by omega)⟩
              case measure => simp [intOf] <;> omega
            · go_wp2
              go_roundw
              case rel => exact ⟨k + 1, _, s0, s1, h0, false, lg', vw2, vl2, by go_num, rfl, by omega, by omega, HC2.out.has1 (by omega) (by omega)⟩
              case measure => simp [intOf] <;> omega
    · clear hr hA hS hH A0 A1 S0 S1 S2 S3 H0 H1 H2 H3
      by_cases hlt1 : (k : Int) < N
      · have hlt2 : ¬ (k : Int) < 80 := by omega
        clear hlt
        have hwo := word_at ho (by simp) 0
        simp only [List.length_cons, List.length_nil, Int.toNat_zero, List.getD_cons_zero] at hwo
        rw [if_pos (by decide), if_pos (by decide)] at hwo
        go_wp2_with fail
        refine hwo.mono ?_
        rintro e w2 ⟨rfl, rfl⟩
        go_wp2_with fail
        refine (log_any HC.out.obj (by have := HC.out.len; omega)).mono ?_
        rintro e w3 ⟨rfl, o3, t3⟩
        have hri := right_ok 1 (by omega) (by omega) _ lg (by have := HC.out.len; omega) HC.out.wf w3 (DoneRow.of_owns o3)
        have hT : playLog (List.replicate 1 0) [] lg = some ([W], lg) := HC.out.told
        rw [hT] at hri
        have t03 := HC.out.t.trans t3 (by simp)
        clear hT o3 t3 hwo
        go_wp2_with fail
        refine hri.mono ?_
        rintro e w4 ⟨rfl, t4⟩
        have t04 := t03.trans t4 (by simp)
        clear hri t03 t4
        simp only [Option.isSome_some]
        go_wp2
        go_ret
        exact ⟨rfl, t04.below (Nat.le_refl _) (by simp)⟩
      · clear hlt
        have hwo := word_at ho (by simp) 0
        simp only [List.length_cons, List.length_nil, Int.toNat_zero, List.getD_cons_zero] at hwo
        rw [if_pos (by decide), if_pos (by decide)] at hwo
        go_wp2_with fail
        refine hwo.mono ?_
        rintro e w2 ⟨rfl, rfl⟩
        go_wp2_with fail
        refine (log_any HC.out.obj (by have := HC.out.len; omega)).mono ?_
        rintro e w3 ⟨rfl, o3, t3⟩
        have hri := right_ok 1 (by omega) (by omega) _ lg (by have := HC.out.len; omega) HC.out.wf w3 (DoneRow.of_owns o3)
        have hT : playLog (List.replicate 1 0) [] lg = some ([W], lg) := HC.out.told
        rw [hT] at hri
        have t03 := HC.out.t.trans t3 (by simp)
        clear hT o3 t3 hwo
        go_wp2_with fail
        refine hri.mono ?_
        rintro e w4 ⟨rfl, t4⟩
        have t04 := t03.trans t4 (by simp)
        clear hri t03 t4
        simp only [Option.isSome_some]
        go_wp2
        go_ret
        exact ⟨rfl, t04.below (Nat.le_refl _) (by simp)⟩

end Go.Proofs.Ytcoacfdbcinapaa

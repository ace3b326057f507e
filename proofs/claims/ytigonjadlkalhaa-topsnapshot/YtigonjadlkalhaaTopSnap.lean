/-
  TopSnapshot, WALKED.
-/
import Derived.Test.YtigonjadlkalhaaSeqRest
import Derived.Test.YtigonjadlkalhaaReadsOps
namespace Go.Proofs.Ytigonjadlkalhaa
set_option linter.unusedVariables false
set_option linter.unusedSimpArgs false
open Go.RowKit Go.Maps

/-- A law's answer. -/
def TrueIn (w : World) (e : Ending) (w' : World) : Prop := e = .returned (.bool true) ∧ Touch w w' []

theorem ofB_idem (b : Nat) : ofB (ofB b) = ofB b := by
  unfold ofB
  cases h : nanB b
  · simp [h]
  · simp only [if_true]; split <;> rfl

theorem wf_ofB {n : Int} (h : Wf64 n) : Wf64 ((ofB n.toNat : Nat) : Int) := by
  unfold Wf64 at h ⊢
  unfold ofB
  split <;> omega

theorem ofBI_idem (n : Int) : ((ofB (((ofB n.toNat : Nat) : Int)).toNat : Nat) : Int) = (ofB n.toNat : Nat) := by rw [Int.toNat_natCast, ofB_idem]

/-- A value that is right. -/
def RtI (n : Int) : Prop := ((ofB n.toNat : Nat) : Int) = n
theorem rt_ofB (n : Int) : RtI ((ofB n.toNat : Nat) : Int) := ofBI_idem n
theorem sameV_rt {a b : Int} (ha : RtI a) (hb : RtI b) : sameV a b = (a == b) := by
  unfold sameV
  unfold RtI at ha hb
  rw [ha, hb]

/-- What was read of a heap. -/
structure Snap (H : List Int) (L : List EntD) : Prop where
  sl : SetL L
  of : ∀ e ∈ L, e.tvar < 4 ∧ e.val = H.getD e.tvar.toNat 0

theorem snap_bad {H : List Int} {L : List EntD} (h4 : H.length = 4) (hR : ∀ x ∈ H, RtI x) (h : Snap H L) (w : Nat) (hw : w < 4) (v : Int) (hv : RtI v) :
    (brokenE (H.set w v) L).2 = (hasT L w && !(v == H.getD w 0)) := by
  have hb : (brokenE (H.set w v) L).2 = L.any (badE (H.set w v)) := by
    unfold brokenE
    generalize H.set w v = X
    clear h
    induction L with
    | nil => rfl
    | cons e l ih =>
      cases hb : badE X e
      · simp only [List.find?, hb, List.any_cons, Bool.false_or]; exact ih
      · simp [List.find?, hb]
  rw [hb]
  have key : ∀ e ∈ L, badE (H.set w v) e = (e.tvar == (w : Int) && !(v == H.getD w 0)) := fun e he => by
    obtain ⟨h1, h2⟩ := h.of e he
    have hr := (h.sl.ok e he).range
    have hn : e.tvar.toNat < H.length := by omega
    unfold badE
    rw [List.length_set, decide_eq_false (by omega), Bool.false_or, h2]
    have hHx : H.getD e.tvar.toNat 0 = H[e.tvar.toNat] := by simp [List.getD, hn]
    have hrx : RtI (H.getD e.tvar.toNat 0) := by rw [hHx]; exact hR _ (List.getElem_mem hn)
    by_cases hx : e.tvar = (w : Int)
    · have hxn : e.tvar.toNat = w := by omega
      rw [hxn, hx]
      have hg : (H.set w v).getD w 0 = v := by simp [List.getD, h4, hw]
      rw [hg, sameV_rt hv (by rw [← hxn]; exact hrx)]
      simp
    · have hxn : w ≠ e.tvar.toNat := by omega
      have hg : (H.set w v).getD e.tvar.toNat 0 = H.getD e.tvar.toNat 0 := by simp [List.getD, List.getElem?_set, hxn]
      rw [hg, sameV_rt hrx hrx, show (e.tvar == (w : Int)) = false by simpa using hx]
      simp
  rw [Bool.eq_iff_iff, List.any_eq_true]
  unfold hasT
  rw [Bool.and_eq_true, List.any_eq_true]
  constructor
  · rintro ⟨x, hx, hb⟩
    rw [key x hx, Bool.and_eq_true] at hb
    exact ⟨⟨x, hx, hb.1⟩, hb.2⟩
  · rintro ⟨⟨x, hx, hb⟩, hc⟩
    exact ⟨x, hx, by rw [key x hx, Bool.and_eq_true]; exact ⟨hb, hc⟩⟩

theorem snap_good {H : List Int} {L : List EntD} (h4 : H.length = 4) (hR : ∀ x ∈ H, RtI x) (h : Snap H L) : (brokenE H L).2 = false := by
  have h1 := snap_bad h4 hR h 0 (by omega) (H.getD 0 0) (by
    have : H.getD 0 0 = H[0] := by simp [List.getD, h4]
    rw [this]; exact hR _ (List.getElem_mem _))
  have h2 : H.set 0 (H.getD 0 0) = H := by
    have : H.getD 0 0 = H[0] := by simp [List.getD, h4]
    rw [this, List.set_getElem_self]
  rw [h2] at h1
  rw [h1]; simp

theorem snap_add {H : List Int} {L : List EntD} (h4 : H.length = 4) (hR : ∀ x ∈ H, RtI x ∧ Wf64 x) (h : Snap H L) (hl : L.length < 8) (t : Nat) (ht : t < 4) :
    (addE L ⟨t, H.getD t 0, 0⟩).1 = 0 ∧ Snap H (addE L ⟨t, H.getD t 0, 0⟩).2 ∧ (addE L ⟨t, H.getD t 0, 0⟩).2.length ≤ L.length + 1 ∧ EntD.Wf ⟨t, H.getD t 0, 0⟩ := by
  have hx : H.getD t 0 = H[t] := by simp [List.getD, h4, ht]
  obtain ⟨r1, r2⟩ := hR H[t] (List.getElem_mem _)
  rw [← hx] at r1 r2
  have hw : EntD.Wf ⟨t, H.getD t 0, 0⟩ := ⟨by simp only; omega, r2, show Wf64 0 from ⟨by decide, by decide⟩⟩
  have h0 : wrongE ⟨t, H.getD t 0, 0⟩ = 0 := by
    unfold wrongE rightB
    unfold RtI at r1
    simp only
    rw [if_neg (by simp; omega), decide_eq_true r1]; rfl
  have hok : EntD.Ok ⟨t, H.getD t 0, 0⟩ := ⟨hw, h0⟩
  unfold addE
  rw [if_neg (fun hc => hc h0)]
  by_cases hh' : hasT L t = true
  case neg =>
   have hh : hasT L t = false := by simpa using hh'
   rw [if_neg hh', if_neg (by omega)]
   refine ⟨rfl, ⟨⟨?_, ?_, ?_⟩, ?_⟩, by simp, hw⟩
   · intro e he
     simp only [List.mem_append, List.mem_cons, List.not_mem_nil, or_false] at he
     rcases he with he | rfl
     · exact h.sl.ok e he
     · exact hok
   · rw [List.map_append, List.nodup_append]
     refine ⟨h.sl.nodup, by simp, ?_⟩
     intro x hx' y hy
     simp only [List.map_cons, List.map_nil, List.mem_cons, List.not_mem_nil, or_false] at hy
     subst hy
     rintro rfl
     rw [List.mem_map] at hx'
     obtain ⟨z, hz, hzt⟩ := hx'
     have : hasT L t = true := by
       unfold hasT
       rw [List.any_eq_true]
       exact ⟨z, hz, by simp [hzt]⟩
     rw [hh] at this; cases this
   · simp; omega
   · intro e he
     simp only [List.mem_append, List.mem_cons, List.not_mem_nil, or_false] at he
     rcases he with he | rfl
     · exact h.of e he
     · exact ⟨by simp only; omega, by simp⟩
  case pos =>
   rw [if_pos hh']
   exact ⟨rfl, h, by simp, hw⟩

theorem valrow_of {w : World} {B n : Nat} {v : Value} {l : List Int} (hn : l.length = n) (h : w.ownsRow B 23 1 v n (l.map (Value.int .u64))) : ValRow w v l := by
  subst hn
  rcases h.2 with ⟨rfl, h0⟩ | ⟨g, cap, cur, rfl, hB, hg, rest⟩
  · exact ⟨none, 0, by rw [h0], fun hn => absurd (List.eq_nil_of_length_eq_zero h0) hn⟩
  · refine ⟨some ⟨g, 0, none⟩, cap, rfl, fun _ => ⟨g, 0, rfl, lt_of_heap hg, fun k hk j hj => ?_⟩⟩
    have hj0 : j = 0 := by omega
    subst hj0
    have hc := h.cells (g := g) rfl k (.int .u64 l[k]) (by simp [hk])
    rw [Addr.add_lit] at hc
    simpa using hc

/-- How things stand. -/
structure Sit (w W : World) (b0 bl b m Bs : Nat) (hs : Array Value) (c o : Int) (vl : Value) (L : List EntD) (vh : Value) (H : List Int) : Prop where
  hp : W.heap[b0]? = some (.cells hs 24 (0, 0))
  l : LObj W bl c o
  s : RdSet Bs W b m vl L
  row : W.ownsRow Bs 23 1 vh H.length (H.map (Value.int .u64))
  t : Touch w W []
  e0 : b0 = w.heap.size
  e1 : b0 < bl
  e2 : bl < Bs
  sep : ∀ q, vh.ownBlock = some q → q ∉ rdfoot b m vl

theorem Try.info_val : (Try.prog.info? 23).map (fun i => (i.zero, i.size, i.bytes)) = some (some (.int .u64 0), 1, 8) := by kernel_rfl

theorem four_cases {k : Nat} (h : k < 4) : k = 0 ∨ k = 1 ∨ k = 2 ∨ k = 3 := by omega

theorem Sit.quiet {w W W' : World} {b0 bl b m Bs : Nat} {hs : Array Value} {c o : Int} {vl : Value} {L : List EntD} {vh : Value} {H : List Int} (h : Sit w W b0 bl b m Bs hs c o vl L vh H) (t : Touch W W' []) : Sit w W' b0 bl b m Bs hs c o vl L vh H :=
  ⟨(t.block _ (lt_of_heap h.hp) (by simp)).trans h.hp, h.l.touch t (by simp), h.s.keep t (by simp), ownsRow_touch h.row t (by simp), h.t.trans t (by simp), h.e0, h.e1, h.e2, h.sep⟩

theorem Sit.lock {w W W' : World} {b0 bl b m Bs : Nat} {hs : Array Value} {c o c' o' : Int} {vl : Value} {L : List EntD} {vh : Value} {H : List Int} (h : Sit w W b0 bl b m Bs hs c o vl L vh H) (hl : LObj W' bl c' o') (t : Touch W W' [bl]) : Sit w W' b0 bl b m Bs hs c' o' vl L vh H := by
  have h0 := h.e0
  have h1 := h.e1
  have h2 := h.e2
  refine ⟨(t.block _ (lt_of_heap h.hp) (by simp; omega)).trans h.hp, hl, h.s.keep t (fun q hq => ?_), ownsRow_touch h.row t (fun q hq => ?_), h.t.trans t (by intro x hx; simp at hx; omega), h0, h1, h2, h.sep⟩
  · have := (h.s.foot_lt q hq).1; simp; omega
  · have := (h.row.lt q hq).1; simp; omega

theorem Sit.added {w W W' : World} {b0 bl b m Bs : Nat} {hs : Array Value} {c o : Int} {vl vl' : Value} {L L' : List EntD} {vh : Value} {H : List Int} (h : Sit w W b0 bl b m Bs hs c o vl L vh H) (hs' : RdSet Bs W' b m vl' L') (t : Touch W W' (rdfoot b m vl)) (hf : ∀ q ∈ rdfoot b m vl', q ∈ rdfoot b m vl ∨ W.heap.size ≤ q) : Sit w W' b0 bl b m Bs hs c o vl' L' vh H := by
  have h0 := h.e0
  have h1 := h.e1
  have h2 := h.e2
  have hfo : ∀ q ∈ rdfoot b m vl, Bs ≤ q := fun q hq => (h.s.foot_lt q hq).1
  refine ⟨(t.block _ (lt_of_heap h.hp) (fun hh => by have := hfo _ hh; omega)).trans h.hp, h.l.touch t (fun hh => by have := hfo _ hh; omega), hs', ownsRow_touch h.row t (fun q hq hh => h.sep q hq hh), h.t.trans t (fun x hx => .inr (by have := hfo x hx; omega)), h0, h1, h2, fun q hq hh => ?_⟩
  rcases hf q hh with h3 | h3
  · exact h.sep q hq h3
  · have := (h.row.lt q hq).2; omega

theorem Sit.put {w W : World} {b0 bl b m Bs g cap n : Nat} {hs : Array Value} {c o : Int} {vl : Value} {L : List EntD} {H : List Int} (hn : H.length = n) (h : Sit w W b0 bl b m Bs hs c o vl L (.slice (some ⟨g, 0, none⟩) n cap) H) (i : Nat) (v : Int) : Sit w (W.setCell ⟨g, i, none⟩ (.int .u64 v)) b0 bl b m Bs hs c o vl L (.slice (some ⟨g, 0, none⟩) n cap) (H.set i v) := by
  subst hn
  have h0 := h.e0
  have h1 := h.e1
  have h2 := h.e2
  have hg := h.row.lt g rfl
  have t : Touch W (W.setCell ⟨g, i, none⟩ (.int .u64 v)) [g] := (Touch.refl W [g]).setCell (.inl (by simp)) _
  have hsep := h.sep g rfl
  refine ⟨(t.block _ (lt_of_heap h.hp) (by simp; omega)).trans h.hp, h.l.touch t (by simp; omega), h.s.keep t (fun q hq hh => hsep (by simp at hh; rw [← hh]; exact hq)), ?_, h.t.trans t (by intro x hx; simp at hx; omega), h0, h1, h2, h.sep⟩
  have := (h.row.stored i (.int .u64 v)).1
  rw [List.length_set, List.map_set]
  exact this

theorem Sit.grown {w W W' : World} {b0 bl b m Bs : Nat} {hs : Array Value} {c o : Int} {vl : Value} {L : List EntD} {vh vh' : Value} {H H' : List Int} (h : Sit w W b0 bl b m Bs hs c o vl L vh H) (t : Touch W W' vh.ownBlock.toList)
    (hrow : W'.ownsRow Bs 23 1 vh' H'.length (H'.map (Value.int .u64))) (hat : vh'.ownBlock = vh.ownBlock ∨ ∀ q, vh'.ownBlock = some q → W.heap.size ≤ q) : Sit w W' b0 bl b m Bs hs c o vl L vh' H' := by
  have h0 := h.e0
  have h1 := h.e1
  have h2 := h.e2
  have hv : ∀ q, q ∈ vh.ownBlock.toList → Bs ≤ q := fun q hq => (h.row.lt q (by simpa using hq)).1
  refine ⟨(t.block _ (lt_of_heap h.hp) (fun hh => by have := hv _ hh; omega)).trans h.hp, h.l.touch t (fun hh => by have := hv _ hh; omega), h.s.keep t (fun q hq hh => h.sep q (by simpa using hh) hq), hrow, h.t.trans t (fun x hx => .inr (by have := hv x hx; omega)), h0, h1, h2, fun q hq hh => ?_⟩
  rcases hat with e | e
  · exact h.sep q (e ▸ hq) hh
  · have := e q hq
    have := (h.s.foot_lt q hh).2
    omega

set_option maxRecDepth 100000 in
set_option maxHeartbeats 3200000 in
theorem snap_walk (h0 h1 h2 h3 h4 : Int) (ao : Option Addr) (cap : Nat) (rd : List Int) (wr' : Int) (w : World) (f0 : Wf64 h0) (f1 : Wf64 h1) (f2 : Wf64 h2) (f3 : Wf64 h3) (f4 : Wf64 h4) (hw0 : 0 ≤ wr') (hw1 : wr' ≤ 255)
    (hr : SRow 1 (fun x : Int => [Value.int .u8 x]) w (.slice ao rd.length cap) rd) (hl : rd.length ≤ maxLen) (hrw : ∀ x ∈ rd, 0 ≤ x ∧ x ≤ 255) :
    Calls Try.prog 3 #[.agg #[.int .u64 h0, .int .u64 h1, .int .u64 h2, .int .u64 h3, .int .u64 h4], .slice ao rd.length cap, .int .u8 wr'] w (TrueIn w) := by
  unfold maxLen at hl
  obtain ⟨N, hN⟩ : ∃ N, N = rd.length := ⟨_, rfl⟩
  have HN : Hid (N = rd.length) := hN
  rw [← hN] at hl
  go_enter Try.func3, Try.ntmps3
  rw [← hN]
  clear hN
  obtain ⟨i0, hi, hz0, hz1, hz2⟩ := info_parts Try.info_val
  obtain ⟨HS, hHS⟩ : ∃ HS : Array Value, HS = #[.int .u64 h0, .int .u64 h1, .int .u64 h2, .int .u64 h3, .int .u64 h4] := ⟨_, rfl⟩
  have tA : Touch w (w.alloc (.cells #[.int .u64 h0, .int .u64 h1, .int .u64 h2, .int .u64 h3, .int .u64 h4] 24)) [] := (Touch.refl w []).alloc _
  have hA : (w.alloc (.cells #[.int .u64 h0, .int .u64 h1, .int .u64 h2, .int .u64 h3, .int .u64 h4] 24)).heap[w.heap.size]? = some (.cells HS 24 (0, 0)) := by rw [hHS]; exact heap_alloc_new w _
  have HHS : Hid _ := hHS
  clear hHS
  go_wp2_with fail
  refine (snew_any _).mono ?_
  rintro y w1 ⟨rfl, l1, e1⟩
  have t1 : Touch (w.alloc (.cells #[.int .u64 h0, .int .u64 h1, .int .u64 h2, .int .u64 h3, .int .u64 h4] 24)) w1 [] := by rw [e1]; exact (Touch.refl _ []).alloc _
  have hp1 := (t1.block _ (lt_of_heap hA) (by simp)).trans hA
  have T1 := tA.trans t1 (by simp)
  have hbl : w.heap.size < (w.alloc (.cells #[.int .u64 h0, .int .u64 h1, .int .u64 h2, .int .u64 h3, .int .u64 h4] 24)).heap.size := lt_of_heap hA
  obtain ⟨bl, hble⟩ : ∃ bl, bl = (w.alloc (.cells #[.int .u64 h0, .int .u64 h1, .int .u64 h2, .int .u64 h3, .int .u64 h4] 24)).heap.size := ⟨_, rfl⟩
  rw [← hble] at l1 hbl ⊢
  clear hA t1 tA e1 hble
  go_wp2_with fail
  refine (rdnew_any w1).mono ?_
  rintro y w2 ⟨b, m, rfl, s2, t2⟩
  have hp2 := (t2.block _ (lt_of_heap hp1) (by simp)).trans hp1
  have l2 := l1.touch t2 (by simp)
  have T2 := T1.trans t2 (by simp)
  obtain ⟨Bs, hBs⟩ : ∃ Bs, Bs = w1.heap.size := ⟨_, rfl⟩
  have hbB : bl < Bs := by rw [hBs]; exact lt_of_heap l1.st
  rw [← hBs] at s2
  have hBs2 : Bs ≤ w2.heap.size := by rw [hBs]; exact t2.size
  clear hp1 l1 T1 t2 hBs
  have hsn := snap_any bl ⟨0, 0⟩ (by decide) w2 l2
  rw [show snapS ⟨0, 0⟩ = (0, 0) from rfl] at hsn
  go_wp2_with fail
  refine hsn.mono ?_
  rintro y w3 ⟨rfl, l3, t3⟩
  clear hsn
  have S3 : Sit w w3 w.heap.size bl b m Bs HS 0 0 (.slice none 0 0) [] (.slice none 0 0) [] :=
    Sit.lock (W := w2) ⟨hp2, l2, s2, World.ownsRow_nil _ _ _ _, T2, rfl, hbl, hbB, fun q hq => by simp [Value.ownBlock] at hq⟩ l3 t3
  have hBs3 : Bs ≤ w3.heap.size := Nat.le_trans hBs2 t3.size
  clear hp2 l2 s2 T2 l3 t3 hBs2
  have hcan := fun (n : Int) (W : World) => canon_any n W
  obtain ⟨H, hH⟩ : ∃ H : List Int, H = [((ofB h0.toNat : Nat) : Int), ((ofB h1.toNat : Nat) : Int), ((ofB h2.toNat : Nat) : Int), ((ofB h3.toNat : Nat) : Int)] := ⟨_, rfl⟩
  have HH : Hid _ := hH
  clear hH
  go_wp2_with fail
  go_loopw [12, 13] (fun v i wr => ∃ k : Nat, i = .int .i64 k ∧ k ≤ 4 ∧ Sit w wr w.heap.size bl b m Bs HS 0 0 (.slice none 0 0) [] v (H.take k)) (fun _ i _ => 4 - (intOf i).toNat)
  case atStart => exact ⟨0, rfl, by omega, S3⟩
  case round =>
    obtain ⟨k, rfl, hk, hS⟩ := hrel
    by_cases hlt : k < 4
    · have hlt' : (k : Int) < 4 := by omega
      have hkc : wr.cell? ⟨w.heap.size, k, none⟩ = some (.int .u64 ([h0, h1, h2, h3].getD k 0)) := by
        simp only [World.cell?, hS.hp, HHS.out]
        rcases four_cases hlt with rfl | rfl | rfl | rfl <;> rfl
      have hHk : H.take (k + 1) = H.take k ++ [((ofB ([h0, h1, h2, h3].getD k 0).toNat : Nat) : Int)] := by
        rw [HH.out]
        rcases four_cases hlt with rfl | rfl | rfl | rfl <;> rfl
      generalize [h0, h1, h2, h3].getD k 0 = x at *
      have hc := hcan x wr
      generalize ((ofB x.toNat : Nat) : Int) = y at *
      have HS' : Hid _ := hS
      have HK : Hid _ := hHk
      clear hS hHk
      have hlen : (H.take k).length = k := by rw [HH.out, List.length_take]; simp; omega
      go_wp2_with fail
      refine hc.mono ?_
      rintro e w4 ⟨rfl, rfl⟩
      clear hc hkc
      have hrow := HS'.out.row
      have hwz := HS'.out.t.size
      have hBw : Bs ≤ wr.heap.size := by have := (HS'.out.s.foot_lt b (by simp [rdfoot])); omega
      rw [hlen] at hrow
      go_wp2_with (at_builtin; refine wpList_append_own_at _ rfl _ _ 33 rfl Bs 23 i0 (.int .u64 0) 1 8 Try.underlying33 hi hz0 hz1 hz2 rfl (by decide) _ _ _ rfl (hrow.alloc _) ⟨wr.heap.size, 0, none⟩ 1 1 [.int .u64 y] rfl rfl (cell_one_new _ _ _) (by simp [Value.oneCell']) (by unfold maxLen; omega) (by omega) (by simp; omega) ?_)
      intro v' w4 hown' hgrow _ hat
      have S4 : Sit w w4 w.heap.size bl b m Bs HS 0 0 (.slice none 0 0) [] v' (H.take (k + 1)) := by
        rw [HK.out]
        refine HS'.out.grown (((Touch.refl wr _).alloc _).grown hgrow (fun q hq => .inl (by simp [hq]))) ?_ (hat.imp id (fun h q hq => by rw [h] at hq; simp at hq; omega))
        rw [List.length_append, hlen, List.map_append]
        simpa [List.map_take] using hown'
      have HS4 : Hid _ := S4
      clear hown' hgrow hat S4 hrow
      go_wp2
      go_roundw
      case rel => exact ⟨k + 1, by go_num, by omega, HS4.out⟩
      case measure => simp [intOf]; omega
    · obtain rfl : k = 4 := by omega
      have hH4 : H.take 4 = H := List.take_of_length_le (by rw [HH.out]; simp)
      rw [hH4] at hS
      have hlen4 : H.length = 4 := by rw [HH.out]; rfl
      have hRt : ∀ x ∈ H, RtI x ∧ Wf64 x := by
        rw [HH.out]
        intro x hx
        simp only [List.mem_cons, List.not_mem_nil, or_false] at hx
        rcases hx with rfl | rfl | rfl | rfl
        · exact ⟨rt_ofB h0, wf_ofB f0⟩
        · exact ⟨rt_ofB h1, wf_ofB f1⟩
        · exact ⟨rt_ofB h2, wf_ofB f2⟩
        · exact ⟨rt_ofB h3, wf_ofB f3⟩
      have hG := hS.row
      obtain ⟨ah, ch, rfl⟩ := RdSet.owns_form hG
      obtain ⟨gh, rfl⟩ : ∃ gh, ah = some ⟨gh, 0, none⟩ := by
        rcases hG.2 with ⟨e, h0⟩ | ⟨g, cap, cur, e, _⟩
        · omega
        · simp only [Value.slice.injEq] at e; exact ⟨g, e.1⟩
      rw [hlen4] at hS ⊢
      have HS4 : Hid _ := hS
      clear hS hG hH4 HH S3
      have hSn0 : Snap H [] := ⟨SetL.nil, by simp⟩
      go_wp2_with fail
      go_loopw [14] (fun i wr => ∃ (k : Nat) (vl : Value) (L : List EntD), i = .int .i64 k ∧ k ≤ N ∧ k ≤ 8 ∧ Sit w wr w.heap.size bl b m Bs HS 0 0 vl L (.slice (some ⟨gh, 0, none⟩) 4 ch) H ∧ Snap H L ∧ L.length ≤ k) (fun i _ => 8 - (intOf i).toNat)
      case atStart => exact ⟨0, _, [], rfl, Nat.zero_le _, by omega, HS4.out, hSn0, by simp⟩
      case round =>
        obtain ⟨k, vl, L, rfl, hk, hk8, hS, hSn, hLk⟩ := hrel
        by_cases hlt : k < N ∧ k < 8
        · obtain ⟨hlt, hlt8⟩ := hlt
          have hlt' : (k : Int) < N := by omega
          have hlt8' : (k : Int) < 8 := by omega
          have hkl : k < rd.length := by rw [← HN.out]; exact hlt
          obtain ⟨g, off, rfl, hg, hcc⟩ := hr.at k hkl
          have m0 : wr.cell? ⟨g, off + k, none⟩ = some (.int .u8 rd[k]) := (hS.t.cell (p := ⟨g, off + k, none⟩) hg (by simp)).trans (by simpa using hcc 0 (by omega))
          obtain ⟨x0, x1⟩ := hrw rd[k] (List.getElem_mem hkl)
          obtain ⟨x, hx⟩ : ∃ x, x = rd[k] := ⟨_, rfl⟩
          rw [← hx] at m0 x0 x1
          obtain ⟨n, hn⟩ := Int.eq_ofNat_of_zero_le (show 0 ≤ x % 4 by omega)
          have hn4 : n < 4 := by omega
          obtain ⟨a1, a2, a3, a4⟩ := snap_add hlen4 hRt hSn (by omega) n hn4
          have hcell : wr.cell? ⟨gh, n, none⟩ = some (.int .u64 (H.getD n 0)) := by
            have hrw4 := hS.row
            rw [hlen4] at hrw4
            have := hrw4.cells (g := gh) rfl n (.int .u64 (H.getD n 0)) (by simp [List.getD, hlen4, hn4])
            rw [Addr.add_lit] at this
            simpa using this
          have hadd := add_any hS.s (by have := (hS.s.foot_lt b (by simp [rdfoot])); omega) ⟨n, H.getD n 0, 0⟩ a4
          have HS' : Hid _ := hS
          have HA : Hid _ := And.intro a2 a3
          generalize H.getD n 0 = y at *
          generalize addE L ⟨n, y, 0⟩ = R at *
          obtain ⟨r1, r2⟩ := R
          simp only at a1
          subst a1
          have hn4' : (n : Int) < 4 := by omega
          clear hS hSn hx hcc a2 a3 a4
          go_wp2_with fail
          refine hadd.mono ?_
          rintro e w4 ⟨vl', rfl, s4, t4, f4⟩
          clear hadd hcell m0
          have HS5 : Hid _ := HS'.out.added s4 t4 f4
          clear s4 t4 f4 HS'
          go_wp2
          go_roundw
          case rel =>
            (repeat apply Exists.intro)
            exact ⟨⟨k + 1, vl', r2, by go_num, by omega, by omega, HS5.out, HA.out.1, by have := HA.out.2; omega⟩, rfl⟩
          case measure => simp [intOf]; omega
        · obtain ⟨q, hq⟩ := Int.eq_ofNat_of_zero_le (show 0 ≤ wr' % 4 by omega)
          have hq4 : q < 4 := by omega
          have hq4' : (q : Int) < 4 := by omega
          have hval : ∀ {X : World} {cc oo : Int} {v2 : Value} {HH' : List Int}, HH'.length = 4 → Sit w X w.heap.size bl b m Bs HS cc oo v2 L (.slice (some ⟨gh, 0, none⟩) 4 ch) HH' → Calls Try.prog 9 #[.pointer (some ⟨b, 0, none⟩), .slice (some ⟨gh, 0, none⟩) 4 ch] X fun x w' => x = .returned (.bool (!(brokenE HH' L).2)) ∧ Touch X w' [] := fun {X} {cc} {oo} {v2} {HH'} hl4 hX => by
            have hrow := hX.row
            rw [hl4] at hrow
            have hvr : ValRow X (.slice (some ⟨gh, 0, none⟩) 4 ch) _ := valrow_of hl4 hrow
            have := valid_any hX.s (some ⟨gh, 0, none⟩) ch _ (by rw [hl4]; exact hvr) (by rw [hl4]; decide)
            rw [hl4] at this
            exact this
          have hv1 := hval hlen4 hS
          rw [snap_good hlen4 (fun x hx => (hRt x hx).1) hSn] at hv1
          have hcanv := fun W => canon_any h4 W
          have hbad := snap_bad hlen4 (fun x hx => (hRt x hx).1) hSn q hq4 ((ofB h4.toNat : Nat) : Int) (rt_ofB h4)
          generalize ((ofB h4.toNat : Nat) : Int) = v at *
          have hlenS : (H.set q v).length = 4 := by rw [List.length_set]; exact hlen4
          have hv2 := fun {X : World} {cc oo : Int} {v2 : Value} (hX : Sit w X w.heap.size bl b m Bs HS cc oo v2 L (.slice (some ⟨gh, 0, none⟩) 4 ch) (H.set q v)) => hval hlenS hX
          rw [hbad] at hv2
          have ht1 := fun (W : World) (hW : LObj W bl 0 0) => try_any bl ⟨0, 0⟩ 2 0 (by decide) W hW
          rw [show tryS ⟨0, 0⟩ 2 0 = (0, ⟨1, 2⟩) from rfl] at ht1
          have hun := fun (W : World) (hW : LObj W bl 1 2) => unlock_any bl ⟨1, 2⟩ 2 (by decide) (by decide) W hW
          rw [show leaveS ⟨1, 2⟩ 2 ((⟨1, 2⟩ : SLk).c + 1) = (0, ⟨2, 0⟩) from rfl] at hun
          have hcell : ∀ {X : World} {cc oo : Int} {v2 : Value}, Sit w X w.heap.size bl b m Bs HS cc oo v2 L (.slice (some ⟨gh, 0, none⟩) 4 ch) H → X.cell? ⟨gh, q, none⟩ = some (.int .u64 (H.getD q 0)) ∧ X.frozen? ⟨gh, q, none⟩ = false := fun hX => by
            have hrow := hX.row
            rw [hlen4] at hrow
            refine ⟨?_, ?_⟩
            · have := hrow.cells (g := gh) rfl q (.int .u64 (H.getD q 0)) (by simp [List.getD, hlen4, hq4])
              rw [Addr.add_lit] at this
              simpa using this
            · rcases hrow.2 with ⟨e, _⟩ | ⟨g', cap', cur, e, _, hg', _⟩
              · simp at e
              · simp only [Value.slice.injEq, Option.some.injEq, Addr.mk.injEq] at e
                obtain ⟨⟨rfl, _⟩, _⟩ := e
                simp [World.frozen?, hg']
          generalize hY : H.getD q 0 = y at *
          have HS' : Hid _ := hS
          have HC : Hid _ := @hcell
          have HV2 : Hid _ := @hv2
          have hget := fun {X : World} (hX : RdSet Bs X b m vl L) => get_any hX q (by omega)
          clear hS hSn hval hbad hcell hv2 hr hrw hRt
          by_cases hlt1 : (k : Int) < N
          · have hlt2 : ¬ (k : Int) < 8 := by omega
            clear hlt
            go_wp2_with fail
            refine hv1.mono ?_
            rintro e w4 ⟨rfl, t4⟩
            clear hv1
            have S4 := HS'.out.quiet t4
            clear t4 HS'
            go_wp2_with fail
            refine (since_any bl 0 0 0 w4 S4.l).mono ?_
            rintro e w5 ⟨rfl, rfl⟩
            go_wp2_with fail
            refine (ht1 w4 S4.l).mono ?_
            rintro e w5 ⟨rfl, l5, t5⟩
            have S5 := S4.lock l5 t5
            clear S4 l5 t5 ht1
            have hg := hget S5.s
            obtain ⟨z, hz⟩ : ∃ z, z = (getT L q).getD ⟨0, 0, 0⟩ := ⟨_, rfl⟩
            rw [show entO (getT L q) = .agg #[.int .i64 z.tvar, .int .u64 z.val, .int .u64 z.ver] by rw [hz]; rfl] at hg
            clear hz
            go_wp2_with fail
            refine hg.mono ?_
            rintro e w6 ⟨rfl, t6⟩
            clear hg hget
            have S6 := (S5.quiet t6).quiet ((Touch.refl w6 []).alloc (.cells #[.int .i64 z.tvar, .int .u64 z.val, .int .u64 z.ver] 37))
            obtain ⟨c6, f6⟩ := HC.out S6
            have HS6 : Hid _ := S6
            clear S5 t6 S6
            go_wp2_with fail
            refine (hcanv _).mono ?_
            rintro e w7 ⟨rfl, rfl⟩
            clear hcanv
            have S7 := HS6.out.put hlen4 q v
            obtain ⟨X, hX⟩ : ∃ X, X = (w6.alloc (.cells #[.int .i64 z.tvar, .int .u64 z.val, .int .u64 z.ver] 37)).setCell ⟨gh, q, none⟩ (.int .u64 v) := ⟨_, rfl⟩
            rw [← hX] at S7
            have x7 : X.cell? ⟨gh, q, none⟩ = some (.int .u64 v) := by rw [hX]; exact World.cell?_setCell_same _ _ _ c6
            have hun' := hun X S7.l
            have HX : Hid _ := And.intro S7 x7
            clear S7 x7 HS6
            go_wp2_with fail
            rw [← hX]
            refine hun'.mono ?_
            rintro e w8 ⟨rfl, l8, t8⟩
            clear hun hun' hX c6 f6
            have hgb : gh < X.heap.size ∧ gh ∉ [bl] := by
              have h1 := HX.out.1.row.lt gh rfl
              have h2 := HX.out.1.e2
              exact ⟨h1.2, by simp; omega⟩
            have S8 := HX.out.1.lock l8 t8
            have x8 := (t8.cell (p := ⟨gh, q, none⟩) hgb.1 hgb.2).trans HX.out.2
            clear HX l8 t8 hgb
            go_wp2_with fail
            refine (since_any bl 2 0 0 w8 S8.l).mono ?_
            rintro e w9 ⟨rfl, rfl⟩
            go_wp2_with fail
            refine (count_any bl 2 0 w8 S8.l).mono ?_
            rintro e w9 ⟨rfl, rfl⟩
            have hv := HV2.out S8
            have hg8 := (S8.row.lt gh rfl).2
            have T8 := S8.t
            clear S8 HV2 HC
            go_wp2_with fail
            refine hv.mono ?_
            rintro e w9 ⟨rfl, t9⟩
            clear hv
            have x9 := (t9.cell (p := ⟨gh, q, none⟩) hg8 (by simp)).trans x8
            have HT : Hid _ := T8.trans t9 (by simp)
            clear t9 x8 T8
            cases hm : hasT L q
            · go_wp2
              go_ret
              exact ⟨by simp, HT.out⟩
            · go_wp2
              go_ret
              exact ⟨by simp, HT.out⟩
          · clear hlt
            go_wp2_with fail
            refine hv1.mono ?_
            rintro e w4 ⟨rfl, t4⟩
            clear hv1
            have S4 := HS'.out.quiet t4
            clear t4 HS'
            go_wp2_with fail
            refine (since_any bl 0 0 0 w4 S4.l).mono ?_
            rintro e w5 ⟨rfl, rfl⟩
            go_wp2_with fail
            refine (ht1 w4 S4.l).mono ?_
            rintro e w5 ⟨rfl, l5, t5⟩
            have S5 := S4.lock l5 t5
            clear S4 l5 t5 ht1
            have hg := hget S5.s
            obtain ⟨z, hz⟩ : ∃ z, z = (getT L q).getD ⟨0, 0, 0⟩ := ⟨_, rfl⟩
            rw [show entO (getT L q) = .agg #[.int .i64 z.tvar, .int .u64 z.val, .int .u64 z.ver] by rw [hz]; rfl] at hg
            clear hz
            go_wp2_with fail
            refine hg.mono ?_
            rintro e w6 ⟨rfl, t6⟩
            clear hg hget
            have S6 := (S5.quiet t6).quiet ((Touch.refl w6 []).alloc (.cells #[.int .i64 z.tvar, .int .u64 z.val, .int .u64 z.ver] 37))
            obtain ⟨c6, f6⟩ := HC.out S6
            have HS6 : Hid _ := S6
            clear S5 t6 S6
            go_wp2_with fail
            refine (hcanv _).mono ?_
            rintro e w7 ⟨rfl, rfl⟩
            clear hcanv
            have S7 := HS6.out.put hlen4 q v
            obtain ⟨X, hX⟩ : ∃ X, X = (w6.alloc (.cells #[.int .i64 z.tvar, .int .u64 z.val, .int .u64 z.ver] 37)).setCell ⟨gh, q, none⟩ (.int .u64 v) := ⟨_, rfl⟩
            rw [← hX] at S7
            have x7 : X.cell? ⟨gh, q, none⟩ = some (.int .u64 v) := by rw [hX]; exact World.cell?_setCell_same _ _ _ c6
            have hun' := hun X S7.l
            have HX : Hid _ := And.intro S7 x7
            clear S7 x7 HS6
            go_wp2_with fail
            rw [← hX]
            refine hun'.mono ?_
            rintro e w8 ⟨rfl, l8, t8⟩
            clear hun hun' hX c6 f6
            have hgb : gh < X.heap.size ∧ gh ∉ [bl] := by
              have h1 := HX.out.1.row.lt gh rfl
              have h2 := HX.out.1.e2
              exact ⟨h1.2, by simp; omega⟩
            have S8 := HX.out.1.lock l8 t8
            have x8 := (t8.cell (p := ⟨gh, q, none⟩) hgb.1 hgb.2).trans HX.out.2
            clear HX l8 t8 hgb
            go_wp2_with fail
            refine (since_any bl 2 0 0 w8 S8.l).mono ?_
            rintro e w9 ⟨rfl, rfl⟩
            go_wp2_with fail
            refine (count_any bl 2 0 w8 S8.l).mono ?_
            rintro e w9 ⟨rfl, rfl⟩
            have hv := HV2.out S8
            have hg8 := (S8.row.lt gh rfl).2
            have T8 := S8.t
            clear S8 HV2 HC
            go_wp2_with fail
            refine hv.mono ?_
            rintro e w9 ⟨rfl, t9⟩
            clear hv
            have x9 := (t9.cell (p := ⟨gh, q, none⟩) hg8 (by simp)).trans x8
            have HT : Hid _ := T8.trans t9 (by simp)
            clear t9 x8 T8
            cases hm : hasT L q
            · go_wp2
              go_ret
              exact ⟨by simp, HT.out⟩
            · go_wp2
              go_ret
              exact ⟨by simp, HT.out⟩

end Go.Proofs.Ytigonjadlkalhaa

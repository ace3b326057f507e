/-
  package flows: the block that a text tells.
-/
import Derived.Test.YtcbkafbchpjnoaaGreatDoorFlRead
import Derived.Deep.RegionHeld3
import Derived.Lib.Walk
import Derived.Lib.AppendZeros
namespace Go.Proofs.YtcbkafbchpjnoaaGreatDoor
set_option linter.unusedVariables false
set_option linter.unusedSimpArgs false
open Go.RowKit
attribute [local go_sem] Oper.semAt_some

theorem step_append_runF {P : Program} (w : World) {ops : Array Oper} {o : Oper} {a : Act} {K : Act → World → Prop} {Q : Exit → Act → World → Prop} {E : Prop} (hgd : o.guard = none) (s x : Operand) (t tn : TypeId)
    (ho : o.op = .call { callee := .builtin .append, args := #[s, x], argTypes := #[t, tn] }) (vs vx : Value) (hs : a.eval s = vs) (hx : a.eval x = vx)
    (v' : Value) (w' : World) (hr : (Builtin.append_ #[t, tn] o.type #[vs, vx]).run P w = .ok v' w') (h : K (a.put o.dst v') w') : if Region.wanted o (yielded ops a.tmps) = true then Oper.wp P o a w K Q else E := by
  have hw : Region.wanted o (yielded ops a.tmps) = true := by simp [Region.wanted, hgd]
  rw [if_pos hw]
  exact Lib.wp_append_run w s x t tn ho vs vx hs hx v' w' hr h

def pS (s : ByteArray) : Nat := s.data.toList.findIdx (· == 32)
def lineI (N : Nm) (s : ByteArray) : InsD := stR N s (pS s) (if pS s < s.size then 2 else 1)
def okL (s : ByteArray) : Bool := decide (s.size ≤ 18) && decide (pS s ≤ s.size) && (List.range s.size).all (fun i => decide ((s.data.toList.getD i 0).toNat < 128) && (decide ((s.data.toList.getD i 0).toNat = 32) == decide (i = pS s))) && (decide (s.size ≤ pS s) || okA (opW (headS s (pS s))) (tailS s (pS s)))
theorem byte_at (s : ByteArray) (i : Nat) (h : i < s.size) : s.data.toList.getD i 0 = s[i]'h := by
  have h' : i < s.data.toList.length := by simpa using h
  rw [List.getD_eq_getElem?_getD, List.getElem?_eq_getElem h']
  simp
  rfl
theorem flline_any {w : World} (hw : Wds w) (N : Nm) (hN : N.Ok) (s : ByteArray) (h : okL s = true) : Calls Tryz.prog 146 #[N.val, .string s] w fun e w' => e = .returned (lineI N s).v ∧ Touch w w' [] := by
  unfold okL at h
  simp only [Bool.and_eq_true, decide_eq_true_eq, List.all_eq_true, List.mem_range, beq_iff_eq, Bool.or_eq_true] at h
  obtain ⟨⟨⟨h1, h2⟩, h3⟩, h4⟩ := h
  refine flread_any hw N hN s (pS s) h1 (fun i hi => ?_) h2 (fun i hi => ?_) (fun hlt => ?_)
  · rw [← byte_at s i hi]; exact (h3 i hi).1
  · rw [← byte_at s i hi]; exact decide_eq_decide.1 (h3 i hi).2
  · rcases h4 with h | h
    · omega
    · exact h
/-- Where the line begins in which a place lies; the lines ahead of it. -/
def chT (T : ByteArray) (k : Nat) : Nat := (T.data.toList.getD k 0).toNat
def bgT (T : ByteArray) : Nat → Nat
  | 0 => 0
  | k + 1 => if chT T k = 10 then k + 1 else bgT T k
def rwT (N : Nm) (T : ByteArray) : Nat → List InsD
  | 0 => []
  | k + 1 => if chT T k = 10 then rwT N T k ++ [lineI N (T.extract (bgT T k) k)] else rwT N T k
theorem bgT_le (T : ByteArray) : ∀ k, bgT T k ≤ k
  | 0 => Nat.le_refl _
  | k + 1 => by
    unfold bgT
    have := bgT_le T k
    split <;> omega
theorem rwT_le (N : Nm) (T : ByteArray) : ∀ k, (rwT N T k).length ≤ k
  | 0 => Nat.le_refl _
  | k + 1 => by
    unfold rwT
    have := rwT_le N T k
    split
    · rw [List.length_append]; simp; omega
    · omega
def okT (T : ByteArray) : Bool := decide (T.size ≤ 400) && (List.range T.size).all (fun k => decide (chT T k < 128) && (decide (chT T k ≠ 10) || okL (T.extract (bgT T k) k)))

theorem flins_app {w : World} {B : Nat} {v : Value} {xs : List InsD} (h : insOwn w B v xs) (hl : xs.length ≤ 1000) (hB : B ≤ w.heap.size) (i : InsD) :
    ∃ ao' cap' w', (Builtin.append_ #[25, 25] 25 #[v, .slice (some ⟨w.heap.size, 0, none⟩) 1 1]).run Tryz.prog (w.alloc (.cells #[.int .u8 i.op, .int .i64 i.arg, .int .u64 i.val] 78)) = .ok (.slice ao' (xs.length + 1) cap') w' ∧ insOwn w' B (.slice ao' (xs.length + 1) cap') (xs ++ [i]) ∧ Touch w w' v.ownBlock.toList := by
  obtain ⟨i0, hi, hz0, hz1, hz2⟩ := info_parts' Tryz.info_ins
  have ta : Touch w (w.alloc (.cells #[.int .u8 i.op, .int .i64 i.arg, .int .u64 i.val] 78)) [] := (Touch.refl w []).alloc _
  have ho : insOwn (w.alloc (.cells #[.int .u8 i.op, .int .i64 i.arg, .int .u64 i.val] 78)) w.heap.size (.slice (some ⟨w.heap.size, 0, none⟩) 1 1) [i] :=
    ⟨rfl, .inr ⟨w.heap.size, 1, #[.int .u8 i.op, .int .i64 i.arg, .int .u64 i.val], rfl, Nat.le_refl _, heap_alloc_new w _, Nat.le_refl _, by decide, rfl, rfl⟩⟩
  obtain ⟨v', w', h1, h2, h3, h4⟩ := run_app (P := Tryz.prog) (cells := InsD.cells) 25 25 78 i0 _ 3 24 Tryz.underlying25 hi hz0 hz1 hz2 rfl (by decide) (fun _ => rfl) ins_one (ownsRow_touch h ta (by simp)) (l := [i]) (srow_of (cells := InsD.cells) (n := 3) (fun _ => rfl) ho) (by simp; omega) (by decide) (Nat.le_trans hB ta.size)
  have h2' : insOwn w' B v' (xs ++ [i]) := by
    show w'.ownsRow _ _ _ _ _ _
    rw [List.length_append, List.flatMap_append]
    exact h2
  obtain ⟨ao', cap', rfl⟩ := owns_slice h2
  exact ⟨ao', cap', w', h1, h2', (ta.mono (by simp)).grown h3 (fun k hk => .inl (by simp [hk]))⟩

/-- How far a text is read. -/
structure BkS (w : World) (N : Nm) (T : ByteArray) (k : Nat) (v : Value) (W : World) : Prop where
  box : W.heap[w.heap.size]? = some (.cells #[.int .i64 N.a, .int .i64 N.t, .int .i64 N.s, .int .i64 N.l, .int .u64 N.v] 177 (0, 0))
  it : W.heap[w.heap.size + 1]? = some (.stringIter T k)
  own : insOwn W (w.heap.size + 2) v (rwT N T k)
  t : Touch w W []
theorem BkS.five {w : World} {N : Nm} {T : ByteArray} {k : Nat} {v : Value} {W : World} (h : BkS w N T k v W) {W' : World} {S : List Nat} (t : Touch W W' S) (hS : w.heap.size ∉ S) : W'.cell? ⟨w.heap.size, 0, none⟩ = some (.int .i64 N.a) ∧ W'.cell? ⟨w.heap.size, 1, none⟩ = some (.int .i64 N.t) ∧ W'.cell? ⟨w.heap.size, 2, none⟩ = some (.int .i64 N.s) ∧ W'.cell? ⟨w.heap.size, 3, none⟩ = some (.int .i64 N.l) ∧ W'.cell? ⟨w.heap.size, 4, none⟩ = some (.int .u64 N.v) := by
  have h2 : W'.heap[w.heap.size]? = _ := (t.block _ (lt_of_heap h.box) hS).trans h.box
  unfold World.cell?
  rw [h2]
  exact ⟨rfl, rfl, rfl, rfl, rfl⟩
theorem BkS.skip {w : World} {N : Nm} {T : ByteArray} {k : Nat} {v : Value} {W : World} (h : BkS w N T k v W) (hr : rwT N T (k + 1) = rwT N T k) : BkS w N T (k + 1) v (W.iterAt (w.heap.size + 1) T (k + 1)) := by
  have t : Touch W (W.iterAt (w.heap.size + 1) T (k + 1)) [w.heap.size + 1] := (Touch.refl W _).iterAt (.inl (by simp)) _ _
  refine ⟨(t.block _ (lt_of_heap h.box) (by simp)).trans h.box, Lib.iterAt_heap _ _ _ _ _ h.it, ?_, h.t.trans t (fun x hx => .inr (by simp at hx; omega))⟩
  rw [hr]
  exact ownsRow_touch h.own t (fun x hx hs => by have := (World.ownsRow.lt h.own x hx).1; simp at hs; omega)
theorem BkS.more {w : World} {N : Nm} {T : ByteArray} {k : Nat} {v v' : Value} {W W' : World} (h : BkS w N T k v W) (t : Touch (W.iterAt (w.heap.size + 1) T (k + 1)) W' v.ownBlock.toList) (ho : insOwn W' (w.heap.size + 2) v' (rwT N T (k + 1))) : BkS w N T (k + 1) v' W' := by
  have t1 : Touch W (W.iterAt (w.heap.size + 1) T (k + 1)) [w.heap.size + 1] := (Touch.refl W _).iterAt (.inl (by simp)) _ _
  have hlt : ∀ x ∈ v.ownBlock.toList, w.heap.size + 2 ≤ x := fun x hx => (World.ownsRow.lt h.own x (by simpa using hx)).1
  have i1 := Lib.iterAt_heap _ _ _ _ (k + 1) h.it
  have b1 := (t1.block _ (lt_of_heap h.box) (by simp)).trans h.box
  refine ⟨(t.block _ (lt_of_heap b1) (fun e => by have := hlt _ e; omega)).trans b1, (t.block _ (lt_of_heap i1) (fun e => by have := hlt _ e; omega)).trans i1, ho, (h.t.trans t1 (fun x hx => .inr (by simp at hx; omega))).trans t (fun x hx => .inr (by have := hlt _ hx; omega))⟩

set_option maxRecDepth 100000 in
set_option maxHeartbeats 4000000 in
theorem flblock_any {w : World} (hw : Wds w) (N : Nm) (hN : N.Ok) (T : ByteArray) (hT : okT T = true) (hwf : ∀ i ∈ rwT N T T.size, i.Wf) :
    Calls Tryz.prog 127 #[.string T, N.val] w (LkP w (if N.a + ((rwT N T T.size).length : Nat) > 64 then 4 else 0) (rwT N T T.size)) := by
  unfold okT at hT
  simp only [Bool.and_eq_true, decide_eq_true_eq, List.all_eq_true, List.mem_range, Bool.or_eq_true] at hT
  obtain ⟨hsz, hch⟩ := hT
  obtain ⟨E, hE⟩ : ∃ E : Int, E = if N.a + ((rwT N T T.size).length : Nat) > 64 then 4 else 0 := ⟨_, rfl⟩
  obtain ⟨RL, hRL⟩ : ∃ RL, RL = rwT N T T.size := ⟨_, rfl⟩
  rw [← hE, ← hRL]
  have HE : Hid _ := hE
  have HRL : Hid _ := hRL
  have HW : Hid _ := hw
  have HWF : Hid _ := hwf
  have HCH : Hid _ := hch
  have HN : Hid _ := hN
  have HI0 : Hid (BkS w N T 0 (.slice none 0 0) ((w.alloc (.cells #[.int .i64 N.a, .int .i64 N.t, .int .i64 N.s, .int .i64 N.l, .int .u64 N.v] 177)).iter T 0)) := by
    refine ⟨(heap_alloc_old _ _ (by simp)).trans (heap_alloc_new w _), ?_, World.ownsRow_nil _ _ _ _, ((Touch.refl w []).alloc _).alloc _⟩
    have := World.iter_heap (w.alloc (.cells #[.int .i64 N.a, .int .i64 N.t, .int .i64 N.s, .int .i64 N.l, .int .u64 N.v] 177)) T 0
    rwa [World.size_alloc] at this
  clear hE hRL hw hwf hch hN
  go_enter Tryz.func127, Tryz.ntmps127
  go_wp2_with fail
  generalize (w.alloc (.cells #[.int .i64 N.a, .int .i64 N.t, .int .i64 N.s, .int .i64 N.l, .int .u64 N.v] 177)).iter T 0 = W1 at *
  go_loopw [6, 7] (fun v b wr => ∃ k : Nat, k ≤ T.size ∧ b = .int .i64 (bgT T k) ∧ BkS w N T k v wr) (fun _ _ wr => T.size + 1 - wr.iterPos (w.heap.size + 1))
  case atStart => exact ⟨0, Nat.zero_le _, rfl, HI0.out⟩
  case round =>
    obtain ⟨k, hk, rfl, hI⟩ := hrel
    obtain ⟨ao, cap, rfl⟩ := owns_slice hI.own
    have HI : Hid _ := hI
    have HIP : Hid _ := iterPos_of hI.it
    by_cases hlt : k < T.size
    · obtain ⟨hasc, hln⟩ := HCH.out k hlt
      have ec : (T[k]'hlt).toNat = chT T k := by unfold chT; rw [byte_at T k hlt]
      have nx := fun ty => Lib.run_next_ascii_at (P := Tryz.prog) wr (w.heap.size + 1) T k ty hI.it hlt (by rw [ec]; exact hasc)
      simp only [ec] at nx
      by_cases h10 : chT T k = 10
      · have hc : (chT T k : Int) = 10 := by omega
        have hok : okL (T.extract (bgT T k) k) = true := by rcases hln with h | h; exact absurd h10 h; exact h
        have hrw : rwT N T (k + 1) = rwT N T k ++ [lineI N (T.extract (bgT T k) k)] := by rw [rwT, if_pos h10]
        have hbg : bgT T (k + 1) = k + 1 := by rw [bgT, if_pos h10]
        have hbl := bgT_le T k
        have hb0 : (0 : Int) ≤ (bgT T k : Nat) := by omega
        have hb1 : ((bgT T k : Nat) : Int) ≤ k := by omega
        have hb2 : (k : Int) ≤ T.size := by omega
        have hwk : IntKind.i64.wrap ((k : Int) + 1) = (k : Int) + 1 := by rw [IntKind.wrap_i64]; omega
        have t1 : Touch w (wr.iterAt (w.heap.size + 1) T (k + 1)) [] := hI.t.trans ((Touch.refl wr [w.heap.size + 1]).iterAt (.inl (by simp)) _ _) (fun x hx => .inr (by simp at hx; omega))
        have HLN : Hid (∀ W, Touch w W [] → HidC Tryz.prog 146 #[N.val, .string (T.extract (bgT T k) k)] W fun e w' => e = .returned (lineI N (T.extract (bgT T k) k)).v ∧ Touch W w' []) := fun W t => ⟨flline_any (HW.out.touch t (by simp)) N HN.out _ hok⟩
        have hown1 : insOwn (wr.iterAt (w.heap.size + 1) T (k + 1)) (w.heap.size + 2) (.slice ao (rwT N T k).length cap) (rwT N T k) := ownsRow_touch hI.own ((Touch.refl wr [w.heap.size + 1]).iterAt (.inl (by simp)) _ _) (fun x hx hs => by have := (World.ownsRow.lt hI.own x hx).1; simp at hs; omega)
        have hlen := rwT_le N T k
        have hszI := hI.t.size
        have hit := lt_of_heap hI.it
        obtain ⟨I, hI2⟩ : ∃ I, I = lineI N (T.extract (bgT T k) k) := ⟨_, rfl⟩
        rw [← hI2] at hrw HLN
        have HAPP : Hid (∀ W, Touch (wr.iterAt (w.heap.size + 1) T (k + 1)) W [] → ∃ ao' cap' w', (Builtin.append_ #[25, 25] 25 #[.slice ao (rwT N T k).length cap, .slice (some ⟨W.heap.size, 0, none⟩) 1 1]).run Tryz.prog (W.alloc (.cells #[.int .u8 I.op, .int .i64 I.arg, .int .u64 I.val] 78)) = .ok (.slice ao' ((rwT N T k).length + 1) cap') w' ∧ insOwn w' (w.heap.size + 2) (.slice ao' ((rwT N T k).length + 1) cap') (rwT N T (k + 1)) ∧ Touch (wr.iterAt (w.heap.size + 1) T (k + 1)) w' (Value.slice ao (rwT N T k).length cap).ownBlock.toList) := by
          intro W t
          obtain ⟨a, c, w', h1, h2, h3⟩ := flins_app (ownsRow_touch hown1 t (by simp)) (by omega) (by have := t.size; rw [Lib.iterAt_size] at this; omega) I
          refine ⟨a, c, w', h1, ?_, (t.mono (by simp)).trans h3 (fun x hx => .inl hx)⟩
          rw [hrw]
          exact h2
        have HS : Hid (∀ (W' : World) (S : List Nat), Touch (wr.iterAt (w.heap.size + 1) T (k + 1)) W' S → w.heap.size ∉ S → W'.cell? ⟨w.heap.size, 0, none⟩ = some (.int .i64 N.a) ∧ W'.cell? ⟨w.heap.size, 1, none⟩ = some (.int .i64 N.t) ∧ W'.cell? ⟨w.heap.size, 2, none⟩ = some (.int .i64 N.s) ∧ W'.cell? ⟨w.heap.size, 3, none⟩ = some (.int .i64 N.l) ∧ W'.cell? ⟨w.heap.size, 4, none⟩ = some (.int .u64 N.v)) := fun W' S t hS => hI.five (S := (w.heap.size + 1) :: S) (((Touch.refl wr _).iterAt (.inl (by simp)) _ _).trans t (fun x hx => .inl (by simp [hx]))) (by simp [hS])
        have HOB : Hid (w.heap.size ∉ (Value.slice ao (rwT N T k).length cap).ownBlock.toList) := fun h => by have := (World.ownsRow.lt hI.own w.heap.size (by simpa using h)).1; omega
        have HMORE : Hid (∀ v' W', Touch (wr.iterAt (w.heap.size + 1) T (k + 1)) W' (Value.slice ao (rwT N T k).length cap).ownBlock.toList → insOwn W' (w.heap.size + 2) v' (rwT N T (k + 1)) → BkS w N T (k + 1) v' W') := fun v' W' t o => hI.more t o
        have HT1 : Hid _ := t1
        have HBG : Hid _ := hbg
        have HDR : Hid (Touch (wr.iterAt (w.heap.size + 1) T (k + 1)) (wr.iterAt (w.heap.size + 1) T (k + 1)).drew []) := (Touch.refl _ []).drew
        clear hasc hln ec hok hrw hbg hown1 hszI hit hI2 hI t1 h10
        generalize (wr.iterAt (w.heap.size + 1) T (k + 1)) = Q at *
        generalize (Value.slice ao (rwT N T k).length cap).ownBlock.toList = OB at *
        generalize (rwT N T k).length = m at *
        generalize bgT T k = b at *
        generalize chT T k = c at *
        go_wp2_with fail
        have hd := HDR.out
        go_region_held3 (fun W' => W'.cell? ⟨w.heap.size, 0, none⟩ = some (.int .i64 N.a) ∧ W'.cell? ⟨w.heap.size, 1, none⟩ = some (.int .i64 N.t) ∧ W'.cell? ⟨w.heap.size, 2, none⟩ = some (.int .i64 N.s) ∧ W'.cell? ⟨w.heap.size, 3, none⟩ = some (.int .i64 N.l) ∧ W'.cell? ⟨w.heap.size, 4, none⟩ = some (.int .u64 N.v)) ((first | exact HS.out _ [] hd (by simp) | exact HS.out _ [] t2 (by simp) | exact HS.out _ [] (t2.alloc _) (by simp) | exact HS.out _ _ t3 HOB.out)) ((first
          | (go_at_call 146; refine (HLN.out _ (HT1.out.trans hd (by simp))).out.mono ?_; rintro e w2 ⟨rfl, t2'⟩; have t2 : Touch Q w2 [] := hd.trans t2' (by simp); obtain ⟨ao', cap', w3, h3, o3, t3⟩ := HAPP.out w2 t2)
          | (refine step_append_runF _ (by rfl) _ _ _ _ (by rfl) _ _ (by rfl) (by rfl) _ _ h3 ?_)))
        rename_i hHeld
        have HB3 : Hid _ := HMORE.out _ _ t3 o3
        clear hHeld h3 o3 t3 t2 t2' hd HAPP HS HOB HMORE HLN
        go_wp2
        go_roundw
        case rel => exact ⟨k + 1, by omega, by rw [HBG.out]; go_num, HB3.out⟩
        case measure => rw [iterPos_of HB3.out.it, HIP.out]; omega
      · have hc : (chT T k : Int) ≠ 10 := by omega
        have hrw : rwT N T (k + 1) = rwT N T k := by rw [rwT, if_neg h10]
        have hbg : bgT T (k + 1) = bgT T k := by rw [bgT, if_neg h10]
        have HSK : Hid _ := hI.skip hrw
        have HBG : Hid _ := hbg
        clear hasc hln ec hrw hbg hI h10
        generalize (wr.iterAt (w.heap.size + 1) T (k + 1)) = Q at *
        generalize (rwT N T k).length = m at *
        generalize chT T k = c at *
        go_wp2
        go_roundw
        case rel => exact ⟨k + 1, by omega, by rw [HBG.out], HSK.out⟩
        case measure => rw [iterPos_of HSK.out.it, HIP.out]; omega
    · obtain rfl : k = T.size := by omega
      have nx := fun ty => Lib.run_next_end_at (P := Tryz.prog) wr (w.heap.size + 1) T T.size ty hI.it hlt
      obtain ⟨c0, _⟩ := hI.five (Touch.refl wr []) (by simp)
      have hle := rwT_le N T T.size
      obtain ⟨ao2, cap2, e2, hin⟩ := insIn_of hI.own HWF.out
      simp only [Value.slice.injEq, true_and] at e2
      obtain ⟨rfl, rfl⟩ := e2
      have HIN : Hid _ := hin
      have HTT : Hid _ := hI.t
      have ha := HN.out.a
      have HE2 : Hid (E = if N.a + ((rwT N T T.size).length : Nat) > 64 then 4 else 0) := HE.out
      have HM : Hid (RL.length = (rwT N T T.size).length) := by show _ = _; rw [HRL.out]
      generalize (rwT N T T.size).length = m at *
      have hwr : IntKind.i64.wrap (N.a + (m : Int)) = N.a + (m : Int) := by rw [IntKind.wrap_i64]; omega
      clear hI hin HE HI HIP HI0
      by_cases h64 : N.a + (m : Int) > 64
      · have HE3 : Hid (E = 4) := by show _ = _; rw [HE2.out, if_pos h64]
        have h64' : (64 : Int) < N.a + m := h64
        clear HE2 h64
        go_wp2
        refine bodyPost_ret (v := .tuple #[.slice none 0 0, .int .i64 4]) (by simp [results, Tryz.results127, go_sem]) rfl ?_
        exact .inr ⟨by rw [HE3.out]; omega, by rw [HE3.out], HTT.out⟩
      · have HE3 : Hid (E = 0) := by show _ = _; rw [HE2.out, if_neg h64]
        have h64' : ¬ (64 : Int) < N.a + m := h64
        clear HE2 h64
        go_wp2
        refine bodyPost_ret (v := .tuple #[.slice ao m cap, .int .i64 0]) (by simp [results, Tryz.results127, go_sem]) rfl ?_
        refine .inl ⟨HE3.out, ao, cap, by rw [HM.out], ?_, HTT.out⟩
        rw [HM.out, HRL.out]
        exact HIN.out

end Go.Proofs.YtcbkafbchpjnoaaGreatDoor

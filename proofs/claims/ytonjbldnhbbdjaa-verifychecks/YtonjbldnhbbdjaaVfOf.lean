/-
  package verify: matchingOf BY ITS CONTRACT.
-/
import Derived.Test.YtonjbldnhbbdjaaVfShut
namespace Go.Proofs.Ytonjbldnhbbdjaa
set_option linter.unusedVariables false
set_option linter.unusedSimpArgs false
open Go.RowKit
attribute [local go_sem] Oper.semAt_some

theorem Try.info_intV : (Try.prog.info? 3).map (fun i => (i.zero, i.size, i.bytes)) = some (some (.int .i64 0), 1, 8) := by kernel_rfl
theorem made_intV (n : Nat) : madeCells (Value.cells (.int .i64 0)) (n * 1) = Array.replicate n (.int .i64 0) := by
  apply Array.ext
  · simp [size_madeCells]
  · intro i h1 h2
    simp [madeCells, Value.cells, Nat.mod_one]
theorem make_intV (n : Nat) (hn : n ≤ 1000) (w : World) : (Instr.makeSlice 29 (.int .i64 n) (.int .i64 n)).run Try.prog w = .ok (.slice (some ⟨w.heap.size, 0, none⟩) n n) (w.alloc (.cells (Array.replicate n (.int .i64 0)) 3)) := by
  obtain ⟨i, hi, hz, hs, hb⟩ := info_partsV Try.info_intV
  have e := run_make (P := Try.prog) w 29 3 i (.int .i64 0) Try.underlying29 hi hz .i64 .i64 n n (by omega) (by omega) (by rw [hb]; omega) (by omega)
  rw [e, hs, Int.toNat_natCast, made_intV]
theorem own_intV (w : World) (n : Nat) (hn : n ≤ 1000) : (w.alloc (.cells (Array.replicate n (.int .i64 0)) 3)).ownsRow w.heap.size 3 1 (.slice (some ⟨w.heap.size, 0, none⟩) n n) (List.replicate n (0 : Int)).length ((List.replicate n (0 : Int)).map (Value.int .i64)) := by
  have e : List.map (Value.int .i64) (List.replicate n 0) = List.replicate n (.int .i64 0) := by simp
  rw [List.length_replicate, e]
  refine ⟨by simp, .inr ⟨w.heap.size, n, Array.replicate n (.int .i64 0), rfl, Nat.le_refl _, heap_alloc_new w _, Nat.le_refl _, by unfold maxLen; omega, by simp, ?_⟩⟩
  rw [List.take_of_length_le (by simp)]
  simp
theorem int_setV {w : World} {B g cap n : Nat} {ys : List Int} (h : w.ownsRow B 3 1 (.slice (some ⟨g, 0, none⟩) n cap) n (ys.map (Value.int .i64))) (i : Nat) (x : Int) :
    (w.setCell ⟨g, i, none⟩ (.int .i64 x)).ownsRow B 3 1 (.slice (some ⟨g, 0, none⟩) n cap) n ((ys.set i x).map (Value.int .i64)) := by
  refine ⟨by have := h.1; simpa using this, .inr ?_⟩
  rcases h.2 with ⟨e, _⟩ | ⟨g', cap', cur, e, hB, hg, h1, h2, h3, h4⟩
  · simp at e
  · simp only [Value.slice.injEq, Option.some.injEq, Addr.mk.injEq] at e
    obtain ⟨⟨rfl, _⟩, _, rfl⟩ := e
    refine ⟨g, cap, _, rfl, hB, heap_setCell_same _ _ _ _ _ _ hg, h1, h2, by simpa using h3, ?_⟩
    rw [List.map_set, ← h4]
    simp only [Array.toList_setIfInBounds, Nat.mul_one]
    rw [List.take_set]
/-- The places so far, and noughts behind. -/
def inZ (l : List InsD) (N k : Nat) : List Int := insV l k ++ List.replicate (N - k) 0
theorem inZ_len {l : List InsD} {N k : Nat} (h : k ≤ N) : (inZ l N k).length = N := by simp [inZ, insV_len]; omega
theorem inZ_set {l : List InsD} {N k : Nat} (h : k < N) : (inZ l N k).set k (topV (runV true mayV l k).op) = inZ l N (k + 1) := by
  unfold inZ
  rw [List.set_append_right _ _ (by rw [insV_len]; exact Nat.le_refl _), insV_len, Nat.sub_self, show N - k = (N - (k + 1)) + 1 by omega, List.replicate_succ, List.set_cons_zero, insV_succ, List.append_assoc]
  rfl
theorem inZ_at {l : List InsD} {N k : Nat} (h : k < N) : (inZ l N k)[k]? = some 0 := by
  unfold inZ
  rw [List.getElem?_append_right (by rw [insV_len]; exact Nat.le_refl _), insV_len, Nat.sub_self, show N - k = (N - (k + 1)) + 1 by omega, List.replicate_succ]
  rfl

/-- in[k] is written. -/
theorem MAt.put {B : Nat} {l : List InsD} {w : World} {b g N cap : Nat} {vo : Value} {s : MD} {xs : List Int} (h : MAt B l w b vo (.slice (some ⟨g, 0, none⟩) N cap) s xs) (hN : xs.length = N) (k : Nat) (x : Int) : MAt B l (w.setCell ⟨g, k, none⟩ (.int .i64 x)) b vo (.slice (some ⟨g, 0, none⟩) N cap) s (xs.set k x) := by
  have t : Touch w (w.setCell ⟨g, k, none⟩ (.int .i64 x)) [g] := (Touch.refl w [g]).setCell (.inl (by simp)) _
  have hgb : g ≠ b := fun e => h.ni (by rw [← e]; rfl)
  refine ⟨(t.block b (lt_of_heap h.st) (by simpa using fun e => hgb e.symm)).trans h.st, ownsRow_touch h.op t (fun q hq hs => by simp at hs; subst hs; exact h.nn _ rfl hq), ?_⟩
  have h1 := h.inn
  rw [hN] at h1
  rw [List.length_set, hN]
  exact int_setV h1 k x

/-- What matchingOf leaves. -/
def OfPost (w : World) (l : List InsD) (e : Ending) (w' : World) : Prop :=
  ∃ b vo vi, e = .returned (.pointer (some ⟨b, 0, none⟩)) ∧ w.heap.size ≤ b ∧ MAt w.heap.size l w' b vo vi (runV true mayV l l.length) (insV l l.length) ∧ Touch w w' []

set_option maxRecDepth 100000 in
set_option maxHeartbeats 2000000 in
theorem vof_any {w : World} {ao : Option Addr} {N cap : Nat} {l : List InsD} (hN : N = l.length) (hn : N ≤ 900) (hr : InsV w (.slice ao N cap) l) :
    Calls Try.prog 25 #[.slice ao N cap] w (OfPost w l) := by
  have hmk := make_intV N (by omega)
  have HR : Hid _ := hr
  have HN : Hid _ := hN
  have t0 : Touch w ((w.alloc (.cells (Array.replicate N (.int .i64 0)) 3)).alloc (.cells #[.slice none 0 0, .slice (some ⟨w.heap.size, 0, none⟩) N N, .int .i64 0, .bool false] 56)) [] := ((Touch.refl w []).alloc _).alloc _
  have hM0 : MAt w.heap.size l ((w.alloc (.cells (Array.replicate N (.int .i64 0)) 3)).alloc (.cells #[.slice none 0 0, .slice (some ⟨w.heap.size, 0, none⟩) N N, .int .i64 0, .bool false] 56)) (w.heap.size + 1) (.slice none 0 0) (.slice (some ⟨w.heap.size, 0, none⟩) N N) (runV true mayV l 0) (inZ l N 0) := by
    refine ⟨?_, World.ownsRow_nil _ _ _ _, ?_⟩
    · have := heap_alloc_new (w.alloc (.cells (Array.replicate N (.int .i64 0)) 3)) (.cells #[.slice none 0 0, .slice (some ⟨w.heap.size, 0, none⟩) N N, .int .i64 0, .bool false] 56)
      show _ = some (Obj.cells #[.slice none 0 0, .slice (some ⟨w.heap.size, 0, none⟩) N N, .int .i64 0, .bool false] _ _)
      simpa using this
    · have e : inZ l N 0 = List.replicate N 0 := by simp [inZ, insV]
      rw [e]
      exact World.ownsRow.alloc (own_intV w N (by omega)) _
  have T0 : Hid _ := t0
  have M0 : Hid _ := hM0
  clear t0 hM0 hr hN
  go_enter Try.func25, Try.ntmps25
  go_wp2_with fail
  go_loopw [15] (fun i wr => ∃ k : Nat, i = .int .i64 k ∧ k ≤ N ∧ ∃ vo, MAt w.heap.size l wr (w.heap.size + 1) vo (.slice (some ⟨w.heap.size, 0, none⟩) N N) (runV true mayV l k) (inZ l N k) ∧ Touch w wr []) (fun i _ => N - (intOf i).toNat)
  case atStart => exact ⟨0, rfl, Nat.zero_le _, _, M0.out, T0.out⟩
  case round =>
    obtain ⟨k, rfl, hk, vo, hM, hT⟩ := hrel
    clear T0 M0 hmk
    by_cases hlt : k < N
    · have hr := HR.out
      have hrk : InsV wr (.slice ao N cap) l := SRow.keep hr hT (by simp)
      have hr0 := hrk
      have hN : N = l.length := HN.out
      rw [hN] at hr0
      obtain ⟨g, off, rfl, hg, c0, c1, c2⟩ := insv_at hr0 k (by omega)
      obtain ⟨vl, hvl⟩ : ∃ vl, vl = (l[k]'(by omega)).val := ⟨_, rfl⟩
      rw [← hvl] at c2
      obtain ⟨o, ho⟩ : ∃ o, o = opAt l k := ⟨_, rfl⟩
      rw [← ho] at c0
      generalize hag : argAt l k = ag at c1
      have hkN : (k : Int) < N := by omega
      have hk0 : (0 : Int) ≤ k := by omega
      have hkw : IntKind.i64.wrap ((k : Int) + 1) = (k : Int) + 1 := by rw [IntKind.wrap_i64]; omega
      have hsz := hT.size
      have hbl := lt_of_heap hM.st
      have hlen := run_len (args := true) (may := mayV) (l := l) k
      have hpl := run_lt (args := true) (may := mayV) (l := l) k
      have tq : Touch wr (wr.alloc (.cells #[.int .u8 o, .int .i64 ag, .int .u64 vl] 42)) [] := (Touch.refl wr []).alloc _
      have eq : (wr.alloc (.cells #[.int .u8 o, .int .i64 ag, .int .u64 vl] 42)).heap[wr.heap.size]? = some (.cells #[.int .u8 o, .int .i64 ag, .int .u64 vl] 42 (0, 0)) := heap_alloc_new wr _
      have hMq := hM.keep0 tq
      have hgi : w.heap.size < wr.heap.size := by omega
      -- around, in a world that only has new blocks
      have HA : Hid (∀ W, Touch (wr.alloc (.cells #[.int .u8 o, .int .i64 ag, .int .u64 vl] 42)) W [] → HidC Try.prog 39 #[.pointer (some ⟨w.heap.size + 1, 0, none⟩)] W (fun e w' => e = .returned (.int .i64 (topV (runV true mayV l k).op)) ∧ Touch (wr.alloc (.cells #[.int .u8 o, .int .i64 ag, .int .u64 vl] 42)) w' [] ∧ w'.cell? ⟨w.heap.size + 1, 1, none⟩ = some (.slice (some ⟨w.heap.size, 0, none⟩) N N) ∧ w'.cell? ⟨w.heap.size, k, none⟩ = some (.int .i64 0) ∧ w'.frozen? ⟨w.heap.size, k, none⟩ = false)) := fun W tW => ⟨by
        refine (around_any (hMq.keep0 tW) (by omega)).mono ?_
        rintro e w' ⟨rfl, t1⟩
        have t2 := tW.trans t1 (by simp)
        have h2 := hMq.keep0 t2
        have h3 := h2.inn
        rw [inZ_len (by omega)] at h3
        refine ⟨rfl, t2, by unfold World.cell?; rw [h2.st]; rfl, ?_, h3.frozenAt k⟩
        rw [h3.cellAt k (by omega), List.getElem?_map, inZ_at hlt]; rfl⟩
      have d1 : (wr.alloc (.cells #[.int .u8 o, .int .i64 ag, .int .u64 vl] 42)).cell? ⟨w.heap.size + 1, 1, none⟩ = some (.slice (some ⟨w.heap.size, 0, none⟩) N N) := by unfold World.cell?; rw [hMq.st]; rfl
      have hKS : Hid (∀ (W : World) u, W.cell? ⟨w.heap.size + 1, 1, none⟩ = some (.slice (some ⟨w.heap.size, 0, none⟩) N N) → (W.setCell ⟨w.heap.size, k, none⟩ u).cell? ⟨w.heap.size + 1, 1, none⟩ = some (.slice (some ⟨w.heap.size, 0, none⟩) N N)) := fun W u hW => by
        have hb1 := World.block_lt_of_cell? W _ hW
        exact (((Touch.refl W [w.heap.size]).setCell (p := ⟨w.heap.size, k, none⟩) (.inl (by simp)) u).cell (p := ⟨w.heap.size + 1, 1, none⟩) hb1 (by simp)).trans hW
      generalize hQ : wr.alloc (.cells #[.int .u8 o, .int .i64 ag, .int .u64 vl] 42) = Q at *
      have HQ : Hid _ := hQ
      have HM : Hid _ := hMq
      have HE : Hid _ := eq
      have HT : Hid _ := hT
      have HTQ : Hid _ := tq
      have HRK : Hid _ := hrk
      have HO : Hid _ := ho
      clear hr hr0 hrk hM hMq eq hT tq hvl ho hag hN
      go_wp2_with fail
      clear hQ
      go_region_held3 (fun w' => w'.cell? ⟨w.heap.size + 1, 1, none⟩ = some (.slice (some ⟨w.heap.size, 0, none⟩) N N)) (first | exact d1 | exact s1 | exact hKS.out _ _ s1) (first | (go_at_call 39; refine Calls.mono (HA.out _ ?hq).out ?_; (case hq => exact (Touch.refl _ _).drew); rintro e w5 ⟨rfl, t5, s1, s2, s3⟩))
      have t6 : Touch Q (w5.setCell ⟨w.heap.size, k, none⟩ (.int .i64 (topV (runV true mayV l k).op))) [w.heap.size] := (t5.mono (by simp)).setCell (.inl (by simp)) _
      have hM5 : MAt w.heap.size l (w5.setCell ⟨w.heap.size, k, none⟩ (.int .i64 (topV (runV true mayV l k).op))) (w.heap.size + 1) vo (.slice (some ⟨w.heap.size, 0, none⟩) N N) (runV true mayV l k) (inZ l N (k + 1)) := by
        have := MAt.put (HM.out.keep0 t5) (inZ_len (by omega)) k (topV (runV true mayV l k).op)
        rwa [inZ_set hlt] at this
      have hq5 : (w5.setCell ⟨w.heap.size, k, none⟩ (.int .i64 (topV (runV true mayV l k).op))).heap[wr.heap.size]? = some (.cells #[.int .u8 o, .int .i64 ag, .int .u64 vl] 42 (0, 0)) := (t6.block _ (lt_of_heap HE.out) (by simp; omega)).trans HE.out
      have T5 : Touch w (w5.setCell ⟨w.heap.size, k, none⟩ (.int .i64 (topV (runV true mayV l k).op))) [] := (HT.out.trans HTQ.out (by simp)).trans t6 (by simp)
      generalize w5.setCell ⟨w.heap.size, k, none⟩ (.int .i64 (topV (runV true mayV l k).op)) = W5 at *
      have q5 : W5.cell? ⟨wr.heap.size, 0, none⟩ = some (.int .u8 o) := by unfold World.cell?; rw [hq5]; rfl
      have I5 : InsV W5 (.slice (some ⟨g, off, none⟩) N cap) l := SRow.keep HR.out T5 (by simp)
      have hcl : HidC _ _ _ _ _ := ⟨closes_any o W5⟩
      clear HA hKS d1 t5 s1 s2 s3 t6
      cases hcv : closesV o with
      | false =>
        rw [hcv] at hcl
        have hMs : MAt w.heap.size l W5 (w.heap.size + 1) vo (.slice (some ⟨w.heap.size, 0, none⟩) N N) (step1V true l k (runV true mayV l k)) (inZ l N (k + 1)) := by
          have e : step1V true l k (runV true mayV l k) = runV true mayV l k := by unfold step1V; rw [← HO.out, hcv]; simp
          rw [e]; exact hM5
        clear hM5
        go_wp2_with fail
        refine hcl.out.mono ?_
        rintro e w6 ⟨rfl, rfl⟩
        clear hcl
        have hco : HidC _ _ _ _ _ := ⟨closer_any o W5⟩
        have HMX : Hid _ := hMs
        have HTX : Hid _ := T5
        have hls : (step1V true l k (runV true mayV l k)).op.length ≤ 999 := by have := step1_len (args := true) (l := l) (k := k) (s := runV true mayV l k); omega
        cases hov : opensV o with
        | false =>
          rw [hov] at hco
          clear hMs T5
          go_wp2_with fail
          refine hco.out.mono ?_
          rintro e w8 ⟨rfl, rfl⟩
          clear hco
          go_wp2
          go_roundw
          case rel =>
            refine ⟨k + 1, rfl, by omega, vo, ?_, HTX.out⟩
            have e : runV true mayV l (k + 1) = step1V true l k (runV true mayV l k) := by
              show stepV true mayV l k _ = _
              unfold stepV
              rw [← HO.out, hov]; simp
            rw [e]
            exact HMX.out
          case measure => simp [intOf]; omega
        | true =>
          rw [hov] at hco
          have hbg : HidC _ _ _ _ _ := ⟨begin_any hMs hls T5.size k⟩
          rw [← HO.out] at hbg
          clear hMs T5
          go_wp2_with fail
          refine hco.out.mono ?_
          rintro e w8 ⟨rfl, rfl⟩
          clear hco
          go_wp2_with fail
          refine hbg.out.mono ?_
          rintro e w9 ⟨vo9, rfl, m9, t9, n9⟩
          have HM9 : Hid _ := m9
          have HT9 : Hid (Touch w w9 []) := HTX.out.trans t9 (fun x hx => .inr (by
            rcases List.mem_cons.1 hx with rfl | hx
            · omega
            · exact (HMX.out.op.lt x (by simpa using hx)).1))
          clear hbg m9 t9 n9
          go_wp2
          go_roundw
          case rel =>
            refine ⟨k + 1, rfl, by omega, vo9, ?_, HT9.out⟩
            have e : runV true mayV l (k + 1) = beginV mayV l k (step1V true l k (runV true mayV l k)) := by
              show stepV true mayV l k _ = _
              unfold stepV
              rw [← HO.out, hov]; simp
            rw [e]
            exact HM9.out
          case measure => simp [intOf]; omega
      | true =>
        rw [hcv] at hcl
        have hsh : HidC _ _ _ _ _ := ⟨shut_any hM5 (by omega) HN.out (by omega) I5 k hlt hpl⟩
        have HM5 : Hid _ := hM5
        have HT5 : Hid _ := T5
        have HQ5 : Hid _ := hq5
        have hst : shutV true l k (runV true mayV l k) = step1V true l k (runV true mayV l k) := by unfold step1V; rw [← HO.out, hcv]; simp
        rw [hst] at hsh
        clear hM5 T5 hq5 I5 hst
        go_wp2_with fail
        refine hcl.out.mono ?_
        rintro e w6 ⟨rfl, rfl⟩
        clear hcl
        go_wp2_with fail
        refine hsh.out.mono ?_
        rintro e w7 ⟨vo7, rfl, m7, t7, n7⟩
        have hq7 : w7.heap[wr.heap.size]? = some (.cells #[.int .u8 o, .int .i64 ag, .int .u64 vl] 42 (0, 0)) := (t7.block _ (lt_of_heap HQ5.out) (fun hs => by
          rcases List.mem_cons.1 hs with e | hs
          · omega
          · exact kind_ne HM5.out.op HQ5.out (by decide) (by simpa using hs))).trans HQ5.out
        have q7 : w7.cell? ⟨wr.heap.size, 0, none⟩ = some (.int .u8 o) := by unfold World.cell?; rw [hq7]; rfl
        have T7 : Touch w w7 [] := HT5.out.trans t7 (fun x hx => .inr (by
            rcases List.mem_cons.1 hx with rfl | hx
            · omega
            · exact (HM5.out.op.lt x (by simpa using hx)).1))
        clear hsh hq7 t7 n7 q5
        have hco : HidC _ _ _ _ _ := ⟨closer_any o w7⟩
        have HMX : Hid _ := m7
        have HTX : Hid _ := T7
        have hls : (step1V true l k (runV true mayV l k)).op.length ≤ 999 := by have := step1_len (args := true) (l := l) (k := k) (s := runV true mayV l k); omega
        cases hov : opensV o with
        | false =>
          rw [hov] at hco
          clear m7 T7
          go_wp2_with fail
          refine hco.out.mono ?_
          rintro e w8 ⟨rfl, rfl⟩
          clear hco
          go_wp2
          go_roundw
          case rel =>
            refine ⟨k + 1, rfl, by omega, vo7, ?_, HTX.out⟩
            have e : runV true mayV l (k + 1) = step1V true l k (runV true mayV l k) := by
              show stepV true mayV l k _ = _
              unfold stepV
              rw [← HO.out, hov]; simp
            rw [e]
            exact HMX.out
          case measure => simp [intOf]; omega
        | true =>
          rw [hov] at hco
          have hbg : HidC _ _ _ _ _ := ⟨begin_any m7 hls T7.size k⟩
          rw [← HO.out] at hbg
          clear m7 T7
          go_wp2_with fail
          refine hco.out.mono ?_
          rintro e w8 ⟨rfl, rfl⟩
          clear hco
          go_wp2_with fail
          refine hbg.out.mono ?_
          rintro e w9 ⟨vo9, rfl, m9, t9, n9⟩
          have HM9 : Hid _ := m9
          have HT9 : Hid (Touch w w9 []) := HTX.out.trans t9 (fun x hx => .inr (by
            rcases List.mem_cons.1 hx with rfl | hx
            · omega
            · exact (HMX.out.op.lt x (by simpa using hx)).1))
          clear hbg m9 t9 n9
          go_wp2
          go_roundw
          case rel =>
            refine ⟨k + 1, rfl, by omega, vo9, ?_, HT9.out⟩
            have e : runV true mayV l (k + 1) = beginV mayV l k (step1V true l k (runV true mayV l k)) := by
              show stepV true mayV l k _ = _
              unfold stepV
              rw [← HO.out, hov]; simp
            rw [e]
            exact HM9.out
          case measure => simp [intOf]; omega
    · obtain rfl : k = N := by omega
      have HM : Hid _ := hM
      have HT : Hid _ := hT
      clear hM hT
      go_wp2
      go_ret
      refine ⟨_, vo, (.slice (some ⟨w.heap.size, 0, none⟩) k k), rfl, by omega, ?_, HT.out⟩
      have h := HM.out
      rw [inZ, Nat.sub_self, List.replicate_zero, List.append_nil] at h
      rw [← HN.out]
      exact h

end Go.Proofs.Ytonjbldnhbbdjaa

/-
  package spec: do BY ITS CONTRACT. Written by mkdo.py.
-/
import Derived.Test.YtlndbligbpfdpaaSpBracket
namespace Go.Proofs.Ytlndbligbpfdpaa
set_option linter.unusedVariables false
set_option linter.unusedSimpArgs false
open Go.RowKit
attribute [local go_sem] Oper.semAt_some

/-- do as a plain function. -/
def doB (l : List InsD) (X : BX) (i : InsD) : Int × BX :=
  if i.op = 27 ∨ i.op = 28 ∨ i.op = 21 then (3, X)
  else if i.op = 4 ∨ i.op = 5 ∨ i.op = 6 ∨ i.op = 7 then reachB X i
  else if i.op = 22 ∨ i.op = 23 ∨ i.op = 24 ∨ i.op = 25 ∨ i.op = 26 then (if fitsW i.op X.D.st.length = false then (12, X) else brB X i)
  else ((stepW l X.D).1, { X with D := (stepW l X.D).2 })

/-- How long a block's lists may be, and what they may hold. -/
structure BWf (X : BX) : Prop where
  st : X.D.st.length ≤ 1000
  out : X.D.out.length ≤ 1000
  h : X.h.length ≤ 1000
  ms : X.ms.length ≤ 1000
  arms : X.arms.length ≤ 1000
  me : ∀ m ∈ X.ms, 0 ≤ m.e ∧ m.e ≤ 1000
  w : ∀ x ∈ X.D.st, Wf64 x

theorem BAt.touch {w0 w w' : World} {S0 : List Nat} {b : Nat} {vp : Value} {X : BX} (h : BAt w0 S0 w b vp X) (t : Touch w w' []) : BAt w0 S0 w' b vp X := by
  obtain ⟨L, vs, vo, vh, vl, va, hL, k, t0⟩ := h
  exact ⟨L, vs, vo, vh, vl, va, hL, k.touch t, t0.trans t (by simp)⟩
theorem reach_any {w0 w : World} {S0 : List Nat} {b : Nat} {vp : Value} {X : BX} {p : Nat} (hk : BAtP w0 S0 w b vp X p) (io ia iv : Int) (hop : io = 4 ∨ io = 5 ∨ io = 6 ∨ io = 7) (ha : 0 ≤ ia ∧ ia ≤ 255) (hn : X.D.st.length ≤ 1000) (hh : X.h.length ≤ 1000) (hw : ∀ x ∈ X.D.st, Wf64 x) (hpc : 0 ≤ X.D.pc ∧ X.D.pc < 9223372036854775807) :
    Calls Try.prog 77 #[.pointer (some ⟨b, 0, none⟩), .agg #[.int .u8 io, .int .i64 ia, .int .u64 iv]] w (BPostP w p w0 S0 b vp (reachB X ⟨io, ia, iv⟩)) := by
  cases hf : fitsW io X.D.st.length with
  | false =>
    have e : reachB X ⟨io, ia, iv⟩ = (12, X) := by unfold reachB; rw [if_pos hf]
    rw [e]
    exact (reach_no hk.bat io ia iv hop hn hf).mono fun e w' h => ⟨h, fun h => absurd h (by show ¬ (12 : Int) = 0; decide)⟩
  | true =>
    rcases hop with q | q | q | q
    · exact reach_get hk io ia iv (.inl q) ha hn hh hw hpc hf
    · exact reach_put hk io ia iv (.inl q) ha hn hh hw hpc hf
    · exact reach_get hk io ia iv (.inr q) ha hn hh hw hpc hf
    · exact reach_put hk io ia iv (.inr q) ha hn hh hw hpc hf

theorem step_blk {w0 w : World} {S0 : List Nat} {b : Nat} {ap : Option Addr} {cp : Nat} {l : List InsD} {X : BX} {p : Nat} (hk : BAtP w0 S0 w b (.slice ap l.length cp) X p) (hl : ∀ W, Touch w0 W S0 → InsRow W (.slice ap l.length cp) l) (hll : l.length ≤ 1000) (hn : X.D.st.length ≤ 1000) (hw : ∀ x ∈ X.D.st, Wf64 x) (hpos : 0 ≤ (stepW l X.D).1) :
    Calls Try.prog 24 #[.pointer (some ⟨b, 0, none⟩)] w (BPostP w p w0 S0 b (.slice ap l.length cp) ((stepW l X.D).1, { X with D := (stepW l X.D).2 })) := by
  obtain ⟨L, vs, vo, vh, vl, va, hL, k, t0, hp1, hp2⟩ := hk
  refine (step_any k.own (hl _ t0) (by omega) hn hw).mono ?_
  rintro e w' (⟨hr, rfl, vs', vo', k', t, h1, h2⟩ | ⟨hr, rfl, t⟩)
  · refine ⟨.inl ⟨hr, rfl, L, vs', vo', vh, vl, va, hL, k.stepped k' t h1 h2, t0.trans t (fun x hx => ?_)⟩, fun _ => apart_keep hp1 hp2 t (fun y hy => ?_)⟩
    case refine_2 =>
      simp only [List.mem_cons, List.mem_append, Option.mem_toList] at hy
      rcases hy with rfl | hy | hy
      · exact ⟨0, by simp [comp]⟩
      · exact ⟨1, mem_ob.2 hy⟩
      · exact ⟨2, mem_ob.2 hy⟩
    simp only [List.mem_cons, List.mem_append, Option.mem_toList] at hx
    rcases hx with rfl | hx | hx
    · exact k.ge 0 x (by simp [comp])
    · exact k.ge 1 x (mem_ob.2 hx)
    · exact k.ge 2 x (mem_ob.2 hx)
  · exact ⟨.inr (.inr ⟨by show 0 < (stepW l X.D).1; omega, rfl, t0.trans t (by simp)⟩), fun h => absurd h hr⟩

theorem step_pos (l : List InsD) (D : WD) : 0 ≤ (stepW l D).1 := by
  unfold stepW
  split
  · show (0 : Int) ≤ 3; decide
  · split
    · show (0 : Int) ≤ 3; decide
    · split
      · show (0 : Int) ≤ 3; decide
      · split
        · show (0 : Int) ≤ 12; decide
        · unfold doW
          repeat' split
          all_goals (first | exact Int.le_refl _ | (show (0 : Int) ≤ 2; decide) | (show (0 : Int) ≤ 4; decide) | decide)

set_option maxRecDepth 100000 in
set_option maxHeartbeats 2000000 in
theorem do_any {w0 w : World} {S0 : List Nat} {b : Nat} {ap : Option Addr} {cp : Nat} {l : List InsD} {X : BX} {p : Nat} (hk : BAtP w0 S0 w b (.slice ap l.length cp) X p) (hl : ∀ W, Touch w0 W S0 → InsRow W (.slice ap l.length cp) l) (hll : l.length ≤ 1000) (hX : BWf X) (io ia iv : Int) (ha : io ≠ 1 → 0 ≤ ia ∧ ia ≤ 255) (hpc : 0 ≤ X.D.pc ∧ X.D.pc < 9223372036854775807) :
    Calls Try.prog 62 #[.pointer (some ⟨b, 0, none⟩), .agg #[.int .u8 io, .int .i64 ia, .int .u64 iv]] w (BPostP w p w0 S0 b (.slice ap l.length cp) (doB l X ⟨io, ia, iv⟩)) := by
  have tA : Touch w (w.alloc (.cells #[.int .u8 io, .int .i64 ia, .int .u64 iv] 48)) [] := (Touch.refl w []).alloc _
  have HTT : Hid (Touch w0 w S0) := by obtain ⟨_, _, _, _, _, _, _, _, t, _⟩ := hk; exact t
  have HPA : Hid ((w.alloc (.cells #[.int .u8 io, .int .i64 ia, .int .u64 iv] 48)).heap[p]? = w.heap[p]?) := by obtain ⟨_, _, _, _, _, _, _, _, _, h, _⟩ := hk; exact tA.block p h (by simp)
  have HBX : Hid (BoxI (w.alloc (.cells #[.int .u8 io, .int .i64 ia, .int .u64 iv] 48)) w.heap.size io ia iv) := BoxI.new w io ia iv
  obtain ⟨b0, b1, b2⟩ := HBX.out.cells
  have HTA : Hid (Touch w0 (w.alloc (.cells #[.int .u8 io, .int .i64 ia, .int .u64 iv] 48)) S0) := HTT.out.trans tA (by simp)
  have HK : Hid _ := hk.touch tA
  unfold doB
  simp only
  by_cases h1 : io = 27 ∨ io = 28 ∨ io = 21
  · rw [if_pos h1]
    clear hk tA
    rcases h1 with rfl | rfl | rfl
    all_goals
      go_enter Try.func62, Try.ntmps62
      go_wp2
      exact ⟨rfl, .inr (.inr ⟨by show (0 : Int) < 3; decide, rfl, HTA.out⟩), fun h => absurd h (by show ¬ (3 : Int) = 0; decide)⟩
  · rw [if_neg h1]
    by_cases h2 : io = 4 ∨ io = 5 ∨ io = 6 ∨ io = 7
    · rw [if_pos h2]
      have HR : HidC _ _ _ _ _ := ⟨reach_any HK.out io ia iv h2 (ha (by omega)) hX.st hX.h hX.w hpc⟩
      generalize reachB X ⟨io, ia, iv⟩ = RR at *
      clear hk tA h1 hX ha hpc hl hll HK HTA HTT
      rcases h2 with rfl | rfl | rfl | rfl
      all_goals
        go_enter Try.func62, Try.ntmps62
        go_wp2_with fail
        refine HR.out.mono ?_
        rintro e w1 ⟨⟨h0, rfl, hb⟩ | ⟨h0, rfl, t⟩ | ⟨h0, rfl, t⟩, hpp⟩
        · have HB : Hid _ := hb
          have HPW : Hid _ := (hpp h0).trans HPA.out
          have H0 : Hid _ := h0
          clear hb h0 hpp
          go_wp2
          go_end0
          exact ⟨.inl ⟨H0.out, rfl, HB.out⟩, fun _ => HPW.out⟩
        · exact ⟨rfl, .inr (.inl ⟨h0, rfl, t⟩), fun h => (hpp h).trans HPA.out⟩
        · exact ⟨rfl, .inr (.inr ⟨h0, rfl, t⟩), fun h => (hpp h).trans HPA.out⟩
    · rw [if_neg h2]
      by_cases h3 : io = 22 ∨ io = 23 ∨ io = 24 ∨ io = 25 ∨ io = 26
      · rw [if_pos h3]
        obtain ⟨L, vs, vo, vh, vl, va, hL, k, t0, _⟩ := HK.out
        have kd := k.touch ((Touch.refl _ []).drew)
        obtain ⟨sa, sc, e5⟩ := owns_slice kd.s
        rw [e5] at kd
        have hb0 : (w.alloc (.cells #[.int .u8 io, .int .i64 ia, .int .u64 iv] 48)).drew.cell? ⟨w.heap.size, 0, none⟩ = some (.int .u8 io) := b0
        cases hf : fitsW io X.D.st.length with
        | false =>
          rw [if_pos rfl]
          have HP : HidC _ _ _ _ _ := ⟨popped_no kd.o hX.st io hf⟩
          have HT : Hid (Touch w0 (w.alloc (.cells #[.int .u8 io, .int .i64 ia, .int .u64 iv] 48)).drew S0) := HTA.out.drew
          clear hk tA h1 h2 hX ha hpc hl hll HK HTT kd k e5 hf hL t0
          rcases h3 with rfl | rfl | rfl | rfl | rfl
          all_goals
            go_enter Try.func62, Try.ntmps62
            go_wp2_with fail
            generalize w.alloc _ = Q at *
            refine wp_region_held_drew (S := (fun w' : World => w'.cell? ⟨w.heap.size, 0, none⟩ = Q.drew.cell? ⟨w.heap.size, 0, none⟩)) (by kernel_rfl) rfl (fun hHeld => ?_)
            try simp only [Act.put, List.getElem_toArray, List.getElem_cons_succ, List.getElem_cons_zero, List.setIfInBounds_toArray, List.set_cons_zero, List.set_cons_succ]
            refine wpAnyH_take (i := 0) (v := (.pointer (some ⟨b, 0, none⟩))) rfl (by kernel_rfl) (by kernel_rfl) (by kernel_rfl) (fun _ _ _ h => h) (Or.inl ⟨by rfl, ?_⟩) hHeld ?_
            · intro w' hSw
              try simp only [Act.put, List.getElem_toArray, List.getElem_cons_succ, List.getElem_cons_zero, List.setIfInBounds_toArray, List.set_cons_zero, List.set_cons_succ]
              go_simp
            try simp only [Act.put, List.getElem_toArray, List.getElem_cons_succ, List.getElem_cons_zero, List.setIfInBounds_toArray, List.set_cons_zero, List.set_cons_succ]
            refine wpAnyH_take (i := 1) (v := (.pointer (some ⟨b, 0, none⟩))) rfl (by kernel_rfl) (by kernel_rfl) (by kernel_rfl) (fun _ _ _ h => h) (Or.inl ⟨by rfl, ?_⟩) hHeld ?_
            · intro w' hSw
              try simp only [Act.put, List.getElem_toArray, List.getElem_cons_succ, List.getElem_cons_zero, List.setIfInBounds_toArray, List.set_cons_zero, List.set_cons_succ]
              go_simp
            try simp only [Act.put, List.getElem_toArray, List.getElem_cons_succ, List.getElem_cons_zero, List.setIfInBounds_toArray, List.set_cons_zero, List.set_cons_succ]
            refine wpAnyH_take (i := 2) (v := (.pointer (some ⟨b, 0, none⟩))) rfl (by kernel_rfl) (by kernel_rfl) (by kernel_rfl) (fun _ _ _ h => h) (Or.inl ⟨by rfl, ?_⟩) hHeld ?_
            · intro w' hSw
              try simp only [Act.put, List.getElem_toArray, List.getElem_cons_succ, List.getElem_cons_zero, List.setIfInBounds_toArray, List.set_cons_zero, List.set_cons_succ]
              go_simp
            try simp only [Act.put, List.getElem_toArray, List.getElem_cons_succ, List.getElem_cons_zero, List.setIfInBounds_toArray, List.set_cons_zero, List.set_cons_succ]
            refine wpAnyH_take (i := 3) (v := (.pointer (some ⟨w.heap.size, 0, none⟩))) rfl (by kernel_rfl) (by kernel_rfl) (by kernel_rfl) (fun _ _ _ h => h) (Or.inl ⟨by rfl, ?_⟩) hHeld ?_
            · intro w' hSw
              try simp only [Act.put, List.getElem_toArray, List.getElem_cons_succ, List.getElem_cons_zero, List.setIfInBounds_toArray, List.set_cons_zero, List.set_cons_succ]
              go_simp
            try simp only [Act.put, List.getElem_toArray, List.getElem_cons_succ, List.getElem_cons_zero, List.setIfInBounds_toArray, List.set_cons_zero, List.set_cons_succ]
            clear hHeld
            refine wpAnyH_ready (rs := [4]) (by kernel_rfl) (by simp) (AllReadyH.cons rfl (fun K hK => ?_) AllReadyH.nil)
            rw [if_pos (by rfl)]
            go_simp
            refine hK.out _ _ rfl (fun hHeld => ?_)
            clear hK
            try simp only [Act.put, List.getElem_toArray, List.getElem_cons_succ, List.getElem_cons_zero, List.setIfInBounds_toArray, List.set_cons_zero, List.set_cons_succ]
            clear hHeld
            refine wpAnyH_ready (rs := [5]) (by kernel_rfl) (by simp) (AllReadyH.cons rfl (fun K hK => ?_) AllReadyH.nil)
            rw [if_pos (by rfl)]
            go_simp
            refine HP.out.mono ?_
            rintro e w5 ⟨rfl, t5⟩
            exact ⟨rfl, .inr (.inr ⟨by show (0 : Int) < 12; decide, rfl, HT.out.trans t5 (by simp)⟩), fun h => absurd h (by show ¬ (12 : Int) = 0; decide)⟩
        | true =>
          rw [if_neg (by simp)]
          have HP : HidC _ _ _ _ _ := ⟨popped_ok kd.o kd.s hX.st io hf⟩
          have HR : HidC _ _ _ _ _ := ⟨bracket_any (BAtP.touch HK.out ((Touch.refl _ []).drew)) io ia iv h3 (by have := ha (by omega); omega) hpc (by have := hX.st; omega) (by have := hX.out; omega) (by have := hX.h; omega) hX.ms hX.arms hX.me⟩
          have HB2 : Hid _ := HBX.out.touch ((Touch.refl _ []).drew) (by simp)
          generalize brB X ⟨io, ia, iv⟩ = RR at *
          generalize (popV io).toNat = pn at *
          clear hk tA h1 h2 hX ha hpc hl hll HK HTT HTA kd k e5 hf hL t0
          rcases h3 with rfl | rfl | rfl | rfl | rfl
          all_goals
            go_enter Try.func62, Try.ntmps62
            go_wp2_with fail
            generalize w.alloc _ = Q at *
            refine wp_region_held_drew (S := (fun w' : World => w'.cell? ⟨w.heap.size, 0, none⟩ = Q.drew.cell? ⟨w.heap.size, 0, none⟩)) (by kernel_rfl) rfl (fun hHeld => ?_)
            try simp only [Act.put, List.getElem_toArray, List.getElem_cons_succ, List.getElem_cons_zero, List.setIfInBounds_toArray, List.set_cons_zero, List.set_cons_succ]
            refine wpAnyH_take (i := 0) (v := (.pointer (some ⟨b, 0, none⟩))) rfl (by kernel_rfl) (by kernel_rfl) (by kernel_rfl) (fun _ _ _ h => h) (Or.inl ⟨by rfl, ?_⟩) hHeld ?_
            · intro w' hSw
              try simp only [Act.put, List.getElem_toArray, List.getElem_cons_succ, List.getElem_cons_zero, List.setIfInBounds_toArray, List.set_cons_zero, List.set_cons_succ]
              go_simp
            try simp only [Act.put, List.getElem_toArray, List.getElem_cons_succ, List.getElem_cons_zero, List.setIfInBounds_toArray, List.set_cons_zero, List.set_cons_succ]
            refine wpAnyH_take (i := 1) (v := (.pointer (some ⟨b, 0, none⟩))) rfl (by kernel_rfl) (by kernel_rfl) (by kernel_rfl) (fun _ _ _ h => h) (Or.inl ⟨by rfl, ?_⟩) hHeld ?_
            · intro w' hSw
              try simp only [Act.put, List.getElem_toArray, List.getElem_cons_succ, List.getElem_cons_zero, List.setIfInBounds_toArray, List.set_cons_zero, List.set_cons_succ]
              go_simp
            try simp only [Act.put, List.getElem_toArray, List.getElem_cons_succ, List.getElem_cons_zero, List.setIfInBounds_toArray, List.set_cons_zero, List.set_cons_succ]
            refine wpAnyH_take (i := 2) (v := (.pointer (some ⟨b, 0, none⟩))) rfl (by kernel_rfl) (by kernel_rfl) (by kernel_rfl) (fun _ _ _ h => h) (Or.inl ⟨by rfl, ?_⟩) hHeld ?_
            · intro w' hSw
              try simp only [Act.put, List.getElem_toArray, List.getElem_cons_succ, List.getElem_cons_zero, List.setIfInBounds_toArray, List.set_cons_zero, List.set_cons_succ]
              go_simp
            try simp only [Act.put, List.getElem_toArray, List.getElem_cons_succ, List.getElem_cons_zero, List.setIfInBounds_toArray, List.set_cons_zero, List.set_cons_succ]
            refine wpAnyH_take (i := 3) (v := (.pointer (some ⟨w.heap.size, 0, none⟩))) rfl (by kernel_rfl) (by kernel_rfl) (by kernel_rfl) (fun _ _ _ h => h) (Or.inl ⟨by rfl, ?_⟩) hHeld ?_
            · intro w' hSw
              try simp only [Act.put, List.getElem_toArray, List.getElem_cons_succ, List.getElem_cons_zero, List.setIfInBounds_toArray, List.set_cons_zero, List.set_cons_succ]
              go_simp
            try simp only [Act.put, List.getElem_toArray, List.getElem_cons_succ, List.getElem_cons_zero, List.setIfInBounds_toArray, List.set_cons_zero, List.set_cons_succ]
            clear hHeld
            refine wpAnyH_ready (rs := [4]) (by kernel_rfl) (by simp) (AllReadyH.cons rfl (fun K hK => ?_) AllReadyH.nil)
            rw [if_pos (by rfl)]
            go_simp
            refine hK.out _ _ rfl (fun hHeld => ?_)
            clear hK
            try simp only [Act.put, List.getElem_toArray, List.getElem_cons_succ, List.getElem_cons_zero, List.setIfInBounds_toArray, List.set_cons_zero, List.set_cons_succ]
            clear hHeld
            refine wpAnyH_ready (rs := [5]) (by kernel_rfl) (by simp) (AllReadyH.cons rfl (fun K hK => ?_) AllReadyH.nil)
            rw [if_pos (by rfl)]
            go_simp
            refine HP.out.mono ?_
            rintro e _ ⟨⟨a1, c1, rfl, hr1⟩, rfl⟩
            go_simp
            refine hK.out _ _ rfl (fun hHeld => ?_)
            clear hK
            try simp only [Act.put, List.getElem_toArray, List.getElem_cons_succ, List.getElem_cons_zero, List.setIfInBounds_toArray, List.set_cons_zero, List.set_cons_succ]
            clear hHeld
            refine wpAnyH_done (by kernel_rfl) ?_ _
            obtain ⟨x0, x1, x2⟩ := HB2.out.cells
            clear hr1 HP
            go_wp2_with fail
            refine HR.out.mono ?_
            rintro e w1 ⟨⟨h0, rfl, hb⟩ | ⟨h0, rfl, t⟩ | ⟨h0, rfl, t⟩, hpp⟩
            · have HB : Hid _ := hb
              have HPW : Hid _ := (hpp h0).trans HPA.out
              have H0 : Hid _ := h0
              clear hb h0 hpp
              go_wp2
              go_end0
              exact ⟨.inl ⟨H0.out, rfl, HB.out⟩, fun _ => HPW.out⟩
            · exact ⟨rfl, .inr (.inl ⟨h0, rfl, t⟩), fun h => (hpp h).trans HPA.out⟩
            · exact ⟨rfl, .inr (.inr ⟨h0, rfl, t⟩), fun h => (hpp h).trans HPA.out⟩
      · rw [if_neg h3]
        have HR : HidC _ _ _ _ _ := ⟨step_blk HK.out hl hll hX.st hX.w (step_pos l X.D)⟩
        generalize ((stepW l X.D).1, { X with D := (stepW l X.D).2 }) = RR at *
        have n27 : ¬ io = 27 := fun e => h1 (.inl e)
        have n28 : ¬ io = 28 := fun e => h1 (.inr (.inl e))
        have n21 : ¬ io = 21 := fun e => h1 (.inr (.inr e))
        have n4 : ¬ io = 4 := fun e => h2 (.inl e)
        have n5 : ¬ io = 5 := fun e => h2 (.inr (.inl e))
        have n6 : ¬ io = 6 := fun e => h2 (.inr (.inr (.inl e)))
        have n7 : ¬ io = 7 := fun e => h2 (.inr (.inr (.inr e)))
        have n22 : ¬ io = 22 := fun e => h3 (.inl e)
        have n23 : ¬ io = 23 := fun e => h3 (.inr (.inl e))
        have n24 : ¬ io = 24 := fun e => h3 (.inr (.inr (.inl e)))
        have n25 : ¬ io = 25 := fun e => h3 (.inr (.inr (.inr (.inl e))))
        have n26 : ¬ io = 26 := fun e => h3 (.inr (.inr (.inr (.inr e))))
        clear hk tA h1 h2 h3 hX ha hpc hl hll HK HTA HTT
        go_enter Try.func62, Try.ntmps62
        go_wp2_with fail
        refine HR.out.mono ?_
        rintro e w1 ⟨⟨h0, rfl, hb⟩ | ⟨h0, rfl, t⟩ | ⟨h0, rfl, t⟩, hpp⟩
        · have HB : Hid _ := hb
          have HPW : Hid _ := (hpp h0).trans HPA.out
          have H0 : Hid _ := h0
          clear hb h0 hpp
          go_wp2
          go_end0
          exact ⟨.inl ⟨H0.out, rfl, HB.out⟩, fun _ => HPW.out⟩
        · exact ⟨rfl, .inr (.inl ⟨h0, rfl, t⟩), fun h => (hpp h).trans HPA.out⟩
        · exact ⟨rfl, .inr (.inr ⟨h0, rfl, t⟩), fun h => (hpp h).trans HPA.out⟩

end Go.Proofs.Ytlndbligbpfdpaa

/-
  package spec: bracket BY ITS CONTRACT.
-/
import Derived.Test.YtlndbligbpfdpaaSpBegin
namespace Go.Proofs.Ytlndbligbpfdpaa
set_option linter.unusedVariables false
set_option linter.unusedSimpArgs false
open Go.RowKit
attribute [local go_sem] Oper.semAt_some

/-- bracket as a plain function. -/
def brB (X : BX) (i : InsD) : Int × BX :=
  if i.op = 23 then (0, { X with ms := X.ms ++ [⟨X.D, X.h, i.arg⟩], D := { X.D with pc := X.D.pc + 1 } })
  else if i.op = 24 then (match X.ms.getLast? with
    | none => (3, X)
    | some _ => (0, { X with ms := X.ms.dropLast, arms := X.arms ++ [true], D := { X.D with pc := i.arg + 1 } }))
  else if i.op = 25 then (0, { X with arms := X.arms ++ [false], D := { X.D with pc := X.D.pc + 1 } })
  else if i.op = 26 then (match X.ms.getLast? with
    | none => (-1, X)
    | some m => (0, { X with ms := X.ms.dropLast, h := m.h, D := { m.D with fuel := X.D.fuel, pc := m.e + 1 } }))
  else (0, { X with D := { X.D with pc := X.D.pc + 1 } })

/-- One arm more. -/
theorem BObj.armed {w w7 : World} {b : Nat} {B : Gd} {vp : Value} {D : WD} {h : List Int} {L : List MkT} {arms : List Bool} {vs vo vh vl va va' : Value} {q : Bool} (k : BObj w b B vp D h L arms vs vo vh vl va) (t7 : Touch w w7 va.ownBlock.toList) (l7 : w7.ownsRow 0 4 1 va' (arms.length + 1) (arms.map Value.bool ++ [.bool q])) (hv : ∀ g, va'.ownBlock = some g → va.ownBlock = some g ∨ w.heap.size ≤ g) :
    BObj (w7.setCell ⟨b, 11, none⟩ va') b B vp D h L (arms ++ [q]) vs vo vh vl va' ∧ Touch w (w7.setCell ⟨b, 11, none⟩ va') (b :: va.ownBlock.toList) := by
  have hnb : b ∉ va.ownBlock.toList := fun hx => k.ap 5 0 (by decide) b (by simpa [comp, ob] using hx) (by simp [comp])
  have o7 : WObj w7 b 75 [vh, vl, va] vs vo vp D := k.o.touch t7 hnb
  have t8 : Touch w (w7.setCell ⟨b, 11, none⟩ va') (b :: va.ownBlock.toList) := (t7.mono (by intro x hx; simp only [List.mem_cons]; exact .inr hx)).setCell (.inl (by simp)) _
  have hs := t8.size
  have hnw : va'.ownBlock ≠ some b := fun hx => by
    rcases hv b hx with q | q
    · exact hnb (by simp [q])
    · have := k.o.lt; omega
  have l8 := ownsRow_touch l7 ((Touch.refl w7 [b]).setCell (p := ⟨b, 11, none⟩) (.inl (by simp)) va') (fun g hg hm => by simp at hm; subst hm; exact hnw hg)
  have hS : ∀ i, i ≠ 0 → i ≠ 5 → ∀ x ∈ comp b vs vo vh vl va (ftL L) i, x ∉ b :: va.ownBlock.toList := by
    intro i h0 h4 x hx hm
    simp only [List.mem_cons, Option.mem_toList] at hm
    rcases hm with rfl | hm
    · exact k.ap i 0 h0 x hx (by simp [comp])
    · exact k.ap i 5 h4 x hx (mem_ob.2 hm)
  have hsub : ∀ i, ∀ x ∈ comp b vs vo vh vl va' (ftL L) i, x ∈ comp b vs vo vh vl va (ftL L) i ∨ (i = 5 ∧ w.heap.size ≤ x ∧ x < (w7.setCell ⟨b, 11, none⟩ va').heap.size) := by
    intro i x hx
    match i, hx with
    | 0, hx => exact .inl hx
    | 1, hx => exact .inl hx
    | 2, hx => exact .inl hx
    | 3, hx => exact .inl hx
    | 4, hx => exact .inl hx
    | 5, hx => rcases hv x (mem_ob.1 hx) with q | q; exact .inl (mem_ob.2 q); exact .inr ⟨rfl, q, (World.ownsRow.lt l8 x (mem_ob.1 hx)).2⟩
    | 6, hx => exact .inl hx
    | n + 7, hx => simp [comp] at hx
  refine ⟨⟨o7.set11 _, ownsRow_touch k.s t8 (fun g hg => hS 1 (by decide) (by decide) g (mem_ob.2 hg)), ownsRow_touch k.u t8 (fun g hg => hS 2 (by decide) (by decide) g (mem_ob.2 hg)), ownsRow_touch k.hp t8 (fun g hg => hS 3 (by decide) (by decide) g (mem_ob.2 hg)), ownsRow_touch k.lf t8 (fun g hg => hS 4 (by decide) (by decide) g (mem_ob.2 hg)), by simpa using l8, fun u hu => (k.mks u hu).touch t8 (fun x hx => hS 6 (by decide) (by decide) x (by simp only [comp, ftL]; exact List.mem_flatMap.2 ⟨u, hu, hx⟩)), k.mn, ?_, ?_, ?_, Nat.le_trans k.hB hs⟩, t8⟩
  · intro i j hij x hx hx'
    rcases hsub i x hx with q | ⟨rfl, q1, q2⟩
    · rcases hsub j x hx' with r | ⟨rfl, r1, r2⟩
      · exact k.ap i j hij x q r
      · have := k.lt i x q; omega
    · rcases hsub j x hx' with r | ⟨rfl, r1, r2⟩
      · have := k.lt j x r; omega
      · exact hij rfl
  · intro i x hx
    rcases hsub i x hx with q | ⟨_, _, q⟩
    · have := k.lt i x q; omega
    · exact q
  · intro i x hx
    rcases hsub i x hx with q | ⟨_, q, _⟩
    · exact k.ge i x q
    · exact .inr (by have := k.hB; omega)

/-- What lies since w0 is its own. -/
theorem BObj.since {w0 w w' : World} {S0 : List Nat} {b : Nat} {vp : Value} {D : WD} {h : List Int} {L : List MkT} {arms : List Bool} {vs vo vh vl va : Value} (k : BObj w b (w0.heap.size, S0) vp D h L arms vs vo vh vl va) (t0 : Touch w0 w S0) (t : Touch w w' (b :: (ob vl ++ ob va))) : Touch w0 w' S0 := by
  refine t0.trans t (fun x hx => ?_)
  simp only [List.mem_cons, List.mem_append] at hx
  rcases hx with rfl | hx | hx
  · exact k.ge 0 x (by simp [comp])
  · exact k.ge 4 x hx
  · exact k.ge 5 x hx

theorem at_pc {w0 w : World} {S0 : List Nat} {b : Nat} {vp : Value} {D : WD} {h : List Int} {L : List MkT} {arms : List Bool} {vs vo vh vl va : Value} (k : BObj w b (w0.heap.size, S0) vp D h L arms vs vo vh vl va) (t0 : Touch w0 w S0) (x : Int) : BAt w0 S0 (w.setCell ⟨b, 0, none⟩ (.int .i64 x)) b vp ⟨{ D with pc := x }, h, L.map (fun t => t.1), arms⟩ :=
  ⟨L, vs, vo, vh, vl, va, rfl, k.pc x, t0.setCell (by exact k.ge 0 b (by simp [comp])) _⟩

theorem bk_keep {w W : World} {b p : Nat} {vs vo vh vl va : Value} {F : List Nat} (h1 : p < w.heap.size) (h2 : ∀ i, p ∉ comp b vs vo vh vl va F i) (t : Touch w W (b :: (ob vl ++ ob va))) : W.heap[p]? = w.heap[p]? := by
  refine apart_keep h1 h2 t (fun y hy => ?_)
  simp only [List.mem_cons, List.mem_append] at hy
  rcases hy with rfl | hy | hy
  · exact ⟨0, by simp [comp]⟩
  · exact ⟨4, hy⟩
  · exact ⟨5, hy⟩

set_option maxRecDepth 100000 in
set_option maxHeartbeats 2000000 in
theorem bracket_any {w0 w : World} {S0 : List Nat} {b : Nat} {vp : Value} {X : BX} {p : Nat} (hk : BAtP w0 S0 w b vp X p) (io ia iv : Int) (hop : io = 22 ∨ io = 23 ∨ io = 24 ∨ io = 25 ∨ io = 26) (ha : 0 ≤ ia ∧ ia ≤ 1000) (hpc : 0 ≤ X.D.pc ∧ X.D.pc < 9223372036854775807)
    (hsl : X.D.st.length ≤ 100000) (hol : X.D.out.length ≤ 100000) (hhl : X.h.length ≤ 100000) (hms : X.ms.length ≤ 1000) (har : X.arms.length ≤ 1000) (hme : ∀ m ∈ X.ms, 0 ≤ m.e ∧ m.e ≤ 1000) :
    Calls Try.prog 78 #[.pointer (some ⟨b, 0, none⟩), .agg #[.int .u8 io, .int .i64 ia, .int .u64 iv]] w (BPostP w p w0 S0 b vp (brB X ⟨io, ia, iv⟩)) := by
  obtain ⟨L, vs, vo, vh, vl, va, hL, k, t0, hp1, hp2⟩ := hk
  obtain ⟨XD, Xh, Xms, Xarms⟩ := X
  simp only at hL k hpc hsl hol hhl hms har hme
  subst hL
  rw [List.length_map] at hms
  have tA : Touch w (w.alloc (.cells #[.int .u8 io, .int .i64 ia, .int .u64 iv] 48)) [] := (Touch.refl w []).alloc _
  have kA := k.touch tA
  have hbx := (BoxI.new w io ia iv).cells
  obtain ⟨b0, b1, b2⟩ := hbx
  have HBX : Hid (BoxI (w.alloc (.cells #[.int .u8 io, .int .i64 ia, .int .u64 iv] 48)) w.heap.size io ia iv) := BoxI.new w io ia iv
  have HTA : Hid (Touch w0 (w.alloc (.cells #[.int .u8 io, .int .i64 ia, .int .u64 iv] 48)) S0) := t0.trans tA (by simp)
  have hwr : IntKind.i64.wrap (XD.pc + 1) = XD.pc + 1 := by rw [IntKind.wrap_i64]; omega
  have hwr2 : IntKind.i64.wrap (ia + 1) = ia + 1 := by rw [IntKind.wrap_i64]; omega
  have hwb : w.heap.size ∉ b :: (ob vl ++ ob va) := by
    simp only [List.mem_cons, List.mem_append, not_or]
    exact ⟨by have := k.o.lt; omega, fun hx => by have := k.lt 4 _ hx; omega, fun hx => by have := k.lt 5 _ hx; omega⟩
  have HW : Hid (∀ W, Touch (w.alloc (.cells #[.int .u8 io, .int .i64 ia, .int .u64 iv] 48)) W (b :: (ob vl ++ ob va)) → W.heap[p]? = w.heap[p]?) := fun W t => bk_keep hp1 hp2 ((tA.mono (by simp)).trans t (fun x hx => .inl hx))
  clear hp1 hp2
  generalize hA : w.alloc (.cells #[.int .u8 io, .int .i64 ia, .int .u64 iv] 48) = A at *
  clear k t0 tA
  rcases hop with rfl | rfl | rfl | rfl | rfl
  · -- End
    have c0 := kA.o.cells.c0
    have f0 := kA.o.fr 0
    have HF : Hid _ := at_pc kA HTA.out (XD.pc + 1)
    have HPP : Hid _ := HW.out _ ((Touch.refl A _).setCell (p := ⟨b, 0, none⟩) (.inl (by simp)) (.int .i64 (XD.pc + 1)))
    clear kA
    go_enter Try.func78, Try.ntmps78
    go_wp2
    go_end0
    exact ⟨.inl ⟨rfl, rfl, HF.out⟩, fun _ => HPP.out⟩
  · -- OrElse
    have HB : HidC _ _ _ _ _ := ⟨begin_any kA hsl hol hhl hms ia⟩
    have HKA : Hid _ := kA
    clear kA hsl hol hhl
    go_enter Try.func78, Try.ntmps78
    go_wp2_with fail
    (try rw [hA])
    refine HB.out.mono ?_
    rintro e w1 ⟨rfl, ⟨t, vl', ht, k1⟩, t1⟩
    have HT1 : Hid (Touch w0 w1 S0) := HKA.out.since HTA.out (t1.mono (by intro x hx; simp only [List.mem_cons, List.mem_append, ob] at hx ⊢; rcases hx with q | q; exact .inl q; exact .inr (.inl q)))
    obtain ⟨x0, x1, x2⟩ := (HBX.out.touch (t1.mono (by intro x hx; simp only [List.mem_cons, List.mem_append, ob] at hx ⊢; rcases hx with q | q; exact .inl q; exact .inr (.inl q))) hwb).cells
    have c0 := k1.o.cells.c0
    have f0 := k1.o.fr 0
    have HPP : Hid _ := HW.out _ ((t1.mono (by intro x hx; simp only [List.mem_cons, List.mem_append, ob] at hx ⊢; rcases hx with q | q; exact .inl q; exact .inr (.inl q))).setCell (p := ⟨b, 0, none⟩) (.inl (by simp)) (.int .i64 (XD.pc + 1)))
    have hf := at_pc k1 HT1.out (XD.pc + 1)
    rw [List.map_append, List.map_cons, List.map_nil, ht] at hf
    have HF : Hid _ := hf
    clear hf k1 t1 HB ht b0 b1 b2
    go_wp2
    go_end0
    exact ⟨.inl ⟨rfl, rfl, HF.out⟩, fun _ => HPP.out⟩
  · -- Else
    rcases List.eq_nil_or_concat L with rfl | ⟨L', t, rfl⟩
    · have HR : HidC _ _ _ _ _ := ⟨inner_no kA⟩
      clear kA
      go_enter Try.func78, Try.ntmps78
      go_wp2_with fail
      (try rw [hA])
      refine HR.out.mono ?_
      rintro e w1 ⟨rfl, t1⟩
      exact ⟨rfl, .inr (.inr ⟨by show (0 : Int) < 3; decide, rfl, HTA.out.trans t1 (by simp)⟩), fun h => absurd h (by show ¬ (3 : Int) = 0; decide)⟩
    · rw [List.concat_eq_append] at *
      have HR : HidC _ _ _ _ _ := ⟨inner_ok kA (by simp at hms; omega)⟩
      have HKA : Hid _ := kA
      have HBR : Hid (brB ⟨XD, Xh, (L' ++ [t]).map (fun t => t.1), Xarms⟩ ⟨24, ia, iv⟩ = (0, ⟨{ XD with pc := ia + 1 }, Xh, L'.map (fun t => t.1), Xarms ++ [true]⟩)) := by show _ = _; unfold brB; simp
      rw [HBR.out]
      have hab : w.heap.size ∉ [b] := by simp only [List.mem_singleton]; exact fun e => hwb (by simp [e])
      have hva : w.heap.size ∉ ob va := fun hx => hwb (by simp [hx])
      clear kA hms hme
      go_enter Try.func78, Try.ntmps78
      go_wp2_with fail
      (try rw [hA])
      refine HR.out.mono ?_
      rintro e w1 ⟨rfl, ⟨vl', k1, _⟩, _, _, t1⟩
      have HT1 : Hid (Touch w0 w1 S0) := HKA.out.since HTA.out (t1.mono (by simp))
      have HB1 : Hid _ := HBX.out.touch t1 hab
      obtain ⟨aa, ac, rfl⟩ := owns_slice k1.ar
      have c11 := k1.c9.2.2
      obtain ⟨aw, cw, w7, hrun, l7, t7, hv7⟩ := row1_push 39 4 Try.underlying39 Try.info_bool rfl (by decide) (by decide) k1.ar har (Nat.zero_le _) (.bool true) rfl 39
      obtain ⟨k8, t8⟩ := k1.armed t7 l7 hv7
      have HT8 : Hid (Touch w0 (w7.setCell ⟨b, 11, none⟩ (.slice aw (Xarms.length + 1) cw)) S0) := k1.since HT1.out (t8.mono (by intro x hx; simp only [List.mem_cons, List.mem_append, ob] at hx ⊢; rcases hx with q | q; exact .inl q; exact .inr (.inr q)))
      have hnb : b ∉ (Value.slice aa Xarms.length ac).ownBlock.toList := fun hx => k1.ap 5 0 (by decide) b (by simpa [comp, ob] using hx) (by simp [comp])
      have o7 := k1.o.touch t7 hnb
      have d11 : w7.cell? ⟨b, 11, none⟩ = some (.slice aa Xarms.length ac) := by unfold World.cell?; rw [o7.st]; rfl
      have f11 := o7.fr 11
      have b8 := (HB1.out.touch t7 hva).touch ((Touch.refl w7 [b]).setCell (p := ⟨b, 11, none⟩) (.inl (by simp)) (.slice aw (Xarms.length + 1) cw)) hab
      obtain ⟨x0, x1, x2⟩ := b8.cells
      have HPP : Hid _ := HW.out _ (((((t1.mono (by simp)).trans t7 (fun x hx => .inl (by simp only [List.mem_cons, List.mem_append, ob]; exact .inr (.inr hx)))).setCell (p := ⟨b, 11, none⟩) (.inl (by simp)) (.slice aw (Xarms.length + 1) cw)).setCell (p := ⟨b, 0, none⟩) (.inl (by simp)) (.int .i64 ia)).setCell (p := ⟨b, 0, none⟩) (.inl (by simp)) (.int .i64 (ia + 1)))
      have HK8 : Hid _ := k8
      clear k1 t1 t8 t7 l7 hv7 o7 hnb HR b0 b1 b2 b8
      have c0 := k8.o.cells.c0
      have f0 := k8.o.fr 0
      have k9 := k8.pc ia
      have d0 := k9.o.cells.c0
      have g0 := k9.o.fr 0
      have HF : Hid _ := at_pc k9 (HT8.out.setCell (by exact k8.ge 0 b (by simp [comp])) _) (ia + 1)
      clear k8 k9
      generalize Xarms.length = na at *
      go_wp2_with (at_builtin; refine Lib.wpList_append_run _ rfl (.tmp 20) (.tmp 21) _ _ rfl _ _ rfl rfl _ _ hrun ?_)
      go_end0
      exact ⟨.inl ⟨rfl, rfl, HF.out⟩, fun _ => HPP.out⟩
  · -- EndOr
    obtain ⟨aa, ac, rfl⟩ := owns_slice kA.ar
    have c11 := kA.c9.2.2
    obtain ⟨aw, cw, w7, hrun, l7, t7, hv7⟩ := row1_push 39 4 Try.underlying39 Try.info_bool rfl (by decide) (by decide) kA.ar har (Nat.zero_le _) (.bool false) rfl 39
    obtain ⟨k8, t8⟩ := kA.armed t7 l7 hv7
    have HT8 : Hid (Touch w0 (w7.setCell ⟨b, 11, none⟩ (.slice aw (Xarms.length + 1) cw)) S0) := kA.since HTA.out (t8.mono (by intro x hx; simp only [List.mem_cons, List.mem_append, ob] at hx ⊢; rcases hx with q | q; exact .inl q; exact .inr (.inr q)))
    have hnb : b ∉ (Value.slice aa Xarms.length ac).ownBlock.toList := fun hx => kA.ap 5 0 (by decide) b (by simpa [comp, ob] using hx) (by simp [comp])
    have o7 := kA.o.touch t7 hnb
    have d11 : w7.cell? ⟨b, 11, none⟩ = some (.slice aa Xarms.length ac) := by unfold World.cell?; rw [o7.st]; rfl
    have f11 := o7.fr 11
    have c0 := k8.o.cells.c0
    have f0 := k8.o.fr 0
    have HF : Hid _ := at_pc k8 HT8.out (XD.pc + 1)
    have HPP : Hid _ := HW.out _ (((t7.mono (fun x hx => by simp only [List.mem_cons, List.mem_append, ob]; exact .inr (.inr hx))).setCell (p := ⟨b, 11, none⟩) (.inl (by simp)) (.slice aw (Xarms.length + 1) cw)).setCell (p := ⟨b, 0, none⟩) (.inl (by simp)) (.int .i64 (XD.pc + 1)))
    have bb := (((HBX.out.touch t7 (fun hx => hwb (by simp only [List.mem_cons, List.mem_append]; exact .inr (.inr hx)))).touch ((Touch.refl w7 [b]).setCell (p := ⟨b, 11, none⟩) (.inl (by simp)) (.slice aw (Xarms.length + 1) cw)) (by simp only [List.mem_singleton]; exact fun e => hwb (by simp [e])))).cells
    obtain ⟨x0, x1, x2⟩ := bb
    clear kA k8 t8 t7 l7 hv7 o7 hnb
    generalize Xarms.length = na at *
    go_enter Try.func78, Try.ntmps78
    go_wp2_with (at_builtin; refine Lib.wpList_append_run _ rfl (.tmp 38) (.tmp 39) _ _ rfl _ _ rfl rfl _ _ hrun ?_)
    go_end0
    exact ⟨.inl ⟨rfl, rfl, HF.out⟩, fun _ => HPP.out⟩
  · -- Retry
    rcases List.eq_nil_or_concat L with rfl | ⟨L', t, rfl⟩
    · have HR : HidC _ _ _ _ _ := ⟨retry_none kA⟩
      clear kA
      go_enter Try.func78, Try.ntmps78
      go_wp2_with fail
      (try rw [hA])
      refine HR.out.mono ?_
      rintro e w1 ⟨rfl, t1⟩
      exact ⟨rfl, .inr (.inl ⟨rfl, rfl, HTA.out.trans t1 (by simp)⟩), fun h => absurd h (by show ¬ (-1 : Int) = 0; decide)⟩
    · rw [List.concat_eq_append] at *
      have HR : HidC _ _ _ _ _ := ⟨retry_some kA (by simp at hms; omega) (hme t.1 (by simp))⟩
      have HKA : Hid _ := kA
      have HBR : Hid (brB ⟨XD, Xh, (L' ++ [t]).map (fun t => t.1), Xarms⟩ ⟨26, ia, iv⟩ = (0, ⟨{ t.1.D with fuel := XD.fuel, pc := t.1.e + 1 }, t.1.h, L'.map (fun t => t.1), Xarms⟩)) := by show _ = _; unfold brB; simp
      rw [HBR.out]
      clear kA hms hme
      go_enter Try.func78, Try.ntmps78
      go_wp2_with fail
      (try rw [hA])
      refine HR.out.mono ?_
      rintro e w1 ⟨rfl, ⟨vs', vo', vh', vl', k1⟩, t1⟩
      have HF : Hid (BAt w0 S0 w1 b vp ⟨{ t.1.D with fuel := XD.fuel, pc := t.1.e + 1 }, t.1.h, L'.map (fun t => t.1), Xarms⟩) := ⟨L', vs', vo', vh', vl', va, rfl, k1, HKA.out.since HTA.out (t1.mono (by simp))⟩
      have HPP : Hid _ := HW.out _ (t1.mono (by simp))
      clear k1 t1 HR
      go_wp2
      go_end0
      exact ⟨.inl ⟨rfl, rfl, HF.out⟩, fun _ => HPP.out⟩

end Go.Proofs.Ytlndbligbpfdpaa

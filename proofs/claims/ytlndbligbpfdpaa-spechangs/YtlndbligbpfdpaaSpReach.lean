/-
  package spec: reach BY ITS CONTRACT. Written by mkreach.py.
-/
import Derived.Test.YtlndbligbpfdpaaSpBlk2
namespace Go.Proofs.Ytlndbligbpfdpaa
set_option linter.unusedVariables false
set_option linter.unusedSimpArgs false
open Go.RowKit
attribute [local go_sem] Oper.semAt_some

set_option maxRecDepth 100000 in
set_option maxHeartbeats 1000000 in
theorem reach_no {w0 w : World} {S0 : List Nat} {b : Nat} {vp : Value} {X : BX} (hk : BAt w0 S0 w b vp X) (io ia iv : Int) (hop : io = 4 ∨ io = 5 ∨ io = 6 ∨ io = 7) (hn : X.D.st.length ≤ 1000) (hf : fitsW io X.D.st.length = false) :
    Calls Try.prog 77 #[.pointer (some ⟨b, 0, none⟩), .agg #[.int .u8 io, .int .i64 ia, .int .u64 iv]] w (BPost w0 S0 b vp (12, X)) := by
  obtain ⟨L, vs, vo, vh, vl, va, hL, k, t0⟩ := hk
  obtain ⟨sa, sc, rfl⟩ := owns_slice k.s
  have tA : Touch w (w.alloc (.cells #[.int .u8 io, .int .i64 ia, .int .u64 iv] 48)).drew [] := ((Touch.refl w []).alloc _).drew
  have HP : HidC _ _ _ _ _ := ⟨popped_no (k.touch tA).o hn io hf⟩
  have HT : Hid _ := t0.trans tA (by simp)
  have hb0 : (w.alloc (.cells #[.int .u8 io, .int .i64 ia, .int .u64 iv] 48)).drew.cell? ⟨w.heap.size, 0, none⟩ = some (.int .u8 io) := (BoxI.new w io ia iv).cells.1
  clear k t0 tA hf hL hn
  clear hop
  go_enter Try.func77, Try.ntmps77
  go_wp2_with fail
  generalize w.alloc _ = Q at *
  refine wp_region_held_drew (S := (fun w' : World => w'.cell? ⟨w.heap.size, 0, none⟩ = some (.int .u8 io))) (by kernel_rfl) hb0 (fun hHeld => ?_)
  try simp only [Act.put, List.getElem_toArray, List.getElem_cons_succ, List.getElem_cons_zero, List.setIfInBounds_toArray, List.set_cons_zero, List.set_cons_succ]
  refine wpAnyH_take (i := 0) (v := (.pointer (some ⟨b, 0, none⟩))) rfl (by kernel_rfl) (by kernel_rfl) (by kernel_rfl) (fun _ _ _ h => h) (Or.inl ⟨by rfl, ?_⟩) hHeld ?_
  · intro w' hSw
    go_simp
  try simp only [Act.put, List.getElem_toArray, List.getElem_cons_succ, List.getElem_cons_zero, List.setIfInBounds_toArray, List.set_cons_zero, List.set_cons_succ]
  refine wpAnyH_take (i := 1) (v := (.pointer (some ⟨b, 0, none⟩))) rfl (by kernel_rfl) (by kernel_rfl) (by kernel_rfl) (fun _ _ _ h => h) (Or.inl ⟨by rfl, ?_⟩) hHeld ?_
  · intro w' hSw
    go_simp
  try simp only [Act.put, List.getElem_toArray, List.getElem_cons_succ, List.getElem_cons_zero, List.setIfInBounds_toArray, List.set_cons_zero, List.set_cons_succ]
  refine wpAnyH_take (i := 2) (v := (.pointer (some ⟨b, 0, none⟩))) rfl (by kernel_rfl) (by kernel_rfl) (by kernel_rfl) (fun _ _ _ h => h) (Or.inl ⟨by rfl, ?_⟩) hHeld ?_
  · intro w' hSw
    go_simp
  try simp only [Act.put, List.getElem_toArray, List.getElem_cons_succ, List.getElem_cons_zero, List.setIfInBounds_toArray, List.set_cons_zero, List.set_cons_succ]
  refine wpAnyH_take (i := 3) (v := (.pointer (some ⟨w.heap.size, 0, none⟩))) rfl (by kernel_rfl) (by kernel_rfl) (by kernel_rfl) (fun _ _ _ h => h) (Or.inl ⟨by rfl, ?_⟩) hHeld ?_
  · intro w' hSw
    go_simp
  try simp only [Act.put, List.getElem_toArray, List.getElem_cons_succ, List.getElem_cons_zero, List.setIfInBounds_toArray, List.set_cons_zero, List.set_cons_succ]
  refine wpAnyH_take (i := 4) (v := (.int .u8 io)) rfl (by kernel_rfl) (by kernel_rfl) (by kernel_rfl) (fun _ _ _ h => h) (Or.inl ⟨by rfl, ?_⟩) hHeld ?_
  · intro w' hSw
    go_simp
  try simp only [Act.put, List.getElem_toArray, List.getElem_cons_succ, List.getElem_cons_zero, List.setIfInBounds_toArray, List.set_cons_zero, List.set_cons_succ]
  clear hHeld
  refine wpAnyH_ready (rs := [5]) (by kernel_rfl) (by simp) (AllReadyH.cons rfl (fun K hK => ?_) AllReadyH.nil)
  rw [if_pos (by rfl)]
  go_simp
  refine HP.out.mono ?_
  rintro e w5 ⟨rfl, t5⟩
  exact ⟨rfl, .inr (.inr ⟨by show (0 : Int) < 12; decide, rfl, HT.out.trans t5 (by simp)⟩)⟩

theorem right_var {i : InsD} (h : rightI i = true) (ho : i.op = 4 ∨ i.op = 5 ∨ i.op = 6 ∨ i.op = 7) : 0 ≤ i.arg ∧ i.arg ≤ 255 := by
  unfold rightI at h
  simp only [Bool.and_eq_true, decide_eq_true_eq] at h
  have h1 := h.1.2
  have h0 := h.1.1.2
  have : highP i.op = 11 := by rcases ho with q | q | q | q <;> (rw [q]; rfl)
  omega
theorem varW_some {i : InsD} {pp : List Int} {nh : Nat} {t : Int} (h : varW i pp nh = some t) (ha : 0 ≤ i.arg) : 0 ≤ t ∧ t < nh := by
  unfold varW at h
  split at h
  · cases h
  · rename_i k hk
    split at h
    · rename_i hlt
      simp only [Option.some.injEq] at h
      unfold idxW at hk
      split at hk
      · split at hk
        · rename_i h2
          simp only [Option.some.injEq] at hk
          omega
        · cases hk
      · simp only [Option.some.injEq] at hk
        omega
    · cases h
theorem own_some {w : World} {B : Nat} {ao : Option Addr} {n c : Nat} {l : List Int} (h : valOwn w B (.slice ao n c) l) (hn : 0 < n) : ∃ g, ao = some ⟨g, 0, none⟩ := by
  rcases h.2 with ⟨e, _⟩ | ⟨g, cap, cur, e, _⟩
  · simp only [Value.slice.injEq] at e; omega
  · simp only [Value.slice.injEq] at e; exact ⟨g, e.1⟩

set_option maxRecDepth 100000 in
set_option maxHeartbeats 2000000 in
theorem reach_get {w0 w : World} {S0 : List Nat} {b : Nat} {vp : Value} {X : BX} {p : Nat} (hk : BAtP w0 S0 w b vp X p) (io ia iv : Int) (hop : io = 4 ∨ io = 6) (ha : 0 ≤ ia ∧ ia ≤ 255) (hn : X.D.st.length ≤ 1000) (hh : X.h.length ≤ 1000) (hw : ∀ x ∈ X.D.st, Wf64 x) (hpc : 0 ≤ X.D.pc ∧ X.D.pc < 9223372036854775807) (hf : fitsW io X.D.st.length = true) :
    Calls Try.prog 77 #[.pointer (some ⟨b, 0, none⟩), .agg #[.int .u8 io, .int .i64 ia, .int .u64 iv]] w (BPostP w p w0 S0 b vp (reachB X ⟨io, ia, iv⟩)) := by
  obtain ⟨L, vs, vo, vh, vl, va, hL, k, t0, hp1, hp2⟩ := hk
  have HP1 : Hid _ := hp1
  have HP2 : Hid _ := hp2
  clear hp1 hp2
  obtain ⟨sa, sc, rfl⟩ := owns_slice k.s
  obtain ⟨ah, ch, rfl⟩ := owns_slice k.hp
  have tA : Touch w (w.alloc (.cells #[.int .u8 io, .int .i64 ia, .int .u64 iv] 48)).drew [] := ((Touch.refl w []).alloc _).drew
  have kA := k.touch tA
  have HP : HidC _ _ _ _ _ := ⟨popped_ok kA.o kA.s hn io hf⟩
  have HT : Hid (Touch w0 (w.alloc (.cells #[.int .u8 io, .int .i64 ia, .int .u64 iv] 48)).drew S0) := t0.trans tA (by simp)
  have hbx := BoxI.new w io ia iv
  have hb0 : (w.alloc (.cells #[.int .u8 io, .int .i64 ia, .int .u64 iv] 48)).drew.cell? ⟨w.heap.size, 0, none⟩ = some (.int .u8 io) := hbx.cells.1
  have HTW : Hid _ := tA
  have HBX : Hid (BoxI (w.alloc (.cells #[.int .u8 io, .int .i64 ia, .int .u64 iv] 48)).drew w.heap.size io ia iv) := hbx.touch ((Touch.refl _ []).drew) (by simp)
  have HKA : Hid _ := kA
  have hlen : (X.D.st.drop (X.D.st.length - (popV io).toNat)).length = (popV io).toNat := by
    unfold fitsW at hf
    simp only [Bool.and_eq_true, decide_eq_true_eq] at hf
    have := pop_le io
    rw [List.length_drop]
    omega
  have hpop : (popV io).toNat ≤ X.D.st.length := by rw [List.length_drop] at hlen; omega
  have HR : Hid (reachB X ⟨io, ia, iv⟩ = match varW ⟨io, ia, iv⟩ (X.D.st.drop (X.D.st.length - (popV io).toNat)) X.h.length with
    | none => (2, X)
    | some t => (0, { X with D := { X.D with st := X.D.st.take (X.D.st.length - (popV io).toNat) ++ [X.h.getD t.toNat 0], pc := X.D.pc + 1 } })) := by
    show _ = _
    unfold reachB
    rw [if_neg (by rw [hf]; simp)]
    split
    · rename_i h; rw [h]
    · rename_i t h; rw [h]; simp only; rw [if_pos hop]
  have hpos : io = 6 ∨ io = 7 → 0 < (popV io).toNat := by rintro (q | q) <;> (rw [q]; decide)
  have hp1000 : (popV io).toNat ≤ 1000 := by omega
  have HV : Hid (∀ W a c, Touch (w.alloc (.cells #[.int .u8 io, .int .i64 ia, .int .u64 iv] 48)).drew W [] → VRow (w.alloc (.cells #[.int .u8 io, .int .i64 ia, .int .u64 iv] 48)).drew (.slice a (popV io).toNat c) (X.D.st.drop (X.D.st.length - (popV io).toNat)) → HidC Try.prog 96 #[.pointer (some ⟨b, 0, none⟩), .agg #[.int .u8 io, .int .i64 ia, .int .u64 iv], .slice a (popV io).toNat c] W (VarP W (varW ⟨io, ia, iv⟩ (X.D.st.drop (X.D.st.length - (popV io).toNat)) X.h.length))) := fun W a c t hr => ⟨var_any (HKA.out.touch t).c9.1 hh io ia iv (by omega) ha (SRow.keep hr t (by simp)) hlen hpos hp1000 (fun x hx => hw x (List.mem_of_mem_drop hx))⟩
  have HLL : Hid _ := hL
  have HVS : Hid (∀ t, varW ⟨io, ia, iv⟩ (X.D.st.drop (X.D.st.length - (popV io).toNat)) X.h.length = some t → 0 ≤ t ∧ t < (X.h.length : Int)) := fun t h => varW_some h ha.1
  have hwr : IntKind.i64.wrap (X.D.pc + 1) = X.D.pc + 1 := by rw [IntKind.wrap_i64]; omega
  generalize hrr : reachB X ⟨io, ia, iv⟩ = RR at *
  have HPOP : Hid _ := hpop
  have HHH : Hid _ := hh
  have HNN : Hid _ := hn
  clear k t0 tA hf hL kA hbx hpos hrr hlen hpop hp1000 hn hh hw hpc ha
  generalize varW ⟨io, ia, iv⟩ (X.D.st.drop (X.D.st.length - (popV io).toNat)) X.h.length = rv at *
  generalize (popV io).toNat = pn at *
  go_enter Try.func77, Try.ntmps77
  go_wp2_with fail
  generalize w.alloc _ = Q at *
  refine wp_region_held_drew (S := (fun w' : World => w'.cell? ⟨w.heap.size, 0, none⟩ = some (.int .u8 io))) (by kernel_rfl) hb0 (fun hHeld => ?_)
  try simp only [Act.put, List.getElem_toArray, List.getElem_cons_succ, List.getElem_cons_zero, List.setIfInBounds_toArray, List.set_cons_zero, List.set_cons_succ]
  refine wpAnyH_take (i := 0) (v := (.pointer (some ⟨b, 0, none⟩))) rfl (by kernel_rfl) (by kernel_rfl) (by kernel_rfl) (fun _ _ _ h => h) (Or.inl ⟨by rfl, ?_⟩) hHeld ?_
  · intro w' hSw
    go_simp
  try simp only [Act.put, List.getElem_toArray, List.getElem_cons_succ, List.getElem_cons_zero, List.setIfInBounds_toArray, List.set_cons_zero, List.set_cons_succ]
  refine wpAnyH_take (i := 1) (v := (.pointer (some ⟨b, 0, none⟩))) rfl (by kernel_rfl) (by kernel_rfl) (by kernel_rfl) (fun _ _ _ h => h) (Or.inl ⟨by rfl, ?_⟩) hHeld ?_
  · intro w' hSw
    go_simp
  try simp only [Act.put, List.getElem_toArray, List.getElem_cons_succ, List.getElem_cons_zero, List.setIfInBounds_toArray, List.set_cons_zero, List.set_cons_succ]
  refine wpAnyH_take (i := 2) (v := (.pointer (some ⟨b, 0, none⟩))) rfl (by kernel_rfl) (by kernel_rfl) (by kernel_rfl) (fun _ _ _ h => h) (Or.inl ⟨by rfl, ?_⟩) hHeld ?_
  · intro w' hSw
    go_simp
  try simp only [Act.put, List.getElem_toArray, List.getElem_cons_succ, List.getElem_cons_zero, List.setIfInBounds_toArray, List.set_cons_zero, List.set_cons_succ]
  refine wpAnyH_take (i := 3) (v := (.pointer (some ⟨w.heap.size, 0, none⟩))) rfl (by kernel_rfl) (by kernel_rfl) (by kernel_rfl) (fun _ _ _ h => h) (Or.inl ⟨by rfl, ?_⟩) hHeld ?_
  · intro w' hSw
    go_simp
  try simp only [Act.put, List.getElem_toArray, List.getElem_cons_succ, List.getElem_cons_zero, List.setIfInBounds_toArray, List.set_cons_zero, List.set_cons_succ]
  refine wpAnyH_take (i := 4) (v := (.int .u8 io)) rfl (by kernel_rfl) (by kernel_rfl) (by kernel_rfl) (fun _ _ _ h => h) (Or.inl ⟨by rfl, ?_⟩) hHeld ?_
  · intro w' hSw
    go_simp
  try simp only [Act.put, List.getElem_toArray, List.getElem_cons_succ, List.getElem_cons_zero, List.setIfInBounds_toArray, List.set_cons_zero, List.set_cons_succ]
  clear hHeld
  refine wpAnyH_ready (rs := [5]) (by kernel_rfl) (by simp) (AllReadyH.cons rfl (fun K hK => ?_) AllReadyH.nil)
  rw [if_pos (by rfl)]
  go_simp
  refine HP.out.mono ?_
  rintro e _ ⟨⟨a1, c1, rfl, hr1⟩, rfl⟩
  go_simp
  refine hK.out _ _ hb0 (fun hHeld => ?_)
  clear hK
  try simp only [Act.put, List.getElem_toArray, List.getElem_cons_succ, List.getElem_cons_zero, List.setIfInBounds_toArray, List.set_cons_zero, List.set_cons_succ]
  refine wpAnyH_take (i := 6) (v := (.slice a1 pn c1)) rfl (by kernel_rfl) (by kernel_rfl) (by kernel_rfl) (fun _ _ _ h => h) (Or.inl ⟨by rfl, ?_⟩) hHeld ?_
  · intro w' hSw
    go_simp
  try simp only [Act.put, List.getElem_toArray, List.getElem_cons_succ, List.getElem_cons_zero, List.setIfInBounds_toArray, List.set_cons_zero, List.set_cons_succ]
  clear hHeld
  refine wpAnyH_done (by kernel_rfl) ?_ _
  obtain ⟨b0, b1, b2⟩ := HBX.out.cells
  have HV1 := HV.out _ _ _ (Touch.refl _ []) hr1
  clear HV HP hr1
  go_wp2_with fail
  refine HV1.out.mono ?_
  rintro e w2 (⟨tt, hv, rfl, t2⟩ | ⟨hv, rfl, t2⟩)
  · obtain ⟨ht0, ht1⟩ := HVS.out tt hv
    have k2 := HKA.out.touch t2
    obtain ⟨gh, rfl⟩ := own_some k2.hp (by omega)
    obtain ⟨tn, htn⟩ := Int.eq_ofNat_of_zero_le ht0
    have htn' : tt = (tn : Int) := htn
    subst htn'
    have htl : tn < X.h.length := by omega
    have hxc : ∀ (W : World) vs' D', BObj W b (w0.heap.size, S0) vp D' X.h L X.arms vs' vo (.slice (some ⟨gh, 0, none⟩) X.h.length ch) vl va → W.cell? ⟨gh, tn, none⟩ = some (.int .u64 (X.h.getD tn 0)) := fun W vs' D' kk => by
      obtain ⟨g', off, e, hc⟩ := vrow_at (vrow_of kk.hp) rfl (by omega)
      simp only [Option.some.injEq, Addr.mk.injEq, and_true] at e
      obtain ⟨rfl, rfl⟩ := e
      simpa using hc tn htl
    have hF : RR = (0, { X with D := { X.D with st := X.D.st.take (X.D.st.length - pn) ++ [X.h.getD tn 0], pc := X.D.pc + 1 } }) := by rw [HR.out, hv]; simp
    have HF : Hid _ := hF
    obtain ⟨b0, b1, b2⟩ := (HBX.out.touch t2 (by simp)).cells
    have tD : Touch w2 w2.drew [] := (Touch.refl w2 []).drew
    have tX : Touch w2 (w2.alloc (.cells #[.int .u64 (X.h.getD tn 0)] 25)).drew [] := ((Touch.refl w2 []).alloc _).drew
    have d9 := (k2.touch tD).c9.1
    have dx := hxc _ _ _ (k2.touch tD)
    have kX := k2.touch tX
    have n9 := kX.c9.1
    have nx := hxc _ _ _ kX
    have hpx : VRow (w2.alloc (.cells #[.int .u64 (X.h.getD tn 0)] 25)).drew (.slice (some ⟨w2.heap.size, 0, none⟩) 1 1) [X.h.getD tn 0] := vrow_of (ownsRow_touch (own_one w2 0 (by omega) (X.h.getD tn 0)) ((Touch.refl _ []).drew) (by simp))
    have HX : HidC _ _ _ _ _ := ⟨exchange_any kX.o kX.s (Nat.zero_le _) kX.own.hb HNN.out pn HPOP.out hpx rfl (by omega)⟩
    have HKX : Hid _ := kX
    have HT2 : Hid (Touch w0 w2 S0) := HT.out.trans t2 (by simp)
    have HTX2 : Hid (Touch w (w2.alloc (.cells #[.int .u64 (X.h.getD tn 0)] 25)).drew []) := (HTW.out.trans t2 (by simp)).trans tX (by simp)
    have HE9 : Hid (∀ (w4 : World) vs4, BObj w4 b (w0.heap.size, S0) vp { X.D with st := X.D.st.take (X.D.st.length - pn) ++ [X.h.getD tn 0] } X.h L X.arms vs4 vo (.slice (some ⟨gh, 0, none⟩) X.h.length ch) vl va → w4.cell? ⟨b, 9, none⟩ = some (.slice (some ⟨gh, 0, none⟩) X.h.length ch) ∧ w4.cell? ⟨gh, tn, none⟩ = some (.int .u64 (X.h.getD tn 0))) := fun w4 vs4 k4 => ⟨k4.c9.1, hxc _ _ _ k4⟩
    have HTX : Hid (∀ (w4 : World), (∃ v', WObj w4 b 75 [.slice (some ⟨gh, 0, none⟩) X.h.length ch, vl, va] v' vo vp { X.D with st := X.D.st.take (X.D.st.length - pn) ++ [X.h.getD tn 0] } ∧ valOwn w4 0 v' (X.D.st.take (X.D.st.length - pn) ++ [X.h.getD tn 0]) ∧ Touch (w2.alloc (.cells #[.int .u64 (X.h.getD tn 0)] 25)).drew w4 (b :: (Value.slice sa X.D.st.length sc).ownBlock.toList) ∧ (∀ g, v'.ownBlock = some g → (Value.slice sa X.D.st.length sc).ownBlock = some g ∨ (w2.alloc (.cells #[.int .u64 (X.h.getD tn 0)] 25)).drew.heap.size ≤ g)) → Touch w0 w4 S0) := fun w4 hx => by
      obtain ⟨v', _, _, t4, _⟩ := hx
      refine (HT2.out.trans tX (by simp)).trans t4 (fun x hx => ?_)
      simp only [List.mem_cons, Option.mem_toList] at hx
      rcases hx with rfl | hx
      · exact HKX.out.ge 0 x (by simp [comp])
      · exact HKX.out.ge 1 x (mem_ob.2 hx)
    have HST : Hid (X.D.st.take (X.D.st.length - pn) ++ [X.h.getD tn 0] = X.D.st.take (X.D.st.length - pn) ++ [X.h.getD tn 0]) := rfl
    generalize X.h.getD tn 0 = x at *
    generalize X.D.st.take (X.D.st.length - pn) ++ [x] = ST at *
    obtain ⟨nh, hnh⟩ : ∃ nh, nh = X.h.length := ⟨_, rfl⟩
    have HNH : Hid _ := hnh
    have htl2 : (tn : Int) < nh := by omega
    have htl3 : (0 : Int) ≤ tn := by omega
    rw [← hnh] at d9 n9 HX HKX HE9 HTX
    clear k2 t2 hxc hF hv ht0 ht1 htn htl hnh kX hpx tD tX HVS HV1 HT HR HKA HBX hb0 HST
    rcases hop with rfl | rfl
    all_goals
      go_wp2_with fail
      refine wp_region_held_drew (S := (fun w' : World => w'.cell? ⟨b, 9, none⟩ = some (.slice (some ⟨gh, 0, none⟩) nh ch) ∧ w'.cell? ⟨gh, tn, none⟩ = some (.int .u64 x))) (by kernel_rfl) ⟨d9, dx⟩ (fun hHeld => ?_)
      try simp only [Act.put, List.getElem_toArray, List.getElem_cons_succ, List.getElem_cons_zero, List.setIfInBounds_toArray, List.set_cons_zero, List.set_cons_succ]
      refine wpAnyH_take (i := 0) (v := (.pointer (some ⟨b, 0, none⟩))) rfl (by kernel_rfl) (by kernel_rfl) (by kernel_rfl) (fun _ _ _ h => h) (Or.inl ⟨by rfl, ?_⟩) hHeld ?_
      · intro w' hSw
        go_simp
      try simp only [Act.put, List.getElem_toArray, List.getElem_cons_succ, List.getElem_cons_zero, List.setIfInBounds_toArray, List.set_cons_zero, List.set_cons_succ]
      refine wpAnyH_take (i := 1) (v := (.pointer (some ⟨b, 0, none⟩))) rfl (by kernel_rfl) (by kernel_rfl) (by kernel_rfl) (fun _ _ _ h => h) (Or.inl ⟨by rfl, ?_⟩) hHeld ?_
      · intro w' hSw
        go_simp
      try simp only [Act.put, List.getElem_toArray, List.getElem_cons_succ, List.getElem_cons_zero, List.setIfInBounds_toArray, List.set_cons_zero, List.set_cons_succ]
      refine wpAnyH_take (i := 2) (v := (.pointer (some ⟨b, 0, none⟩))) rfl (by kernel_rfl) (by kernel_rfl) (by kernel_rfl) (fun _ _ _ h => h) (Or.inl ⟨by rfl, ?_⟩) hHeld ?_
      · intro w' hSw
        go_simp
      try simp only [Act.put, List.getElem_toArray, List.getElem_cons_succ, List.getElem_cons_zero, List.setIfInBounds_toArray, List.set_cons_zero, List.set_cons_succ]
      refine wpAnyH_take (i := 3) (v := (.slice a1 pn c1)) rfl (by kernel_rfl) (by kernel_rfl) (by kernel_rfl) (fun _ _ _ h => h) (Or.inl ⟨by rfl, ?_⟩) hHeld ?_
      · intro w' hSw
        go_simp
      try simp only [Act.put, List.getElem_toArray, List.getElem_cons_succ, List.getElem_cons_zero, List.setIfInBounds_toArray, List.set_cons_zero, List.set_cons_succ]
      refine wpAnyH_take (i := 4) (v := (.int .i64 (pn : Int))) rfl (by kernel_rfl) (by kernel_rfl) (by kernel_rfl) (fun _ _ _ h => h) (Or.inl ⟨by rfl, ?_⟩) hHeld ?_
      · intro w' hSw
        go_simp
      try simp only [Act.put, List.getElem_toArray, List.getElem_cons_succ, List.getElem_cons_zero, List.setIfInBounds_toArray, List.set_cons_zero, List.set_cons_succ]
      refine wpAnyH_take (i := 5) (v := (.pointer (some ⟨b, 0, none⟩))) rfl (by kernel_rfl) (by kernel_rfl) (by kernel_rfl) (fun _ _ _ h => h) (Or.inl ⟨by rfl, ?_⟩) hHeld ?_
      · intro w' hSw
        go_simp
      try simp only [Act.put, List.getElem_toArray, List.getElem_cons_succ, List.getElem_cons_zero, List.setIfInBounds_toArray, List.set_cons_zero, List.set_cons_succ]
      refine wpAnyH_take (i := 6) (v := (.pointer (some ⟨b, 0, none⟩))) rfl (by kernel_rfl) (by kernel_rfl) (by kernel_rfl) (fun _ _ _ h => h) (Or.inl ⟨by rfl, ?_⟩) hHeld ?_
      · intro w' hSw
        go_simp
      try simp only [Act.put, List.getElem_toArray, List.getElem_cons_succ, List.getElem_cons_zero, List.setIfInBounds_toArray, List.set_cons_zero, List.set_cons_succ]
      refine wpAnyH_take (i := 7) (v := (.pointer (some ⟨b, 9, none⟩))) rfl (by kernel_rfl) (by kernel_rfl) (by kernel_rfl) (fun _ _ _ h => h) (Or.inl ⟨by rfl, ?_⟩) hHeld ?_
      · intro w' hSw
        go_simp
      try simp only [Act.put, List.getElem_toArray, List.getElem_cons_succ, List.getElem_cons_zero, List.setIfInBounds_toArray, List.set_cons_zero, List.set_cons_succ]
      refine wpAnyH_take (i := 8) (v := (.slice (some ⟨gh, 0, none⟩) nh ch)) rfl (by kernel_rfl) (by kernel_rfl) (by kernel_rfl) (fun _ _ _ h => h) (Or.inl ⟨by rfl, ?_⟩) hHeld ?_
      · intro w' hSw
        go_simp
      try simp only [Act.put, List.getElem_toArray, List.getElem_cons_succ, List.getElem_cons_zero, List.setIfInBounds_toArray, List.set_cons_zero, List.set_cons_succ]
      refine wpAnyH_take (i := 9) (v := (.int .i64 (tn : Int))) rfl (by kernel_rfl) (by kernel_rfl) (by kernel_rfl) (fun _ _ _ h => h) (Or.inl ⟨by rfl, ?_⟩) hHeld ?_
      · intro w' hSw
        go_simp
      try simp only [Act.put, List.getElem_toArray, List.getElem_cons_succ, List.getElem_cons_zero, List.setIfInBounds_toArray, List.set_cons_zero, List.set_cons_succ]
      refine wpAnyH_take (i := 10) (v := (.pointer (some ⟨gh, tn, none⟩))) rfl (by kernel_rfl) (by kernel_rfl) (by kernel_rfl) (fun _ _ _ h => h) (Or.inl ⟨by rfl, ?_⟩) hHeld ?_
      · intro w' hSw
        go_simp
      try simp only [Act.put, List.getElem_toArray, List.getElem_cons_succ, List.getElem_cons_zero, List.setIfInBounds_toArray, List.set_cons_zero, List.set_cons_succ]
      refine wpAnyH_take (i := 11) (v := (.int .u64 x)) rfl (by kernel_rfl) (by kernel_rfl) (by kernel_rfl) (fun _ _ _ h => h) (Or.inl ⟨by rfl, ?_⟩) hHeld ?_
      · intro w' hSw
        go_simp
      try simp only [Act.put, List.getElem_toArray, List.getElem_cons_succ, List.getElem_cons_zero, List.setIfInBounds_toArray, List.set_cons_zero, List.set_cons_succ]
      clear hHeld
      refine wpAnyH_ready (rs := [12]) (by kernel_rfl) (by simp) (AllReadyH.cons rfl (fun K hK => ?_) AllReadyH.nil)
      rw [if_pos (by rfl)]
      go_simp
      refine hK.out _ _ ⟨n9, nx⟩ (fun hHeld => ?_)
      clear hK
      try simp only [Act.put, List.getElem_toArray, List.getElem_cons_succ, List.getElem_cons_zero, List.setIfInBounds_toArray, List.set_cons_zero, List.set_cons_succ]
      clear hHeld
      refine wpAnyH_ready (rs := [13]) (by kernel_rfl) (by simp) (AllReadyH.cons rfl (fun K hK => ?_) AllReadyH.nil)
      rw [if_pos (by rfl)]
      go_simp
      refine HX.out.mono ?_
      rintro e w4 ⟨rfl, hx4⟩
      obtain ⟨vs4, k4⟩ := HKX.out.exch hx4
      have t4 := HTX.out w4 hx4
      have e9 := HE9.out w4 vs4 k4
      go_simp
      refine hK.out _ _ e9 (fun hHeld => ?_)
      clear hK
      try simp only [Act.put, List.getElem_toArray, List.getElem_cons_succ, List.getElem_cons_zero, List.setIfInBounds_toArray, List.set_cons_zero, List.set_cons_succ]
      clear hHeld
      refine wpAnyH_done (by kernel_rfl) ?_ _
      have c0 := k4.o.cells.c0
      have f0 := k4.o.fr 0
      have HK4 : Hid _ := k4
      have HT4 : Hid _ := t4
      have HPP4 : Hid ((w4.setCell ⟨b, 0, none⟩ (.int .i64 (X.D.pc + 1))).heap[p]? = w.heap[p]?) := by
        obtain ⟨v', _, _, t5, _⟩ := hx4
        have t6 : Touch w (w4.setCell ⟨b, 0, none⟩ (.int .i64 (X.D.pc + 1))) (b :: (Value.slice sa X.D.st.length sc).ownBlock.toList) := ((HTX2.out.mono (by simp)).trans t5 (fun y hy => .inl hy)).setCell (.inl (by simp)) _
        refine apart_keep HP1.out HP2.out t6 (fun y hy => ?_)
        simp only [List.mem_cons, Option.mem_toList] at hy
        rcases hy with rfl | hy
        · exact ⟨0, by simp [comp]⟩
        · exact ⟨1, mem_ob.2 hy⟩
      clear k4 t4 e9 d9 dx n9 nx hx4
      simp only at c0
      go_wp2
      go_end0
      refine ⟨.inl ⟨by rw [HF.out], rfl, ?_⟩, fun _ => HPP4.out⟩
      rw [HF.out]
      have kk := HK4.out.pc (X.D.pc + 1)
      rw [HNH.out] at kk
      exact ⟨L, _, _, _, _, _, HLL.out, kk, HT4.out.setCell (by exact HK4.out.ge 0 b (by simp [comp])) _⟩
  · have HF : Hid (RR = (2, X)) := by show _ = _; rw [HR.out, hv]
    have HT2 : Hid _ := HT.out.trans t2 (by simp)
    clear hv t2 HV1
    exact ⟨rfl, by rw [HF.out]; exact ⟨.inr (.inr ⟨by show (0 : Int) < 2; decide, rfl, HT2.out⟩), fun h => absurd h (by show ¬ (2 : Int) = 0; decide)⟩⟩

set_option maxRecDepth 100000 in
set_option maxHeartbeats 2000000 in
theorem reach_put {w0 w : World} {S0 : List Nat} {b : Nat} {vp : Value} {X : BX} {p : Nat} (hk : BAtP w0 S0 w b vp X p) (io ia iv : Int) (hop : io = 5 ∨ io = 7) (ha : 0 ≤ ia ∧ ia ≤ 255) (hn : X.D.st.length ≤ 1000) (hh : X.h.length ≤ 1000) (hw : ∀ x ∈ X.D.st, Wf64 x) (hpc : 0 ≤ X.D.pc ∧ X.D.pc < 9223372036854775807) (hf : fitsW io X.D.st.length = true) :
    Calls Try.prog 77 #[.pointer (some ⟨b, 0, none⟩), .agg #[.int .u8 io, .int .i64 ia, .int .u64 iv]] w (BPostP w p w0 S0 b vp (reachB X ⟨io, ia, iv⟩)) := by
  obtain ⟨L, vs, vo, vh, vl, va, hL, k, t0, hp1, hp2⟩ := hk
  have HP1 : Hid _ := hp1
  have HP2 : Hid _ := hp2
  clear hp1 hp2
  obtain ⟨sa, sc, rfl⟩ := owns_slice k.s
  obtain ⟨ah, ch, rfl⟩ := owns_slice k.hp
  have tA : Touch w (w.alloc (.cells #[.int .u8 io, .int .i64 ia, .int .u64 iv] 48)).drew [] := ((Touch.refl w []).alloc _).drew
  have kA := k.touch tA
  have HP : HidC _ _ _ _ _ := ⟨popped_ok kA.o kA.s hn io hf⟩
  have HT : Hid (Touch w0 (w.alloc (.cells #[.int .u8 io, .int .i64 ia, .int .u64 iv] 48)).drew S0) := t0.trans tA (by simp)
  have hbx := BoxI.new w io ia iv
  have hb0 : (w.alloc (.cells #[.int .u8 io, .int .i64 ia, .int .u64 iv] 48)).drew.cell? ⟨w.heap.size, 0, none⟩ = some (.int .u8 io) := hbx.cells.1
  have HTW : Hid _ := tA
  have HBX : Hid (BoxI (w.alloc (.cells #[.int .u8 io, .int .i64 ia, .int .u64 iv] 48)).drew w.heap.size io ia iv) := hbx.touch ((Touch.refl _ []).drew) (by simp)
  have HKA : Hid _ := kA
  have hlen : (X.D.st.drop (X.D.st.length - (popV io).toNat)).length = (popV io).toNat := by
    unfold fitsW at hf
    simp only [Bool.and_eq_true, decide_eq_true_eq] at hf
    have := pop_le io
    rw [List.length_drop]
    omega
  have hpop : (popV io).toNat ≤ X.D.st.length := by rw [List.length_drop] at hlen; omega
  have HR : Hid (reachB X ⟨io, ia, iv⟩ = match varW ⟨io, ia, iv⟩ (X.D.st.drop (X.D.st.length - (popV io).toNat)) X.h.length with
    | none => (2, X)
    | some t => (0, { X with h := X.h.set t.toNat ((X.D.st.drop (X.D.st.length - (popV io).toNat)).getD 0 0), D := { X.D with st := X.D.st.take (X.D.st.length - (popV io).toNat) ++ [], pc := X.D.pc + 1 } })) := by
    show _ = _
    unfold reachB
    rw [if_neg (by rw [hf]; simp)]
    split
    · rename_i h; rw [h]
    · rename_i t h; rw [h]; simp only; rw [if_neg (by omega)]
  have hpp : 0 < (popV io).toNat := by rcases hop with q | q <;> (rw [q]; decide)
  have hpos : io = 6 ∨ io = 7 → 0 < (popV io).toNat := by rintro (q | q) <;> (rw [q]; decide)
  have hp1000 : (popV io).toNat ≤ 1000 := by omega
  have HV : Hid (∀ W a c, Touch (w.alloc (.cells #[.int .u8 io, .int .i64 ia, .int .u64 iv] 48)).drew W [] → VRow (w.alloc (.cells #[.int .u8 io, .int .i64 ia, .int .u64 iv] 48)).drew (.slice a (popV io).toNat c) (X.D.st.drop (X.D.st.length - (popV io).toNat)) → HidC Try.prog 96 #[.pointer (some ⟨b, 0, none⟩), .agg #[.int .u8 io, .int .i64 ia, .int .u64 iv], .slice a (popV io).toNat c] W (VarP W (varW ⟨io, ia, iv⟩ (X.D.st.drop (X.D.st.length - (popV io).toNat)) X.h.length))) := fun W a c t hr => ⟨var_any (HKA.out.touch t).c9.1 hh io ia iv (by omega) ha (SRow.keep hr t (by simp)) hlen hpos hp1000 (fun x hx => hw x (List.mem_of_mem_drop hx))⟩
  have HLL : Hid _ := hL
  have HVS : Hid (∀ t, varW ⟨io, ia, iv⟩ (X.D.st.drop (X.D.st.length - (popV io).toNat)) X.h.length = some t → 0 ≤ t ∧ t < (X.h.length : Int)) := fun t h => varW_some h ha.1
  have hwr : IntKind.i64.wrap (X.D.pc + 1) = X.D.pc + 1 := by rw [IntKind.wrap_i64]; omega
  generalize hrr : reachB X ⟨io, ia, iv⟩ = RR at *
  have HPOP : Hid _ := hpop
  have HPP : Hid _ := hpp
  have HLEN : Hid _ := hlen
  clear hpp
  have HHH : Hid _ := hh
  have HNN : Hid _ := hn
  clear k t0 tA hf hL kA hbx hpos hrr hlen hpop hp1000 hn hh hw hpc ha
  generalize varW ⟨io, ia, iv⟩ (X.D.st.drop (X.D.st.length - (popV io).toNat)) X.h.length = rv at *
  generalize (popV io).toNat = pn at *
  go_enter Try.func77, Try.ntmps77
  go_wp2_with fail
  generalize w.alloc _ = Q at *
  refine wp_region_held_drew (S := (fun w' : World => w'.cell? ⟨w.heap.size, 0, none⟩ = some (.int .u8 io))) (by kernel_rfl) hb0 (fun hHeld => ?_)
  try simp only [Act.put, List.getElem_toArray, List.getElem_cons_succ, List.getElem_cons_zero, List.setIfInBounds_toArray, List.set_cons_zero, List.set_cons_succ]
  refine wpAnyH_take (i := 0) (v := (.pointer (some ⟨b, 0, none⟩))) rfl (by kernel_rfl) (by kernel_rfl) (by kernel_rfl) (fun _ _ _ h => h) (Or.inl ⟨by rfl, ?_⟩) hHeld ?_
  · intro w' hSw
    go_simp
  try simp only [Act.put, List.getElem_toArray, List.getElem_cons_succ, List.getElem_cons_zero, List.setIfInBounds_toArray, List.set_cons_zero, List.set_cons_succ]
  refine wpAnyH_take (i := 1) (v := (.pointer (some ⟨b, 0, none⟩))) rfl (by kernel_rfl) (by kernel_rfl) (by kernel_rfl) (fun _ _ _ h => h) (Or.inl ⟨by rfl, ?_⟩) hHeld ?_
  · intro w' hSw
    go_simp
  try simp only [Act.put, List.getElem_toArray, List.getElem_cons_succ, List.getElem_cons_zero, List.setIfInBounds_toArray, List.set_cons_zero, List.set_cons_succ]
  refine wpAnyH_take (i := 2) (v := (.pointer (some ⟨b, 0, none⟩))) rfl (by kernel_rfl) (by kernel_rfl) (by kernel_rfl) (fun _ _ _ h => h) (Or.inl ⟨by rfl, ?_⟩) hHeld ?_
  · intro w' hSw
    go_simp
  try simp only [Act.put, List.getElem_toArray, List.getElem_cons_succ, List.getElem_cons_zero, List.setIfInBounds_toArray, List.set_cons_zero, List.set_cons_succ]
  refine wpAnyH_take (i := 3) (v := (.pointer (some ⟨w.heap.size, 0, none⟩))) rfl (by kernel_rfl) (by kernel_rfl) (by kernel_rfl) (fun _ _ _ h => h) (Or.inl ⟨by rfl, ?_⟩) hHeld ?_
  · intro w' hSw
    go_simp
  try simp only [Act.put, List.getElem_toArray, List.getElem_cons_succ, List.getElem_cons_zero, List.setIfInBounds_toArray, List.set_cons_zero, List.set_cons_succ]
  refine wpAnyH_take (i := 4) (v := (.int .u8 io)) rfl (by kernel_rfl) (by kernel_rfl) (by kernel_rfl) (fun _ _ _ h => h) (Or.inl ⟨by rfl, ?_⟩) hHeld ?_
  · intro w' hSw
    go_simp
  try simp only [Act.put, List.getElem_toArray, List.getElem_cons_succ, List.getElem_cons_zero, List.setIfInBounds_toArray, List.set_cons_zero, List.set_cons_succ]
  clear hHeld
  refine wpAnyH_ready (rs := [5]) (by kernel_rfl) (by simp) (AllReadyH.cons rfl (fun K hK => ?_) AllReadyH.nil)
  rw [if_pos (by rfl)]
  go_simp
  refine HP.out.mono ?_
  rintro e _ ⟨⟨a1, c1, rfl, hr1⟩, rfl⟩
  go_simp
  refine hK.out _ _ hb0 (fun hHeld => ?_)
  clear hK
  try simp only [Act.put, List.getElem_toArray, List.getElem_cons_succ, List.getElem_cons_zero, List.setIfInBounds_toArray, List.set_cons_zero, List.set_cons_succ]
  refine wpAnyH_take (i := 6) (v := (.slice a1 pn c1)) rfl (by kernel_rfl) (by kernel_rfl) (by kernel_rfl) (fun _ _ _ h => h) (Or.inl ⟨by rfl, ?_⟩) hHeld ?_
  · intro w' hSw
    go_simp
  try simp only [Act.put, List.getElem_toArray, List.getElem_cons_succ, List.getElem_cons_zero, List.setIfInBounds_toArray, List.set_cons_zero, List.set_cons_succ]
  clear hHeld
  refine wpAnyH_done (by kernel_rfl) ?_ _
  obtain ⟨b0, b1, b2⟩ := HBX.out.cells
  have HV1 := HV.out _ _ _ (Touch.refl _ []) hr1
  have HR1 : Hid _ := hr1
  clear HV HP hr1
  go_wp2_with fail
  refine HV1.out.mono ?_
  rintro e w2 (⟨tt, hv, rfl, t2⟩ | ⟨hv, rfl, t2⟩)
  · obtain ⟨ht0, ht1⟩ := HVS.out tt hv
    have k2 := HKA.out.touch t2
    obtain ⟨gh, rfl⟩ := own_some k2.hp (by omega)
    obtain ⟨tn, htn⟩ := Int.eq_ofNat_of_zero_le ht0
    have htn' : tt = (tn : Int) := htn
    subst htn'
    have htl : tn < X.h.length := by omega
    obtain ⟨ga, oa, rfl, hca⟩ := vrow_at (SRow.keep HR1.out t2 (by simp)) HLEN.out HPP.out
    have hca0 : w2.cell? ⟨ga, oa, none⟩ = some (.int .u64 ((X.D.st.drop (X.D.st.length - pn)).getD 0 0)) := by simpa using hca 0 HPP.out
    have hF : RR = (0, { X with h := X.h.set tn ((X.D.st.drop (X.D.st.length - pn)).getD 0 0), D := { X.D with st := X.D.st.take (X.D.st.length - pn) ++ [], pc := X.D.pc + 1 } }) := by rw [HR.out, hv]; simp
    have HF : Hid _ := hF
    generalize (X.D.st.drop (X.D.st.length - pn)).getD 0 0 = x at *
    obtain ⟨b0, b1, b2⟩ := (HBX.out.touch t2 (by simp)).cells
    have hgw : ∃ cur, w2.heap[gh]? = some (.cells cur 25 (0, 0)) ∧ tn < cur.size := by
      rcases k2.hp.2 with ⟨e, _⟩ | ⟨g', cap', cur, e, _, hg, hnc, _, hcs, _⟩
      · cases e
      · simp only [Value.slice.injEq, Option.some.injEq, Addr.mk.injEq] at e
        obtain ⟨⟨rfl, _⟩, _, rfl⟩ := e
        exact ⟨cur, hg, by omega⟩
    obtain ⟨cur, hg, hcs⟩ := hgw
    have fz : w2.frozen? ⟨gh, tn, none⟩ = false := by unfold World.frozen?; rw [hg]; simp
    have cz : ∃ cv, w2.cell? ⟨gh, tn, none⟩ = some cv := ⟨cur[tn], by unfold World.cell?; rw [hg]; simp [hcs]⟩
    obtain ⟨cv, cz⟩ := cz
    have d9 : w2.drew.cell? ⟨b, 9, none⟩ = _ := k2.c9.1
    have dx : w2.drew.cell? ⟨ga, oa, none⟩ = _ := hca0
    have kX := (k2.seth tn x).touch ((Touch.refl _ []).drew)
    have n9 := kX.c9.1
    have hnx : (w2.setCell ⟨gh, tn, none⟩ (.int .u64 x)).drew.cell? ⟨ga, oa, none⟩ = some (.int .u64 x) := by
      by_cases hE : ga = gh ∧ oa = tn
      · obtain ⟨rfl, rfl⟩ := hE
        show (w2.setCell ⟨ga, oa, none⟩ (.int .u64 x)).cell? ⟨ga, oa, none⟩ = _
        unfold World.cell?
        rw [heap_setCell_same _ _ _ _ _ _ hg]
        simp [hcs]
      · show (w2.setCell ⟨gh, tn, none⟩ (.int .u64 x)).cell? ⟨ga, oa, none⟩ = _
        by_cases hG : ga = gh
        · subst hG
          have hot : oa ≠ tn := fun e => hE ⟨rfl, e⟩
          have h0 := hca0
          unfold World.cell? at h0 ⊢
          rw [heap_setCell_same _ _ _ _ _ _ hg]
          rw [hg] at h0
          simp only at h0 ⊢
          simpa [Array.getElem?_setIfInBounds, Ne.symm hot] using h0
        · have t : Touch w2 (w2.setCell ⟨gh, tn, none⟩ (.int .u64 x)) [gh] := (Touch.refl w2 [gh]).setCell (.inl (by simp)) _
          exact (t.cell (p := ⟨ga, oa, none⟩) (World.block_lt_of_cell? _ _ hca0) (by simpa using hG)).trans hca0
    have nx := hnx
    have HX : HidC _ _ _ _ _ := ⟨exchange_any kX.o kX.s (Nat.zero_le _) kX.own.hb HNN.out pn HPOP.out (show VRow _ (.slice none 0 0) [] from ⟨none, 0, rfl, fun h => absurd rfl h⟩) rfl (by omega)⟩
    have HKX : Hid _ := kX
    have HT2 : Hid (Touch w0 (w2.setCell ⟨gh, tn, none⟩ (.int .u64 x)).drew S0) := ((HT.out.trans t2 (by simp)).setCell (by exact k2.ge 3 gh (mem_ob.2 rfl)) _).drew
    have HTX2 : Hid (Touch w (w2.setCell ⟨gh, tn, none⟩ (.int .u64 x)).drew [gh]) := (((HTW.out.trans t2 (by simp)).mono (by simp)).setCell (.inl (by simp)) _).drew
    obtain ⟨nh, hnh⟩ : ∃ nh, nh = X.h.length := ⟨_, rfl⟩
    have HNH : Hid _ := hnh
    have htl2 : (tn : Int) < nh := by omega
    have htl3 : (0 : Int) ≤ tn := by omega
    have hpn0 : (0 : Int) < pn := by have := HPP.out; omega
    have hpn1 : ¬ pn = 0 := by have := HPP.out; omega
    rw [← hnh] at d9 n9 HX HKX
    clear k2 t2 hF hv ht0 ht1 htn htl hnh kX HVS HV1 HT HR HKA HBX hb0 hnx hca hca0 HR1 hg hcs
    rcases hop with rfl | rfl
    all_goals
      go_wp2_with fail
      refine wp_region_held_drew (S := (fun w' : World => w'.cell? ⟨b, 9, none⟩ = some (.slice (some ⟨gh, 0, none⟩) nh ch) ∧ w'.cell? ⟨ga, oa, none⟩ = some (.int .u64 x))) (by kernel_rfl) ⟨d9, dx⟩ (fun hHeld => ?_)
      try simp only [Act.put, List.getElem_toArray, List.getElem_cons_succ, List.getElem_cons_zero, List.setIfInBounds_toArray, List.set_cons_zero, List.set_cons_succ]
      refine wpAnyH_take (i := 0) (v := (.pointer (some ⟨b, 0, none⟩))) rfl (by kernel_rfl) (by kernel_rfl) (by kernel_rfl) (fun _ _ _ h => h) (Or.inl ⟨by rfl, ?_⟩) hHeld ?_
      · intro w' hSw
        go_simp
      try simp only [Act.put, List.getElem_toArray, List.getElem_cons_succ, List.getElem_cons_zero, List.setIfInBounds_toArray, List.set_cons_zero, List.set_cons_succ]
      refine wpAnyH_take (i := 1) (v := (.pointer (some ⟨b, 0, none⟩))) rfl (by kernel_rfl) (by kernel_rfl) (by kernel_rfl) (fun _ _ _ h => h) (Or.inl ⟨by rfl, ?_⟩) hHeld ?_
      · intro w' hSw
        go_simp
      try simp only [Act.put, List.getElem_toArray, List.getElem_cons_succ, List.getElem_cons_zero, List.setIfInBounds_toArray, List.set_cons_zero, List.set_cons_succ]
      refine wpAnyH_take (i := 2) (v := (.pointer (some ⟨b, 9, none⟩))) rfl (by kernel_rfl) (by kernel_rfl) (by kernel_rfl) (fun _ _ _ h => h) (Or.inl ⟨by rfl, ?_⟩) hHeld ?_
      · intro w' hSw
        go_simp
      try simp only [Act.put, List.getElem_toArray, List.getElem_cons_succ, List.getElem_cons_zero, List.setIfInBounds_toArray, List.set_cons_zero, List.set_cons_succ]
      refine wpAnyH_take (i := 3) (v := (.slice (some ⟨gh, 0, none⟩) nh ch)) rfl (by kernel_rfl) (by kernel_rfl) (by kernel_rfl) (fun _ _ _ h => h) (Or.inl ⟨by rfl, ?_⟩) hHeld ?_
      · intro w' hSw
        go_simp
      try simp only [Act.put, List.getElem_toArray, List.getElem_cons_succ, List.getElem_cons_zero, List.setIfInBounds_toArray, List.set_cons_zero, List.set_cons_succ]
      refine wpAnyH_take (i := 4) (v := (.int .i64 (tn : Int))) rfl (by kernel_rfl) (by kernel_rfl) (by kernel_rfl) (fun _ _ _ h => h) (Or.inl ⟨by rfl, ?_⟩) hHeld ?_
      · intro w' hSw
        go_simp
      try simp only [Act.put, List.getElem_toArray, List.getElem_cons_succ, List.getElem_cons_zero, List.setIfInBounds_toArray, List.set_cons_zero, List.set_cons_succ]
      refine wpAnyH_take (i := 5) (v := (.slice (some ⟨ga, oa, none⟩) pn c1)) rfl (by kernel_rfl) (by kernel_rfl) (by kernel_rfl) (fun _ _ _ h => h) (Or.inl ⟨by rfl, ?_⟩) hHeld ?_
      · intro w' hSw
        go_simp
      try simp only [Act.put, List.getElem_toArray, List.getElem_cons_succ, List.getElem_cons_zero, List.setIfInBounds_toArray, List.set_cons_zero, List.set_cons_succ]
      refine wpAnyH_take (i := 6) (v := (.pointer (some ⟨ga, oa, none⟩))) rfl (by kernel_rfl) (by kernel_rfl) (by kernel_rfl) (fun _ _ _ h => h) (Or.inl ⟨by rfl, ?_⟩) hHeld ?_
      · intro w' hSw
        go_simp
      try simp only [Act.put, List.getElem_toArray, List.getElem_cons_succ, List.getElem_cons_zero, List.setIfInBounds_toArray, List.set_cons_zero, List.set_cons_succ]
      refine wpAnyH_take (i := 7) (v := (.int .u64 x)) rfl (by kernel_rfl) (by kernel_rfl) (by kernel_rfl) (fun _ _ _ h => h) (Or.inl ⟨by rfl, ?_⟩) hHeld ?_
      · intro w' hSw
        go_simp
      try simp only [Act.put, List.getElem_toArray, List.getElem_cons_succ, List.getElem_cons_zero, List.setIfInBounds_toArray, List.set_cons_zero, List.set_cons_succ]
      refine wpAnyH_take (i := 8) (v := (.pointer (some ⟨gh, tn, none⟩))) rfl (by kernel_rfl) (by kernel_rfl) (by kernel_rfl) (fun _ _ _ h => h) (Or.inl ⟨by rfl, ?_⟩) hHeld ?_
      · intro w' hSw
        go_simp
      try simp only [Act.put, List.getElem_toArray, List.getElem_cons_succ, List.getElem_cons_zero, List.setIfInBounds_toArray, List.set_cons_zero, List.set_cons_succ]
      clear hHeld
      refine wpAnyH_ready (rs := [9]) (by kernel_rfl) (by simp) (AllReadyH.cons rfl (fun K hK => ?_) AllReadyH.nil)
      rw [if_pos (by rfl)]
      go_simp
      refine hK.out _ _ ⟨n9, nx⟩ (fun hHeld => ?_)
      clear hK
      try simp only [Act.put, List.getElem_toArray, List.getElem_cons_succ, List.getElem_cons_zero, List.setIfInBounds_toArray, List.set_cons_zero, List.set_cons_succ]
      clear hHeld
      refine wpAnyH_done (by kernel_rfl) ?_ _
      clear d9 dx nx fz cz n9
      go_wp2_with fail
      refine HX.out.mono ?_
      rintro e w4 ⟨rfl, hx4⟩
      have HT4 : Hid (Touch w0 w4 S0) := by
        obtain ⟨v', _, _, t4, _⟩ := hx4
        refine HT2.out.trans t4 (fun y hy => ?_)
        simp only [List.mem_cons, Option.mem_toList] at hy
        rcases hy with rfl | hy
        · exact HKX.out.ge 0 y (by simp [comp])
        · exact HKX.out.ge 1 y (mem_ob.2 hy)
      have HPP4 : Hid ((w4.setCell ⟨b, 0, none⟩ (.int .i64 (X.D.pc + 1))).heap[p]? = w.heap[p]?) := by
        obtain ⟨v', _, _, t5, _⟩ := hx4
        have t6 : Touch w (w4.setCell ⟨b, 0, none⟩ (.int .i64 (X.D.pc + 1))) (gh :: b :: (Value.slice sa X.D.st.length sc).ownBlock.toList) := ((HTX2.out.mono (by simp)).trans t5 (fun y hy => .inl (by simp only [List.mem_cons] at hy ⊢; exact .inr hy))).setCell (.inl (by simp)) _
        refine apart_keep HP1.out HP2.out t6 (fun y hy => ?_)
        simp only [List.mem_cons, Option.mem_toList] at hy
        rcases hy with rfl | rfl | hy
        · exact ⟨3, mem_ob.2 rfl⟩
        · exact ⟨0, by simp [comp]⟩
        · exact ⟨1, mem_ob.2 hy⟩
      obtain ⟨vs4, k4⟩ := HKX.out.exch hx4
      have c0 := k4.o.cells.c0
      have f0 := k4.o.fr 0
      have HK4 : Hid _ := k4
      clear k4 hx4 HX
      simp only at c0
      go_wp2
      go_end0
      refine ⟨.inl ⟨by rw [HF.out], rfl, ?_⟩, fun _ => HPP4.out⟩
      rw [HF.out]
      have kk := HK4.out.pc (X.D.pc + 1)
      rw [HNH.out] at kk
      exact ⟨L, _, _, _, _, _, HLL.out, kk, HT4.out.setCell (by exact HK4.out.ge 0 b (by simp [comp])) _⟩
  · have HF : Hid (RR = (2, X)) := by show _ = _; rw [HR.out, hv]
    have HT2 : Hid _ := HT.out.trans t2 (by simp)
    clear hv t2 HV1
    exact ⟨rfl, by rw [HF.out]; exact ⟨.inr (.inr ⟨by show (0 : Int) < 2; decide, rfl, HT2.out⟩), fun h => absurd h (by show ¬ (2 : Int) = 0; decide)⟩⟩

end Go.Proofs.Ytlndbligbpfdpaa

/-
  package history: Right BY ITS CONTRACT.
-/
import Derived.Test.YtjacclbifeoclaaHistBehind
import Derived.Test.YtjacclbifeoclaaRowsOf
import Derived.Defers
import Derived.Recover
import Derived.Laws.Pointers
namespace Go.Proofs.Ytjacclbifeoclaa
set_option linter.unusedVariables false
set_option linter.unusedSimpArgs false
open Go.RowKit Go.Maps
attribute [local go_sem] Oper.semAt_some

abbrev EvRow := SRow 4 EvD.cells
theorem EvRow.one {w : World} {ao : Option Addr} {cap : Nat} {l : List EvD} (h : EvRow w (.slice ao l.length cap) l) (k : Nat) (hk : k < l.length) :
    ∃ g off, ao = some ⟨g, off, none⟩ ∧ g < w.heap.size ∧ w.cell? ⟨g, off + k * 4, none⟩ = some (.int .u8 l[k].k) ∧ w.cell? ⟨g, off + k * 4 + 1, none⟩ = some (.int .i64 l[k].a) ∧ w.cell? ⟨g, off + k * 4 + 2, none⟩ = some (.int .i64 l[k].t) ∧ w.cell? ⟨g, off + k * 4 + 3, none⟩ = some (.int .u64 l[k].v) := by
  obtain ⟨g, off, e, hlt, hc⟩ := h.at k hk
  exact ⟨g, off, e, hlt, by simpa [EvD.cells] using hc 0 (by omega), by simpa [EvD.cells] using hc 1 (by omega), by simpa [EvD.cells] using hc 2 (by omega), by simpa [EvD.cells] using hc 3 (by omega)⟩

/-! ### Plain data -/
abbrev CM := Int → Option (Int × List Fr)
def stC (M : CM) (a : Int) : Int := ((M a).map Prod.fst).getD 0
def fsC (M : CM) (a : Int) : List Fr := ((M a).map Prod.snd).getD []
def stepC (M : CM) (e : EvD) : Option CM := if 0 ≤ e.a ∧ e.a < 64 then (behindS (stC M e.a) (fsC M e.a) e).map (fun r => updF M e.a r) else none
def runC : CM → List EvD → Option CM
  | M, [] => some M
  | M, e :: l => (stepC M e).bind fun M' => runC M' l
def rightS (l : List EvD) : Bool := decide (l.length ≤ 400) && (runC (fun _ => none) l).isSome
theorem runC_app (l1 l2 : List EvD) : ∀ M, runC M (l1 ++ l2) = (runC M l1).bind fun M' => runC M' l2 := by
  induction l1 with
  | nil => intro M; rfl
  | cons e l ih =>
    intro M
    simp only [List.cons_append, runC]
    cases stepC M e with
    | none => rfl
    | some M' => exact ih M'
theorem runC_snoc {l : List EvD} {M0 M : CM} {k : Nat} (hk : k < l.length) (h : runC M0 (l.take k) = some M) : runC M0 (l.take (k + 1)) = stepC M l[k] := by
  rw [List.take_succ_eq_append_getElem hk, runC_app, h]
  simp only [Option.bind_some, runC]
  cases stepC M l[k] <;> rfl
theorem runC_fail {l : List EvD} {M0 M : CM} {k : Nat} (hk : k < l.length) (h : runC M0 (l.take k) = some M) (hs : stepC M l[k] = none) : runC M0 l = none := by
  have : l = l.take (k + 1) ++ l.drop (k + 1) := (List.take_append_drop _ _).symm
  rw [this, runC_app, runC_snoc hk h, hs]
  rfl

/-- The courses of all attempts, as they lie. -/
structure Fam (B : Nat) (w : World) (mb n : Nat) (M : CM) (P : Int → Value × List Nat) : Prop where
  map : MapF w mb n (fun x => (M x).map fun c => .agg #[.int .u8 c.1, (P x).1])
  crs : ∀ x c, M x = some c → 1 ≤ c.1 ∧ Crs B w c.1 (P x).1 (P x).2 c.2
  ne : ∀ x y c d, M x = some c → M y = some d → x ≠ y → ∀ k ∈ (P x).2, k ∉ (P y).2
  mbB : B ≤ mb
  mbn : ∀ x c, M x = some c → mb ∉ (P x).2
theorem Fam.touch {B : Nat} {w w' : World} {mb n : Nat} {M : CM} {P : Int → Value × List Nat} (h : Fam B w mb n M P) (t : Touch w w' []) : Fam B w' mb n M P :=
  ⟨h.map.touch t (by simp), fun x c hx => ⟨(h.crs x c hx).1, (h.crs x c hx).2.touch t⟩, h.ne, h.mbB, h.mbn⟩

/-- Where an attempt's own blocks lie. -/
def ftC (M : CM) (P : Int → Value × List Nat) (a : Int) : List Nat := ((M a).map fun _ => (P a).2).getD []
def pvC (M : CM) (P : Int → Value × List Nat) (a : Int) : Value := ((M a).map fun _ => (P a).1).getD (.pointer none)
theorem Fam.at {B : Nat} {w : World} {mb n : Nat} {M : CM} {P : Int → Value × List Nat} (h : Fam B w mb n M P) (a : Int) : Crs B w (stC M a) (pvC M P a) (ftC M P a) (fsC M a) := by
  unfold stC pvC ftC fsC
  cases hq : M a with
  | none => exact .inl ⟨rfl, rfl, rfl, rfl⟩
  | some c => exact (h.crs a c hq).2
/-- One has gone on. -/
theorem Fam.step {B : Nat} {w w1 w2 : World} {mb n : Nat} {M : CM} {P : Int → Value × List Nat} {a st : Int} {Fs : List Fr} {pv : Value} {ft : List Nat} (h : Fam B w mb n M P) (hm : B ≤ w.heap.size) (t1 : Touch w w1 (ftC M P a)) (hc : Crs B w1 st pv ft Fs) (hst : 1 ≤ st)
    (hf : ∀ y ∈ ft, y ∈ ftC M P a ∨ w.heap.size ≤ y) (hg : w1.grownBy w2 (some mb)) (hmap : MapF w2 mb (n + 1) (updF (fun x => (M x).map fun c => .agg #[.int .u8 c.1, (P x).1]) a (.agg #[.int .u8 st, pv]))) :
    Fam B w2 mb (n + 1) (updF M a (st, Fs)) (fun x => if x = a then (pv, ft) else P x) := by
  have hmb := h.map.lt
  have hfa : ∀ x c, M x = some c → x ≠ a → ∀ k ∈ (P x).2, k ∉ ftC M P a ∧ k < w.heap.size := fun x c hx hxa k hk => by
    refine ⟨?_, ((h.crs x c hx).2.foot_lt k hk).2⟩
    unfold ftC
    cases hq : M a with
    | none => simp
    | some d => simpa using h.ne x a c d hx hq hxa k hk
  have hma : mb ∉ ftC M P a := by
    unfold ftC
    cases hq : M a with
    | none => simp
    | some d => simpa using h.mbn a d hq
  have t2 : Touch w1 w2 [mb] := (Touch.refl w1 [mb]).grown hg (by intro k hk; cases hk; exact .inl (by simp))
  have hmf : mb ∉ ft := fun hs => by
    rcases hf mb hs with h1 | h1
    · exact hma h1
    · omega
  refine ⟨?_, ?_, ?_, h.mbB, ?_⟩
  · have e : (fun x => (updF M a (st, Fs) x).map fun c => Value.agg #[.int .u8 c.1, (if x = a then (pv, ft) else P x).1]) = updF (fun x => (M x).map fun c => .agg #[.int .u8 c.1, (P x).1]) a (.agg #[.int .u8 st, pv]) := by
      funext x
      unfold updF
      by_cases hx : x = a
      · simp [hx]
      · simp [hx]
    rw [e]
    exact hmap
  · intro x c hx
    by_cases hxa : x = a
    · subst hxa
      rw [updF_same] at hx
      cases hx
      simp only [if_true]
      exact ⟨hst, hc.keep t2 (by intro k hk hs; simp at hs; subst hs; exact hmf hk)⟩
    · rw [updF_other M _ hxa] at hx
      simp only [if_neg hxa]
      refine ⟨(h.crs x c hx).1, ((h.crs x c hx).2.keep t1 (fun k hk => (hfa x c hx hxa k hk).1)).keep t2 (fun k hk hs => ?_)⟩
      simp at hs; subst hs; exact h.mbn x c hx hk
  · intro x y c d hx hy hxy k hk
    by_cases hxa : x = a
    · subst hxa
      have hya : y ≠ x := fun e => hxy e.symm
      rw [updF_other M _ hya] at hy
      simp only [if_true] at hk
      simp only [if_neg hya]
      intro hs
      have h1 := hfa y d hy hya k hs
      rcases hf k hk with h2 | h2
      · exact h1.1 h2
      · omega
    · rw [updF_other M _ hxa] at hx
      simp only [if_neg hxa] at hk
      by_cases hya : y = a
      · subst hya
        simp only [if_true]
        intro hs
        have h1 := hfa x c hx hxa k hk
        rcases hf k hs with h2 | h2
        · exact h1.1 h2
        · omega
      · rw [updF_other M _ hya] at hy
        simp only [if_neg hya]
        exact h.ne x y c d hx hy hxy k hk
  · intro x c hx
    by_cases hxa : x = a
    · subst hxa; simp only [if_true]; exact hmf
    · rw [updF_other M _ hxa] at hx
      simp only [if_neg hxa]
      exact h.mbn x c hx

theorem Fam.start (w : World) : Fam w.heap.size (w.alloc (.map #[] 0)) w.heap.size 0 (fun _ => none) (fun _ => (.pointer none, [])) :=
  ⟨MapF.made w, (by intro x c h; cases h), (by intro x y c d h; cases h), Nat.le_refl _, (by intro x c h; cases h)⟩

theorem behind_any {B : Nat} {w : World} {st : Int} {pv : Value} {ft : List Nat} {Fs : List Fr} (h : Crs B w st pv ft Fs) (hB : B ≤ w.heap.size) (e : EvD) (he : e.Wf) :
    Calls Try.prog 37 #[.agg #[.int .u8 st, pv], e.val] w (BehE B w ft (behindS st Fs e)) := by
  rcases h with ⟨rfl, rfl, rfl, rfl⟩ | ⟨hst, b, ch, rfl, rfl, hp⟩
  · exact behind_new hB e he
  · exact behind_old hp hst hB e he

theorem Fam.look {B : Nat} {w : World} {mb n : Nat} {M : CM} {P : Int → Value × List Nat} (h : Fam B w mb n M P) {a : Int} (ha : W64 a) :
    (Instr.lookup 75 (.map (some mb)) (.int .i64 a) false).run Try.prog w = .ok (.agg #[.int .u8 (stC M a), pvC M P a]) w := by
  rw [h.map.look Try.underlying75 (Try.zeroValue78 w) ha]
  unfold stC pvC
  cases M a <;> rfl

/-- What the work of Right comes to. -/
def R1E (w : World) (l : List EvD) (x : Ending) (w' : World) : Prop := ((rightS l = true ∧ x = .returned (.tuple #[])) ∨ (rightS l = false ∧ GaveUp x)) ∧ Touch w w' []

theorem behindS_pos {st : Int} {Fs : List Fr} {e : EvD} {st' : Int} {Fs' : List Fr} (h : behindS st Fs e = some (st', Fs')) : 1 ≤ st' := by
  unfold behindS at h
  repeat' (split at h)
  all_goals first | (cases h; done) | (simp at h; omega)

set_option maxRecDepth 100000 in
set_option maxHeartbeats 4000000 in
theorem right1_any {w : World} {p : Nat} {ao : Option Addr} {cap : Nat} {l : List EvD} (hc : w.cell? ⟨p, 0, none⟩ = some (.slice ao l.length cap)) (hr : EvRow w (.slice ao l.length cap) l) (hl : l.length ≤ 1000) (hwf : ∀ e ∈ l, e.Wf) :
    Calls Try.prog 35 #[.pointer (some ⟨p, 0, none⟩)] w (R1E w l) := by
  have hmm := @run_makeMap Try.prog
  obtain ⟨N, hN⟩ : ∃ N, N = l.length := ⟨_, rfl⟩
  have HN : Hid (N = l.length) := hN
  have HR : Hid (EvRow w (.slice ao l.length cap) l) := hr
  have HW : Hid _ := hwf
  rw [← hN] at hc hl
  have hplt := World.block_lt_of_cell? w _ hc
  clear hN hr hwf
  by_cases h400 : N ≤ 400
  · have h4 : (N : Int) ≤ 400 := by omega
    go_enter Try.func35, Try.ntmps35
    go_wp2_with fail
    refine (hneed_yes _).mono ?_
    rintro x w1 ⟨rfl, rfl⟩
    have T1 : Touch w (w.alloc (.map #[] 0)) [] := (Touch.refl w []).alloc _
    have c1 := (T1.cell (p := ⟨p, 0, none⟩) hplt (by simp)).trans hc
    have HF0 : Hid (Fam w.heap.size (w.alloc (.map #[] 0)) w.heap.size 0 (fun _ => none) (fun _ => (.pointer none, []))) := Fam.start w
    have HT1 : Hid _ := T1
    go_wp2_with fail
    go_loopw [11] (fun i wr => ∃ k : Nat, i = .int .i64 k ∧ k ≤ N ∧ ∃ M P, runC (fun _ => none) (l.take k) = some M ∧ Fam w.heap.size wr w.heap.size k M P ∧ Touch w wr []) (fun i _ => N - (intOf i).toNat)
    case atStart => exact ⟨0, rfl, Nat.zero_le _, _, _, rfl, HF0.out, HT1.out⟩
    case round =>
      obtain ⟨k, rfl, hk, M, P, hM, hF, hT⟩ := hrel
      have HM : Hid _ := hM
      have HF : Hid _ := hF
      have HT : Hid _ := hT
      clear hM hF HF0
      by_cases hlt : k < N
      · have h1 : (k : Int) < N := by omega
        have h0 : (0 : Int) ≤ k := by omega
        have hkl : k < l.length := by rw [← HN.out]; exact hlt
        obtain ⟨g, off, rfl, hg, m0, m1, m2, m3⟩ := HR.out.one k hkl
        have d0 := (hT.cell (p := ⟨g, off + k * 4, none⟩) hg (by simp)).trans m0
        have d1 := (hT.cell (p := ⟨g, off + k * 4 + 1, none⟩) hg (by simp)).trans m1
        have d2 := (hT.cell (p := ⟨g, off + k * 4 + 2, none⟩) hg (by simp)).trans m2
        have d3 := (hT.cell (p := ⟨g, off + k * 4 + 3, none⟩) hg (by simp)).trans m3
        have hwe := HW.out _ (List.getElem_mem hkl)
        obtain ⟨e, he⟩ : ∃ e, e = l[k] := ⟨_, rfl⟩
        rw [← he] at d0 d1 d2 d3 hwe
        have HE : Hid _ := he
        clear m0 m1 m2 m3 he hT
        have hgive : stepC M e = none → rightS l = false := fun hs => by
          unfold rightS
          rw [runC_fail hkl HM.out (by rw [← HE.out]; exact hs)]
          simp
        have HG : Hid _ := hgive
        have TB : Hid (Touch wr (wr.alloc e.obj) []) := (Touch.refl wr []).alloc _
        clear hgive
        by_cases ha : 0 ≤ e.a ∧ e.a < 64
        · obtain ⟨ha0, ha1⟩ := ha
          go_wp2_with fail
          refine (hneed_yes _).mono ?_
          rintro x w2 ⟨rfl, rfl⟩
          go_wp2_with fail
          clear d0 d1 d2 d3
          have hE0 : (wr.alloc e.obj).heap[wr.heap.size]? = some e.obj := heap_alloc_new wr _
          have hkp : ∀ w' R, Touch (wr.alloc e.obj) w' R → wr.heap.size ∉ R → (w'.cell? ⟨wr.heap.size, 0, none⟩ = some (.int .u8 e.k) ∧ w'.cell? ⟨wr.heap.size, 1, none⟩ = some (.int .i64 e.a) ∧ w'.cell? ⟨wr.heap.size, 2, none⟩ = some (.int .i64 e.t) ∧ w'.cell? ⟨wr.heap.size, 3, none⟩ = some (.int .u64 e.v)) := fun w' R T hS => by
            have hb := (T.block _ (lt_of_heap hE0) hS).trans hE0
            simp [World.cell?, hb, EvD.obj]
          have hF0 : Fam w.heap.size (wr.alloc e.obj).drew w.heap.size k M P := HF.out.touch (TB.out.drew)
          have hlk := hF0.look (a := e.a) (by omega)
          have hbe := behind_any (hF0.at e.a) (Nat.le_trans HT.out.size TB.out.size) e hwe
          have hnft : wr.heap.size ∉ ftC M P e.a := fun hh => by have := ((HF.out.at e.a).foot_lt _ hh).2; omega
          have HF0' : Hid _ := hF0
          have hwm := HF.out.map.lt
          obtain ⟨rs, hrs⟩ : ∃ r, r = behindS (stC M e.a) (fsC M e.a) e := ⟨_, rfl⟩
          rw [← hrs] at hbe
          have hstp : stepC M e = rs.map (fun r => updF M e.a r) := by unfold stepC; rw [if_pos ⟨ha0, ha1⟩, hrs]
          have HSTP : Hid _ := hstp
          have HRS : Hid _ := hrs
          generalize hsx : stC M e.a = sx at hlk hbe
          generalize hpx : pvC M P e.a = px at hlk hbe
          clear hF0 hstp hrs hsx hpx
          refine wp_region_held_drew (S := fun w' => w'.cell? ⟨wr.heap.size, 0, none⟩ = some (.int .u8 e.k) ∧ w'.cell? ⟨wr.heap.size, 1, none⟩ = some (.int .i64 e.a) ∧ w'.cell? ⟨wr.heap.size, 2, none⟩ = some (.int .i64 e.t) ∧ w'.cell? ⟨wr.heap.size, 3, none⟩ = some (.int .u64 e.v)) (by kernel_rfl) (hkp _ [] (Touch.refl _ _).drew (by simp)) (fun hHeld => ?_)
          refine wpAnyH_take (i := 0) (v := (.map (some w.heap.size))) rfl (by kernel_rfl) (by kernel_rfl) (by kernel_rfl) (fun _ _ _ h => h) (Or.inl ⟨by rfl, ?_⟩) hHeld ?_
          · intro w' hSw
            try simp only [Act.put, List.getElem_toArray, List.getElem_cons_succ, List.getElem_cons_zero, List.setIfInBounds_toArray, List.set_cons_zero, List.set_cons_succ]
            (obtain ⟨q0, q1, q2, q3⟩ := hSw; go_simp)
          try simp only [Act.put, List.getElem_toArray, List.getElem_cons_succ, List.getElem_cons_zero, List.setIfInBounds_toArray, List.set_cons_zero, List.set_cons_succ]
          refine wpAnyH_take (i := 1) (v := (.pointer (some ⟨wr.heap.size, 1, none⟩))) rfl (by kernel_rfl) (by kernel_rfl) (by kernel_rfl) (fun _ _ _ h => h) (Or.inl ⟨by rfl, ?_⟩) hHeld ?_
          · intro w' hSw
            try simp only [Act.put, List.getElem_toArray, List.getElem_cons_succ, List.getElem_cons_zero, List.setIfInBounds_toArray, List.set_cons_zero, List.set_cons_succ]
            (obtain ⟨q0, q1, q2, q3⟩ := hSw; go_simp)
          try simp only [Act.put, List.getElem_toArray, List.getElem_cons_succ, List.getElem_cons_zero, List.setIfInBounds_toArray, List.set_cons_zero, List.set_cons_succ]
          refine wpAnyH_take (i := 2) (v := (.int .i64 e.a)) rfl (by kernel_rfl) (by kernel_rfl) (by kernel_rfl) (fun _ _ _ h => h) (Or.inl ⟨by rfl, ?_⟩) hHeld ?_
          · intro w' hSw
            try simp only [Act.put, List.getElem_toArray, List.getElem_cons_succ, List.getElem_cons_zero, List.setIfInBounds_toArray, List.set_cons_zero, List.set_cons_succ]
            (obtain ⟨q0, q1, q2, q3⟩ := hSw; go_simp)
          try simp only [Act.put, List.getElem_toArray, List.getElem_cons_succ, List.getElem_cons_zero, List.setIfInBounds_toArray, List.set_cons_zero, List.set_cons_succ]
          refine wpAnyH_take (i := 3) (v := (.map (some w.heap.size))) rfl (by kernel_rfl) (by kernel_rfl) (by kernel_rfl) (fun _ _ _ h => h) (Or.inl ⟨by rfl, ?_⟩) hHeld ?_
          · intro w' hSw
            try simp only [Act.put, List.getElem_toArray, List.getElem_cons_succ, List.getElem_cons_zero, List.setIfInBounds_toArray, List.set_cons_zero, List.set_cons_succ]
            (obtain ⟨q0, q1, q2, q3⟩ := hSw; go_simp)
          try simp only [Act.put, List.getElem_toArray, List.getElem_cons_succ, List.getElem_cons_zero, List.setIfInBounds_toArray, List.set_cons_zero, List.set_cons_succ]
          refine wpAnyH_take (i := 4) (v := (.pointer (some ⟨wr.heap.size, 1, none⟩))) rfl (by kernel_rfl) (by kernel_rfl) (by kernel_rfl) (fun _ _ _ h => h) (Or.inl ⟨by rfl, ?_⟩) hHeld ?_
          · intro w' hSw
            try simp only [Act.put, List.getElem_toArray, List.getElem_cons_succ, List.getElem_cons_zero, List.setIfInBounds_toArray, List.set_cons_zero, List.set_cons_succ]
            (obtain ⟨q0, q1, q2, q3⟩ := hSw; go_simp)
          try simp only [Act.put, List.getElem_toArray, List.getElem_cons_succ, List.getElem_cons_zero, List.setIfInBounds_toArray, List.set_cons_zero, List.set_cons_succ]
          refine wpAnyH_take (i := 5) (v := (.int .i64 e.a)) rfl (by kernel_rfl) (by kernel_rfl) (by kernel_rfl) (fun _ _ _ h => h) (Or.inl ⟨by rfl, ?_⟩) hHeld ?_
          · intro w' hSw
            try simp only [Act.put, List.getElem_toArray, List.getElem_cons_succ, List.getElem_cons_zero, List.setIfInBounds_toArray, List.set_cons_zero, List.set_cons_succ]
            (obtain ⟨q0, q1, q2, q3⟩ := hSw; go_simp)
          try simp only [Act.put, List.getElem_toArray, List.getElem_cons_succ, List.getElem_cons_zero, List.setIfInBounds_toArray, List.set_cons_zero, List.set_cons_succ]
          refine wpAnyH_take (i := 7) (v := e.val) rfl (by kernel_rfl) (by kernel_rfl) (by kernel_rfl) (fun _ _ _ h => h) (Or.inl ⟨by rfl, ?_⟩) hHeld ?_
          · intro w' hSw
            try simp only [Act.put, List.getElem_toArray, List.getElem_cons_succ, List.getElem_cons_zero, List.setIfInBounds_toArray, List.set_cons_zero, List.set_cons_succ]
            (obtain ⟨q0, q1, q2, q3⟩ := hSw; go_simp)
          try simp only [Act.put, List.getElem_toArray, List.getElem_cons_succ, List.getElem_cons_zero, List.setIfInBounds_toArray, List.set_cons_zero, List.set_cons_succ]
          clear hHeld
          refine wpAnyH_ready (rs := [6]) (by kernel_rfl) (by simp) (AllReadyH.cons rfl (fun K hK => ?_) AllReadyH.nil)
          rw [if_pos (by rfl)]
          go_simp
          refine hK.out _ _ (hkp _ [] (Touch.refl _ _).drew (by simp)) (fun hHeld => ?_)
          clear hK
          try simp only [Act.put, List.getElem_toArray, List.getElem_cons_succ, List.getElem_cons_zero, List.setIfInBounds_toArray, List.set_cons_zero, List.set_cons_succ]
          clear hHeld
          refine wpAnyH_ready (rs := [8]) (by kernel_rfl) (by simp) (AllReadyH.cons rfl (fun K hK => ?_) AllReadyH.nil)
          rw [if_pos (by rfl)]
          go_simp
          refine hbe.mono ?_
          rintro x w3 (⟨hn, hx, t3⟩ | ⟨st', Fs', pv', ft', hsm, rfl, hc3, t3, hf3⟩)
          · obtain rfl : x = _ := hx
            go_simp
            exact ⟨rfl, .inr ⟨HG.out (by rw [HSTP.out, hn]; rfl), rfl⟩, ((HT.out.trans TB.out (by simp)).drew).trans t3 (fun x hx => .inr ((HF.out.at e.a).foot_lt x hx).1)⟩
          · go_simp
            have t3' : Touch (wr.alloc e.obj) w3 (ftC M P e.a) := (Touch.refl _ _).drew.trans t3 (fun x hx => .inl hx)
            refine hK.out _ _ (hkp _ _ t3' hnft) (fun hHeld => ?_)
            clear hK hbe
            try simp only [Act.put, List.getElem_toArray, List.getElem_cons_succ, List.getElem_cons_zero, List.setIfInBounds_toArray, List.set_cons_zero, List.set_cons_succ]
            have hmb : w.heap.size ∉ ftC M P e.a := by
              unfold ftC
              cases hq : M e.a with
              | none => simp
              | some d => simpa using HF.out.mbn _ d hq
            obtain ⟨w4, hst4, hm4, hg4⟩ := (HF0'.out.map.touch t3 hmb).store Try.underlying75 (by unfold maxLen; omega) (x := e.a) (by omega) (.agg #[.int .u8 st', pv'])
            have t4 : Touch (wr.alloc e.obj) w4 (w.heap.size :: ftC M P e.a) := (t3'.mono (fun x hx => List.mem_cons_of_mem _ hx)).grown hg4 (by intro k hk; cases hk; exact .inl (by simp))
            have hpos : 1 ≤ st' := behindS_pos (by rw [← HRS.out]; exact hsm)
            have HF4 : Hid _ := HF.out.step (a := e.a) HT.out.size ((TB.out.drew.mono (by simp)).trans t3 (fun x hx => .inl hx)) hc3 hpos (fun y hy => (hf3 y hy).imp id (fun h => Nat.le_trans TB.out.size h)) hg4 hm4
            have hM4 : runC (fun _ => none) (l.take (k + 1)) = some (updF M e.a (st', Fs')) := by rw [runC_snoc hkl HM.out, ← HE.out, HSTP.out, hsm]; rfl
            have HM4 : Hid _ := hM4
            have HT4 : Hid (Touch w w4 []) := (HT.out.trans TB.out (by simp)).trans t4 (fun x hx => by rcases List.mem_cons.1 hx with rfl | h; exact .inr (Nat.le_refl _); exact .inr ((HF.out.at e.a).foot_lt x h).1)
            clear hM4 hm4 hg4 hc3 hf3 t3 hsm
            clear hHeld
            refine wpAnyH_ready (rs := [9]) (by kernel_rfl) (by simp) (AllReadyH.cons rfl (fun K hK => ?_) AllReadyH.nil)
            rw [if_pos (by rfl)]
            go_simp
            refine hK.out _ _ (hkp _ _ t4 (by intro hh; rcases List.mem_cons.1 hh with h | h; omega; exact hnft h)) (fun hHeld => ?_)
            clear hK
            try simp only [Act.put, List.getElem_toArray, List.getElem_cons_succ, List.getElem_cons_zero, List.setIfInBounds_toArray, List.set_cons_zero, List.set_cons_succ]
            clear hHeld
            refine wpAnyH_done (by kernel_rfl) ?_ _
            clear hst4 t3' t4 hlk hkp
            go_wp2
            go_roundw
            case rel => exact ⟨k + 1, by go_num, by omega, _, _, HM4.out, HF4.out, HT4.out⟩
            case measure => simp [intOf]; omega
        · have hst : stepC M e = none := by unfold stepC; rw [if_neg ha]
          by_cases ha0 : 0 ≤ e.a
          · have ha1 : ¬ e.a < 64 := fun h => ha ⟨ha0, h⟩
            clear ha
            go_wp2_with fail
            refine (hneed_no _).mono ?_
            rintro x w2 ⟨rfl, rfl⟩
            exact ⟨rfl, .inr ⟨HG.out hst, rfl⟩, HT.out.trans TB.out (by simp)⟩
          · have ha1 : decide (0 ≤ e.a) = false := decide_eq_false ha0
            clear ha
            go_wp2_with fail
            refine (hneed_no _).mono ?_
            rintro x w2 ⟨rfl, rfl⟩
            exact ⟨rfl, .inr ⟨HG.out hst, rfl⟩, HT.out.trans TB.out (by simp)⟩
      · obtain rfl : k = N := by omega
        have hall := HM.out
        rw [HN.out, List.take_length] at hall
        have hyes : rightS l = true := by unfold rightS; rw [hall, ← HN.out]; simp [h400]
        have HY : Hid _ := hyes
        clear hall hyes hT
        go_wp2
        go_end0
        exact ⟨.inl ⟨HY.out, rfl⟩, HT.out⟩
  · have h4 : ¬ (N : Int) ≤ 400 := by omega
    have hno : rightS l = false := by unfold rightS; rw [← HN.out]; simp [h400]
    have HNO : Hid _ := hno
    clear hno
    go_enter Try.func35, Try.ntmps35
    go_wp2_with fail
    refine (hneed_no _).mono ?_
    rintro x w1 ⟨rfl, rfl⟩
    exact ⟨rfl, .inr ⟨HNO.out, rfl⟩, Touch.refl _ _⟩

theorem hta_hit (v : Value) (w : World) : (Instr.typeAssert (.iface 94 v) 20 94 true).run Try.prog w = .ok (.tuple #[v, .bool true]) w := by
  simp only [Instr.typeAssert, Sem.run_bind, run_underlying Try.underlying94, Result.andThen_ok]
  kernel_rfl
theorem hta_nil (w : World) : (Instr.typeAssert .nilIface 20 94 true).run Try.prog w = .ok (.tuple #[.agg #[], .bool false]) w := by
  simp only [Instr.typeAssert, Sem.run_bind, run_underlying Try.underlying94, Result.andThen_ok]
  kernel_rfl

theorem hcatch_idle (p : Addr) (w : World) (x : Bool) (hc : w.cell? p = some (.bool x)) (hz : w.frozen? p = false) :
    CallsD Try.prog 54 #[.pointer (some p)] .returning w fun e u' w' => e = .returned (.tuple #[]) ∧ u' = .returning ∧ w' = w.setCell p (.bool false) := by
  have hn := hta_nil
  refine callsD_of_wpS Try.func54 rfl fun c₀ cs hu => ?_
  apply wpS_region
  simp [wpOpsS, go_sem, recoverD, hu, Try.ntmps54, Exit.thenS, hn]
  simp [wpOpsS, go_sem, hc, hz, bodyPostS, results, Try.results54, hn]
  cases c₀
  simp_all

theorem hcatch_no (p : Addr) (w : World) (x : Bool) (hc : w.cell? p = some (.bool x)) (hz : w.frozen? p = false) :
    CallsD Try.prog 54 #[.pointer (some p)] (.panicking [{ v := .iface 94 (.agg #[]), recovered := false }]) w fun e u' w' => e = .returned (.tuple #[]) ∧ u' = .panicking [{ v := .iface 94 (.agg #[]), recovered := true }] ∧ w' = w.setCell p (.bool true) := by
  have hn := hta_hit
  refine callsD_of_wpS Try.func54 rfl fun c₀ cs hu => ?_
  apply wpS_region
  simp [wpOpsS, go_sem, recoverD, hu, Try.ntmps54, Exit.thenS, hn]
  simp [wpOpsS, go_sem, hc, hz, bodyPostS, results, Try.results54, hn]

theorem henter_of {k : Nat} {cap : Array Value} {fn : Func} (hf : Try.prog.funcs[k]? = some fn) (hn : (fn.name == "runtime.NumGoroutine") = false) (hb : fn.body.isNone = false) (w : World) : (callFunc k cap).run Try.prog w = .ok (.enter k cap) w := by
  simp only [callFunc, Sem.run_bind, run_program, Result.andThen_ok, hf, hn, hb, Bool.false_eq_true, if_false, Sem.run_pure]

set_option maxRecDepth 100000 in
theorem gives_ok (k : Nat) (cap : Array Value) (w : World) (hen : ∀ w1, (callFunc k cap).run Try.prog w1 = .ok (.enter k cap) w1) (hw : ∀ w1, Touch w w1 [] → Calls Try.prog k cap w1 fun e w' => e = .returned (.tuple #[]) ∧ Touch w1 w' []) :
    Calls Try.prog 34 #[.func (.func k) #[] cap] w fun e w' => e = .returned (.bool false) ∧ Touch w w' [] := by
  have hmf : ∀ (fn : Fn) (first cap : Array Value) (w : World), (Instr.makeFunc fn first cap).run Try.prog w = .ok (.func fn first cap) w := fun _ _ _ _ => rfl
  go_enter_defers Try.func34, Try.ntmps34
  go_wp2_with fail
  refine (hw _ ((Touch.refl w []).alloc _)).mono ?_
  rintro e w1 ⟨rfl, t1⟩
  have c0 : w1.cell? ⟨w.heap.size, 0, none⟩ = some (.bool false) := (t1.cell (p := ⟨w.heap.size, 0, none⟩) (by simp) (by simp)).trans (by simp [go_sem])
  have f0 : w1.frozen? ⟨w.heap.size, 0, none⟩ = false := (t1.frozen (p := ⟨w.heap.size, 0, none⟩) (by simp) (by simp)).trans (by simp [go_sem])
  have HT : Hid (Touch w w1 []) := ((Touch.refl w []).alloc _).trans t1 (by simp)
  clear t1 hw
  go_wp2
  have c1 : (w1.setCell ⟨w.heap.size, 0, none⟩ (.bool false)).cell? ⟨w.heap.size, 0, none⟩ = some (.bool false) := World.cell?_setCell_same _ _ _ c0
  have f1 : (w1.setCell ⟨w.heap.size, 0, none⟩ (.bool false)).frozen? ⟨w.heap.size, 0, none⟩ = false := by simp [f0]
  have HT1 : Hid (Touch w (w1.setCell ⟨w.heap.size, 0, none⟩ (.bool false)) []) := HT.out.setCell (.inr (Nat.le_refl _)) _
  generalize w1.setCell ⟨w.heap.size, 0, none⟩ (.bool false) = w2 at *
  clear c0 f0 HT
  refine leaves_cons (f := 54) (args := #[.pointer (some ⟨w.heap.size, 0, none⟩)]) (by simp) (by simp [go_sem]) ?_
  refine (hcatch_idle ⟨w.heap.size, 0, none⟩ w2 false c1 f1).mono ?_
  rintro e u' w'' ⟨rfl, rfl, rfl⟩
  have c2 : (w2.setCell ⟨w.heap.size, 0, none⟩ (.bool false)).cell? ⟨w.heap.size, 0, none⟩ = some (.bool false) := World.cell?_setCell_same _ _ _ c1
  have HT2 : Hid (Touch w (w2.setCell ⟨w.heap.size, 0, none⟩ (.bool false)) []) := HT1.out.setCell (.inr (Nat.le_refl _)) _
  generalize w2.setCell ⟨w.heap.size, 0, none⟩ (.bool false) = w3 at *
  simp [Leaves, settle, results, Try.results34, go_sem, c2]
  exact HT2.out

set_option maxRecDepth 100000 in
theorem gives_no (k : Nat) (cap : Array Value) (w : World) (hen : ∀ w1, (callFunc k cap).run Try.prog w1 = .ok (.enter k cap) w1) (hw : ∀ w1, Touch w w1 [] → Calls Try.prog k cap w1 fun e w' => GaveUp e ∧ Touch w1 w' []) :
    Calls Try.prog 34 #[.func (.func k) #[] cap] w fun e w' => e = .returned (.bool true) ∧ Touch w w' [] := by
  have hmf : ∀ (fn : Fn) (first cap : Array Value) (w : World), (Instr.makeFunc fn first cap).run Try.prog w = .ok (.func fn first cap) w := fun _ _ _ _ => rfl
  go_enter_defers Try.func34, Try.ntmps34
  go_wp2_with fail
  refine (hw _ ((Touch.refl w []).alloc _)).mono ?_
  rintro e w1 ⟨rfl, t1⟩
  have c0 : w1.cell? ⟨w.heap.size, 0, none⟩ = some (.bool false) := (t1.cell (p := ⟨w.heap.size, 0, none⟩) (by simp) (by simp)).trans (by simp [go_sem])
  have f0 : w1.frozen? ⟨w.heap.size, 0, none⟩ = false := (t1.frozen (p := ⟨w.heap.size, 0, none⟩) (by simp) (by simp)).trans (by simp [go_sem])
  have HT : Hid (Touch w w1 []) := ((Touch.refl w []).alloc _).trans t1 (by simp)
  clear t1 hw
  go_wp2
  refine leaves_cons (f := 54) (args := #[.pointer (some ⟨w.heap.size, 0, none⟩)]) (by simp) (by simp [go_sem]) ?_
  refine (hcatch_no ⟨w.heap.size, 0, none⟩ w1 false c0 f0).mono ?_
  rintro e u' w'' ⟨rfl, rfl, rfl⟩
  have c2 : (w1.setCell ⟨w.heap.size, 0, none⟩ (.bool true)).cell? ⟨w.heap.size, 0, none⟩ = some (.bool true) := World.cell?_setCell_same _ _ _ c0
  have HT2 : Hid (Touch w (w1.setCell ⟨w.heap.size, 0, none⟩ (.bool true)) []) := HT.out.setCell (.inr (Nat.le_refl _)) _
  generalize w1.setCell ⟨w.heap.size, 0, none⟩ (.bool true) = w3 at *
  simp [Leaves, settle, results, Try.results34, go_sem, c2]
  exact HT2.out

set_option maxRecDepth 100000 in
theorem right_of {w : World} {ao : Option Addr} {cap : Nat} {l : List EvD} (hr : EvRow w (.slice ao l.length cap) l) (hl : l.length ≤ 1000) (hwf : ∀ e ∈ l, e.Wf) :
    Calls Try.prog 19 #[.slice ao l.length cap] w fun e w' => e = .returned (.bool (rightS l)) ∧ Touch w w' [] := by
  have hmf : ∀ (fn : Fn) (first cap : Array Value) (w : World), (Instr.makeFunc fn first cap).run Try.prog w = .ok (.func fn first cap) w := fun _ _ _ _ => rfl
  have t0 : Touch w (w.alloc (.cells #[.slice ao l.length cap] 22)) [] := (Touch.refl w []).alloc _
  have hwk := fun (w1 : World) (t : Touch (w.alloc (.cells #[.slice ao l.length cap] 22)) w1 []) => right1_any (p := w.heap.size) ((t.cell (p := ⟨w.heap.size, 0, none⟩) (by simp) (by simp)).trans (by simp [go_sem])) (SRow.keep (SRow.keep hr t0 (by simp)) t (by simp)) hl hwf
  have hcall : Calls Try.prog 34 #[.func (.func 35) #[] #[.pointer (some ⟨w.heap.size, 0, none⟩)]] (w.alloc (.cells #[.slice ao l.length cap] 22)) fun e w' => e = .returned (.bool (!rightS l)) ∧ Touch (w.alloc (.cells #[.slice ao l.length cap] 22)) w' [] := by
    cases hq : rightS l with
    | true =>
      refine gives_ok _ _ _ (henter_of Try.func35 (by kernel_rfl) (by kernel_rfl)) (fun w1 t => (hwk w1 t).mono ?_)
      rintro e w2 ⟨⟨_, rfl⟩ | ⟨h, _⟩, t2⟩
      · exact ⟨rfl, t2⟩
      · rw [hq] at h; cases h
    | false =>
      refine gives_no _ _ _ (henter_of Try.func35 (by kernel_rfl) (by kernel_rfl)) (fun w1 t => (hwk w1 t).mono ?_)
      rintro e w2 ⟨⟨h, rfl⟩ | ⟨_, h⟩, t2⟩
      · rw [hq] at h; cases h
      · exact ⟨h, t2⟩
  have HT0 : Hid _ := t0
  clear hwk hr hwf t0
  generalize rightS l = rb at *
  generalize l.length = n at *
  go_enter Try.func19, Try.ntmps19
  go_wp2_with fail
  refine hcall.mono ?_
  rintro e w1 ⟨rfl, t1⟩
  clear hcall
  go_wp2
  go_ret
  exact ⟨by simp, HT0.out.trans t1 (by simp)⟩

end Go.Proofs.Ytjacclbifeoclaa

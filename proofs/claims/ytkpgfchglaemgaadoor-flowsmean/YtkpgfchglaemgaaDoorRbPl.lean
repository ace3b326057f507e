/-
  package spec, the document's: Block AS PLAIN DATA, for programs without arms, and how it lies.
-/
import Derived.Test.YtkpgfchglaemgaaDoorRbBase
import Derived.Test.YtkpgfchglaemgaaDoorAllB
namespace Go.Proofs.YtkpgfchglaemgaaDoor
set_option linter.unusedVariables false
set_option linter.unusedSimpArgs false
open Go.RowKit
attribute [local go_sem] Oper.semAt_some

def rdoB (l : List InsD) (D : WD) (h : List Int) (i : InsD) : Int × WD × List Int :=
  if i.op = 22 then (0, { D with pc := D.pc + 1 }, h) else if i.op = 26 then (-1, D, h) else ((doB l ⟨D, h, [], []⟩ i).1, (doB l ⟨D, h, [], []⟩ i).2.D, (doB l ⟨D, h, [], []⟩ i).2.h)
def rrunB (l : List InsD) : Nat → WD → List Int → Int × WD × List Int
  | 0, D, h => match hereP l D.pc with
    | none => (3, D, h)
    | some _ => (11, D, h)
  | n + 1, D, h => match hereP l D.pc with
    | none => (3, D, h)
    | some i => if (rdoB l D h i).1 = 0 then (if i.op = 22 then rdoB l D h i else rrunB l n (rdoB l D h i).2.1 (rdoB l D h i).2.2) else rdoB l D h i
theorem rrun_some {l : List InsD} {n : Nat} {D : WD} {h : List Int} {i : InsD} (hh : hereP l D.pc = some i) : rrunB l (n + 1) D h = if (rdoB l D h i).1 = 0 then (if i.op = 22 then rdoB l D h i else rrunB l n (rdoB l D h i).2.1 (rdoB l D h i).2.2) else rdoB l D h i := by simp only [rrunB, hh]
theorem rrun_none {l : List InsD} {n : Nat} {D : WD} {h : List Int} (hh : hereP l D.pc = none) : rrunB l n D h = (3, D, h) := by cases n <;> simp only [rrunB, hh]
theorem rrun_zero {l : List InsD} {D : WD} {h : List Int} {i : InsD} (hh : hereP l D.pc = some i) : rrunB l 0 D h = (11, D, h) := by simp only [rrunB, hh]
theorem here_at {l : List InsD} {pc : Int} {i : InsD} (hh : hereP l pc = some i) : ∃ k : Nat, pc = k ∧ ∃ hk : k < l.length, l[k] = i ∧ rightI i = true := by
  unfold hereP placeP at hh
  split at hh
  · rename_i hp
    simp only [Bool.and_eq_true, decide_eq_true_eq] at hp
    split at hh
    · rename_i hr
      simp only [Option.some.injEq] at hh
      refine ⟨pc.toNat, by omega, by omega, ?_⟩
      have e : l.getD pc.toNat ⟨0, 0, 0⟩ = l[pc.toNat]'(by omega) := by rw [List.getD_eq_getElem?_getD, List.getElem?_eq_getElem (by omega)]; rfl
      rw [e] at hh hr
      exact ⟨hh, by rw [← hh]; exact hr⟩
    · cases hh
  · cases hh

def rFuel (f : Int) : Int := if f < 0 then 0 else if f > 300 then 300 else f
theorem rFuel_le (f : Int) : 0 ≤ rFuel f ∧ rFuel f ≤ 300 := by unfold rFuel; split; omega; split <;> omega
theorem rfuel_any (f : Int) (w : World) : Calls Tryd.prog 23 #[.int .i64 f] w fun e w' => e = .returned (.int .i64 (rFuel f)) ∧ w = w' := by
  unfold rFuel
  by_cases h0 : f < 0
  · have d0 : decide (f < 0) = true := decide_eq_true h0
    rw [if_pos h0]
    go_enter Tryd.func23, Tryd.ntmps23
    go_wp2
    go_ret
    exact ⟨rfl, rfl⟩
  · have d0 : decide (f < 0) = false := decide_eq_false h0
    rw [if_neg h0]
    by_cases h1 : f > 300
    · have d1 : decide (f > 300) = true := decide_eq_true h1
      have d2 : decide (300 < f) = true := decide_eq_true h1
      rw [if_pos h1]
      go_enter Tryd.func23, Tryd.ntmps23
      go_wp2
      go_ret
      exact ⟨rfl, rfl⟩
    · have d1 : decide (f > 300) = false := decide_eq_false h1
      have d2 : decide (300 < f) = false := decide_eq_false h1
      rw [if_neg h1]
      go_enter Tryd.func23, Tryd.ntmps23
      go_wp2
      go_ret
      exact ⟨rfl, rfl⟩

/-- A row lies above N. -/
def FrN (N : Nat) (v : Value) : Prop := ∀ g, v.ownBlock = some g → N ≤ g
abbrev zOut : Array Value := outA 0 zWD (.slice none 0 0) (.slice none 0 0) (.slice none 0 0) (.slice none 0 0) 0
/-- The State and the heap as they are, the first ones kept, the answer's place. -/
structure RbAt (w W : World) (b9 : Nat) (D0 D : WD) (h0 h : List Int) (v0s v0o v0h vs vo vh : Value) : Prop where
  s : StB W w.heap.size D vs vo
  r : OutB W (w.heap.size + 1) zOut
  q : StB W b9 D0 v0s v0o
  hb : w.heap.size + 2 ≤ b9
  rs : VRow W vs D.st
  ro : VRow W vo D.out
  rh : VRow W vh h
  ks : VRow W v0s D0.st
  ko : VRow W v0o D0.out
  kh : VRow W v0h h0
  fs : FrN (w.heap.size + 2) vs
  fo : FrN (w.heap.size + 2) vo
  fh : FrN (w.heap.size + 2) vh
  gs : FrN (w.heap.size + 2) v0s
  go : FrN (w.heap.size + 2) v0o
  gh : FrN (w.heap.size + 2) v0h
  t : Touch w W []
theorem frn_keep {W W' : World} {N : Nat} {v : Value} {l : List Int} {S : List Nat} (r : VRow W v l) (f : FrN N v) (t : Touch W W' S) (hS : ∀ x ∈ S, x < N) : VRow W' v l := SRow.keepB r t (fun _ g hg hs => by have := f g hg; have := hS g hs; omega)
theorem RbAt.keep {w W W' : World} {b9 : Nat} {D0 D : WD} {h0 h : List Int} {v0s v0o v0h vs vo vh : Value} (k : RbAt w W b9 D0 D h0 h v0s v0o v0h vs vo vh) (t : Touch W W' []) : RbAt w W' b9 D0 D h0 h v0s v0o v0h vs vo vh :=
  ⟨k.s.touch t (by simp), k.r.touch t (by simp), k.q.touch t (by simp), k.hb, SRow.keep k.rs t (by simp), SRow.keep k.ro t (by simp), SRow.keep k.rh t (by simp), SRow.keep k.ks t (by simp), SRow.keep k.ko t (by simp), SRow.keep k.kh t (by simp), k.fs, k.fo, k.fh, k.gs, k.go, k.gh, k.t.trans t (by simp)⟩
/-- Another State is laid. -/
theorem RbAt.put {w W : World} {b9 : Nat} {D0 D : WD} {h0 h : List Int} {v0s v0o v0h vs vo vh : Value} (k : RbAt w W b9 D0 D h0 h v0s v0o v0h vs vo vh) {D2 : WD} {h2 : List Int} {vs2 vo2 vh2 : Value} (r1 : VRow W vs2 D2.st) (r2 : VRow W vo2 D2.out) (r3 : VRow W vh2 h2) (f1 : FrN (w.heap.size + 2) vs2) (f2 : FrN (w.heap.size + 2) vo2) (f3 : FrN (w.heap.size + 2) vh2) :
    ∀ W8, W8 = W.setCells w.heap.size 0 (stA D2 vs2 vo2).toList → RbAt w W8 b9 D0 D2 h0 h2 v0s v0o v0h vs2 vo2 vh2 := fun W8 hW8 => by
  obtain ⟨g1, t⟩ := st_sets k.s D2 vs2 vo2 W8 hW8
  have hS : ∀ x ∈ [w.heap.size], x < w.heap.size + 2 := by simp
  have hb := k.hb
  exact ⟨g1, k.r.touch t (by simp), k.q.touch t (by simp; omega), k.hb, frn_keep r1 f1 t hS, frn_keep r2 f2 t hS, frn_keep r3 f3 t hS, frn_keep k.ks k.gs t hS, frn_keep k.ko k.go t hS, frn_keep k.kh k.gh t hS, f1, f2, f3, k.gs, k.go, k.gh, k.t.trans t (fun x hx => .inr (by simp at hx; omega))⟩
theorem RbAt.pc {w W : World} {b9 : Nat} {D0 D : WD} {h0 h : List Int} {v0s v0o v0h vs vo vh : Value} (k : RbAt w W b9 D0 D h0 h v0s v0o v0h vs vo vh) (x : Int) : RbAt w (W.setCell ⟨w.heap.size, 0, none⟩ (.int .i64 x)) b9 D0 { D with pc := x } h0 h v0s v0o v0h vs vo vh := by
  have t : Touch W (W.setCell ⟨w.heap.size, 0, none⟩ (.int .i64 x)) [w.heap.size] := (Touch.refl W _).setCell (.inl (by simp)) _
  have hS : ∀ x ∈ [w.heap.size], x < w.heap.size + 2 := by simp
  have hb := k.hb
  exact ⟨k.s.setp x, k.r.touch t (by simp), k.q.touch t (by simp; omega), k.hb, frn_keep k.rs k.fs t hS, frn_keep k.ro k.fo t hS, frn_keep k.rh k.fh t hS, frn_keep k.ks k.gs t hS, frn_keep k.ko k.go t hS, frn_keep k.kh k.gh t hS, k.fs, k.fo, k.fh, k.gs, k.go, k.gh, k.t.trans t (fun x hx => .inr (by simp at hx; omega))⟩
/-- What Block answers where it ends, or is retried. -/
def BlkG (w : World) (R : Int × WD × List Int) (D : WD) (h : List Int) (e : Ending) (w' : World) : Prop :=
  (R.1 = 0 ∧ ∃ sa sc oa oc ha hc, e = .returned (.agg (outA 1 R.2.1 (.slice sa R.2.1.st.length sc) (.slice oa R.2.1.out.length oc) (.slice ha R.2.2.length hc) (.slice none 0 0) 0)) ∧ VRow w' (.slice sa R.2.1.st.length sc) R.2.1.st ∧ VRow w' (.slice oa R.2.1.out.length oc) R.2.1.out ∧ VRow w' (.slice ha R.2.2.length hc) R.2.2 ∧ Touch w w' [] ∧ FrN w.heap.size (.slice sa R.2.1.st.length sc) ∧ FrN w.heap.size (.slice oa R.2.1.out.length oc) ∧ FrN w.heap.size (.slice ha R.2.2.length hc)) ∨
  (R.1 = -1 ∧ ∃ sa sc oa oc ha hc, e = .returned (.agg (outA 2 D (.slice sa D.st.length sc) (.slice oa D.out.length oc) (.slice ha h.length hc) (.slice none 0 0) 0)) ∧ VRow w' (.slice sa D.st.length sc) D.st ∧ VRow w' (.slice oa D.out.length oc) D.out ∧ VRow w' (.slice ha h.length hc) h ∧ Touch w w' [] ∧ FrN w.heap.size (.slice sa D.st.length sc) ∧ FrN w.heap.size (.slice oa D.out.length oc) ∧ FrN w.heap.size (.slice ha h.length hc))
theorem frn_le {N M : Nat} {v : Value} (h : FrN M v) (hl : N ≤ M) : FrN N v := fun g hg => Nat.le_trans hl (h g hg)
theorem RbAt.done {w W : World} {b9 : Nat} {D0 D : WD} {h0 h : List Int} {v0s v0o v0h : Value} {sa oa ha : Option Addr} {sc oc hc : Nat} (k : RbAt w W b9 D0 D h0 h v0s v0o v0h (.slice sa D.st.length sc) (.slice oa D.out.length oc) (.slice ha h.length hc)) {R : Int × WD × List Int} (hR : R = (0, D, h)) :
    ∀ W8, W8 = W.setCells (w.heap.size + 1) 0 (outA 1 D (.slice sa D.st.length sc) (.slice oa D.out.length oc) (.slice ha h.length hc) (.slice none 0 0) 0).toList → OutB W8 (w.heap.size + 1) (outA 1 D (.slice sa D.st.length sc) (.slice oa D.out.length oc) (.slice ha h.length hc) (.slice none 0 0) 0) ∧ BlkG w R D0 h0 (.returned (.agg (outA 1 D (.slice sa D.st.length sc) (.slice oa D.out.length oc) (.slice ha h.length hc) (.slice none 0 0) 0))) W8 := fun W8 hW8 => by
  obtain ⟨g1, t⟩ := out_sets k.r 1 D (.slice sa D.st.length sc) (.slice oa D.out.length oc) (.slice ha h.length hc) (.slice none 0 0) 0 W8 hW8
  have hS : ∀ x ∈ [w.heap.size + 1], x < w.heap.size + 2 := by simp
  subst hR
  exact ⟨g1, .inl ⟨rfl, sa, sc, oa, oc, ha, hc, rfl, frn_keep k.rs k.fs t hS, frn_keep k.ro k.fo t hS, frn_keep k.rh k.fh t hS, k.t.trans t (fun x hx => .inr (by simp at hx; omega)), frn_le k.fs (by omega), frn_le k.fo (by omega), frn_le k.fh (by omega)⟩⟩
theorem RbAt.again {w W : World} {b9 : Nat} {D0 D : WD} {h0 h : List Int} {vs vo vh : Value} {sa oa ha : Option Addr} {sc oc hc : Nat} (k : RbAt w W b9 D0 D h0 h (.slice sa D0.st.length sc) (.slice oa D0.out.length oc) (.slice ha h0.length hc) vs vo vh) {R : Int × WD × List Int} (hR : R.1 = -1) :
    ∀ W8, W8 = W.setCells (w.heap.size + 1) 0 (outA 2 D0 (.slice sa D0.st.length sc) (.slice oa D0.out.length oc) (.slice ha h0.length hc) (.slice none 0 0) 0).toList → OutB W8 (w.heap.size + 1) (outA 2 D0 (.slice sa D0.st.length sc) (.slice oa D0.out.length oc) (.slice ha h0.length hc) (.slice none 0 0) 0) ∧ BlkG w R D0 h0 (.returned (.agg (outA 2 D0 (.slice sa D0.st.length sc) (.slice oa D0.out.length oc) (.slice ha h0.length hc) (.slice none 0 0) 0))) W8 := fun W8 hW8 => by
  obtain ⟨g1, t⟩ := out_sets k.r 2 D0 (.slice sa D0.st.length sc) (.slice oa D0.out.length oc) (.slice ha h0.length hc) (.slice none 0 0) 0 W8 hW8
  have hS : ∀ x ∈ [w.heap.size + 1], x < w.heap.size + 2 := by simp
  exact ⟨g1, .inr ⟨hR, sa, sc, oa, oc, ha, hc, rfl, frn_keep k.ks k.gs t hS, frn_keep k.ko k.go t hS, frn_keep k.kh k.gh t hS, k.t.trans t (fun x hx => .inr (by simp at hx; omega)), frn_le k.gs (by omega), frn_le k.go (by omega), frn_le k.gh (by omega)⟩⟩
theorem rdo_keep {l : List InsD} {D : WD} {h : List Int} (hw : SWf D h) (hl : ∀ i ∈ l, i.Wf) {i : InsD} (h22 : i.op ≠ 22) (ha : i.op ≠ 1 → 0 ≤ i.arg ∧ i.arg ≤ 1000) (h0 : (rdoB l D h i).1 = 0) : SWf (rdoB l D h i).2.1 (rdoB l D h i).2.2 := by
  unfold rdoB at h0 ⊢
  rw [if_neg h22] at h0 ⊢
  by_cases h26 : i.op = 26
  · rw [if_pos h26] at h0; simp at h0
  · rw [if_neg h26] at h0 ⊢
    exact (do_keep (X := ⟨D, h, [], []⟩) (k := 0) ⟨hw, by simp, Nat.le_refl _, Nat.le_refl _⟩ hl ha h0).s

end Go.Proofs.YtkpgfchglaemgaaDoor

/-
  package spec, the document's: Index BY ITS CONTRACT, and what touch finds and leaves.
-/
import Derived.Test.YtkpgfchglaemgaaDoorSsRAll
import Derived.Deep.RegionHeld3
namespace Go.Proofs.YtkpgfchglaemgaaDoor
set_option linter.unusedVariables false
set_option linter.unusedSimpArgs false
open Go.RowKit
attribute [local go_sem] Oper.semAt_some

/-- The variable that a number says. -/
def rIdx (a v : Int) (m : Nat) : Option Int := if (wholeV (ofB v.toNat)).2 = true ∧ 0 ≤ (wholeV (ofB v.toNat)).1 then (if a + (wholeV (ofB v.toNat)).1 < m then some (a + (wholeV (ofB v.toNat)).1) else none) else none
def idxP (r : Option Int) : Value := .tuple #[.int .i64 (r.getD 0), .int .i64 (if r.isSome then 0 else 2)]
theorem rindex_any (a v : Int) (hv : Wf64 v) (m : Nat) (ha : 0 ≤ a ∧ a ≤ 1000) (hm : m ≤ 1000) (w : World) :
    Calls Tryd.prog 41 #[.int .i64 a, .int .u64 v, .int .i64 m] w fun e w' => e = .returned (idxP (rIdx a v m)) ∧ w = w' := by
  have HW : HidC _ _ _ _ _ := ⟨rwhole_any v hv w⟩
  obtain ⟨l1, l2⟩ := wholeV_le (ofB v.toNat)
  unfold rIdx
  obtain ⟨⟨n, b⟩, hr⟩ : ∃ r, r = wholeV (ofB v.toNat) := ⟨_, rfl⟩
  rw [← hr] at HW l1 l2 ⊢
  unfold pairV at HW
  simp only at HW l1 l2 ⊢
  clear hr
  have hw1 : IntKind.i64.wrap ((m : Int) - a) = (m : Int) - a := by rw [IntKind.wrap_i64]; omega
  have hw2 : IntKind.i64.wrap (a + n) = a + n := by rw [IntKind.wrap_i64]; omega
  cases b with
  | false =>
    rw [if_neg (by simp)]
    show Calls _ _ _ _ fun e w' => e = .returned (.tuple #[.int .i64 0, .int .i64 2]) ∧ w = w'
    go_enter Tryd.func41, Tryd.ntmps41
    go_wp2_with fail
    refine HW.out.mono ?_
    rintro e _ ⟨rfl, rfl⟩
    clear HW
    go_wp2
    refine bodyPost_ret (v := .tuple #[.int .i64 0, .int .i64 2]) (by simp [results, Tryd.results41, go_sem]) rfl ⟨rfl, rfl⟩
  | true =>
    by_cases h0 : 0 ≤ n
    · have hd : decide (n < 0) = false := decide_eq_false (by omega)
      rw [if_pos ⟨rfl, h0⟩]
      by_cases h1 : a + n < m
      · have hd2 : decide (n ≥ (m : Int) - a) = false := decide_eq_false (by omega)
        have hd3 : decide ((m : Int) - a ≤ n) = false := decide_eq_false (by omega)
        have hq : ¬ (m : Int) - a ≤ n := by omega
        rw [if_pos h1]
        show Calls _ _ _ _ fun e w' => e = .returned (.tuple #[.int .i64 (a + n), .int .i64 0]) ∧ w = w'
        go_enter Tryd.func41, Tryd.ntmps41
        go_wp2_with fail
        refine HW.out.mono ?_
        rintro e _ ⟨rfl, rfl⟩
        clear HW
        go_wp2
        refine bodyPost_ret (v := .tuple #[.int .i64 (a + n), .int .i64 0]) (by simp [results, Tryd.results41, go_sem]) rfl ⟨rfl, rfl⟩
      · have hd2 : decide (n ≥ (m : Int) - a) = true := decide_eq_true (by omega)
        have hd3 : decide ((m : Int) - a ≤ n) = true := decide_eq_true (by omega)
        have hq : (m : Int) - a ≤ n := by omega
        rw [if_neg h1]
        show Calls _ _ _ _ fun e w' => e = .returned (.tuple #[.int .i64 0, .int .i64 2]) ∧ w = w'
        go_enter Tryd.func41, Tryd.ntmps41
        go_wp2_with fail
        refine HW.out.mono ?_
        rintro e _ ⟨rfl, rfl⟩
        clear HW
        go_wp2
        refine bodyPost_ret (v := .tuple #[.int .i64 0, .int .i64 2]) (by simp [results, Tryd.results41, go_sem]) rfl ⟨rfl, rfl⟩
    · have hd : decide (n < 0) = true := decide_eq_true (by omega)
      have hlt : n < 0 := by omega
      rw [if_neg (fun h => h0 h.2)]
      show Calls _ _ _ _ fun e w' => e = .returned (.tuple #[.int .i64 0, .int .i64 2]) ∧ w = w'
      go_enter Tryd.func41, Tryd.ntmps41
      go_wp2_with fail
      refine HW.out.mono ?_
      rintro e _ ⟨rfl, rfl⟩
      clear HW
      go_wp2
      refine bodyPost_ret (v := .tuple #[.int .i64 0, .int .i64 2]) (by simp [results, Tryd.results41, go_sem]) rfl ⟨rfl, rfl⟩

/-- What touch finds. -/
structure TIn (w : World) (sa oa ha : Option Addr) (sc oc hc : Nat) (D : WD) (h : List Int) : Prop where
  hs : VRow w (.slice sa D.st.length sc) D.st
  ho : VRow w (.slice oa D.out.length oc) D.out
  hh : VRow w (.slice ha h.length hc) h
  hsl : D.st.length ≤ 1000
  hol : D.out.length ≤ 1000
  hhl : h.length ≤ 1000
  hsw : ∀ x ∈ D.st, Wf64 x
  pc0 : 0 ≤ D.pc
  pc1 : D.pc ≤ 1000
/-- What touch leaves: a State and a heap, or the error. -/
def TchP (w : World) (vh : Value) (er : Int) (D : WD) (h : List Int) (e : Ending) (w' : World) : Prop :=
  (er = 0 ∧ ∃ sa sc oa oc ha hc, e = .returned (.tuple #[stV D (.slice sa D.st.length sc) (.slice oa D.out.length oc), .slice ha h.length hc, .int .i64 0]) ∧ VRow w' (.slice sa D.st.length sc) D.st ∧ VRow w' (.slice oa D.out.length oc) D.out ∧ VRow w' (.slice ha h.length hc) h ∧ Touch w w' [] ∧ (∀ g, (Value.slice sa D.st.length sc).ownBlock = some g → w.heap.size ≤ g) ∧ (∀ g, (Value.slice oa D.out.length oc).ownBlock = some g → w.heap.size ≤ g) ∧ (∀ g, (Value.slice ha h.length hc).ownBlock = some g → w.heap.size ≤ g ∨ vh.ownBlock = some g)) ∨
  (er ≠ 0 ∧ ∃ E sa sn sc oa on oc ha hn hc, e = .returned (.tuple #[stV E (.slice sa sn sc) (.slice oa on oc), .slice ha hn hc, .int .i64 er]) ∧ Touch w w' [])
theorem tch_Q (w : World) (i : InsD) (D : WD) (vs vo : Value) : ∀ Q, Q = ((w.alloc (.cells #[.int .u8 i.op, .int .i64 i.arg, .int .u64 i.val] 62)).alloc (.cells (stA D vs vo) 38)).alloc (.cells (stA zWD (.slice none 0 0) (.slice none 0 0)) 38) → IxB Q w.heap.size i ∧ StB Q (w.heap.size + 1) D vs vo ∧ StB Q (w.heap.size + 2) zWD (.slice none 0 0) (.slice none 0 0) ∧ Touch w Q [] ∧ Q.heap.size = w.heap.size + 3 := by
  intro Q hQ
  have h1 := heap_alloc_new w (.cells #[.int .u8 i.op, .int .i64 i.arg, .int .u64 i.val] 62)
  have h2 := heap_alloc_new (w.alloc (.cells #[.int .u8 i.op, .int .i64 i.arg, .int .u64 i.val] 62)) (.cells (stA D vs vo) 38)
  have h3 := heap_alloc_new ((w.alloc (.cells #[.int .u8 i.op, .int .i64 i.arg, .int .u64 i.val] 62)).alloc (.cells (stA D vs vo) 38)) (.cells (stA zWD (.slice none 0 0) (.slice none 0 0)) 38)
  have s1 : (w.alloc (.cells #[.int .u8 i.op, .int .i64 i.arg, .int .u64 i.val] 62)).heap.size = w.heap.size + 1 := by simp
  have s2 : ((w.alloc (.cells #[.int .u8 i.op, .int .i64 i.arg, .int .u64 i.val] 62)).alloc (.cells (stA D vs vo) 38)).heap.size = w.heap.size + 2 := by simp
  rw [s1] at h2
  rw [s2] at h3
  have ix : IxB (w.alloc (.cells #[.int .u8 i.op, .int .i64 i.arg, .int .u64 i.val] 62)) w.heap.size i := ⟨h1⟩
  have sb : StB ((w.alloc (.cells #[.int .u8 i.op, .int .i64 i.arg, .int .u64 i.val] 62)).alloc (.cells (stA D vs vo) 38)) (w.heap.size + 1) D vs vo := ⟨h2⟩
  subst hQ
  exact ⟨(ix.touch ((Touch.refl _ []).alloc _) (by simp)).touch ((Touch.refl _ []).alloc _) (by simp), sb.touch ((Touch.refl _ []).alloc _) (by simp), ⟨h3⟩, (((Touch.refl w []).alloc _).alloc _).alloc _, by simp⟩
/-- The answer's State is laid, the heap beside it. -/
theorem StMid.finT {w W : World} {b r x B : Nat} {D : WD} {i : InsD} {sa oa ha : Option Addr} {ns sc no oc hc : Nat} {H : List Int} {vh : Value} (h : StMid w W b r x B D i (.slice sa ns sc) (.slice oa no oc)) (hh : VRow W (.slice ha H.length hc) H) (hr : ∀ g, (Value.slice ha H.length hc).ownBlock = some g → g ≠ r ∧ (w.heap.size ≤ g ∨ vh.ownBlock = some g)) :
    ∀ W8, W8 = W.setCells r 0 (stA D (.slice sa ns sc) (.slice oa no oc)).toList → StB W8 r D (.slice sa ns sc) (.slice oa no oc) ∧ TchP w vh 0 D H (.returned (.tuple #[stV D (.slice sa ns sc) (.slice oa no oc), .slice ha H.length hc, .int .i64 0])) W8 := fun W8 hW8 => by
  obtain ⟨g1, g2⟩ := st_sets h.hr D (.slice sa ns sc) (.slice oa no oc) W8 hW8
  have hrB := h.rB
  have e1 := (own_form h.hs).1
  have e2 := (own_form h.ho).1
  have k1 := ownsRow_touch h.hs g2 (fun g hg hs => by have := own_ge h.hs g hg; simp at hs; omega)
  have k2 := ownsRow_touch h.ho g2 (fun g hg hs => by have := own_ge h.ho g hg; simp at hs; omega)
  have hbB := h.bB
  have hwb := h.wb
  refine ⟨g1, .inl ⟨rfl, sa, sc, oa, oc, ha, hc, ?_, ?_, ?_, SRow.keepB hh g2 (fun _ g hg => by simp; exact (hr g hg).1), h.t.trans g2 (fun y hy => .inr (by simp at hy; rw [hy]; exact h.wr)), ?_, ?_, fun g hg => (hr g hg).2⟩⟩
  · rw [e1, e2]
  · rw [e1]; exact vrow_of k1
  · rw [e2]; exact vrow_of k2
  · rw [e1]; intro g hg; have := own_ge h.hs g hg; omega
  · rw [e2]; intro g hg; have := own_ge h.ho g hg; omega
/-- The error is answered. -/
theorem tch_bad {w W : World} {r : Nat} {D E : WD} {vs vo vs0 vo0 vh0 : Value} {h : List Int} {D0 : WD} (hr : StB W r D0 vs0 vo0) (t : Touch w W []) (wr : w.heap.size ≤ r) {er : Int} (he : er ≠ 0) {sa oa ha : Option Addr} {ns sc no oc nh hc : Nat} : ∀ W8, W8 = W.setCells r 0 (stA E (.slice sa ns sc) (.slice oa no oc)).toList → StB W8 r E (.slice sa ns sc) (.slice oa no oc) ∧ TchP w vh0 er D h (.returned (.tuple #[stV E (.slice sa ns sc) (.slice oa no oc), .slice ha nh hc, .int .i64 er])) W8 := fun W8 hW8 => by
  obtain ⟨g1, g2⟩ := st_sets hr E (.slice sa ns sc) (.slice oa no oc) W8 hW8
  exact ⟨g1, .inr ⟨he, E, sa, ns, sc, oa, no, oc, ha, nh, hc, rfl, t.trans g2 (fun y hy => .inr (by simp at hy; rw [hy]; exact wr))⟩⟩
/-- Two results behind a State. -/
theorem res_cell_slot2 {fn : Func} {p q r : Tmp} {ty : TypeId} (h : fn.results = #[.cell p ty, .tmp q, .tmp r]) (tmps : Array Value) (P : Program) (w : World) {v : Value} {a : Addr} (hp : tmps.getD p undef = .pointer (some a)) (hl : (loadVar ty a).run P w = .ok v w) :
    (results fn tmps).run P w = .ok (.tuple #[v, tmps.getD q undef, tmps.getD r undef]) w := by
  rw [Array.getD_eq_getD_getElem?] at hp
  simp only [results, h]
  simp [Sem.run_bind, Result.andThen, hp, asAddr, hl]

end Go.Proofs.YtkpgfchglaemgaaDoor

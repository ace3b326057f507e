/-
  package spec, the document's: Step BY ITS CONTRACT: what all arms share.
-/
import Derived.Test.YtkpgfchglaemgaaDoorSsDoc
import Derived.Test.YtkpgfchglaemgaaDoorSsStep
import Derived.Test.YtkpgfchglaemgaaDoorVfRRight
namespace Go.Proofs.YtkpgfchglaemgaaDoor
set_option linter.unusedVariables false
set_option linter.unusedSimpArgs false
open Go.RowKit
attribute [local go_sem] Oper.semAt_some

/-- An instruction in a block of its own. -/
structure IxB (w : World) (p : Nat) (i : InsD) : Prop where
  st : w.heap[p]? = some (.cells #[.int .u8 i.op, .int .i64 i.arg, .int .u64 i.val] 62 (0, 0))
theorem IxB.touch {w w' : World} {p : Nat} {i : InsD} {S : List Nat} (h : IxB w p i) (t : Touch w w' S) (hS : p ∉ S) : IxB w' p i := ⟨(t.block p (lt_of_heap h.st) hS).trans h.st⟩
theorem IxB.cells {w : World} {p : Nat} {i : InsD} (h : IxB w p i) : w.cell? ⟨p, 0, none⟩ = some (.int .u8 i.op) ∧ w.cell? ⟨p, 1, none⟩ = some (.int .i64 i.arg) ∧ w.cell? ⟨p, 2, none⟩ = some (.int .u64 i.val) := by
  refine ⟨?_, ?_, ?_⟩ <;> (unfold World.cell?; rw [h.st]; rfl)

theorem wpList_nameR {P : Program} {ops : Array Oper} {l : List Oper} {Q : Exit → Act → World → Prop} {a : Act} {w : World} (h : ∀ W, W = w → wpList P ops Q l a W) : wpList P ops Q l a w := h w rfl
theorem Tryd.size_state : (Tryd.prog.info? 38).map (·.size) = some 7 := by kernel_rfl
abbrev stA (D : WD) (vs vo : Value) : Array Value := #[.int .i64 D.pc, vs, .int .u64 D.l0, .int .u64 D.l1, .int .u64 D.l2, .int .u64 D.l3, vo]
theorem st_one (D : WD) (a1 a2 : Option Addr) (n1 n2 c1 c2 : Nat) : (stA D (.slice a1 n1 c1) (.slice a2 n2 c2)).all (·.oneCell') = true := by simp [Value.oneCell']
theorem st_there {w : World} {p : Nat} {D : WD} {vs vo : Value} (h : StB w p D vs vo) : w.there p 0 7 := fun j hj => by
  rw [Nat.zero_add]
  refine ⟨?_, h.fr j⟩
  obtain ⟨x0, x1, x2, x3, x4, x5, x6⟩ := h.cells
  match j, hj with
  | 0, _ => rw [x0]; rfl
  | 1, _ => rw [x1]; rfl
  | 2, _ => rw [x2]; rfl
  | 3, _ => rw [x3]; rfl
  | 4, _ => rw [x4]; rfl
  | 5, _ => rw [x5]; rfl
  | 6, _ => rw [x6]; rfl
theorem st_sets {w : World} {p : Nat} {D0 : WD} {vs0 vo0 : Value} (h : StB w p D0 vs0 vo0) (D : WD) (vs vo : Value) : ∀ W, W = w.setCells p 0 (stA D vs vo).toList → StB W p D vs vo ∧ Touch w W [p] := fun W hW => by
  subst hW
  exact ⟨h.put D vs vo, stPut_touch w p D vs vo⟩
/-- What is handed in, and what Step finds. -/
structure StIn (w : World) (sa oa ap : Option Addr) (sc oc cp : Nat) (l : List InsD) (D : WD) : Prop where
  hs : VRow w (.slice sa D.st.length sc) D.st
  ho : VRow w (.slice oa D.out.length oc) D.out
  hl : InsRow w (.slice ap l.length cp) l
  hll : l.length ≤ 1000
  hsl : D.st.length ≤ 1000
  hol : D.out.length ≤ 1000
  hwf : ∀ i ∈ l, i.Wf
  hsw : ∀ x ∈ D.st, Wf64 x
/-- Behind the copy: the State in block b, the instruction in block x, the answer's State in block r. -/
structure StMid (w W : World) (b r x B : Nat) (D : WD) (i : InsD) (vs vo : Value) : Prop where
  hb : StB W b D vs vo
  hr : StB W r zWD (.slice none 0 0) (.slice none 0 0)
  hx : IxB W x i
  hs : valOwn W B vs D.st
  ho : valOwn W B vo D.out
  hn : ∀ g, vs.ownBlock = some g → vo.ownBlock ≠ some g
  t : Touch w W []
  wb : w.heap.size ≤ b
  wr : w.heap.size ≤ r
  br : b ≠ r
  bx : b ≠ x
  rx : r ≠ x
  bB : b < B
  rB : r < B
  xB : x < B
  BW : B ≤ W.heap.size

/-- How a slice of one's own lies. -/
theorem own_form {w : World} {B : Nat} {ao : Option Addr} {n cap : Nat} {l : List Int} (h : valOwn w B (.slice ao n cap) l) : l.length = n ∧ ((ao = none ∧ n = 0 ∧ cap = 0) ∨ ∃ g, ao = some ⟨g, 0, none⟩ ∧ n ≤ cap ∧ cap ≤ 9223372036854775807) := by
  have hl : l.length = n := by
    obtain ⟨a2, c2, e⟩ := owns_slice h
    simp only [Value.slice.injEq] at e
    exact e.2.1.symm
  refine ⟨hl, ?_⟩
  rcases h.2 with ⟨e5, h5⟩ | ⟨g5, cap5, cur5, e5, hb5, _, hn5, hm5, _⟩
  · simp only [Value.slice.injEq] at e5; exact .inl e5
  · simp only [Value.slice.injEq] at e5
    obtain ⟨rfl, rfl, rfl⟩ := e5
    unfold maxLen at hm5
    exact .inr ⟨g5, rfl, by omega, by omega⟩
theorem StB.setp {w : World} {p : Nat} {D : WD} {vs vo : Value} (h : StB w p D vs vo) (x : Int) : StB (w.setCell ⟨p, 0, none⟩ (.int .i64 x)) p { D with pc := x } vs vo := ⟨by rw [heap_setCell_same _ _ _ _ _ _ h.st]; simp⟩
theorem StB.sets {w : World} {p : Nat} {D : WD} {vs vo : Value} (h : StB w p D vs vo) (v : Value) (l : List Int) : StB (w.setCell ⟨p, 1, none⟩ v) p { D with st := l } v vo := ⟨by rw [heap_setCell_same _ _ _ _ _ _ h.st]; simp⟩
/-- Another cell of the State is set: all else stays. -/
theorem StMid.setp {w W : World} {b r x B : Nat} {D : WD} {i : InsD} {vs vo : Value} (h : StMid w W b r x B D i vs vo) (y : Int) : StMid w (W.setCell ⟨b, 0, none⟩ (.int .i64 y)) b r x B { D with pc := y } i vs vo := by
  have t : Touch W (W.setCell ⟨b, 0, none⟩ (.int .i64 y)) [b] := (Touch.refl W [b]).setCell (.inl (by simp)) _
  have := h.bB
  exact ⟨h.hb.setp y, h.hr.touch t (by simp; exact h.br.symm), h.hx.touch t (by simp; exact h.bx.symm), ownsRow_touch h.hs t (fun g hg hs => by have := own_ge h.hs g hg; simp at hs; omega), ownsRow_touch h.ho t (fun g hg hs => by have := own_ge h.ho g hg; simp at hs; omega), h.hn, h.t.trans t (fun y hy => .inr (by simp at hy; rw [hy]; exact h.wb)), h.wb, h.wr, h.br, h.bx, h.rx, h.bB, h.rB, h.xB, Nat.le_trans h.BW t.size⟩
theorem StMid.touch {w W W' : World} {b r x B : Nat} {D : WD} {i : InsD} {vs vo : Value} (h : StMid w W b r x B D i vs vo) (t : Touch W W' []) : StMid w W' b r x B D i vs vo :=
  ⟨h.hb.touch t (by simp), h.hr.touch t (by simp), h.hx.touch t (by simp), ownsRow_touch h.hs t (by simp), ownsRow_touch h.ho t (by simp), h.hn, h.t.trans t (by simp), h.wb, h.wr, h.br, h.bx, h.rx, h.bB, h.rB, h.xB, Nat.le_trans h.BW t.size⟩
/-- The stack is another row of one's own, which may lie in the old one's block. -/
theorem StMid.newst {w W W' : World} {b r x B : Nat} {D : WD} {i : InsD} {vs vo : Value} (h : StMid w W b r x B D i vs vo) {v' : Value} {l : List Int} (ho : valOwn W' B v' l) (t : Touch W W' vs.ownBlock.toList) (hg' : ∀ g, v'.ownBlock = some g → vs.ownBlock = some g ∨ W.heap.size ≤ g) : StMid w (W'.setCell ⟨b, 1, none⟩ v') b r x B { D with st := l } i v' vo := by
  have hlow : ∀ y ∈ vs.ownBlock.toList, B ≤ y := fun y hy => own_ge h.hs y (by simpa using hy)
  have hb := h.bB
  have hr := h.rB
  have hx := h.xB
  have t2 : Touch W' (W'.setCell ⟨b, 1, none⟩ v') [b] := (Touch.refl W' [b]).setCell (.inl (by simp)) _
  have hu : valOwn W' B vo D.out := ownsRow_touch h.ho t (fun g hg hs => h.hn g (by simpa using hs) hg)
  exact ⟨(h.hb.touch t (fun hy => by have := hlow _ hy; omega)).sets v' l, (h.hr.touch t (fun hy => by have := hlow _ hy; omega)).touch t2 (by simp; exact h.br.symm), (h.hx.touch t (fun hy => by have := hlow _ hy; omega)).touch t2 (by simp; exact h.bx.symm), ownsRow_touch ho t2 (fun g hg hs => by have := own_ge ho g hg; simp at hs; omega), ownsRow_touch hu t2 (fun g hg hs => by have := own_ge hu g hg; simp at hs; omega), fun g hg hg2 => by
    rcases hg' g hg with q | q
    · exact h.hn g q hg2
    · have := own_lt h.ho g hg2; omega, (h.t.trans t (fun y hy => .inr (by have := hlow _ hy; have := h.wb; omega))).trans t2 (fun y hy => .inr (by simp at hy; have := h.wb; omega)), h.wb, h.wr, h.br, h.bx, h.rx, hb, hr, hx, Nat.le_trans (Nat.le_trans h.BW t.size) t2.size⟩
/-- A value on the stack. -/
theorem own_at {w : World} {B g n cap : Nat} {l : List Int} (h : valOwn w B (.slice (some ⟨g, 0, none⟩) n cap) l) (k : Nat) (hk : k < n) : w.cell? ⟨g, k, none⟩ = some (.int .u64 (l.getD k 0)) := by
  have hl := (own_form h).1
  subst hl
  have hk' := hk
  rw [World.ownsRow.cellAt h k (by rw [Nat.mul_one]; exact hk'), List.getElem?_map, List.getElem?_eq_getElem hk']
  simp [List.getD_eq_getElem?_getD, hk']
/-- A State's local. -/
theorem StB.loc {w : World} {p : Nat} {D : WD} {vs vo : Value} (h : StB w p D vs vo) (j : Nat) (hj : j < 4) : w.cell? ⟨p, 2 + j, none⟩ = some (.int .u64 (D.loc j)) := by
  obtain ⟨_, _, x2, x3, x4, x5, _⟩ := h.cells
  unfold WD.loc
  match j, hj with
  | 0, _ => exact x2
  | 1, _ => exact x3
  | 2, _ => exact x4
  | 3, _ => exact x5
theorem StB.setl {w : World} {p : Nat} {D : WD} {vs vo : Value} (h : StB w p D vs vo) (j : Nat) (hj : j < 4) (x : Int) : StB (w.setCell ⟨p, 2 + j, none⟩ (.int .u64 x)) p (D.setL j x) vs vo := ⟨by
  rw [heap_setCell_same _ _ _ _ _ _ h.st]
  unfold WD.setL
  match j, hj with
  | 0, _ => rfl
  | 1, _ => rfl
  | 2, _ => rfl
  | 3, _ => rfl⟩
theorem StMid.setl {w W : World} {b r x B : Nat} {D : WD} {i : InsD} {vs vo : Value} (h : StMid w W b r x B D i vs vo) (j : Nat) (hj : j < 4) (y : Int) : StMid w (W.setCell ⟨b, 2 + j, none⟩ (.int .u64 y)) b r x B (D.setL j y) i vs vo := by
  have t : Touch W (W.setCell ⟨b, 2 + j, none⟩ (.int .u64 y)) [b] := (Touch.refl W [b]).setCell (.inl (by simp)) _
  have := h.bB
  exact ⟨h.hb.setl j hj y, h.hr.touch t (by simp; exact h.br.symm), h.hx.touch t (by simp; exact h.bx.symm), by rw [WD.setL_st]; exact ownsRow_touch h.hs t (fun g hg hs => by have := own_ge h.hs g hg; simp at hs; omega), by rw [WD.setL_out]; exact ownsRow_touch h.ho t (fun g hg hs => by have := own_ge h.ho g hg; simp at hs; omega), h.hn, h.t.trans t (fun y hy => .inr (by simp at hy; rw [hy]; exact h.wb)), h.wb, h.wr, h.br, h.bx, h.rx, h.bB, h.rB, h.xB, Nat.le_trans h.BW t.size⟩
/-- The stack is its lower values. -/
theorem StMid.low {w W : World} {b r x B : Nat} {D : WD} {i : InsD} {ao : Option Addr} {n cap : Nat} {vo : Value} (h : StMid w W b r x B D i (.slice ao n cap) vo) (q : Nat) (hq : q ≤ n) : StMid w (W.setCell ⟨b, 1, none⟩ (.slice ao q cap)) b r x B { D with st := D.st.take q } i (.slice ao q cap) vo :=
  h.newst (own_take h.hs q hq) (Touch.refl W _) (fun g hg => .inl (by cases ao <;> exact hg))
/-- What was put out is another row of one's own, which may lie in the old one's block. -/
theorem StMid.newout {w W W' : World} {b r x B : Nat} {D : WD} {i : InsD} {vs vo : Value} (h : StMid w W b r x B D i vs vo) {v' : Value} {l : List Int} (ho : valOwn W' B v' l) (t : Touch W W' vo.ownBlock.toList) (hg' : ∀ g, v'.ownBlock = some g → vo.ownBlock = some g ∨ W.heap.size ≤ g) : StMid w (W'.setCell ⟨b, 6, none⟩ v') b r x B { D with out := l } i vs v' := by
  have hlow : ∀ y ∈ vo.ownBlock.toList, B ≤ y := fun y hy => own_ge h.ho y (by simpa using hy)
  have hb := h.bB
  have hr := h.rB
  have hx := h.xB
  have t2 : Touch W' (W'.setCell ⟨b, 6, none⟩ v') [b] := (Touch.refl W' [b]).setCell (.inl (by simp)) _
  have hu : valOwn W' B vs D.st := ownsRow_touch h.hs t (fun g hg hs => h.hn g hg (by simpa using hs))
  have hb6 : StB (W'.setCell ⟨b, 6, none⟩ v') b { D with out := l } vs v' := ⟨((h.hb.touch t (fun hy => by have := hlow _ hy; omega)).set6 v').st⟩
  exact ⟨hb6, (h.hr.touch t (fun hy => by have := hlow _ hy; omega)).touch t2 (by simp; exact h.br.symm), (h.hx.touch t (fun hy => by have := hlow _ hy; omega)).touch t2 (by simp; exact h.bx.symm), ownsRow_touch hu t2 (fun g hg hs => by have := own_ge hu g hg; simp at hs; omega), ownsRow_touch ho t2 (fun g hg hs => by have := own_ge ho g hg; simp at hs; omega), fun g hg hg2 => by
    rcases hg' g hg2 with q | q
    · exact h.hn g hg q
    · have := own_lt h.hs g hg; omega, (h.t.trans t (fun y hy => .inr (by have := hlow _ hy; have := h.wb; omega))).trans t2 (fun y hy => .inr (by simp at hy; have := h.wb; omega)), h.wb, h.wr, h.br, h.bx, h.rx, hb, hr, hx, Nat.le_trans (Nat.le_trans h.BW t.size) t2.size⟩
/-- Values appended to an empty row of new memory. -/
theorem app_two {W V : World} (tV : Touch W V []) {e : Nat} (he : W.heap.size ≤ e) (hE : valOwn V W.heap.size (.slice (some ⟨e, 0, none⟩) 0 0) []) {ao : Option Addr} {n cap : Nat} {low : List Int} (hlow : VRow V (.slice ao n cap) low) (hn : n = low.length) (hn2 : n ≤ 1000) :
    ∃ a c V1, (Builtin.append_ #[35, 35] 35 #[.slice (some ⟨e, 0, none⟩) 0 0, .slice ao n cap]).run Tryd.prog V = .ok (.slice a n c) V1 ∧ valOwn V1 W.heap.size (.slice a n c) low ∧ Touch W V1 [] := by
  obtain ⟨a, c, V1, h1, h2, h3, h4⟩ := val_app hE (by simp) tV.size hlow hn hn2 35
  simp only [List.length_nil, Nat.zero_add, List.nil_append] at h1 h2
  exact ⟨a, c, V1, h1, h2, tV.trans h3 (fun x hx => .inr (by simp [Value.ownBlock] at hx; omega))⟩
theorem app_more {W V : World} (tV : Touch W V []) {a : Option Addr} {n c : Nat} {low : List Int} (h : valOwn V W.heap.size (.slice a n c) low) (hl : low.length ≤ 1000) {ao : Option Addr} {m cap : Nat} {l : List Int} (hr : VRow V (.slice ao m cap) l) (hn : m = l.length) (hn2 : m ≤ 1000) :
    ∃ a2 c2 V2, (Builtin.append_ #[35, 35] 35 #[.slice a n c, .slice ao m cap]).run Tryd.prog V = .ok (.slice a2 (n + m) c2) V2 ∧ valOwn V2 W.heap.size (.slice a2 (n + m) c2) (low ++ l) ∧ Touch W V2 [] := by
  obtain ⟨a2, c2, V2, h1, h2, h3, h4⟩ := val_app h hl tV.size hr hn hn2 35
  rw [(own_form h).1] at h1 h2
  exact ⟨a2, c2, V2, h1, h2, tV.trans h3 (fun x hx => .inr (own_ge h x (by simpa using hx)))⟩
/-- The stack is a row of new memory. -/
theorem StMid.newrow {w W V : World} {b r x B : Nat} {D : WD} {i : InsD} {vs vo : Value} (h : StMid w W b r x B D i vs vo) {v' : Value} {l : List Int} (t : Touch W V []) (ho : valOwn V W.heap.size v' l) : StMid w (V.setCell ⟨b, 1, none⟩ v') b r x B { D with st := l } i v' vo :=
  h.newst (own_base ho h.BW) (t.mono (by simp)) (fun g hg => .inr (own_ge ho g hg))
theorem bad_fin {w W : World} {r : Nat} (hr : StB W r zWD (.slice none 0 0) (.slice none 0 0)) (t : Touch w W []) (wr : w.heap.size ≤ r) (er : Int) (he : er ≠ 0) (E : WD) : ∀ W8, W8 = W.setCells r 0 (stA zWD (.slice none 0 0) (.slice none 0 0)).toList → StB W8 r zWD (.slice none 0 0) (.slice none 0 0) ∧ StpP w (er, E) (.returned (.tuple #[stV zWD (.slice none 0 0) (.slice none 0 0), .int .i64 er])) W8 := fun W8 hW8 => by
  obtain ⟨g1, g2⟩ := st_sets hr zWD (.slice none 0 0) (.slice none 0 0) W8 hW8
  exact ⟨g1, .inr ⟨he, rfl, t.trans g2 (fun y hy => .inr (by simp at hy; rw [hy]; exact wr))⟩⟩
/-- An error is answered. -/
theorem StMid.bad {w W : World} {b r x B : Nat} {D : WD} {i : InsD} {vs vo : Value} (h : StMid w W b r x B D i vs vo) (er : Int) (he : er ≠ 0) (E : WD) : ∀ W8, W8 = W.setCells r 0 (stA zWD (.slice none 0 0) (.slice none 0 0)).toList → StB W8 r zWD (.slice none 0 0) (.slice none 0 0) ∧ StpP w (er, E) (.returned (.tuple #[stV zWD (.slice none 0 0) (.slice none 0 0), .int .i64 er])) W8 := fun W8 hW8 => by
  obtain ⟨g1, g2⟩ := st_sets h.hr zWD (.slice none 0 0) (.slice none 0 0) W8 hW8
  exact ⟨g1, .inr ⟨he, rfl, h.t.trans g2 (fun y hy => .inr (by simp at hy; rw [hy]; exact h.wr))⟩⟩
/-- The answer's State is laid. -/
theorem StMid.fin {w W : World} {b r x B : Nat} {D : WD} {i : InsD} {sa oa : Option Addr} {ns sc no oc : Nat} (h : StMid w W b r x B D i (.slice sa ns sc) (.slice oa no oc)) : ∀ W8, W8 = W.setCells r 0 (stA D (.slice sa ns sc) (.slice oa no oc)).toList → StB W8 r D (.slice sa ns sc) (.slice oa no oc) ∧ StpP w (0, D) (.returned (.tuple #[stV D (.slice sa ns sc) (.slice oa no oc), .int .i64 0])) W8 := fun W8 hW8 => by
  obtain ⟨g1, g2⟩ := st_sets h.hr D (.slice sa ns sc) (.slice oa no oc) W8 hW8
  have hr := h.rB
  have e1 := (own_form h.hs).1
  have e2 := (own_form h.ho).1
  have k1 := ownsRow_touch h.hs g2 (fun g hg hs => by have := own_ge h.hs g hg; simp at hs; omega)
  have k2 := ownsRow_touch h.ho g2 (fun g hg hs => by have := own_ge h.ho g hg; simp at hs; omega)
  have hbB := h.bB
  have hwb := h.wb
  refine ⟨g1, .inl ⟨rfl, sa, sc, oa, oc, ?_, ?_, ?_, h.t.trans g2 (fun y hy => .inr (by simp at hy; rw [hy]; exact h.wr)), ?_, ?_⟩⟩
  · rw [e1, e2]
  · rw [e1]; exact vrow_of k1
  · rw [e2]; exact vrow_of k2
  · rw [e1]; intro g hg; have := own_ge h.hs g hg; omega
  · rw [e2]; intro g hg; have := own_ge h.ho g hg; omega

end Go.Proofs.YtkpgfchglaemgaaDoor

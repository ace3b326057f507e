/-
  package opaque: filled BY ITS CONTRACT.
-/
import Derived.Test.YtjacclbifeoclaaOpqDfs
namespace Go.Proofs.Ytjacclbifeoclaa
set_option linter.unusedVariables false
set_option linter.unusedSimpArgs false
open Go.RowKit Go.Maps
attribute [local go_sem] Oper.semAt_some

/-- What takes one put back, apart from S. -/
structure EntO (w : World) (rb : Nat) (S : List Nat) (s : List Int × List Int) (p q r : Nat) (a1 : Option Addr) (n1 c1 : Nat) (a2 : Option Addr) (n2 c2 : Nat) : Prop where
  op : One w p (.slice a1 n1 c1) 24
  oq : One w q (.slice a2 n2 c2) 23
  or : One w r (ptr rb) 56
  np : p ≠ rb ∧ q ≠ rb ∧ r ≠ rb
  i : IRow w (.slice a1 n1 c1) s.1
  v : VRow w (.slice a2 n2 c2) s.2
  bi : s.1 ≠ [] → (Value.slice a1 n1 c1).ownBlock ≠ some rb
  bv : s.2 ≠ [] → (Value.slice a2 n2 c2).ownBlock ≠ some rb
  sp : p ∉ S ∧ q ∉ S ∧ r ∉ S
  si : s.1 ≠ [] → ∀ g, (Value.slice a1 n1 c1).ownBlock = some g → g ∉ S
  sv : s.2 ≠ [] → ∀ g, (Value.slice a2 n2 c2).ownBlock = some g → g ∉ S
  sl : s.1.length ≤ 1000 ∧ s.2.length ≤ 12
theorem EntO.keep {w w' : World} {rb : Nat} {S R S' : List Nat} {s : List Int × List Int} {p q r : Nat} {a1 : Option Addr} {n1 c1 : Nat} {a2 : Option Addr} {n2 c2 : Nat} (h : EntO w rb S s p q r a1 n1 c1 a2 n2 c2) (t : Touch w w' R) (hR : ∀ x ∈ R, x = rb ∨ x ∈ S) (hS : ∀ x ∈ S', x ∈ S ∨ w.heap.size ≤ x) : EntO w' rb S' s p q r a1 n1 c1 a2 n2 c2 := by
  have hp := lt_of_heap h.op
  have hq := lt_of_heap h.oq
  have hr := lt_of_heap h.or
  refine ⟨One.touch h.op t (fun e => (hR _ e).elim h.np.1 h.sp.1), One.touch h.oq t (fun e => (hR _ e).elim h.np.2.1 h.sp.2.1), One.touch h.or t (fun e => (hR _ e).elim h.np.2.2 h.sp.2.2), h.np,
    SRow.keepB h.i t (fun hl g hg e => (hR _ e).elim (fun e => h.bi hl (e ▸ hg)) (h.si hl g hg)), SRow.keepB h.v t (fun hl g hg e => (hR _ e).elim (fun e => h.bv hl (e ▸ hg)) (h.sv hl g hg)), h.bi, h.bv, ⟨?_, ?_, ?_⟩, ?_, ?_, h.sl⟩
  · intro e; rcases hS _ e with e | e
    · exact h.sp.1 e
    · omega
  · intro e; rcases hS _ e with e | e
    · exact h.sp.2.1 e
    · omega
  · intro e; rcases hS _ e with e | e
    · exact h.sp.2.2 e
    · omega
  · intro hl g hg e
    have := h.i.block hl g hg
    rcases hS _ e with e | e
    · exact h.si hl g hg e
    · omega
  · intro hl g hg e
    have := h.v.block hl g hg
    rcases hS _ e with e | e
    · exact h.sv hl g hg e
    · omega

def StkO (w : World) (rb : Nat) (S : List Nat) : List Value → List (List Int × List Int) → Prop
  | [], [] => True
  | fv :: fs, s :: rs => (∃ p q r a1 n1 c1 a2 n2 c2, fv = .func (.func 71) #[] #[ptr p, ptr q, ptr r] ∧ EntO w rb S s p q r a1 n1 c1 a2 n2 c2) ∧ StkO w rb S fs rs
  | _, _ => False
theorem StkO.keep {w w' : World} {rb : Nat} {S R S' : List Nat} (t : Touch w w' R) (hR : ∀ x ∈ R, x = rb ∨ x ∈ S) (hS : ∀ x ∈ S', x ∈ S ∨ w.heap.size ≤ x) : ∀ {fs : List Value} {rs : List (List Int × List Int)}, StkO w rb S fs rs → StkO w' rb S' fs rs
  | [], [], _ => trivial
  | fv :: fs, s :: rs, h => by
    obtain ⟨⟨p, q, r, a1, n1, c1, a2, n2, c2, e, h1⟩, h2⟩ := h
    exact ⟨⟨p, q, r, a1, n1, c1, a2, n2, c2, e, h1.keep t hR hS⟩, StkO.keep t hR hS h2⟩
  | [], _ :: _, h => h.elim
  | _ :: _, [], h => h.elim
theorem StkO.len {w : World} {rb : Nat} {S : List Nat} : ∀ {fs : List Value} {rs : List (List Int × List Int)}, StkO w rb S fs rs → fs.length = rs.length
  | [], [], _ => rfl
  | _ :: _, _ :: _, h => by have := StkO.len h.2; simp [this]
  | [], _ :: _, h => h.elim
  | _ :: _, [], h => h.elim

/-- The search's state. -/
structure FilO (w0 : World) (rb : Nat) (ve vc vA : Value) (l : List EvD) (com atts : List Int) (W : World) (vp vb vl vh : Value) (S : List Nat) (pl : List Nat) (fvs : List Value) (rs : List (List Int × List Int)) (lf hp : List Int) : Prop where
  row : RowO W rb ve vc vl vh l com lf hp
  plo : intOwn W w0.heap.size vp (pl.map Int.ofNat)
  bk : W.ownsRow w0.heap.size 1 1 vb fvs.length fvs
  eS : S = vp.ownBlock.toList ++ vb.ownBlock.toList
  stk : StkO W rb S fvs.reverse rs
  rS : rb ∉ S
  oe : l ≠ [] → ∀ g, ve.ownBlock = some g → g ∉ S
  oc : com ≠ [] → ∀ g, vc.ownBlock = some g → g ∉ S
  ol : lf ≠ [] → ∀ g, vl.ownBlock = some g → g ∉ S
  oh : hp ≠ [] → ∀ g, vh.ownBlock = some g → g ∉ S
  att : IRow W vA atts
  oa : atts ≠ [] → ∀ g, vA.ownBlock = some g → g ∉ S ∧ g ≠ rb
  t : Touch w0 W [rb]
  lfl : lf.length ≤ 1000
  hpl : hp.length ≤ 12
  fl : fvs.length = pl.length
  inr : ∀ i ∈ pl, i < atts.length
  plk : pl.length ≤ atts.length
theorem FilO.blocks {w0 : World} {rb : Nat} {ve vc vA : Value} {l : List EvD} {com atts : List Int} {W : World} {vp vb vl vh : Value} {S : List Nat} {pl : List Nat} {fvs : List Value} {rs : List (List Int × List Int)} {lf hp : List Int} (h : FilO w0 rb ve vc vA l com atts W vp vb vl vh S pl fvs rs lf hp) : ∀ x ∈ S, w0.heap.size ≤ x ∧ x < W.heap.size := by
  intro x hx
  rw [h.eS] at hx
  rcases List.mem_append.1 hx with hx | hx
  · exact h.plo.lt x (by simpa using hx)
  · exact h.bk.lt x (by simpa using hx)
/-- Only the row is written, and new blocks: another row. -/
theorem FilO.go {w0 : World} {rb : Nat} {ve vc vA : Value} {l : List EvD} {com atts : List Int} {W W' : World} {vp vb vl vh vl' vh' : Value} {S : List Nat} {pl : List Nat} {fvs : List Value} {rs : List (List Int × List Int)} {lf hp lf' hp' : List Int} (h : FilO w0 rb ve vc vA l com atts W vp vb vl vh S pl fvs rs lf hp) (t : Touch W W' [rb])
    (hr : RowO W' rb ve vc vl' vh' l com lf' hp') (o1 : lf' ≠ [] → ∀ g, vl'.ownBlock = some g → g ∉ S) (o2 : hp' ≠ [] → ∀ g, vh'.ownBlock = some g → g ∉ S) (l1 : lf'.length ≤ 1000) (l2 : hp'.length ≤ 12) : FilO w0 rb ve vc vA l com atts W' vp vb vl' vh' S pl fvs rs lf' hp' := by
  have hn : ∀ x ∈ S, x ∉ [rb] := fun x hx e => h.rS (by simp at e; exact e ▸ hx)
  refine ⟨hr, ownsRow_touch h.plo t (fun k hk => hn k (by rw [h.eS]; simp [hk])), ownsRow_touch h.bk t (fun k hk => hn k (by rw [h.eS]; simp [hk])), h.eS, h.stk.keep t (fun x hx => .inl (by simpa using hx)) (fun x hx => .inl hx), h.rS, h.oe, h.oc, o1, o2, SRow.keepB h.att t (fun hl g hg e => (h.oa hl g hg).2 (by simpa using e)), h.oa, h.t.trans t (fun x hx => .inl hx), l1, l2, h.fl, h.inr, h.plk⟩

/-- Whole numbers of a row, as they are read. -/
def plOf (v : Value) (w : World) : List Nat := match v with
  | .slice (some a) n _ => (List.range n).map fun k => match w.cell? (a.add k) with | some (.int _ x) => x.toNat | _ => 0
  | _ => []
theorem plOf_own {w : World} {B : Nat} {v : Value} {pl : List Nat} (h : intOwn w B v (pl.map Int.ofNat)) : plOf v w = pl := by
  rcases h.2 with ⟨rfl, h0⟩ | ⟨g, cap, cur, rfl, _⟩
  · have : pl = [] := List.eq_nil_of_length_eq_zero (by simpa using h0)
    subst this
    rfl
  · unfold plOf
    refine List.ext_getElem (by simp) ?_
    intro k h1 h2
    rw [List.getElem_map, List.getElem_range]
    have hk : k < pl.length := h2
    have := h.cells (g := g) rfl k (.int .i64 (pl[k] : Nat)) (by simp [hk])
    have e : w.cell? (Addr.add ⟨g, 0, none⟩ k) = some (.int .i64 (pl[k] : Nat)) := this
    rw [e]
    simp

/-- One more is put: the places and what takes back grow. -/
theorem FilO.push {w0 : World} {rb : Nat} {ve vc vA : Value} {l : List EvD} {com atts : List Int} {W W1 W5 : World} {vp vb vl vh vl' vh' vp' vb' : Value} {S : List Nat} {pl : List Nat} {fvs : List Value} {rs : List (List Int × List Int)} {lf hp lf' hp' : List Int} {i : Nat} {fv : Value}
    (h : FilO w0 rb ve vc vA l com atts W vp vb vl vh S pl fvs rs lf hp) (h1 : FilO w0 rb ve vc vA l com atts W1 vp vb vl' vh' S pl fvs rs lf' hp') (t01 : Touch W W1 [rb]) (hb : BackO W1 W.heap.size fv rb vl vh) (t : Touch W1 W5 S) (hp1 : intOwn W5 w0.heap.size vp' ((pl ++ [i]).map Int.ofNat)) (hb1 : W5.ownsRow w0.heap.size 1 1 vb' (fvs ++ [fv]).length (fvs ++ [fv]))
    (n1 : ∀ g, vp'.ownBlock = some g → vp.ownBlock = some g ∨ W1.heap.size ≤ g) (n2 : ∀ g, vb'.ownBlock = some g → vb.ownBlock = some g ∨ W1.heap.size ≤ g) (hi : i < atts.length) (hk : pl.length < atts.length) :
    FilO w0 rb ve vc vA l com atts W5 vp' vb' vl' vh' (vp'.ownBlock.toList ++ vb'.ownBlock.toList) (pl ++ [i]) (fvs ++ [fv]) ((lf, hp) :: rs) lf' hp' := by
  have hS' : ∀ x ∈ vp'.ownBlock.toList ++ vb'.ownBlock.toList, x ∈ S ∨ W1.heap.size ≤ x := fun x hx => by
    rw [h.eS]
    rcases List.mem_append.1 hx with hx | hx
    · rcases n1 x (by simpa using hx) with e | e
      · exact .inl (by simp [e])
      · exact .inr e
    · rcases n2 x (by simpa using hx) with e | e
      · exact .inl (by simp [e])
      · exact .inr e
  have hrb := lt_of_heap h1.row.row
  have hrS' : rb ∉ vp'.ownBlock.toList ++ vb'.ownBlock.toList := fun hx => by
    rcases hS' _ hx with e | e
    · exact h.rS e
    · omega
  have off : ∀ {α : Type} {n : Nat} {cells : α → List Value} {v : Value} {xs : List α}, SRow n cells W1 v xs → (xs ≠ [] → ∀ g, v.ownBlock = some g → g ∉ S) → (xs ≠ [] → ∀ g, v.ownBlock = some g → g ∉ vp'.ownBlock.toList ++ vb'.ownBlock.toList) := fun hs ho hl g hg hx => by
    have := hs.block hl g hg
    rcases hS' _ hx with e | e
    · exact ho hl g hg e
    · omega
  have hrow : RowO W5 rb ve vc vl' vh' l com lf' hp' := by
    have r := h1.row
    exact ⟨r.row.touch t h1.rS, r.nl, SRow.keepB r.ev t h1.oe, SRow.keepB r.com t h1.oc, SRow.keepB r.lf t h1.ol, SRow.keepB r.hp t h1.oh, r.ne⟩
  obtain ⟨p, q, r, e, o1, o2, o3, m1, m2, m3, b1, b2, b3⟩ := hb.is
  have hSlt : ∀ x ∈ S, x < W.heap.size := fun x hx => (h.blocks x hx).2
  have hr0 := h.row
  obtain ⟨a1, c1, e1⟩ := hr0.lf.form
  obtain ⟨a2, c2, e2⟩ := hr0.hp.form
  have hent : EntO W1 rb S (lf, hp) p q r a1 lf.length c1 a2 hp.length c2 := by
    rw [e1] at o1
    rw [e2] at o2
    refine ⟨o1, o2, o3, ⟨m1, m2, m3⟩, ?_, ?_, ?_, ?_, ⟨fun x => ?_, fun x => ?_, fun x => ?_⟩, ?_, ?_, h.lfl, h.hpl⟩
    · rw [← e1]; exact SRow.keepB hr0.lf t01 (fun hl g hg => by simp; rintro rfl; exact hr0.nl.1 hl hg)
    · rw [← e2]; exact SRow.keepB hr0.hp t01 (fun hl g hg => by simp; rintro rfl; exact hr0.nl.2 hl hg)
    · rw [← e1]; exact hr0.nl.1
    · rw [← e2]; exact hr0.nl.2
    · have := hSlt _ x; omega
    · have := hSlt _ x; omega
    · have := hSlt _ x; omega
    · rw [← e1]; exact h.ol
    · rw [← e2]; exact h.oh
  refine ⟨hrow, hp1, hb1, rfl, ?_, hrS', off h1.row.ev h1.oe, off h1.row.com h1.oc, off h1.row.lf h1.ol, off h1.row.hp h1.oh, SRow.keepB h1.att t (fun hl g hg => (h1.oa hl g hg).1), fun hl g hg => ⟨off h1.att (fun hl g hg => (h1.oa hl g hg).1) hl g hg, (h1.oa hl g hg).2⟩, ?_, h1.lfl, h1.hpl, by simp [h1.fl], ?_, by simp; omega⟩
  · rw [List.reverse_append, List.reverse_singleton, List.singleton_append]
    refine ⟨⟨p, q, r, a1, _, c1, a2, _, c2, e, hent.keep t (fun x hx => .inr hx) hS'⟩, h1.stk.keep t (fun x hx => .inr hx) hS'⟩
  · exact h1.t.trans t (fun x hx => .inr (h1.blocks x hx).1)
  · intro j hj
    rcases List.mem_append.1 hj with hj | hj
    · exact h1.inr j hj
    · simp at hj; omega

end Go.Proofs.Ytjacclbifeoclaa

/-
  package spec: tried AROUND toEnd; AN OUTCOME AS IT LIES.
-/
import Derived.Test.YtlndbligbpfdpaaSpToEnd
namespace Go.Proofs.Ytlndbligbpfdpaa
set_option linter.unusedVariables false
set_option linter.unusedSimpArgs false
open Go.RowKit
attribute [local go_sem] Oper.semAt_some

/-- A block that is begun. -/
theorem BObj.start {W : World} {b N : Nat} {vp : Value} {D : WD} {h : List Int} {vs vo vh : Value} (o : WObj W b 75 [vh, .slice none 0 0, .slice none 0 0] vs vo vp D) (s : valOwn W 0 vs D.st) (u : valOwn W 0 vo D.out) (hp : valOwn W 0 vh h) (nd : (b :: (ob vs ++ (ob vo ++ ob vh))).Nodup) (hN : N ≤ W.heap.size) :
    BObj W b (N, b :: (ob vs ++ (ob vo ++ ob vh))) vp D h [] [] vs vo vh (.slice none 0 0) (.slice none 0 0) := by
  have hob : ob (.slice none 0 0) = [] := rfl
  simp only [List.nodup_cons, List.mem_append, not_or] at nd
  obtain ⟨⟨n1, n2, n3⟩, n4⟩ := nd
  rw [List.nodup_append] at n4
  obtain ⟨_, n5, n6⟩ := n4
  rw [List.nodup_append] at n5
  have hcase : ∀ i, ∀ x ∈ comp b vs vo vh (.slice none 0 0) (.slice none 0 0) (ftL []) i, (i = 0 ∧ x = b) ∨ (i = 1 ∧ x ∈ ob vs) ∨ (i = 2 ∧ x ∈ ob vo) ∨ (i = 3 ∧ x ∈ ob vh) := by
    intro i x hx
    match i, hx with
    | 0, hx => exact .inl ⟨rfl, by simpa [comp] using hx⟩
    | 1, hx => exact .inr (.inl ⟨rfl, hx⟩)
    | 2, hx => exact .inr (.inr (.inl ⟨rfl, hx⟩))
    | 3, hx => exact .inr (.inr (.inr ⟨rfl, hx⟩))
    | 4, hx => simp [comp, hob] at hx
    | 5, hx => simp [comp, hob] at hx
    | 6, hx => simp [comp, ftL] at hx
    | n + 7, hx => simp [comp] at hx
  refine ⟨o, s, u, hp, World.ownsRow_nil _ _ _ _, World.ownsRow_nil _ _ _ _, fun t ht => (by cases ht), List.Pairwise.nil, ?_, ?_, ?_, hN⟩
  · intro i j hij x hx hx'
    rcases hcase i x hx with ⟨rfl, q⟩ | ⟨rfl, q⟩ | ⟨rfl, q⟩ | ⟨rfl, q⟩ <;> rcases hcase j x hx' with ⟨rfl, r⟩ | ⟨rfl, r⟩ | ⟨rfl, r⟩ | ⟨rfl, r⟩
    · exact hij rfl
    · subst q; exact n1 r
    · subst q; exact n2 r
    · subst q; exact n3 r
    · subst r; exact n1 q
    · exact hij rfl
    · exact n6 x q x (by simp [r]) rfl
    · exact n6 x q x (by simp [r]) rfl
    · subst r; exact n2 q
    · exact n6 x r x (by simp [q]) rfl
    · exact hij rfl
    · exact n5.2.2 x q x r rfl
    · subst r; exact n3 q
    · exact n6 x r x (by simp [q]) rfl
    · exact n5.2.2 x r x q rfl
    · exact hij rfl
  · intro i x hx
    rcases hcase i x hx with ⟨rfl, q⟩ | ⟨rfl, q⟩ | ⟨rfl, q⟩ | ⟨rfl, q⟩
    · subst q; exact o.lt
    · exact own_lt s x (mem_ob.1 q)
    · exact own_lt u x (mem_ob.1 q)
    · exact own_lt hp x (mem_ob.1 q)
  · intro i x hx
    refine .inl ?_
    simp only [List.mem_cons, List.mem_append]
    rcases hcase i x hx with ⟨rfl, q⟩ | ⟨rfl, q⟩ | ⟨rfl, q⟩ | ⟨rfl, q⟩
    · exact .inl q
    · exact .inr (.inl q)
    · exact .inr (.inr (.inl q))
    · exact .inr (.inr (.inr q))
/-- What is changed elsewhere leaves it. -/
theorem BObj.else {w w' : World} {b : Nat} {B : Gd} {vp : Value} {D : WD} {h : List Int} {L : List MkT} {arms : List Bool} {vs vo vh vl va : Value} (k : BObj w b B vp D h L arms vs vo vh vl va) {S : List Nat} (t : Touch w w' S) (hS : ∀ i, ∀ x ∈ comp b vs vo vh vl va (ftL L) i, x ∉ S) : BObj w' b B vp D h L arms vs vo vh vl va :=
  ⟨k.o.touch t (hS 0 b (by simp [comp])), ownsRow_touch k.s t (fun g hg => hS 1 g (mem_ob.2 hg)), ownsRow_touch k.u t (fun g hg => hS 2 g (mem_ob.2 hg)), ownsRow_touch k.hp t (fun g hg => hS 3 g (mem_ob.2 hg)), ownsRow_touch k.lf t (fun g hg => hS 4 g (mem_ob.2 hg)), ownsRow_touch k.ar t (fun g hg => hS 5 g (mem_ob.2 hg)), fun u hu => (k.mks u hu).touch t (fun x hx => hS 6 x (by simp only [comp, ftL]; exact List.mem_flatMap.2 ⟨u, hu, hx⟩)), k.mn, k.ap, fun i x hx => Nat.lt_of_lt_of_le (k.lt i x hx) t.size, k.ge, Nat.le_trans k.hB t.size⟩

/-- An Outcome in a block of its own. -/
structure OutB (w : World) (p : Nat) (c : Array Value) : Prop where
  st : w.heap[p]? = some (.cells c 41 (0, 0))
abbrev outA (kd : Int) (D : WD) (vs vo vh va : Value) (er : Int) : Array Value := #[.int .u8 kd, .int .i64 D.pc, vs, .int .u64 D.l0, .int .u64 D.l1, .int .u64 D.l2, .int .u64 D.l3, vo, vh, va, .int .i64 er]
theorem OutB.touch {w w' : World} {p : Nat} {c : Array Value} {S : List Nat} (h : OutB w p c) (t : Touch w w' S) (hS : p ∉ S) : OutB w' p c := ⟨(t.block p (lt_of_heap h.st) hS).trans h.st⟩
theorem OutB.fr {w : World} {p : Nat} {c : Array Value} (h : OutB w p c) (j : Nat) : w.frozen? ⟨p, j, none⟩ = false := by unfold World.frozen?; rw [h.st]; simp
theorem OutB.cell {w : World} {p : Nat} {c : Array Value} (h : OutB w p c) (j : Nat) : w.cell? ⟨p, j, none⟩ = c[j]? := by unfold World.cell?; rw [h.st]; rfl
abbrev outPut (w : World) (p : Nat) (kd : Int) (D : WD) (vs vo vh va : Value) (er : Int) : World := ((((((((((w.setCell ⟨p, 0, none⟩ (.int .u8 kd)).setCell ⟨p, 1, none⟩ (.int .i64 D.pc)).setCell ⟨p, 2, none⟩ vs).setCell ⟨p, 3, none⟩ (.int .u64 D.l0)).setCell ⟨p, 4, none⟩ (.int .u64 D.l1)).setCell ⟨p, 5, none⟩ (.int .u64 D.l2)).setCell ⟨p, 6, none⟩ (.int .u64 D.l3)).setCell ⟨p, 7, none⟩ vo).setCell ⟨p, 8, none⟩ vh).setCell ⟨p, 9, none⟩ va).setCell ⟨p, 10, none⟩ (.int .i64 er)
theorem OutB.put {w : World} {p : Nat} {kd0 : Int} {D0 : WD} {vs0 vo0 vh0 va0 : Value} {er0 : Int} (h : OutB w p (outA kd0 D0 vs0 vo0 vh0 va0 er0)) (kd : Int) (D : WD) (vs vo vh va : Value) (er : Int) : OutB (outPut w p kd D vs vo vh va er) p (outA kd D vs vo vh va er) :=
  ⟨by
    rw [heap_setCell_same _ _ _ _ _ _ (heap_setCell_same _ _ _ _ _ _ (heap_setCell_same _ _ _ _ _ _ (heap_setCell_same _ _ _ _ _ _ (heap_setCell_same _ _ _ _ _ _ (heap_setCell_same _ _ _ _ _ _ (heap_setCell_same _ _ _ _ _ _ (heap_setCell_same _ _ _ _ _ _ (heap_setCell_same _ _ _ _ _ _ (heap_setCell_same _ _ _ _ _ _ (heap_setCell_same _ _ _ _ _ _ h.st))))))))))]
    simp⟩
theorem outPut_touch (w : World) (p : Nat) (kd : Int) (D : WD) (vs vo vh va : Value) (er : Int) : Touch w (outPut w p kd D vs vo vh va er) [p] := (((((((((((Touch.refl w [p]).setCell (.inl (by simp)) _).setCell (.inl (by simp)) _).setCell (.inl (by simp)) _).setCell (.inl (by simp)) _).setCell (.inl (by simp)) _).setCell (.inl (by simp)) _).setCell (.inl (by simp)) _).setCell (.inl (by simp)) _).setCell (.inl (by simp)) _).setCell (.inl (by simp)) _).setCell (.inl (by simp)) _

abbrev bcell : Bool → List Value := fun x => [Value.bool x]
/-- What Block tells. -/
def outX (l : List InsD) (D : WD) (h : List Int) (f : Int) : Int × BX := endB l ⟨{ D with fuel := fuelW f }, h, [], []⟩
def BlkP (w : World) (r : Int × BX) (D : WD) (h : List Int) (e : Ending) (w' : World) : Prop :=
  (r.1 = 0 ∧ ∃ vs vo vh va, e = .returned (.agg (outA 1 r.2.D vs vo vh va 0)) ∧ VRow w' vs r.2.D.st ∧ VRow w' vo r.2.D.out ∧ VRow w' vh r.2.h ∧ SRow 1 bcell w' va r.2.arms ∧ Touch w w' []) ∨
  (r.1 ≠ 0 ∧ ∃ vs vo vh, e = .returned (.agg (outA (if r.1 = -1 then 2 else 3) D vs vo vh (.slice none 0 0) (if r.1 = -1 then 0 else r.1))) ∧ VRow w' vs D.st ∧ VRow w' vo D.out ∧ VRow w' vh h ∧ Touch w w' [])

/-- tried around toEnd. -/
def TrdP (w : World) (b : Nat) (S : List Nat) (vp : Value) (r : Int × BX) (e : Ending) (w' : World) : Prop :=
  (r.1 = 0 ∧ e = .returned (.tuple #[.int .u8 1, .int .i64 0]) ∧ ∃ L vs vo vh vl va w1, r.2.ms = L.map (fun t => t.1) ∧ BObj w' b (w1, S) vp r.2.D r.2.h L r.2.arms vs vo vh vl va ∧ Touch w w' S ∧ w.heap.size ≤ w1) ∨
  (r.1 ≠ 0 ∧ e = .returned (.tuple #[.int .u8 (if r.1 = -1 then 2 else 3), .int .i64 (if r.1 = -1 then 0 else r.1)]) ∧ Touch w w' S)
theorem trd_any {w : World} {b : Nat} {ap : Option Addr} {cp : Nat} {l : List InsD} {D : WD} {h : List Int} {vs vo vh : Value} (o : WObj w b 75 [vh, .slice none 0 0, .slice none 0 0] vs vo (.slice ap l.length cp) D) (s : valOwn w 0 vs D.st) (u : valOwn w 0 vo D.out) (hp : valOwn w 0 vh h) (nd : (b :: (ob vs ++ (ob vo ++ ob vh))).Nodup)
    (hl : ∀ W, Touch w W (b :: (ob vs ++ (ob vo ++ ob vh))) → InsRow W (.slice ap l.length cp) l) (hll : l.length ≤ 1000) (hlw : ∀ i ∈ l, i.Wf) (hS : SWf D h) (hf : D.fuel ≤ 300) :
    Calls Try.prog 22 #[.func (.func 33) #[.pointer (some ⟨b, 0, none⟩)] #[]] w (TrdP w b (b :: (ob vs ++ (ob vo ++ ob vh))) (.slice ap l.length cp) (endB l ⟨D, h, [], []⟩)) := by
  have hlt : ∀ x ∈ b :: (ob vs ++ (ob vo ++ ob vh)), x < w.heap.size := by
    intro x hx
    simp only [List.mem_cons, List.mem_append] at hx
    rcases hx with rfl | hx | hx | hx
    · exact o.lt
    · exact own_lt s x (mem_ob.1 hx)
    · exact own_lt u x (mem_ob.1 hx)
    · exact own_lt hp x (mem_ob.1 hx)
  have HT : ∀ w1, Touch w w1 [] → w1.heap.size = w.heap.size + 2 → Calls Try.prog 33 (#[.pointer (some ⟨b, 0, none⟩)] ++ #[]) w1 (TEndP w1 (b :: (ob vs ++ (ob vo ++ ob vh))) b (.slice ap l.length cp) (endB l ⟨D, h, [], []⟩)) := fun w1 t1 _ => by
    have k1 := BObj.start (o.touch t1 (by simp)) (ownsRow_touch s t1 (by simp)) (ownsRow_touch u t1 (by simp)) (ownsRow_touch hp t1 (by simp)) nd (Nat.le_refl _)
    exact toEnd_any (w0 := w1) (S0 := b :: (ob vs ++ (ob vo ++ ob vh))) (X := ⟨D, h, [], []⟩) ⟨[], vs, vo, vh, _, _, rfl, k1, Touch.refl _ _⟩ (fun W t => hl W ((t1.mono (by simp)).trans t (fun x hx => .inl hx))) hll hlw ⟨hS, fun m hm => (by cases hm), by simp, by simp⟩ hf
  have hen : ∀ w1, (callFunc 33 (#[.pointer (some ⟨b, 0, none⟩)] ++ #[])).run Try.prog w1 = .ok (.enter 33 (#[.pointer (some ⟨b, 0, none⟩)] ++ #[])) w1 := fun w1 => enter_of Try.func33 (by kernel_rfl) (by kernel_rfl) w1
  generalize endB l ⟨D, h, [], []⟩ = r at *
  by_cases h0 : r.1 = 0
  · refine (triedS_ok _ _ _ 1 w (b :: (ob vs ++ (ob vo ++ ob vh))) hlt (fun w1 w2 => w1.heap.size = w.heap.size + 2 ∧ BAt w1 (b :: (ob vs ++ (ob vo ++ ob vh))) w2 b (.slice ap l.length cp) r.2) hen (fun w1 t1 hs => (HT w1 t1 hs).mono ?_)).mono ?_
    · rintro e w2 (⟨_, rfl, hb⟩ | ⟨h1, _⟩ | ⟨h1, _⟩)
      · refine ⟨rfl, ?_, hs, hb⟩
        obtain ⟨_, _, _, _, _, _, _, _, t⟩ := hb
        exact t
      · omega
      · omega
    · rintro e w' ⟨rfl, w1, w2, t1, t2, ⟨hs, L, vs', vo', vh', vl', va', hL, k, _⟩, t3⟩
      have hap : ∀ i, ∀ x ∈ comp b vs' vo' vh' vl' va' (ftL L) i, x ∉ [w.heap.size, w.heap.size + 1] := by
        intro i x hx hm
        have hg := k.ge i x hx
        simp only [List.mem_cons, List.not_mem_nil, or_false] at hm
        rcases hg with q | q
        · have := hlt x q; omega
        · have q' : w1.heap.size ≤ x := q
          omega
      refine .inl ⟨h0, rfl, L, vs', vo', vh', vl', va', w1.heap.size, hL, k.else t3 hap, ?_, by omega⟩
      exact ((t1.mono (by simp)).trans t2 (fun x hx => .inl hx)).trans t3 (fun x hx => .inr (by simp at hx; omega))
  · by_cases h1 : r.1 = -1
    · refine (triedS_retried _ _ _ w (b :: (ob vs ++ (ob vo ++ ob vh))) hlt (fun _ _ => True) hen (fun w1 t1 hs => (HT w1 t1 hs).mono ?_)).mono ?_
      · rintro e w2 (⟨h2, _⟩ | ⟨_, rfl, t⟩ | ⟨h2, _⟩)
        · omega
        · exact ⟨rfl, t, trivial⟩
        · omega
      · rintro e w' ⟨rfl, w1, w2, t1, t2, _, t3⟩
        refine .inr ⟨h0, by rw [if_pos h1, if_pos h1], ?_⟩
        exact ((t1.mono (by simp)).trans t2 (fun x hx => .inl hx)).trans t3 (fun x hx => .inr (by simp at hx; omega))
    · refine (triedS_stuck _ _ _ r.1 w (b :: (ob vs ++ (ob vo ++ ob vh))) hlt (fun _ _ => True) hen (fun w1 t1 hs => (HT w1 t1 hs).mono ?_)).mono ?_
      · rintro e w2 (⟨h2, _⟩ | ⟨h2, _⟩ | ⟨_, rfl, t⟩)
        · omega
        · omega
        · exact ⟨rfl, t, trivial⟩
      · rintro e w' ⟨rfl, w1, w2, t1, t2, _, t3⟩
        refine .inr ⟨h0, by rw [if_neg h1, if_neg h1], ?_⟩
        exact ((t1.mono (by simp)).trans t2 (fun x hx => .inl hx)).trans t3 (fun x hx => .inr (by simp at hx; omega))

end Go.Proofs.Ytlndbligbpfdpaa

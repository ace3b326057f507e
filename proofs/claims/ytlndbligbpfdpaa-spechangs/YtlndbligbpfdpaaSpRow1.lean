/-
  ROWS OF ONE CELL EACH: one more. No walk.
-/
import Derived.Test.YtlndbligbpfdpaaSpRetry
namespace Go.Proofs.Ytlndbligbpfdpaa
set_option linter.unusedVariables false
set_option linter.unusedSimpArgs false
open Go.RowKit

theorem flat_self (l : List Value) : l.flatMap (fun v => [v]) = l := by induction l with
  | nil => rfl
  | cons x l ih => rw [List.flatMap_cons, ih]; rfl
theorem row1_push {P : Program} {w : World} {B : Nat} (t e : TypeId) {z : Value} {bytes : Nat} (ht : P.underlying t = some (.slice e)) (hinfo : (P.info? e).map (fun i => (i.zero, i.size, i.bytes)) = some (some z, 1, bytes)) (hzs : z.cells.size = 1) (hbp : 0 < bytes) (hbu : bytes ≤ 16) {v : Value} {n : Nat} {xs : List Value} (h : w.ownsRow B e 1 v n xs) (hn : n ≤ 1000) (hB : B ≤ w.heap.size) (x : Value) (hx : x.oneCell' = true) (ty : TypeId) :
    ∃ ao' cap' w', (Builtin.append_ #[t, t] ty #[v, .slice (some ⟨w.heap.size, 0, none⟩) 1 1]).run P (w.alloc (.cells #[x] e)) = .ok (.slice ao' (n + 1) cap') w' ∧ w'.ownsRow B e 1 (.slice ao' (n + 1) cap') (n + 1) (xs ++ [x]) ∧ Touch w w' v.ownBlock.toList ∧ (∀ g, (Value.slice ao' (n + 1) cap').ownBlock = some g → v.ownBlock = some g ∨ w.heap.size ≤ g) := by
  obtain ⟨i0, hi, hz0, hz1, hz2⟩ := info_partsE hinfo
  have T1 : Touch w (w.alloc (.cells #[x] e)) [] := (Touch.refl w []).alloc _
  have hr : SRow 1 (fun v : {y : Value // y.oneCell' = true} => [v.1]) (w.alloc (.cells #[x] e)) (.slice (some ⟨w.heap.size, 0, none⟩) [(⟨x, hx⟩ : {y : Value // y.oneCell' = true})].length 1) [⟨x, hx⟩] := by
    refine ⟨_, 1, rfl, fun _ => ⟨w.heap.size, 0, rfl, by simp, fun k hk j hj => ?_⟩⟩
    have hk0 : k = 0 := by simpa using hk
    have hj0 : j = 0 := by omega
    subst hk0 hj0
    have h0 := heap_alloc_new w (.cells #[x] e)
    unfold World.cell?
    simp only [h0]
    rfl
  obtain ⟨v', w', h1, h2, h3, h4⟩ := run_app (P := P) (cells := fun v : {y : Value // y.oneCell' = true} => [v.1]) t ty e i0 z 1 bytes ht hi hz0 hz1 hz2 hzs (by decide) (fun _ => rfl) (fun y u hu => by
    rw [List.mem_singleton.1 hu]; exact y.2) (ownsRow_touch h T1 (by simp)) hr (by
      simp only [List.length_cons, List.length_nil]
      have : (n + (0 + 1)) * bytes ≤ (n + (0 + 1)) * 16 := Nat.mul_le_mul_left _ hbu
      omega) hbp (by simp; omega)
  obtain ⟨ao', cap', rfl⟩ := owns_slice h2
  refine ⟨ao', cap', w', h1, h2, (T1.mono (by simp)).grown h3 (fun k hk => .inl (by simp [hk])), ?_⟩
  intro g hg
  rcases h4 with h4 | h4
  · left; rw [← h4]; exact hg
  · right
    have h5 : (Value.slice ao' (n + 1) cap').ownBlock = some (w.alloc (.cells #[x] e)).heap.size := h4
    rw [h5] at hg
    simp at hg
    omega
theorem Try.info_fun : (Try.prog.info? 1).map (fun i => (i.zero, i.size, i.bytes)) = some (some .nilFunc, 1, 8) := by kernel_rfl
theorem Try.info_bool : (Try.prog.info? 4).map (fun i => (i.zero, i.size, i.bytes)) = some (some (.bool false), 1, 1) := by kernel_rfl

/-! ### What is made ahead of a left arm, piece by piece -/
abbrev zWD : WD := ⟨0, [], 0, 0, 0, 0, [], 0⟩
def cB : Option (Value × Value) → List Nat
  | none => []
  | some p => ob p.1 ++ ob p.2
def dB : Option Value → List Nat
  | none => []
  | some v => ob v
def accF (s h : Option Nat) (c : Option (Value × Value)) (d : Option Value) : List Nat := s.toList ++ (h.toList ++ (cB c ++ dB d))
structure MkA (Q W : World) (D : WD) (H : List Int) (s h : Option Nat) (c : Option (Value × Value)) (d : Option Value) : Prop where
  t : Touch Q W []
  sb : ∀ x, s = some x → StB W x zWD (.slice none 0 0) (.slice none 0 0)
  hb : ∀ x, h = some x → W.heap[x]? = some (.cells #[.slice none 0 0] 23 (0, 0))
  co : ∀ p, c = some p → valOwn W Q.heap.size p.1 D.st ∧ valOwn W Q.heap.size p.2 D.out
  dd : ∀ v, d = some v → valOwn W Q.heap.size v H
  nd : (accF s h c d).Nodup
  lt : ∀ x ∈ accF s h c d, Q.heap.size ≤ x ∧ x < W.heap.size
theorem MkA.touch {Q W W' : World} {D : WD} {H : List Int} {s h : Option Nat} {c : Option (Value × Value)} {d : Option Value} (k : MkA Q W D H s h c d) (t : Touch W W' []) : MkA Q W' D H s h c d :=
  ⟨k.t.trans t (by simp), fun x hx => (k.sb x hx).touch t (by simp), fun x hx => (t.block x (lt_of_heap (k.hb x hx)) (by simp)).trans (k.hb x hx), fun p hp => ⟨ownsRow_touch (k.co p hp).1 t (by simp), ownsRow_touch (k.co p hp).2 t (by simp)⟩, fun v hv => ownsRow_touch (k.dd v hv) t (by simp), k.nd, fun x hx => ⟨(k.lt x hx).1, Nat.lt_of_lt_of_le (k.lt x hx).2 t.size⟩⟩
theorem MkA.zero (Q W : World) (D : WD) (H : List Int) (t : Touch Q W []) : MkA Q W D H none none none none :=
  ⟨t, fun x hx => (by cases hx), fun x hx => (by cases hx), fun x hx => (by cases hx), fun x hx => (by cases hx), by simp [accF, cB, dB], fun x hx => by simp [accF, cB, dB] at hx⟩
theorem nodup_add {A N C : List Nat} {m : Nat} (h : (A ++ C).Nodup) (hN : N.Nodup) (hl : ∀ x ∈ A ++ C, x < m) (hm : ∀ x ∈ N, m ≤ x) : (A ++ (N ++ C)).Nodup := by
  rw [List.nodup_append] at h ⊢
  obtain ⟨h1, h2, h3⟩ := h
  refine ⟨h1, ?_, ?_⟩
  · rw [List.nodup_append]
    exact ⟨hN, h2, fun a ha b hb e => by have := hm a ha; have := hl b (by simp [hb]); omega⟩
  · intro a ha b hb e
    rcases List.mem_append.1 hb with hb | hb
    · have := hm b hb; have := hl a (by simp [ha]); omega
    · exact h3 a ha b hb e
theorem MkA.allocS {Q W : World} {D : WD} {H : List Int} {h : Option Nat} {c : Option (Value × Value)} {d : Option Value} (k : MkA Q W D H none h c d) : MkA Q (W.alloc (.cells #[.int .i64 0, .slice none 0 0, .int .u64 0, .int .u64 0, .int .u64 0, .int .u64 0, .slice none 0 0] 28)) D H (some W.heap.size) h c d := by
  have t : Touch W (W.alloc (.cells #[.int .i64 0, .slice none 0 0, .int .u64 0, .int .u64 0, .int .u64 0, .int .u64 0, .slice none 0 0] 28)) [] := (Touch.refl W []).alloc _
  have k' := k.touch t
  have hs : (W.alloc (.cells #[.int .i64 0, .slice none 0 0, .int .u64 0, .int .u64 0, .int .u64 0, .int .u64 0, .slice none 0 0] 28)).heap.size = W.heap.size + 1 := by simp
  refine ⟨k'.t, fun x hx => ?_, k'.hb, k'.co, k'.dd, ?_, ?_⟩
  · simp only [Option.some.injEq] at hx; subst hx; exact ⟨heap_alloc_new W _⟩
  · exact nodup_add (A := []) (m := W.heap.size) (N := [W.heap.size]) (C := h.toList ++ (cB c ++ dB d)) (by have := k.nd; simpa [accF] using this) (by simp) (fun x hx => (k.lt x (by simpa [accF] using hx)).2) (by simp)
  · intro x hx
    have hx' : x = W.heap.size ∨ x ∈ accF none h c d := by simpa [accF] using hx
    rw [hs]
    rcases hx' with rfl | hx'
    · exact ⟨k.t.size, by omega⟩
    · have := k.lt x hx'; omega
theorem MkA.allocH {Q W : World} {D : WD} {H : List Int} {s : Option Nat} {c : Option (Value × Value)} {d : Option Value} (k : MkA Q W D H s none c d) : MkA Q (W.alloc (.cells #[.slice none 0 0] 23)) D H s (some W.heap.size) c d := by
  have t : Touch W (W.alloc (.cells #[.slice none 0 0] 23)) [] := (Touch.refl W []).alloc _
  have k' := k.touch t
  have hs : (W.alloc (.cells #[.slice none 0 0] 23)).heap.size = W.heap.size + 1 := by simp
  refine ⟨k'.t, k'.sb, fun x hx => ?_, k'.co, k'.dd, ?_, ?_⟩
  · simp only [Option.some.injEq] at hx; subst hx; exact heap_alloc_new W _
  · exact nodup_add (A := s.toList) (m := W.heap.size) (N := [W.heap.size]) (C := cB c ++ dB d) (by have := k.nd; simpa [accF] using this) (by simp) (fun x hx => (k.lt x (by simpa [accF] using hx)).2) (by simp)
  · intro x hx
    have hx' : x = W.heap.size ∨ x ∈ accF s none c d := by
      simp only [accF, List.mem_append, Option.toList_some, Option.toList_none, List.mem_singleton, List.not_mem_nil] at hx ⊢
      rcases hx with q | q | q
      · exact .inr (.inl q)
      · exact .inl q
      · exact .inr (.inr (.inr q))
    rw [hs]
    rcases hx' with rfl | hx'
    · exact ⟨k.t.size, by omega⟩
    · have := k.lt x hx'; omega
theorem ob_nodup (v : Value) : (ob v).Nodup := by
  unfold ob
  cases v.ownBlock with
  | none => simp
  | some g => simp
theorem MkA.callC {Q W w' : World} {D : WD} {H : List Int} {s h : Option Nat} {d : Option Value} (k : MkA Q W D H s h none d) {e : Ending} (hc : CopP W D e w') : ∃ sa sc oa oc, e = .returned (stV D (.slice sa D.st.length sc) (.slice oa D.out.length oc)) ∧ MkA Q w' D H s h (some (.slice sa D.st.length sc, .slice oa D.out.length oc)) d ∧ Touch W w' [] := by
  obtain ⟨vs, vo, rfl, o1, o2, n1, t⟩ := hc
  obtain ⟨sa, sc, rfl⟩ := owns_slice o1
  obtain ⟨oa, oc, rfl⟩ := owns_slice o2
  have k' := k.touch t
  have hq := k.t.size
  refine ⟨sa, sc, oa, oc, rfl, ⟨k'.t, k'.sb, k'.hb, fun p hp => ?_, k'.dd, ?_, ?_⟩, t⟩
  · simp only [Option.some.injEq] at hp; subst hp; exact ⟨own_base o1 hq, own_base o2 hq⟩
  · have := nodup_add (A := s.toList ++ h.toList) (m := W.heap.size) (N := ob (.slice sa D.st.length sc) ++ ob (.slice oa D.out.length oc)) (C := dB d) (by have := k.nd; simpa [accF, cB] using this) (by
      rw [List.nodup_append]
      exact ⟨ob_nodup _, ob_nodup _, fun a ha b hb e => n1 a (mem_ob.1 ha) (by rw [e]; exact mem_ob.1 hb)⟩) (fun x hx => (k.lt x (by simpa [accF, cB] using hx)).2) (fun x hx => by
        rcases List.mem_append.1 hx with q | q
        · exact own_ge o1 x (mem_ob.1 q)
        · exact own_ge o2 x (mem_ob.1 q))
    simpa [accF, cB] using this
  · intro x hx
    have hx' : x ∈ ob (.slice sa D.st.length sc) ∨ x ∈ ob (.slice oa D.out.length oc) ∨ x ∈ accF s h none d := by
      simp only [accF, cB, List.mem_append, List.not_mem_nil] at hx ⊢
      rcases hx with q | q | (q | q) | q
      · exact .inr (.inr (.inl q))
      · exact .inr (.inr (.inr (.inl q)))
      · exact .inl q
      · exact .inr (.inl q)
      · exact .inr (.inr (.inr (.inr (.inr q))))
    rcases hx' with q | q | q
    · exact ⟨Nat.le_trans hq (own_ge o1 x (mem_ob.1 q)), own_lt o1 x (mem_ob.1 q)⟩
    · exact ⟨Nat.le_trans hq (own_ge o2 x (mem_ob.1 q)), own_lt o2 x (mem_ob.1 q)⟩
    · have := k'.lt x q; exact this
theorem MkA.callD {Q W w' : World} {D : WD} {H : List Int} {s h : Option Nat} {c : Option (Value × Value)} (k : MkA Q W D H s h c none) {e : Ending} (hc : PushP W H e w') : ∃ ha hc, e = .returned (.slice ha H.length hc) ∧ MkA Q w' D H s h c (some (.slice ha H.length hc)) ∧ Touch W w' [] := by
  obtain ⟨v, rfl, o1, t⟩ := hc
  obtain ⟨ha, hc, rfl⟩ := owns_slice o1
  have k' := k.touch t
  have hq := k.t.size
  refine ⟨ha, hc, rfl, ⟨k'.t, k'.sb, k'.hb, k'.co, fun p hp => ?_, ?_, ?_⟩, t⟩
  · simp only [Option.some.injEq] at hp; subst hp; exact own_base o1 hq
  · have := nodup_add (A := s.toList ++ (h.toList ++ cB c)) (m := W.heap.size) (N := ob (.slice ha H.length hc)) (C := []) (by have := k.nd; simpa [accF, dB] using this) (ob_nodup _) (fun x hx => (k.lt x (by simpa [accF, dB] using hx)).2) (fun x hx => own_ge o1 x (mem_ob.1 hx))
    simpa [accF, dB] using this
  · intro x hx
    have hx' : x ∈ ob (.slice ha H.length hc) ∨ x ∈ accF s h c none := by
      simp only [accF, dB, List.mem_append, List.not_mem_nil] at hx ⊢
      rcases hx with q | q | q | q
      · exact .inr (.inl q)
      · exact .inr (.inr (.inl q))
      · exact .inr (.inr (.inr (.inl q)))
      · exact .inl q
    rcases hx' with q | q
    · exact ⟨Nat.le_trans hq (own_ge o1 x (mem_ob.1 q)), own_lt o1 x (mem_ob.1 q)⟩
    · have := k'.lt x q; exact this

end Go.Proofs.Ytlndbligbpfdpaa

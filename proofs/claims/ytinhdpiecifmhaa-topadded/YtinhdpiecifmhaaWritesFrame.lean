/-
  package writes: FRAMES AS PLAIN DATA, and the map that is one. No walk.
-/
import Derived.Test.YtinhdpiecifmhaaReadsVal
import Derived.Test.YtinhdpiecifmhaaRangeGen
import Derived.Maps.OwnSet
import Derived.Maps.OwnIn
import Derived.Maps.Ext
import Derived.Lib.SlMapMerge
namespace Go.Proofs.Ytinhdpiecifmhaa
set_option linter.unusedVariables false
set_option linter.unusedSimpArgs false
open Go.RowKit Go.Maps

/-- A frame: of each of the twelve variables its value, or none. -/
abbrev Fr := List (Option Int)
def fget (f : Fr) (t : Int) : Option Int := if 0 ≤ t then f.getD t.toNat none else none
def fput (f : Fr) (t v : Int) : Fr := f.set t.toNat (some v)
/-- f above g. -/
def fover (f g : Fr) : Fr := List.zipWith Option.or f g
def fcnt (f : Fr) : Nat := (f.filter Option.isSome).length
def f0 : Fr := List.replicate 12 none
structure FrOk (f : Fr) : Prop where
  len : f.length = 12
  wf : ∀ v, some v ∈ f → Wf64 v

theorem FrOk.f0 : FrOk f0 := ⟨by simp [Go.Proofs.Ytinhdpiecifmhaa.f0], by intro v h; simp [Go.Proofs.Ytinhdpiecifmhaa.f0] at h⟩
theorem FrOk.put {f : Fr} (h : FrOk f) {t v : Int} (hv : Wf64 v) : FrOk (fput f t v) :=
  ⟨by simp [fput, h.len], fun u hu => by
    rcases List.mem_or_eq_of_mem_set hu with h1 | h1
    · exact h.wf u h1
    · cases h1; exact hv⟩
theorem FrOk.over {f g : Fr} (h : FrOk f) (k : FrOk g) : FrOk (fover f g) :=
  ⟨by simp [fover, h.len, k.len], fun u hu => by
    obtain ⟨i, hi, e⟩ := List.getElem_of_mem hu
    simp only [fover, List.getElem_zipWith] at e
    simp only [fover, List.length_zipWith] at hi
    cases hf : f[i] with
    | none => rw [hf] at e; exact k.wf u (by simp at e; rw [← e]; exact List.getElem_mem _)
    | some v => rw [hf] at e; simp at e; subst e; exact h.wf _ (by rw [← hf]; exact List.getElem_mem _)⟩
theorem fcnt_le {f : Fr} (h : FrOk f) : fcnt f ≤ 12 := by
  have := List.length_filter_le Option.isSome f
  rw [h.len] at this
  exact this
theorem fget_wf {f : Fr} (h : FrOk f) {t v : Int} (hg : fget f t = some v) : Wf64 v := by
  unfold fget at hg
  split at hg
  · refine h.wf v ?_
    rw [List.getD_eq_getElem?_getD] at hg
    cases hq : f[t.toNat]? with
    | none => rw [hq] at hg; cases hg
    | some o => rw [hq] at hg; simp at hg; subst hg; exact List.mem_of_getElem? hq
  · cases hg
theorem fget_range {f : Fr} (h : FrOk f) {t v : Int} (hg : fget f t = some v) : 0 ≤ t ∧ t < 12 := by
  unfold fget at hg
  split at hg
  · rename_i h0
    refine ⟨h0, ?_⟩
    rw [List.getD_eq_getElem?_getD] at hg
    cases hq : f[t.toNat]? with
    | none => rw [hq] at hg; cases hg
    | some o => have := (List.getElem?_eq_some_iff.1 hq).1; rw [h.len] at this; omega
  · cases hg
theorem fget_put {f : Fr} (h : FrOk f) {t : Int} (ht : 0 ≤ t ∧ t < 12) (v s : Int) : fget (fput f t v) s = if s = t then some v else fget f s := by
  unfold fget fput
  by_cases h0 : 0 ≤ s
  · rw [if_pos h0, if_pos h0, List.getD_eq_getElem?_getD, List.getD_eq_getElem?_getD, List.getElem?_set]
    by_cases e : s = t
    · subst e; rw [if_pos rfl, if_pos (by rw [h.len]; omega), if_pos rfl]; rfl
    · rw [if_neg (by omega), if_neg e]
  · rw [if_neg h0, if_neg h0, if_neg (by omega)]
theorem fget_over {f g : Fr} (h : FrOk f) (k : FrOk g) (s : Int) : fget (fover f g) s = (fget f s).or (fget g s) := by
  unfold fget fover
  by_cases h0 : 0 ≤ s
  · rw [if_pos h0, if_pos h0, if_pos h0, List.getD_eq_getElem?_getD, List.getD_eq_getElem?_getD, List.getD_eq_getElem?_getD, List.getElem?_zipWith]
    by_cases hs : s.toNat < 12
    · rw [List.getElem?_eq_getElem (by rw [h.len]; exact hs), List.getElem?_eq_getElem (by rw [k.len]; exact hs)]; rfl
    · rw [List.getElem?_eq_none (by rw [h.len]; omega), List.getElem?_eq_none (by rw [k.len]; omega)]; rfl
  · rw [if_neg h0, if_neg h0, if_neg h0]; rfl
theorem fget_f0 (s : Int) : fget f0 s = none := by
  unfold fget f0
  split
  · rw [List.getD_eq_getElem?_getD, List.getElem?_replicate]; split <;> rfl
  · rfl

/-- The map's entries from a place on. -/
def entsF : Nat → Fr → List (Lit × DataW Unit)
  | _, [] => []
  | k, none :: l => entsF (k + 1) l
  | k, some v :: l => (.int .i64 k, .lit (.int .u64 v)) :: entsF (k + 1) l
def frameD (f : Fr) : DataW Unit := .map (entsF 0 f)

theorem entsF_mem : ∀ (l : Fr) (k : Nat) (p), p ∈ entsF k l → ∃ i : Nat, k ≤ i ∧ p.1 = .int .i64 i
  | [], _, _, h => by simp [entsF] at h
  | none :: l, k, p, h => by obtain ⟨i, hi, e⟩ := entsF_mem l (k + 1) p h; exact ⟨i, by omega, e⟩
  | some v :: l, k, p, h => by
    simp only [entsF, List.mem_cons] at h
    rcases h with rfl | h
    · exact ⟨k, Nat.le_refl _, rfl⟩
    · obtain ⟨i, hi, e⟩ := entsF_mem l (k + 1) p h; exact ⟨i, by omega, e⟩

theorem entsF_len : ∀ (l : Fr) (k : Nat), (entsF k l).length = fcnt l
  | [], _ => rfl
  | none :: l, k => by rw [entsF, entsF_len l]; simp [fcnt]
  | some v :: l, k => by rw [entsF, List.length_cons, entsF_len l]; simp [fcnt]

theorem entsF_rises : ∀ (l : Fr) (k : Nat), (entsF k l).Pairwise (fun p q => p.1.before q.1 = true)
  | [], _ => List.Pairwise.nil
  | none :: l, k => entsF_rises l (k + 1)
  | some v :: l, k => by
    rw [entsF, List.pairwise_cons]
    refine ⟨fun p hp => ?_, entsF_rises l (k + 1)⟩
    obtain ⟨i, hi, e⟩ := entsF_mem l (k + 1) p hp
    rw [e]
    simp only [Lit.before, decide_eq_true_eq]
    omega

theorem canon_frame (f : Fr) : Canon (frameD f) := ⟨_, rfl, entsF_rises f 0, fun p hp => by
  obtain ⟨i, _, e⟩ := entsF_mem f 0 p hp
  rw [e]; trivial⟩
theorem isMap_frame (f : Fr) : IsMap (frameD f) := ⟨_, rfl⟩
theorem size_frame (f : Fr) : Maps.size (frameD f) = fcnt f := entsF_len f 0
theorem apart_frame (f : Fr) : (entsF 0 f).Pairwise (fun p q => p.1 ≠ q.1) := apart_of_rising (entsF_rises f 0)

/-- What a key says. -/
def fkey (k : Nat) (l : Fr) : Lit → Option Int
  | .int .i64 t => if (k : Int) ≤ t then l.getD (t - k).toNat none else none
  | _ => none

theorem find_ents : ∀ (l : Fr) (k : Nat) (x : Lit), (entsF k l).find? (fun p => p.1.sameKey x) = (fkey k l x).map fun v => (x, .lit (.int .u64 v))
  | [], k, x => by
    have : fkey k [] x = none := by
      unfold fkey
      split
      · split <;> simp
      · rfl
    rw [this]; rfl
  | o :: l, k, x => by
    have ih := find_ents l (k + 1) x
    have hk : x ≠ .int .i64 k → fkey k (o :: l) x = fkey (k + 1) l x := by
      intro hx
      unfold fkey
      split
      · rename_i t
        have ht : t ≠ k := fun e => hx (by rw [e])
        by_cases h1 : (k : Int) ≤ t
        · have h2 : ((k + 1 : Nat) : Int) ≤ t := by omega
          rw [if_pos h1, if_pos h2]
          have e : (t - k).toNat = (t - (k + 1 : Nat)).toNat + 1 := by omega
          rw [e, List.getD_cons_succ]
        · rw [if_neg h1, if_neg (by omega)]
      · rfl
    by_cases hx : x = .int .i64 k
    · have he : fkey k (o :: l) x = o := by
        subst hx
        unfold fkey
        simp
      have hn : fkey (k + 1) l x = none := by
        subst hx
        show (if ((k + 1 : Nat) : Int) ≤ (k : Int) then _ else none) = none
        rw [if_neg (by omega)]
      rw [he]
      cases o with
      | none => rw [entsF, ih, hn]
      | some v => rw [entsF, List.find?_cons_of_pos (by rw [hx]; exact WideAt.sameKey_self trivial), hx]; rfl
    · rw [hk hx, ← ih]
      cases o with
      | none => rw [entsF]
      | some v => rw [entsF, List.find?_cons_of_neg (by rw [sameKey_ne (Ne.symm hx)]; simp)]

theorem fkey_int (f : Fr) (t : Int) : fkey 0 f (.int .i64 t) = fget f t := by
  unfold fkey fget
  simp

theorem has_frame (f : Fr) (x : Lit) : has (frameD f) x = (fkey 0 f x).isSome := by
  unfold frameD
  rw [has_eq]
  have := find_ents f 0 x
  cases hq : fkey 0 f x with
  | none => rw [hq] at this; rw [List.any_eq_false.2 (fun p hp => by simpa using List.find?_eq_none.1 this p hp)]; rfl
  | some v => rw [hq] at this; exact List.any_eq_true.2 ⟨_, List.mem_of_find?_eq_some this, List.find?_some (p := fun (q : Lit × DataW Unit) => q.1.sameKey x) this⟩

theorem at_frame (f : Fr) (x : Lit) (z : DataW Unit) : (frameD f).atKey x z = match fkey 0 f x with | some v => .lit (.int .u64 v) | none => z := by
  unfold frameD DataW.atKey
  simp only
  rw [find_ents f 0 x]
  cases fkey 0 f x <;> rfl

theorem fkey_put_same {f : Fr} (h : FrOk f) {t : Int} (ht : 0 ≤ t ∧ t < 12) (v : Int) : fkey 0 (fput f t v) (.int .i64 t) = some v := by
  rw [fkey_int, fget_put h ht, if_pos rfl]
theorem fkey_put_other {f : Fr} (h : FrOk f) {t : Int} (ht : 0 ≤ t ∧ t < 12) (v : Int) {x : Lit} (e : x ≠ .int .i64 t) : fkey 0 (fput f t v) x = fkey 0 f x := by
  by_cases hx : ∃ s, x = .int .i64 s
  · obtain ⟨s, rfl⟩ := hx
    rw [fkey_int, fkey_int, fget_put h ht, if_neg (fun hs => e (by rw [hs]))]
  · unfold fkey
    split
    · exact absurd ⟨_, rfl⟩ hx
    · rfl

theorem fkey_over {f g : Fr} (h : FrOk f) (k : FrOk g) (x : Lit) : fkey 0 (fover f g) x = (fkey 0 f x).or (fkey 0 g x) := by
  by_cases hx : ∃ s, x = .int .i64 s
  · obtain ⟨s, rfl⟩ := hx
    rw [fkey_int, fkey_int, fkey_int, fget_over h k]
  · unfold fkey
    split
    · exact absurd ⟨_, rfl⟩ hx
    · rfl

theorem frame_put {f : Fr} (h : FrOk f) {t : Int} (ht : 0 ≤ t ∧ t < 12) (v : Int) (c : Canon ((frameD f).put (.int .i64 t) (.lit (.int .u64 v)))) :
    (frameD f).put (.int .i64 t) (.lit (.int .u64 v)) = frameD (fput f t v) := by
  refine Maps.ext c (canon_frame _) (fun x => ?_) (fun x z _ => ?_)
  · rw [has_frame]
    by_cases e : x = .int .i64 t
    · subst e; rw [has_put_same (isMap_frame f) (by trivial), fkey_put_same h ht]; rfl
    · rw [has_put_other e, has_frame, fkey_put_other h ht v e]
  · rw [at_frame]
    by_cases e : x = .int .i64 t
    · subst e; rw [atKey_put_same (isMap_frame f) (by trivial), fkey_put_same h ht]
    · rw [atKey_put_other e, at_frame, fkey_put_other h ht v e]

theorem frame_over {f g : Fr} (h : FrOk f) (k : FrOk g) (c : Canon (Lib.mergeD (frameD g) (frameD f))) : Lib.mergeD (frameD g) (frameD f) = frameD (fover f g) := by
  have kl : ∀ p ∈ entsF 0 f, WideAt.IsKeyLit p.1 := fun p hp => by obtain ⟨i, _, e⟩ := entsF_mem f 0 p hp; rw [e]; trivial
  refine Maps.ext c (canon_frame _) (fun x => ?_) (fun x z _ => ?_)
  · rw [has_frame, fkey_over h k]
    have e : has (Lib.mergeD (frameD g) (frameD f)) x = (has (frameD g) x || has (frameD f) x) := has_foldPut x (entsF 0 f) (frameD g) (isMap_frame g) kl
    rw [e, has_frame, has_frame]
    cases fkey 0 f x <;> cases fkey 0 g x <;> rfl
  · rw [at_frame, fkey_over h k]
    have e : Lib.mergeD (frameD g) (frameD f) = (entsF 0 f).foldl (fun D p => D.put p.1 p.2) (frameD g) := rfl
    rw [e, atKey_foldPut x z (entsF 0 f) (frameD g) (isMap_frame g) kl (apart_frame f), find_ents f 0 x, at_frame]
    cases fkey 0 f x <;> rfl

theorem frame_zero : frameD f0 = .map [] := rfl

/-- A block is a frame. -/
structure FrAt (w : World) (m : Nat) (f : Fr) : Prop where
  own : w.ownsMap Try.prog 3 (plainElem (H := Unit) Try.prog 26) m 12 (frameD f)
  ok : FrOk f

theorem owns_tight {w : World} {P : Program} {k : TypeId} {R : Value → Option (DataW Unit × List MemPlace)} {b n : Nat} {D : DataW Unit} (h : w.ownsMap P k R b n D) : w.ownsMap P k R b (Maps.size D) D := by
  obtain ⟨es, clock, hb, F, hs, rfl⟩ := h
  exact ⟨es, clock, hb, F, by simp [Maps.size, length_sorted], rfl⟩

theorem Try.keyed : Keyed Try.prog 3 := int_keyed Try.underlying3
theorem Try.keyI {t : Int} (h : -9223372036854775808 ≤ t ∧ t ≤ 9223372036854775807) : keyOf Try.prog 3 (.int .i64 t) = some (.int .i64 t) :=
  keyOf_int_mk Try.underlying3 (by simp [Lit.wf, IntKind.min, IntKind.max, IntKind.signed, IntKind.bits]; omega)

theorem FrAt.mk' {w : World} {m n : Nat} {f : Fr} (h : w.ownsMap Try.prog 3 (plainElem (H := Unit) Try.prog 26) m n (frameD f)) (ok : FrOk f) : FrAt w m f :=
  ⟨(owns_tight h).mono (by rw [size_frame]; exact fcnt_le ok), ok⟩

theorem FrAt.touch {w w' : World} {m : Nat} {f : Fr} {S : List Nat} (h : FrAt w m f) (t : Touch w w' S) (hS : m ∉ S) : FrAt w' m f := by
  obtain ⟨⟨es, clock, hb, rest⟩, ok⟩ := h
  exact ⟨⟨es, clock, (t.block _ (lt_of_heap hb) hS).trans hb, rest⟩, ok⟩

theorem FrAt.lt {w : World} {m : Nat} {f : Fr} (h : FrAt w m f) : m < w.heap.size := h.own.lt
theorem FrAt.isMap {w : World} {m : Nat} {f : Fr} (h : FrAt w m f) : ∃ es c, w.heap[m]? = some (.map es c) := by
  obtain ⟨⟨es, clock, hb, rest⟩, ok⟩ := h
  exact ⟨es, clock, hb⟩

/-- What a look at a frame tells. -/
theorem FrAt.look {w : World} {m : Nat} {f : Fr} (h : FrAt w m f) {t : Int} (ht : -9223372036854775808 ≤ t ∧ t ≤ 9223372036854775807) :
    (Instr.lookup 114 (.map (some m)) (.int .i64 t) true).run Try.prog w = .ok (.tuple #[.int .u64 ((fget f t).getD 0), .bool (fget f t).isSome]) w := by
  obtain ⟨v, ps, hrun, hv⟩ := h.own.look_ok Try.keyed Try.underlying114 (Try.zeroValue26 w) (plainElem_int Try.underlying26 (by decide)) (Try.keyI ht)
  obtain ⟨c, rfl, hc, _⟩ := plainElem_int_inv Try.underlying26 hv
  have hc := congrArg Prod.fst hc
  rw [has_frame, fkey_int] at hrun
  simp only [at_frame, fkey_int] at hc
  rw [hrun]
  cases hq : fget f t with
  | none => rw [hq] at hc; simp at hc; subst hc; rfl
  | some x => rw [hq] at hc; simp at hc; subst hc; rfl

theorem FrAt.len {w : World} {m : Nat} {f : Fr} (h : FrAt w m f) (ty : TypeId) : (Builtin.len_ #[114] ty #[.map (some m)]).run Try.prog w = .ok (.int .i64 (fcnt f)) w := by
  rw [h.own.len Try.underlying114, size_frame]

/-- One variable more. -/
theorem FrAt.store {w : World} {m : Nat} {f : Fr} (h : FrAt w m f) {t v : Int} (ht : 0 ≤ t ∧ t < 12) (hv : Wf64 v) :
    ∃ w', (Instr.mapUpdate 114 (.map (some m)) (.int .i64 t) (.int .u64 v)).run Try.prog w = .ok () w' ∧ FrAt w' m (fput f t v) ∧ Touch w w' [m] := by
  obtain ⟨w', hrun, ho, hg⟩ := h.own.update Try.keyed Try.underlying114 (by unfold maxLen; omega) (Try.keyI (t := t) (by omega)) (plainElem_int Try.underlying26 (a := v) (by unfold Wf64 at hv; simp [Lit.wf, IntKind.min, IntKind.max, IntKind.signed, IntKind.bits]; omega))
  refine ⟨w', hrun, FrAt.mk' (n := 13) ?_ (h.ok.put hv), ⟨hg.os, hg.tape, hg.output, hg.size, fun k hk hne => hg.block k hk (fun e => hne (by cases e; simp))⟩⟩
  · rw [← frame_put h.ok ht v (ho.canon Try.keyed)]
    exact ho

end Go.Proofs.Ytinhdpiecifmhaa

/-
  package waits: ROWS OF NUMBERS; SETS OF BITS; noTvar, noThread, setOf, list, ContainsFunc BY THEIR CONTRACTS.
-/
import Derived.Test.YteffdibdnoppjabRowApp
import Derived.Test.YteffdibdnoppjabIntMap
import Derived.Laws.BitsAllLaws
import Derived.Lib.SliceRun
namespace Go.Proofs.Yteffdibdnoppjab
set_option linter.unusedVariables false
set_option linter.unusedSimpArgs false
open Go.RowKit Go.Maps

abbrev ptr (b : Nat) : Value := .pointer (some ⟨b, 0, none⟩)
abbrev One (W : World) (p : Nat) (v : Value) (t : TypeId) : Prop := W.heap[p]? = some (.cells #[v] t (0, 0))
theorem One.cell {W : World} {p : Nat} {v : Value} {t : TypeId} (h : One W p v t) : W.cell? ⟨p, 0, none⟩ = some v := by simp [World.cell?, h]
theorem One.touch {W W' : World} {p : Nat} {v : Value} {t : TypeId} {S : List Nat} (h : One W p v t) (T : Touch W W' S) (hS : p ∉ S) : One W' p v t := (T.block _ (lt_of_heap h) hS).trans h

/-- A contract, hidden. -/
structure HidC (P : Program) (f : Nat) (a : Array Value) (w : World) (Q : Ending → World → Prop) : Prop where
  out : Calls P f a w Q

theorem info_parts' {P : Program} {t : TypeId} {z : Value} {s b : Nat} (h : (P.info? t).map (fun i => (i.zero, i.size, i.bytes)) = some (some z, s, b)) : ∃ i, P.info? t = some i ∧ i.zero = some z ∧ i.size = s ∧ i.bytes = b := by
  cases hi : P.info? t with
  | none => rw [hi] at h; cases h
  | some i => rw [hi] at h; simp at h; exact ⟨i, rfl, h.1, h.2.1, h.2.2⟩
theorem Try.info_int : (Try.prog.info? 3).map (fun i => (i.zero, i.size, i.bytes)) = some (some (.int .i64 0), 1, 8) := by kernel_rfl

/-! ### Rows of numbers -/
abbrev intOwn (w : World) (B : Nat) (v : Value) (l : List Int) : Prop := w.ownsRow B 3 1 v l.length (l.map (Value.int .i64))
abbrev icell : Int → List Value := fun x => [Value.int .i64 x]
abbrev IRow := SRow 1 icell
theorem IRow.one {w : World} {ao : Option Addr} {cap : Nat} {l : List Int} (h : IRow w (.slice ao l.length cap) l) (k : Nat) (hk : k < l.length) :
    ∃ g off, ao = some ⟨g, off, none⟩ ∧ g < w.heap.size ∧ w.cell? ⟨g, off + k, none⟩ = some (.int .i64 l[k]) := by
  obtain ⟨g, off, e, hlt, hc⟩ := h.at k hk
  exact ⟨g, off, e, hlt, by simpa using hc 0 (by omega)⟩
theorem IRow.shape {w : World} {v : Value} {l : List Int} (h : IRow w v l) : ∃ ao cap, v = .slice ao l.length cap := by
  obtain ⟨ao, cap, e, _⟩ := h; exact ⟨ao, cap, e⟩
theorem irow_of {w : World} {B : Nat} {v : Value} {l : List Int} (h : intOwn w B v l) : IRow w v l := srow_of (cells := icell) (n := 1) (fun _ => rfl) (by rw [flat_one]; exact h)
theorem irow_take {w : World} {ao : Option Addr} {cap : Nat} {l : List Int} (h : IRow w (.slice ao l.length cap) l) (n c : Nat) (hn : n ≤ l.length) : IRow w (.slice ao n c) (l.take n) := by
  have hln : (l.take n).length = n := by rw [List.length_take]; omega
  refine ⟨ao, c, by rw [hln], fun hne => ?_⟩
  have hpos : 0 < n := by
    rcases Nat.eq_zero_or_pos n with h0 | h0
    · subst h0; simp at hne
    · exact h0
  obtain ⟨g, off, e, hg, _⟩ := h.one 0 (by omega)
  refine ⟨g, off, e, hg, fun k hk j hj => ?_⟩
  obtain ⟨g', off', e', _, hc⟩ := h.one k (by omega)
  rw [e] at e'
  simp only [Option.some.injEq, Addr.mk.injEq] at e'
  obtain ⟨rfl, rfl, _⟩ := e'
  obtain rfl : j = 0 := by omega
  simpa using hc
theorem int_form {w : World} {B : Nat} {v : Value} {l : List Int} (h : intOwn w B v l) : ∃ ao cap, v = .slice ao l.length cap ∧ ∀ k (hk : k < l.length), ∃ g, ao = some ⟨g, 0, none⟩ ∧ g < w.heap.size ∧ w.cell? ⟨g, k, none⟩ = some (.int .i64 l[k]) := by
  rcases h.2 with ⟨e, h0⟩ | ⟨g, cap, cur, e, hb, hg, _⟩
  · exact ⟨none, 0, by rw [e, h0], fun k hk => by omega⟩
  · refine ⟨_, _, e, fun k hk => ⟨g, rfl, lt_of_heap hg, ?_⟩⟩
    subst e
    have := h.cells (g := g) rfl k (.int .i64 l[k]) (by simp [hk])
    rw [Addr.add_lit] at this
    simpa using this
theorem int_lt {w : World} {B : Nat} {v : Value} {l : List Int} (h : intOwn w B v l) : ∀ g, v.ownBlock = some g → B ≤ g ∧ g < w.heap.size := by
  intro g hg
  rcases h.2 with ⟨e, h0⟩ | ⟨g', cap, cur, e, hb, hg', _⟩
  · rw [e] at hg; simp [Value.ownBlock] at hg
  · rw [e] at hg
    simp [Value.ownBlock] at hg
    subst hg
    exact ⟨hb, lt_of_heap hg'⟩
theorem int_lower {w : World} {B B' : Nat} {v : Value} {l : List Int} (h : intOwn w B v l) (hB : B' ≤ B) : intOwn w B' v l := by
  refine ⟨h.1, ?_⟩
  rcases h.2 with hn | ⟨g', cap, cur, e, hb, r⟩
  · exact .inl hn
  · exact .inr ⟨g', cap, cur, e, Nat.le_trans hB hb, r⟩
/-- A new row of numbers. -/
def IntsPost (w : World) (l : List Int) (e : Ending) (w' : World) : Prop := ∃ v, e = .returned v ∧ intOwn w' w.heap.size v l ∧ Touch w w' []

theorem one_new (w : World) (x : Int) : IRow (w.alloc (.cells #[.int .i64 x] 3)) (.slice (some ⟨w.heap.size, 0, none⟩) 1 1) [x] := by
  refine ⟨_, 1, rfl, fun _ => ⟨w.heap.size, 0, rfl, by simp, fun k hk j hj => ?_⟩⟩
  have hk0 : k = 0 := by simpa using hk
  have hj0 : j = 0 := by omega
  subst hk0 hj0
  have h0 := heap_alloc_new w (.cells #[.int .i64 x] 3)
  show (match (w.alloc (.cells #[.int .i64 x] 3)).heap[w.heap.size]? with
    | some (Obj.cells c elem frozen) => c[0]?
    | x => none) = _
  rw [h0]; rfl

/-- One number more. -/
theorem run_push {w : World} {B : Nat} {v : Value} {xs : List Int} (h : intOwn w B v xs) (hl : xs.length ≤ 1000) (hB : B ≤ w.heap.size) (x : Int) (ty : TypeId) :
    ∃ ao' cap' w', (Builtin.append_ #[31, 31] ty #[v, .slice (some ⟨w.heap.size, 0, none⟩) 1 1]).run Try.prog (w.alloc (.cells #[.int .i64 x] 3)) = .ok (.slice ao' (xs.length + 1) cap') w' ∧ intOwn w' B (.slice ao' (xs.length + 1) cap') (xs ++ [x]) ∧ Touch w w' v.ownBlock.toList ∧ (∀ g, (Value.slice ao' (xs.length + 1) cap').ownBlock = some g → v.ownBlock = some g ∨ w.heap.size ≤ g) := by
  obtain ⟨i0, hi, hz0, hz1, hz2⟩ := info_parts' Try.info_int
  obtain ⟨v', w', h1, h2, h3, h4⟩ := run_app (P := Try.prog) (cells := icell) 31 ty 3 i0 _ 1 8 Try.underlying31 hi hz0 hz1 hz2 rfl (by decide) (fun _ => rfl) (by simp [icell, Value.oneCell']) (h.alloc (.cells #[.int .i64 x] 3)) (l := [x]) (one_new w x) (by simp only [List.length_cons, List.length_nil]; omega) (by decide) (by simp; omega)
  have h2' : intOwn w' B v' (xs ++ [x]) := by
    show w'.ownsRow _ _ _ _ _ _
    rw [flat_one] at h2
    rw [List.length_append, List.map_append]
    simpa using h2
  obtain ⟨ao', cap', rfl⟩ := owns_slice h2'
  simp only [List.length_append, List.length_cons, List.length_nil, Nat.zero_add] at h1 h2' h4
  refine ⟨ao', cap', w', h1, h2', ?_, ?_⟩
  · exact ((Touch.refl w _).alloc _).grown h3 (fun k hk => .inl (by simp [hk]))
  · intro g hg
    rcases h4 with h4 | h4
    · left; rw [← h4]; exact hg
    · right; rw [h4] at hg; simp at hg; omega

/-! ### Numbers that there are not -/
def noT (x : Int) : Bool := decide (x < 0 ∨ 12 ≤ x)
def noTh (x : Int) : Bool := decide (x < 0 ∨ 4 ≤ x)
theorem notvar_any (x : Int) (w : World) : Calls Try.prog 12 #[.int .i64 x] w fun e w' => e = .returned (.bool (noT x)) ∧ w = w' := by
  have hr : noT x = (decide (x < 0) || decide (12 ≤ x)) := by simp [noT]
  rw [hr]
  by_cases h : x < 0
  · have p1 : decide (x < 0) = true := decide_eq_true h
    rw [p1]
    go_enter Try.func12, Try.ntmps12
    go_wp2
    go_ret
    exact ⟨rfl, rfl⟩
  · have p1 : decide (x < 0) = false := decide_eq_false h
    rw [p1]
    go_enter Try.func12, Try.ntmps12
    go_wp2
    go_ret
    exact ⟨by simp, rfl⟩
theorem nothread_any (x : Int) (w : World) : Calls Try.prog 10 #[.int .i64 x] w fun e w' => e = .returned (.bool (noTh x)) ∧ w = w' := by
  have hr : noTh x = (decide (x < 0) || decide (4 ≤ x)) := by simp [noTh]
  rw [hr]
  by_cases h : x < 0
  · have p1 : decide (x < 0) = true := decide_eq_true h
    rw [p1]
    go_enter Try.func10, Try.ntmps10
    go_wp2
    go_ret
    exact ⟨rfl, rfl⟩
  · have p1 : decide (x < 0) = false := decide_eq_false h
    rw [p1]
    go_enter Try.func10, Try.ntmps10
    go_wp2
    go_ret
    exact ⟨by simp, rfl⟩

/-! ### Sets of bits -/
def setStep (s : Nat) (x : Int) : Nat := if noT x then s else s ||| 2 ^ x.toNat
def setP (l : List Int) : Nat := l.foldl setStep 0
theorem setP_snoc {l : List Int} {k : Nat} (hk : k < l.length) : setP (l.take (k + 1)) = setStep (setP (l.take k)) l[k] := by
  unfold setP; rw [List.take_succ_eq_append_getElem hk, List.foldl_append]; rfl
theorem setStep_lt {s : Nat} (x : Int) (h : s < 4096) : setStep s x < 4096 := by
  unfold setStep noT
  split
  · exact h
  · rename_i hn
    have : x.toNat < 12 := by simp at hn; omega
    have h2 : 2 ^ x.toNat < 2 ^ 12 := Nat.pow_lt_pow_right (by decide) this
    exact Nat.or_lt_two_pow (n := 12) h h2
theorem foldl_lt (l : List Int) : ∀ s, s < 4096 → l.foldl setStep s < 4096 := by
  induction l with
  | nil => intro s h; exact h
  | cons x l ih => intro s h; exact ih _ (setStep_lt x h)
theorem setP_lt (l : List Int) : setP l < 4096 := foldl_lt l 0 (by decide)
theorem foldl_bit (l : List Int) (i : Nat) (hi : i < 12) : ∀ s : Nat, (l.foldl setStep s).testBit i = (s.testBit i || decide ((i : Int) ∈ l)) := by
  induction l with
  | nil => intro s; simp
  | cons x l ih =>
    intro s
    rw [List.foldl_cons, ih]
    unfold setStep
    by_cases hx : noT x = true
    · have : (i : Int) ≠ x := by simp [noT] at hx; omega
      rw [if_pos hx]
      simp [this]
    · rw [if_neg hx, Nat.testBit_or, Nat.testBit_two_pow]
      have hx' : 0 ≤ x := by simp [noT] at hx; omega
      by_cases he : (i : Int) = x
      · have : x.toNat = i := by omega
        simp [he, this]
      · have : ¬ x.toNat = i := by omega
        simp [he, this]
theorem setP_bit (l : List Int) (i : Nat) (hi : i < 12) : (setP l).testBit i = decide ((i : Int) ∈ l) := by
  have := foldl_bit l i hi 0; simpa [setP] using this

theorem shl_nat (w : World) : ∀ n : Nat, n < 12 → (Op.shift .shl .u32 1 .i64 n).run Try.prog w = .ok (.int .u32 ((2 ^ n : Nat) : Int)) w
  | 0, _ => rfl
  | 1, _ => rfl
  | 2, _ => rfl
  | 3, _ => rfl
  | 4, _ => rfl
  | 5, _ => rfl
  | 6, _ => rfl
  | 7, _ => rfl
  | 8, _ => rfl
  | 9, _ => rfl
  | 10, _ => rfl
  | 11, _ => rfl
  | n + 12, h => absurd h (by omega)
theorem shl_one (w : World) (x : Int) (h : noT x = false) : (Op.shift .shl .u32 1 .i64 x).run Try.prog w = .ok (.int .u32 ((2 ^ x.toNat : Nat) : Int)) w := by
  simp [noT] at h
  have hx : ((x.toNat : Nat) : Int) = x := by omega
  have := shl_nat w x.toNat (by omega)
  rwa [hx] at this

set_option maxRecDepth 100000 in
set_option maxHeartbeats 2000000 in
theorem setOf_any {w : World} {v : Value} {l : List Int} (hr : IRow w v l) (hl : l.length ≤ 1000) :
    Calls Try.prog 13 #[v] w fun e w' => e = .returned (.int .u32 (setP l)) ∧ w = w' := by
  obtain ⟨ao, cap, rfl⟩ := hr.shape
  obtain ⟨N, hN⟩ : ∃ N, N = l.length := ⟨_, rfl⟩
  have HN : Hid _ := hN
  have HC : Hid (∀ k (hk : k < l.length), ∃ g off, ao = some ⟨g, off, none⟩ ∧ g < w.heap.size ∧ w.cell? ⟨g, off + k, none⟩ = some (.int .i64 l[k])) := fun k hk => IRow.one hr k hk
  obtain ⟨res, hres⟩ : ∃ r, r = setP l := ⟨_, rfl⟩
  rw [← hres]
  have HRES : Hid _ := hres
  rw [← hN] at hl ⊢
  clear hN hr hres
  go_enter Try.func13, Try.ntmps13
  go_wp2_with fail
  go_loopw [3, 8] (fun s i wr => ∃ k : Nat, i = .int .i64 k ∧ k ≤ N ∧ s = .int .u32 (setP (l.take k)) ∧ wr = w) (fun _ i _ => N - (intOf i).toNat)
  case atStart => exact ⟨0, rfl, Nat.zero_le _, rfl, rfl⟩
  case round =>
    obtain ⟨k, rfl, hk, rfl, rfl⟩ := hrel
    by_cases hlt : k < N
    · have h1 : (k : Int) < N := by omega
      have h0 : (0 : Int) ≤ k := by omega
      have hkl : k < l.length := by rw [← HN.out]; exact hlt
      obtain ⟨g, off, rfl, hg, d0⟩ := HC.out k hkl
      have hsn := setP_snoc hkl
      have hlts := setP_lt (l.take k)
      have hnt := fun w => notvar_any l[k] w
      generalize l[k] = y at *
      generalize setP (l.take k) = s at *
      have HSN : Hid _ := hsn
      clear hsn
      cases hy : noT y with
      | true =>
        rw [hy] at hnt
        have HS2 : Hid (setP (l.take (k + 1)) = s) := by show _ = _; rw [HSN.out, setStep, if_pos hy]
        go_wp2_with fail
        refine (hnt _).mono ?_
        rintro e w1 ⟨rfl, rfl⟩
        go_wp2
        go_roundw
        case rel => exact ⟨k + 1, by go_num, by omega, by rw [HS2.out], by simp⟩
        case measure => simp [intOf]; omega
      | false =>
        rw [hy] at hnt
        have HS2 : Hid (setP (l.take (k + 1)) = s ||| 2 ^ y.toNat) := by show _ = _; rw [HSN.out, setStep, if_neg (by rw [hy]; simp)]
        have hsh := fun w => shl_one w y hy
        have h12 : y.toNat < 12 := by simp [noT] at hy; omega
        have hp : 2 ^ y.toNat < 4096 := Nat.pow_lt_pow_right (a := 2) (n := 12) (by decide) h12
        have hor := u32_or_nat s (2 ^ y.toNat) (by omega) (by omega)
        generalize 2 ^ y.toNat = q at *
        go_wp2_with fail
        refine (hnt _).mono ?_
        rintro e w1 ⟨rfl, rfl⟩
        go_wp2
        go_roundw
        case rel => exact ⟨k + 1, by go_num, by omega, by rw [HS2.out], by simp⟩
        case measure => simp [intOf]; omega
    · obtain rfl : k = N := by omega
      have hall : l.take k = l := by rw [HN.out, List.take_length]
      rw [hall, ← HRES.out]
      go_wp2
      go_ret
      exact ⟨rfl, rfl⟩

end Go.Proofs.Yteffdibdnoppjab

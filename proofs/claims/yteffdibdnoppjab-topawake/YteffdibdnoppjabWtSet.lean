/-
  package waits: list, slices.ContainsFunc OF noTvar BY THEIR CONTRACTS.
-/
import Derived.Test.YteffdibdnoppjabWtBase
namespace Go.Proofs.Yteffdibdnoppjab
set_option linter.unusedVariables false
set_option linter.unusedSimpArgs false
open Go.RowKit Go.Maps
attribute [local go_sem] Oper.semAt_some

/-- The numbers of a set, rising. -/
def bitsP (s k : Nat) : List Int := ((List.range k).filter (fun i => s.testBit i)).map Int.ofNat
abbrev listP (s : Nat) : List Int := bitsP s 12
theorem bitsP_snoc (s k : Nat) : bitsP s (k + 1) = if s.testBit k then bitsP s k ++ [(k : Int)] else bitsP s k := by
  unfold bitsP
  rw [List.range_succ, List.filter_append, List.map_append]
  cases h : s.testBit k <;> simp [h]
theorem bitsP_len (s k : Nat) : (bitsP s k).length ≤ k := by
  unfold bitsP
  rw [List.length_map]
  exact Nat.le_trans (List.length_filter_le _ _) (by simp)
theorem and_zero (a b : Nat) : a &&& b = 0 ↔ ∀ i, ¬ (a.testBit i = true ∧ b.testBit i = true) := by
  constructor
  · intro h i hi
    have := congrArg (fun x => Nat.testBit x i) h
    simp only [Nat.testBit_and, hi.1, hi.2, Bool.and_self, Nat.zero_testBit] at this
    cases this
  · intro h
    refine Nat.eq_of_testBit_eq fun i => ?_
    rw [Nat.testBit_and, Nat.zero_testBit]
    have := h i
    cases h1 : a.testBit i <;> cases h2 : b.testBit i <;> simp_all
theorem and_pow (s k : Nat) : decide (((s &&& 2 ^ k : Nat) : Int) = 0) = !s.testBit k := by
  have h1 : (((s &&& 2 ^ k : Nat) : Int) = 0) ↔ (s &&& 2 ^ k = 0) := by omega
  cases h : s.testBit k
  · have : s &&& 2 ^ k = 0 := (and_zero _ _).2 (fun i hi => by
      have h2 := hi.2
      rw [Nat.testBit_two_pow] at h2
      have h3 : k = i := by simpa using h2
      subst h3
      rw [h] at hi
      simp at hi)
    simpa using h1.2 this
  · have : ¬ s &&& 2 ^ k = 0 := fun h0 => (and_zero _ _).1 h0 k ⟨h, by rw [Nat.testBit_two_pow]; simp⟩
    simpa using fun h2 => this (h1.1 h2)

set_option maxRecDepth 100000 in
set_option maxHeartbeats 2000000 in
theorem slist_any (s : Nat) (hs : s < 4096) (w : World) : Calls Try.prog 16 #[.int .u32 (s : Int)] w (IntsPost w (listP s)) := by
  go_enter Try.func16, Try.ntmps16
  go_wp2_with fail
  go_loopw [3, 5] (fun v i wr => ∃ k : Nat, i = .int .i64 k ∧ k ≤ 12 ∧ intOwn wr w.heap.size v (bitsP s k) ∧ Touch w wr []) (fun _ i _ => 12 - (intOf i).toNat)
  case atStart => exact ⟨0, rfl, Nat.zero_le _, World.ownsRow_nil _ _ _ _, Touch.refl _ _⟩
  case round =>
    obtain ⟨k, rfl, hk, hrow, hT⟩ := hrel
    by_cases hlt : k < 12
    · have h1 : (k : Int) < 12 := by omega
      have hp : 2 ^ k < 4096 := Nat.pow_lt_pow_right (a := 2) (n := 12) (by decide) hlt
      have han := u32_and_nat s (2 ^ k) (by omega) (by omega)
      have hz := and_pow s k
      have hq2 : (2 : Int) ^ (k : Int).toNat % 4294967296 = ((2 ^ k : Nat) : Int) := by
        have e1 : (2 : Int) ^ (k : Int).toNat = ((2 ^ k : Nat) : Int) := by simp
        rw [e1]
        exact Int.emod_eq_of_lt (Int.natCast_nonneg _) (by have : ((2 ^ k : Nat) : Int) < ((4096 : Nat) : Int) := Int.ofNat_lt.2 hp; exact Int.lt_of_lt_of_le this (by decide))
      rw [← hq2] at han
      clear hq2
      have hsn := bitsP_snoc s k
      have hll := bitsP_len s k
      have HT : Hid _ := hT
      have hsz := hT.size
      generalize s &&& 2 ^ k = r at *
      generalize 2 ^ k = q at *
      obtain ⟨ao, cap, rfl⟩ := owns_slice hrow
      have HSN : Hid _ := hsn
      have hN1 := hll
      generalize hyk : (k : Int) = y at *
      generalize hM : (bitsP s k).length = M at *
      cases hb : s.testBit k with
      | true =>
        rw [hb] at hz
        have hr0 : ¬ ((r : Int) = 0) := by simpa using hz
        have hdec : (bits .and .u32 (s : Int) (2 ^ y.toNat % 4294967296) != 0) = true := by rw [han]; simpa using hr0
        clear han
        have HS2 : Hid (bitsP s (k + 1) = bitsP s k ++ [y]) := by show _ = _; rw [HSN.out, if_pos hb]
        obtain ⟨ao', cap', w', hrun, hown, ht, hbl⟩ := run_push hrow (by omega) hsz y 31
        rw [hM] at hrun hown hbl
        have HT2 : Hid (Touch w w' []) := HT.out.trans ht (fun x hx => .inr (by have := int_lt hrow x (by simpa using hx); omega))
        have HO : Hid _ := hown
        have HB : Hid _ := hbl
        clear hsn hb hz hown ht hbl hT
        go_wp2_with (at_builtin; refine Lib.wpList_append_run _ rfl _ _ _ _ rfl _ _ rfl rfl _ _ hrun ?_)
        go_wp2
        go_roundw
        case rel => exact ⟨k + 1, by rw [← hyk]; go_num, by omega, by rw [HS2.out]; exact HO.out, HT2.out⟩
        case measure => simp [intOf]; omega
      | false =>
        rw [hb] at hz
        have hr0 : (r : Int) = 0 := by simpa using hz
        have HS2 : Hid (bitsP s (k + 1) = bitsP s k) := by show _ = _; rw [HSN.out, if_neg (by rw [hb]; simp)]
        have HO : Hid _ := hrow
        clear hsn hb hz hT
        have hdec : (bits .and .u32 (s : Int) (2 ^ y.toNat % 4294967296) != 0) = false := by rw [han, hr0]; rfl
        clear han
        go_wp2
        go_roundw
        case rel => exact ⟨k + 1, by rw [← hyk]; go_num, by omega, by rw [HS2.out]; exact HO.out, HT.out⟩
        case measure => simp [intOf]; omega
    · obtain rfl : k = 12 := by omega
      have HO : Hid _ := hrow
      obtain ⟨ao, cap, rfl⟩ := owns_slice hrow
      clear hrow
      have HT : Hid _ := hT
      clear hT
      go_wp2
      go_ret
      exact ⟨_, rfl, HO.out, HT.out⟩

/-- The first place. -/
def idxP (f : Int → Bool) : List Int → Nat → Int
  | [], _ => -1
  | x :: l, i => if f x then i else idxP f l (i + 1)
theorem idxP_drop {f : Int → Bool} {l : List Int} {k : Nat} (hk : k < l.length) : idxP f (l.drop k) k = if f l[k] then (k : Int) else idxP f (l.drop (k + 1)) (k + 1) := by
  rw [List.drop_eq_getElem_cons hk]; rfl
theorem idxP_any (f : Int → Bool) : ∀ (l : List Int) (i : Nat), decide (0 ≤ idxP f l i) = l.any f
  | [], i => by simp [idxP]
  | x :: l, i => by
    unfold idxP
    by_cases h : f x = true
    · simp [h]
    · rw [if_neg h, idxP_any f l (i + 1)]
      simp at h
      simp [h]

set_option maxRecDepth 100000 in
set_option maxHeartbeats 2000000 in
theorem indexNo_any {w : World} {v : Value} {l : List Int} (hr : IRow w v l) (hl : l.length ≤ 1000) :
    Calls Try.prog 17 #[v, .func (.func 12) #[] #[]] w fun e w' => e = .returned (.int .i64 (idxP noT l 0)) ∧ w = w' := by
  obtain ⟨ao, cap, rfl⟩ := hr.shape
  obtain ⟨N, hN⟩ : ∃ N, N = l.length := ⟨_, rfl⟩
  have HN : Hid _ := hN
  have HC : Hid (∀ k (hk : k < l.length), ∃ g off, ao = some ⟨g, off, none⟩ ∧ g < w.heap.size ∧ w.cell? ⟨g, off + k, none⟩ = some (.int .i64 l[k])) := fun k hk => IRow.one hr k hk
  obtain ⟨res, hres⟩ : ∃ r, r = idxP noT l 0 := ⟨_, rfl⟩
  rw [← hres]
  have HRES : Hid _ := hres
  rw [← hN] at hl ⊢
  clear hN hr hres
  go_enter Try.func17, Try.ntmps17
  go_wp2_with fail
  go_loopw [8] (fun i wr => ∃ k : Nat, i = .int .i64 k ∧ k ≤ N ∧ res = idxP noT (l.drop k) k ∧ wr = w) (fun i _ => N - (intOf i).toNat)
  case atStart => exact ⟨0, rfl, Nat.zero_le _, HRES.out, rfl⟩
  case round =>
    obtain ⟨k, rfl, hk, hrs, rfl⟩ := hrel
    clear HRES
    by_cases hlt : k < N
    · have h1 : (k : Int) < N := by omega
      have h0 : (0 : Int) ≤ k := by omega
      have hkl : k < l.length := by rw [← HN.out]; exact hlt
      obtain ⟨g, off, rfl, hg, d0⟩ := HC.out k hkl
      rw [idxP_drop hkl] at hrs
      generalize l[k] = y at *
      have hcl := notvar_any y wr
      cases hz : noT y with
      | true =>
        rw [hz] at hcl hrs
        simp only [if_true] at hrs
        have HR : Hid _ := hrs
        clear hz hrs
        go_wp2_with fail
        refine hcl.mono ?_
        rintro e w1 ⟨rfl, rfl⟩
        clear hcl
        go_wp2
        go_ret
        exact ⟨by rw [HR.out]; rfl, rfl⟩
      | false =>
        rw [hz] at hcl hrs
        simp only [Bool.false_eq_true, if_false] at hrs
        have HR : Hid _ := hrs
        clear hz hrs
        go_wp2_with fail
        refine hcl.mono ?_
        rintro e w1 ⟨rfl, rfl⟩
        clear hcl
        go_wp2
        go_roundw
        case rel => exact ⟨k + 1, by go_num, by omega, HR.out, by simp⟩
        case measure => simp [intOf]; omega
    · obtain rfl : k = N := by omega
      have hall : l.drop k = [] := by rw [HN.out, List.drop_length]
      rw [hall] at hrs
      have HR : Hid _ := hrs
      clear hrs hall
      go_wp2
      go_ret
      exact ⟨by rw [HR.out]; rfl, rfl⟩

set_option maxRecDepth 100000 in
theorem containsNo_any {w : World} {v : Value} {l : List Int} (hr : IRow w v l) (hl : l.length ≤ 1000) :
    Calls Try.prog 11 #[v, .func (.func 12) #[] #[]] w fun e w' => e = .returned (.bool (l.any noT)) ∧ w = w' := by
  obtain ⟨ao, cap, rfl⟩ := hr.shape
  have hix := indexNo_any hr hl
  rw [← idxP_any noT l 0]
  generalize idxP noT l 0 = r at *
  generalize l.length = N at *
  clear hr hl
  go_enter Try.func11, Try.ntmps11
  go_wp2_with fail
  refine hix.mono ?_
  rintro e w1 ⟨rfl, rfl⟩
  clear hix
  go_wp2
  go_ret
  exact ⟨rfl, rfl⟩

end Go.Proofs.Yteffdibdnoppjab

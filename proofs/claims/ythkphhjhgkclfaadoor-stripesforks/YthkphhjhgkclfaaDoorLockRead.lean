/-
  package lockword's Free, Held, Next, Read, Right BY THEIR CONTRACTS: each answers what a plain function on numbers says; nothing but new memory is touched.
-/
import Derived.Test.YthkphhjhgkclfaaDoorLockBase
namespace Go.Proofs.YthkphhjhgkclfaaDoor
set_option linter.unusedVariables false
set_option linter.unusedSimpArgs false
open Go.RowKit

/-- What a word says: the owner (-1 without), the version, the error. -/
def readP (n : Int) : Int × Int × Int :=
  if 1099511627776 < n / 32 then (0, 0, 3) else if n % 32 = 0 then (-1, n / 32, 0) else if n % 2 = 1 ∧ n % 32 / 2 < 4 then (n % 32 / 2, n / 32, 0) else (0, 0, 3)
def freeP (v : Int) : Int × Int := if v ≤ 1099511627776 then (v * 32, 0) else (0, 2)
def heldP (o v : Int) : Int × Int := if (0 ≤ o ∧ o < 4) ∧ v ≤ 1099511627776 then (v * 32 + o * 2 + 1, 0) else (0, 2)
def nextP (v : Int) : Int × Int := if 1099511627776 < v then (0, 2) else if v = 1099511627776 then (0, 4) else (v + 1, 0)

/-- A word and an error, as a value. -/
abbrev two (p : Int × Int) : Value := .tuple #[.int .u64 p.1, .int .i64 p.2]
abbrev three (p : Int × Int × Int) : Value := .tuple #[.int .i64 p.1, .int .u64 p.2.1, .int .i64 p.2.2]



theorem next_ext (v : Int) (hv : 0 ≤ v) (w : World) : Calls Tryd.prog 64 #[.int .u64 v] w fun e w' => e = .returned (two (nextP v)) ∧ w = w' := by
  unfold nextP
  have hc := isVersion_any v w
  by_cases h : v ≤ 1099511627776
  · rw [decide_eq_true h] at hc
    have h3 : ¬ 1099511627776 < v := by omega
    rcases Int.lt_or_eq_of_le h with h2 | rfl
    · have h4 : ¬ v = 1099511627776 := by omega
      have h5 : (v == 1099511627776) = false := by simpa using h4
      go_enter Tryd.func64, Tryd.ntmps64
      go_wp2_with fail
      refine hc.mono ?_
      rintro e w1 ⟨rfl, rfl⟩
      clear hc
      go_wp2
      go_ret2
      refine ⟨?_, rfl⟩
      simp [h3, h4]
    · go_enter Tryd.func64, Tryd.ntmps64
      go_wp2_with fail
      refine hc.mono ?_
      rintro e w1 ⟨rfl, rfl⟩
      clear hc
      go_wp2
      go_ret2
      refine ⟨?_, rfl⟩
      simp
  · rw [decide_eq_false h] at hc
    go_enter Tryd.func64, Tryd.ntmps64
    go_wp2_with fail
    refine hc.mono ?_
    rintro e w1 ⟨rfl, rfl⟩
    clear hc
    go_wp2
    go_ret2
    refine ⟨?_, rfl⟩
    have h3 : 1099511627776 < v := by omega
    simp [h3]

set_option maxRecDepth 100000 in
theorem read_ext (n : Int) (hn : 0 ≤ n ∧ n < 18446744073709551616) (w : World) (S : Sh w) : Calls Tryd.prog 52 #[.int .u64 n] w fun e w' => e = .returned (three (readP n)) ∧ Touch w w' [] := by
  have hsp := split_any n hn w S
  unfold splitV at hsp
  have HP : Hid (∀ x y z : Int, n % 2 = x → n % 32 / 2 = y → n / 32 = z → (1099511627776 < z → readP n = (0, 0, 3)) ∧ (¬ 1099511627776 < z → (x = 0 ∧ y = 0 → readP n = (-1, z, 0)) ∧ (¬ (x = 0 ∧ y = 0) → x = 1 ∧ y < 4 → readP n = (y, z, 0)) ∧ (¬ (x = 0 ∧ y = 0) → ¬ (x = 1 ∧ y < 4) → readP n = (0, 0, 3)))) := by
    rintro x y z rfl rfl rfl
    have e : n % 32 = 0 ↔ n % 2 = 0 ∧ n % 32 / 2 = 0 := by omega
    unfold readP
    rw [← e]
    refine ⟨fun h => if_pos h, fun h => ⟨fun h2 => ?_, fun h2 h3 => ?_, fun h2 h3 => ?_⟩⟩
    · rw [if_neg h, if_pos h2]
    · rw [if_neg h, if_neg h2, if_pos h3]
    · rw [if_neg h, if_neg h2, if_neg h3]
  have h01 : 0 ≤ n % 2 ∧ n % 2 < 2 := by omega
  have h02 : 0 ≤ n % 32 / 2 ∧ n % 32 / 2 < 16 := by omega
  generalize hx : n % 2 = x at hsp h01
  generalize hy : n % 32 / 2 = y at hsp h02
  generalize hz : n / 32 = z at hsp
  obtain HP : Hid ((1099511627776 < z → readP n = (0, 0, 3)) ∧ (¬ 1099511627776 < z → (x = 0 ∧ y = 0 → readP n = (-1, z, 0)) ∧ (¬ (x = 0 ∧ y = 0) → x = 1 ∧ y < 4 → readP n = (y, z, 0)) ∧ (¬ (x = 0 ∧ y = 0) → ¬ (x = 1 ∧ y < 4) → readP n = (0, 0, 3)))) := HP.out x y z hx hy hz
  clear hx hy hz S
  have hc := isVersion_any z
  by_cases h : z ≤ 1099511627776
  · rw [decide_eq_true h] at hc
    have HZ : Hid (¬ 1099511627776 < z) := fun h' => by omega
    by_cases hf : x = 0 ∧ y = 0
    · have heq : ∀ W : World, (Op.equalIn 10000 77 (.agg #[.int .u64 x, .int .u64 y, .int .u64 z]) (.agg #[.int .u64 0, .int .u64 0, .int .u64 z])).run Tryd.prog W = .ok true W := fun W => by rw [eqParts]; simp [hf]
      have HF : Hid _ := (HP.out.2 HZ.out).1 hf
      clear hf HP
      go_enter Tryd.func52, Tryd.ntmps52
      go_wp2_with fail
      refine hsp.mono ?_
      rintro e w1 ⟨rfl, t1⟩
      clear hsp
      have HB : Hid _ := Box.new w1 x y z
      go_wp2_with fail
      refine (hc _).mono ?_
      rintro e w2 ⟨rfl, e2⟩
      clear hc
      subst e2
      go_wp2_with fail
      refine wp_name fun W hW => ?_
      have hB : Box W w1.heap.size x y z := by rw [hW]; exact HB.out
      have HT : Hid (Touch w W []) := by rw [hW]; exact t1.alloc _
      clear hW HB t1
      go_region_held3 (fun w' => w'.cell? ⟨w1.heap.size, 0, none⟩ = some (.int .u64 x) ∧ w'.cell? ⟨w1.heap.size, 1, none⟩ = some (.int .u64 y) ∧ w'.cell? ⟨w1.heap.size, 2, none⟩ = some (.int .u64 z) ∧ Touch W w' []) ((first | exact hB.held (Touch.refl _ _).drew | exact hB.held t3)) ((go_at_call 59; refine (free_any _ _).mono ?_; rintro e w3 ⟨rfl, t2⟩; have t3 : Touch W w3 [] := ((Touch.refl _ _).drew).trans t2 (by simp)))
      obtain ⟨b0, b1, b2, _⟩ := hB.held t3
      have HB3 : Hid _ := hB.touch t3 (by simp)
      have HT3 : Hid (Touch w w3 []) := HT.out.trans t3 (by simp)
      clear hB HT t3
      go_wp2
      go_quiet (fail)
      go_wp2
      go_ret3
      exact ⟨by rw [HF.out]; rfl, HT3.out.drewN _⟩
    · have heq : ∀ W : World, (Op.equalIn 10000 77 (.agg #[.int .u64 x, .int .u64 y, .int .u64 z]) (.agg #[.int .u64 0, .int .u64 0, .int .u64 z])).run Tryd.prog W = .ok false W := fun W => by rw [eqParts]; by_cases h1 : x = 0 <;> simp_all
      have HF : Hid _ := hf
      clear hf
      go_enter Tryd.func52, Tryd.ntmps52
      go_wp2_with fail
      refine hsp.mono ?_
      rintro e w1 ⟨rfl, t1⟩
      clear hsp
      have HB : Hid _ := Box.new w1 x y z
      go_wp2_with fail
      refine (hc _).mono ?_
      rintro e w2 ⟨rfl, e2⟩
      clear hc
      subst e2
      go_wp2_with fail
      refine wp_name fun W hW => ?_
      have hB : Box W w1.heap.size x y z := by rw [hW]; exact HB.out
      have HT : Hid (Touch w W []) := by rw [hW]; exact t1.alloc _
      clear hW HB t1
      go_region_held3 (fun w' => w'.cell? ⟨w1.heap.size, 0, none⟩ = some (.int .u64 x) ∧ w'.cell? ⟨w1.heap.size, 1, none⟩ = some (.int .u64 y) ∧ w'.cell? ⟨w1.heap.size, 2, none⟩ = some (.int .u64 z) ∧ Touch W w' []) ((first | exact hB.held (Touch.refl _ _).drew | exact hB.held t3)) ((go_at_call 59; refine (free_any _ _).mono ?_; rintro e w3 ⟨rfl, t2⟩; have t3 : Touch W w3 [] := ((Touch.refl _ _).drew).trans t2 (by simp)))
      obtain ⟨b0, b1, b2, _⟩ := hB.held t3
      have HB3 : Hid _ := hB.touch t3 (by simp)
      have HT3 : Hid (Touch w w3 []) := HT.out.trans t3 (by simp)
      clear hB HT t3
      go_wp2_with fail
      go_loopw [20] (fun i wr => ∃ (k : Nat), i = .int .i64 k ∧ k ≤ 4 ∧ (x = 1 → (k : Int) ≤ y) ∧ Touch w wr [] ∧ Box wr w1.heap.size x y z) (fun i _ => 4 - (intOf i).toNat)
      case atStart => exact ⟨0, rfl, by omega, fun _ => by omega, HT3.out, HB3.out⟩
      case round =>
        obtain ⟨k, rfl, hk, hy, hT, hB⟩ := hrel
        have HT : Hid _ := hT
        clear HT3 HB3 b0 b1 b2 hT
        by_cases h4 : k < 4
        · have h4' : (k : Int) < 4 := by omega
          by_cases hm : x = 1 ∧ y = k
          · have heq : ∀ W : World, (Op.equalIn 10000 77 (.agg #[.int .u64 x, .int .u64 y, .int .u64 z]) (.agg #[.int .u64 1, .int .u64 k, .int .u64 z])).run Tryd.prog W = .ok true W := fun W => by rw [eqParts]; simp [hm]
            have HG : Hid (readP n = (y, z, 0)) := (HP.out.2 HZ.out).2.1 HF.out ⟨hm.1, by omega⟩
            have HY : Hid (y = k) := hm.2
            clear HP HF hm hy
            go_wp2_with fail
            go_region_held3 (fun w' => w'.cell? ⟨w1.heap.size, 0, none⟩ = some (.int .u64 x) ∧ w'.cell? ⟨w1.heap.size, 1, none⟩ = some (.int .u64 y) ∧ w'.cell? ⟨w1.heap.size, 2, none⟩ = some (.int .u64 z) ∧ Touch wr w' []) ((first | exact hB.held (Touch.refl _ _).drew | exact hB.held t3)) ((go_at_call 58; refine (held_any _ _ (by omega) (by omega) _).mono ?_; rintro e w3 ⟨rfl, t2⟩; have t3 : Touch wr w3 [] := ((Touch.refl _ _).drew).trans t2 (by simp)))
            obtain ⟨b0, b1, b2, _⟩ := hB.held t3
            have HB3 : Hid _ := hB.touch t3 (by simp)
            have HT3 : Hid (Touch w w3 []) := HT.out.trans t3 (by simp)
            clear hB HT t3
            go_wp2
            go_quiet (fail)
            go_wp2
            go_ret3
            exact ⟨by rw [HG.out, HY.out]; rfl, HT3.out.drewN _⟩
          · have heq : ∀ W : World, (Op.equalIn 10000 77 (.agg #[.int .u64 x, .int .u64 y, .int .u64 z]) (.agg #[.int .u64 1, .int .u64 k, .int .u64 z])).run Tryd.prog W = .ok false W := fun W => by rw [eqParts]; by_cases h1 : x = 1 <;> simp_all
            have HY : Hid (x = 1 → ((k + 1 : Nat) : Int) ≤ y) := fun h1 => by
              have := hy h1
              have : ¬ y = k := fun e => hm ⟨h1, e⟩
              omega
            clear hm hy
            go_wp2_with fail
            go_region_held3 (fun w' => w'.cell? ⟨w1.heap.size, 0, none⟩ = some (.int .u64 x) ∧ w'.cell? ⟨w1.heap.size, 1, none⟩ = some (.int .u64 y) ∧ w'.cell? ⟨w1.heap.size, 2, none⟩ = some (.int .u64 z) ∧ Touch wr w' []) ((first | exact hB.held (Touch.refl _ _).drew | exact hB.held t3)) ((go_at_call 58; refine (held_any _ _ (by omega) (by omega) _).mono ?_; rintro e w3 ⟨rfl, t2⟩; have t3 : Touch wr w3 [] := ((Touch.refl _ _).drew).trans t2 (by simp)))
            obtain ⟨b0, b1, b2, _⟩ := hB.held t3
            have HB3 : Hid _ := hB.touch t3 (by simp)
            have HT3 : Hid (Touch w w3 []) := HT.out.trans t3 (by simp)
            clear hB HT t3
            go_wp2
            go_roundw
            case rel => exact ⟨k + 1, by go_num, by omega, HY.out, HT3.out, HB3.out⟩
            case measure => simp [intOf]; omega
        · have h4' : ¬ (k : Int) < 4 := by omega
          have HG : Hid (readP n = (0, 0, 3)) := (HP.out.2 HZ.out).2.2 HF.out (fun hh => by have := hy hh.1; omega)
          go_wp2
          go_ret3
          exact ⟨by rw [HG.out]; rfl, HT.out⟩
  · rw [decide_eq_false h] at hc
    go_enter Tryd.func52, Tryd.ntmps52
    go_wp2_with fail
    refine hsp.mono ?_
    rintro e w1 ⟨rfl, t1⟩
    clear hsp
    go_wp2_with fail
    refine (hc _).mono ?_
    rintro e w2 ⟨rfl, e2⟩
    subst e2
    go_wp2
    go_ret3
    exact ⟨by rw [HP.out.1 (by omega)]; rfl, t1.alloc _⟩

end Go.Proofs.YthkphhjhgkclfaaDoor

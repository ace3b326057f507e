/-
  package spec: variable BY ITS CONTRACT.
-/
import Derived.Test.YtlndbligbpfdpaaSpBlk
import Derived.Test.YtlndbligbpfdpaaValueWhole
namespace Go.Proofs.Ytlndbligbpfdpaa
set_option linter.unusedVariables false
set_option linter.unusedSimpArgs false
open Go.RowKit
attribute [local go_sem] Oper.semAt_some

theorem whole_le (x : Nat) (h : rungB x ≤ 4845873199050653696) (n : Int) (hn : floatToIntVal .f64 x .i64 = some n) : -9007199254740992 ≤ n ∧ n ≤ 9007199254740992 := by
  obtain ⟨s, c, hc, hd, hi, _⟩ := toInt_near x h
  have es : Ieee.signed s c 0 = sgn s c := by rw [signed_sgn]; simp
  unfold floatToIntVal Ieee.Datum.toInt at hn
  rw [hd, hi] at hn
  simp only [es] at hn
  split at hn
  · simp only [Option.some.injEq] at hn
    rw [← hn]
    unfold sgn
    split <;> omega
  · cases hn
theorem wholeV_le (x : Nat) : -9007199254740992 ≤ (wholeV x).1 ∧ (wholeV x).1 ≤ 9007199254740992 := by
  unfold wholeV
  split
  · rename_i n hn
    split
    · rename_i hh
      exact whole_le x hh.1 n hn
    · constructor <;> decide
  · constructor <;> decide

/-- Which variable an instruction names. -/
def idxW (i : InsD) (pp : List Int) : Option Int :=
  if i.op = 6 ∨ i.op = 7 then (if (wholeV (ofB (pp.getD (pp.length - 1) 0).toNat)).2 = true ∧ 0 ≤ (wholeV (ofB (pp.getD (pp.length - 1) 0).toNat)).1 then some (wholeV (ofB (pp.getD (pp.length - 1) 0).toNat)).1 else none) else some 0
def varW (i : InsD) (pp : List Int) (nh : Nat) : Option Int := match idxW i pp with
  | none => none
  | some k => if i.arg + k < nh then some (i.arg + k) else none
def VarP (w : World) (r : Option Int) (e : Ending) (w' : World) : Prop := (∃ t, r = some t ∧ e = .returned (.int .i64 t) ∧ Touch w w' []) ∨ (r = none ∧ StuckP 2 w e w')

set_option maxRecDepth 100000 in
set_option maxHeartbeats 1000000 in
theorem var_any {w : World} {b : Nat} {ah : Option Addr} {nh ch : Nat} (hc : w.cell? ⟨b, 9, none⟩ = some (.slice ah nh ch)) (hnh : nh ≤ 1000) (io ia iv : Int) (hop : io = 4 ∨ io = 5 ∨ io = 6 ∨ io = 7) (ha : 0 ≤ ia ∧ ia ≤ 255)
    {ap : Option Addr} {np cp : Nat} {pp : List Int} (hp : VRow w (.slice ap np cp) pp) (hl : pp.length = np) (hpos : io = 6 ∨ io = 7 → 0 < np) (hnp : np ≤ 1000) (hw : ∀ x ∈ pp, Wf64 x) :
    Calls Try.prog 96 #[.pointer (some ⟨b, 0, none⟩), .agg #[.int .u8 io, .int .i64 ia, .int .u64 iv], .slice ap np cp] w (VarP w (varW ⟨io, ia, iv⟩ pp nh)) := by
  have hbl : b < w.heap.size := World.block_lt_of_cell? _ _ hc
  have hne : b ≠ w.heap.size := by omega
  obtain ⟨ha0, ha1⟩ := ha
  have tA : Touch w (w.alloc (.cells #[.int .u8 io, .int .i64 ia, .int .u64 iv] 48)) [] := (Touch.refl w []).alloc _
  have hcA : (w.alloc (.cells #[.int .u8 io, .int .i64 ia, .int .u64 iv] 48)).cell? ⟨b, 9, none⟩ = some (.slice ah nh ch) := (tA.cell (p := ⟨b, 9, none⟩) hbl (by simp)).trans hc
  have HBX : Hid (BoxI (w.alloc (.cells #[.int .u8 io, .int .i64 ia, .int .u64 iv] 48)) w.heap.size io ia iv) := BoxI.new w io ia iv
  have HT : Hid _ := tA
  have hbx : (w.alloc (.cells #[.int .u8 io, .int .i64 ia, .int .u64 iv] 48)).cell? ⟨w.heap.size, 0, none⟩ = some (.int .u8 io) ∧ (w.alloc (.cells #[.int .u8 io, .int .i64 ia, .int .u64 iv] 48)).cell? ⟨w.heap.size, 1, none⟩ = some (.int .i64 ia) := ⟨HBX.out.cells.1, HBX.out.cells.2.1⟩
  obtain ⟨hb0, hb1⟩ := hbx
  have hw0 : IntKind.i64.wrap ia = ia := by rw [IntKind.wrap_i64]; omega
  by_cases hix : io = 6 ∨ io = 7
  · have hnp0 := hpos hix
    obtain ⟨g, off, rfl, hcell⟩ := vrow_at hp hl hnp0
    have hcx := hcell (np - 1) (by omega)
    have hgl : g < w.heap.size := World.block_lt_of_cell? _ _ hcx
    have hcx2 : (w.alloc (.cells #[.int .u8 io, .int .i64 ia, .int .u64 iv] 48)).cell? ⟨g, off + (np - 1), none⟩ = some (.int .u64 (pp.getD (np - 1) 0)) := (tA.cell (p := ⟨g, off + (np - 1), none⟩) hgl (by simp)).trans hcx
    have hwx : Wf64 (pp.getD (np - 1) 0) := by
      have hlt : np - 1 < pp.length := by omega
      rw [List.getD_eq_getElem?_getD, List.getElem?_eq_getElem hlt]
      exact hw _ (List.getElem_mem hlt)
    have HWH : Hid (∀ W, HidC Try.prog 103 #[.int .u64 (pp.getD (np - 1) 0)] W fun e w' => e = .returned (.tuple #[.int .i64 (wholeV (ofB (pp.getD (np - 1) 0).toNat)).1, .bool (wholeV (ofB (pp.getD (np - 1) 0).toNat)).2]) ∧ Touch W w' []) := fun W => ⟨whole_any _ hwx W⟩
    have hb := wholeV_le (ofB (pp.getD (np - 1) 0).toNat)
    have hv : varW ⟨io, ia, iv⟩ pp nh = (if (wholeV (ofB (pp.getD (np - 1) 0).toNat)).2 = true ∧ 0 ≤ (wholeV (ofB (pp.getD (np - 1) 0).toNat)).1 then (if ia + (wholeV (ofB (pp.getD (np - 1) 0).toNat)).1 < nh then some (ia + (wholeV (ofB (pp.getD (np - 1) 0).toNat)).1) else none) else none) := by
      unfold varW idxW
      rw [if_pos (by simpa using hix), hl]
      split
      · rename_i h; split at h
        · cases h
        · rename_i h2; rw [if_neg h2]
      · rename_i k h; split at h
        · rename_i h2; rw [if_pos h2]; simp only [Option.some.injEq] at h; rw [h]
        · cases h
    rw [hv]
    generalize wholeV (ofB (pp.getD (np - 1) 0).toNat) = r at *
    generalize pp.getD (np - 1) 0 = x at *
    obtain ⟨k, ok⟩ := r
    simp only at HWH hb ⊢
    obtain ⟨hk0, hk1⟩ := hb
    have hix1 : IntKind.i64.wrap ((np : Int) - 1) = (np : Int) - 1 := by rw [IntKind.wrap_i64]; omega
    obtain ⟨q, hq⟩ : ∃ q : Nat, (q : Int) = (np : Int) - 1 := ⟨np - 1, by omega⟩
    have hq2 : np - 1 = q := by omega
    rw [hq2] at hcx2
    have hq3 : (np : Int) - 1 = (q : Int) := hq.symm
    have hq4 : (q : Int) < np := by omega
    have hwk : IntKind.i64.wrap (ia + k) = ia + k := by rw [IntKind.wrap_i64]; omega
    have HCK : Hid (∀ W, Touch (w.alloc (.cells #[.int .u8 io, .int .i64 ia, .int .u64 iv] 48)) W [] → W.cell? ⟨b, 9, none⟩ = some (.slice ah nh ch) ∧ W.cell? ⟨w.heap.size, 1, none⟩ = some (.int .i64 ia)) := fun W t => ⟨(t.cell (p := ⟨b, 9, none⟩) (by simp; omega) (by simp)).trans hcA, (t.cell (p := ⟨w.heap.size, 1, none⟩) (by simp) (by simp)).trans hb1⟩
    clear hv hp hl hpos hw hc tA hcell hcx hop hwx hq2 hq hix1
    rcases hix with rfl | rfl
    all_goals
      cases ok with
      | false =>
        rw [if_neg (by simp)]
        go_enter Try.func96, Try.ntmps96
        go_wp2_with fail
        refine (HWH.out _).out.mono ?_
        rintro e w1 ⟨rfl, t1⟩
        have HT1 : Hid (Touch w w1 []) := HT.out.trans t1 (by simp)
        clear t1
        go_wp2_with fail
        refine (sneed_no 2 _).mono ?_
        rintro e w5 ⟨rfl, t5⟩
        exact ⟨rfl, .inr ⟨rfl, rfl, HT1.out.trans t5 (by simp)⟩⟩
      | true =>
        by_cases hk : 0 ≤ k
        · have hdk : decide (0 ≤ k) = true := decide_eq_true hk
          by_cases hlt : ia + k < nh
          · rw [if_pos ⟨rfl, hk⟩, if_pos hlt]
            have hdl : decide (ia + k < (nh : Int)) = true := decide_eq_true hlt
            go_enter Try.func96, Try.ntmps96
            go_wp2_with fail
            refine (HWH.out _).out.mono ?_
            rintro e Q ⟨rfl, t1⟩
            have HT1 : Hid (Touch w Q []) := HT.out.trans t1 (by simp)
            obtain ⟨d0, d1⟩ := HCK.out _ t1.drew
            have e1 : Q.cell? ⟨w.heap.size, 1, none⟩ = some (.int .i64 ia) := d1
            clear t1 hcA hb0 hb1 hcx2
            go_wp2_with fail
            refine (sneed_ok 2 _).mono ?_
            rintro e _ ⟨rfl, rfl⟩
            go_wp2_with fail
            go_region_held3 (fun w' => w'.cell? ⟨b, 9, none⟩ = some (.slice ah nh ch) ∧ w'.cell? ⟨w.heap.size, 1, none⟩ = some (.int .i64 ia)) (exact ⟨d0, d1⟩) (first | (refine (sneed_ok 2 _).mono ?_; rintro e _ ⟨rfl, rfl⟩))
            go_wp2
            go_ret
            exact .inl ⟨_, rfl, rfl, HT1.out.drew⟩
          · rw [if_pos ⟨rfl, hk⟩, if_neg hlt]
            have hdl : decide (ia + k < (nh : Int)) = false := decide_eq_false hlt
            go_enter Try.func96, Try.ntmps96
            go_wp2_with fail
            refine (HWH.out _).out.mono ?_
            rintro e Q ⟨rfl, t1⟩
            have HT1 : Hid (Touch w Q []) := HT.out.trans t1 (by simp)
            obtain ⟨d0, d1⟩ := HCK.out _ t1.drew
            clear t1 hcA hb0 hb1 hcx2 HT
            have HT : Hid _ := HT1.out
            go_wp2_with fail
            refine (sneed_ok 2 _).mono ?_
            rintro e _ ⟨rfl, rfl⟩
            go_wp2_with fail
            refine wp_region_held_drew (S := (fun w' : World => w'.cell? ⟨b, 9, none⟩ = some (.slice ah nh ch) ∧ w'.cell? ⟨w.heap.size, 1, none⟩ = some (.int .i64 ia))) (by kernel_rfl) ⟨d0, d1⟩ (fun hHeld => ?_)
            try simp only [Act.put, List.getElem_toArray, List.getElem_cons_succ, List.getElem_cons_zero, List.setIfInBounds_toArray, List.set_cons_zero, List.set_cons_succ]
            refine wpAnyH_take (i := 0) (v := (.pointer (some ⟨w.heap.size, 1, none⟩))) rfl (by kernel_rfl) (by kernel_rfl) (by kernel_rfl) (fun _ _ _ h => h) (Or.inl ⟨by rfl, ?_⟩) hHeld ?_
            · intro w' hSw
              try simp only [Act.put, List.getElem_toArray, List.getElem_cons_succ, List.getElem_cons_zero, List.setIfInBounds_toArray, List.set_cons_zero, List.set_cons_succ]
              go_simp
            try simp only [Act.put, List.getElem_toArray, List.getElem_cons_succ, List.getElem_cons_zero, List.setIfInBounds_toArray, List.set_cons_zero, List.set_cons_succ]
            refine wpAnyH_take (i := 1) (v := (.int .i64 ia)) rfl (by kernel_rfl) (by kernel_rfl) (by kernel_rfl) (fun _ _ _ h => h) (Or.inl ⟨by rfl, ?_⟩) hHeld ?_
            · intro w' hSw
              try simp only [Act.put, List.getElem_toArray, List.getElem_cons_succ, List.getElem_cons_zero, List.setIfInBounds_toArray, List.set_cons_zero, List.set_cons_succ]
              go_simp
            try simp only [Act.put, List.getElem_toArray, List.getElem_cons_succ, List.getElem_cons_zero, List.setIfInBounds_toArray, List.set_cons_zero, List.set_cons_succ]
            refine wpAnyH_take (i := 2) (v := (.int .i64 k)) rfl (by kernel_rfl) (by kernel_rfl) (by kernel_rfl) (fun _ _ _ h => h) (Or.inl ⟨by rfl, ?_⟩) hHeld ?_
            · intro w' hSw
              try simp only [Act.put, List.getElem_toArray, List.getElem_cons_succ, List.getElem_cons_zero, List.setIfInBounds_toArray, List.set_cons_zero, List.set_cons_succ]
              go_simp
            try simp only [Act.put, List.getElem_toArray, List.getElem_cons_succ, List.getElem_cons_zero, List.setIfInBounds_toArray, List.set_cons_zero, List.set_cons_succ]
            refine wpAnyH_take (i := 3) (v := (.int .i64 (ia + k))) rfl (by kernel_rfl) (by kernel_rfl) (by kernel_rfl) (fun _ _ _ h => h) (Or.inl ⟨by rfl, ?_⟩) hHeld ?_
            · intro w' hSw
              try simp only [Act.put, List.getElem_toArray, List.getElem_cons_succ, List.getElem_cons_zero, List.setIfInBounds_toArray, List.set_cons_zero, List.set_cons_succ]
              go_simp
            try simp only [Act.put, List.getElem_toArray, List.getElem_cons_succ, List.getElem_cons_zero, List.setIfInBounds_toArray, List.set_cons_zero, List.set_cons_succ]
            refine wpAnyH_take (i := 4) (v := (.pointer (some ⟨b, 0, none⟩))) rfl (by kernel_rfl) (by kernel_rfl) (by kernel_rfl) (fun _ _ _ h => h) (Or.inl ⟨by rfl, ?_⟩) hHeld ?_
            · intro w' hSw
              try simp only [Act.put, List.getElem_toArray, List.getElem_cons_succ, List.getElem_cons_zero, List.setIfInBounds_toArray, List.set_cons_zero, List.set_cons_succ]
              go_simp
            try simp only [Act.put, List.getElem_toArray, List.getElem_cons_succ, List.getElem_cons_zero, List.setIfInBounds_toArray, List.set_cons_zero, List.set_cons_succ]
            refine wpAnyH_take (i := 5) (v := (.pointer (some ⟨b, 0, none⟩))) rfl (by kernel_rfl) (by kernel_rfl) (by kernel_rfl) (fun _ _ _ h => h) (Or.inl ⟨by rfl, ?_⟩) hHeld ?_
            · intro w' hSw
              try simp only [Act.put, List.getElem_toArray, List.getElem_cons_succ, List.getElem_cons_zero, List.setIfInBounds_toArray, List.set_cons_zero, List.set_cons_succ]
              go_simp
            try simp only [Act.put, List.getElem_toArray, List.getElem_cons_succ, List.getElem_cons_zero, List.setIfInBounds_toArray, List.set_cons_zero, List.set_cons_succ]
            refine wpAnyH_take (i := 6) (v := (.pointer (some ⟨b, 9, none⟩))) rfl (by kernel_rfl) (by kernel_rfl) (by kernel_rfl) (fun _ _ _ h => h) (Or.inl ⟨by rfl, ?_⟩) hHeld ?_
            · intro w' hSw
              try simp only [Act.put, List.getElem_toArray, List.getElem_cons_succ, List.getElem_cons_zero, List.setIfInBounds_toArray, List.set_cons_zero, List.set_cons_succ]
              go_simp
            try simp only [Act.put, List.getElem_toArray, List.getElem_cons_succ, List.getElem_cons_zero, List.setIfInBounds_toArray, List.set_cons_zero, List.set_cons_succ]
            refine wpAnyH_take (i := 7) (v := (.slice ah nh ch)) rfl (by kernel_rfl) (by kernel_rfl) (by kernel_rfl) (fun _ _ _ h => h) (Or.inl ⟨by rfl, ?_⟩) hHeld ?_
            · intro w' hSw
              try simp only [Act.put, List.getElem_toArray, List.getElem_cons_succ, List.getElem_cons_zero, List.setIfInBounds_toArray, List.set_cons_zero, List.set_cons_succ]
              go_simp
            try simp only [Act.put, List.getElem_toArray, List.getElem_cons_succ, List.getElem_cons_zero, List.setIfInBounds_toArray, List.set_cons_zero, List.set_cons_succ]
            refine wpAnyH_take (i := 8) (v := (.int .i64 (nh : Int))) rfl (by kernel_rfl) (by kernel_rfl) (by kernel_rfl) (fun _ _ _ h => h) (Or.inl ⟨by rfl, ?_⟩) hHeld ?_
            · intro w' hSw
              try simp only [Act.put, List.getElem_toArray, List.getElem_cons_succ, List.getElem_cons_zero, List.setIfInBounds_toArray, List.set_cons_zero, List.set_cons_succ]
              go_simp
            try simp only [Act.put, List.getElem_toArray, List.getElem_cons_succ, List.getElem_cons_zero, List.setIfInBounds_toArray, List.set_cons_zero, List.set_cons_succ]
            refine wpAnyH_take (i := 9) (v := (.bool false)) rfl (by kernel_rfl) (by kernel_rfl) (by kernel_rfl) (fun _ _ _ h => h) (Or.inl ⟨by rfl, ?_⟩) hHeld ?_
            · intro w' hSw
              try simp only [Act.put, List.getElem_toArray, List.getElem_cons_succ, List.getElem_cons_zero, List.setIfInBounds_toArray, List.set_cons_zero, List.set_cons_succ]
              go_simp
            try simp only [Act.put, List.getElem_toArray, List.getElem_cons_succ, List.getElem_cons_zero, List.setIfInBounds_toArray, List.set_cons_zero, List.set_cons_succ]
            clear hHeld
            refine wpAnyH_ready (rs := [10]) (by kernel_rfl) (by simp) (AllReadyH.cons rfl (fun K hK => ?_) AllReadyH.nil)
            rw [if_pos (by rfl)]
            go_simp
            refine (sneed_no 2 _).mono ?_
            rintro e w5 ⟨rfl, t5⟩
            exact ⟨rfl, .inr ⟨rfl, rfl, HT.out.trans (((Touch.refl _ []).drew).trans t5 (by simp)) (by simp)⟩⟩
        · rw [if_neg (fun h => hk h.2)]
          have hdk : decide (0 ≤ k) = false := decide_eq_false hk
          go_enter Try.func96, Try.ntmps96
          go_wp2_with fail
          refine (HWH.out _).out.mono ?_
          rintro e w1 ⟨rfl, t1⟩
          have HT1 : Hid (Touch w w1 []) := HT.out.trans t1 (by simp)
          clear t1
          go_wp2_with fail
          refine (sneed_no 2 _).mono ?_
          rintro e w5 ⟨rfl, t5⟩
          exact ⟨rfl, .inr ⟨rfl, rfl, HT1.out.trans t5 (by simp)⟩⟩
  · have hv : varW ⟨io, ia, iv⟩ pp nh = if ia < nh then some ia else none := by
      unfold varW idxW
      rw [if_neg (by simpa using hix)]
      simp
    rw [hv]
    clear hv hp hl hpos hw hc tA
    have hio : io = 4 ∨ io = 5 := by omega
    clear hix hop
    by_cases hlt : ia < nh
    · rw [if_pos hlt]
      have hdl : decide (ia < (nh : Int)) = true := decide_eq_true hlt
      rcases hio with rfl | rfl
      all_goals
        go_enter Try.func96, Try.ntmps96
        go_wp2_with fail
        generalize w.alloc _ = Q at *
        have d0 : Q.drew.cell? ⟨b, 9, none⟩ = some (.slice ah nh ch) := hcA
        have d1 : Q.drew.cell? ⟨w.heap.size, 1, none⟩ = some (.int .i64 ia) := hb1
        go_region_held3 (fun w' => w'.cell? ⟨b, 9, none⟩ = some (.slice ah nh ch) ∧ w'.cell? ⟨w.heap.size, 1, none⟩ = some (.int .i64 ia)) (exact ⟨d0, d1⟩) (first | (refine (sneed_ok 2 _).mono ?_; rintro e _ ⟨rfl, rfl⟩))
        go_wp2
        go_ret
        exact .inl ⟨_, rfl, rfl, HT.out.drew⟩
    · rw [if_neg hlt]
      have hdl : decide (ia < (nh : Int)) = false := decide_eq_false hlt
      rcases hio with rfl | rfl
      all_goals
        go_enter Try.func96, Try.ntmps96
        go_wp2_with fail
        generalize w.alloc _ = Q at *
        have d0 : Q.drew.cell? ⟨b, 9, none⟩ = some (.slice ah nh ch) := hcA
        have d1 : Q.drew.cell? ⟨w.heap.size, 1, none⟩ = some (.int .i64 ia) := hb1
        refine wp_region_held_drew (S := (fun w' : World => w'.cell? ⟨b, 9, none⟩ = some (.slice ah nh ch) ∧ w'.cell? ⟨w.heap.size, 1, none⟩ = some (.int .i64 ia))) (by kernel_rfl) ⟨d0, d1⟩ (fun hHeld => ?_)
        try simp only [Act.put, List.getElem_toArray, List.getElem_cons_succ, List.getElem_cons_zero, List.setIfInBounds_toArray, List.set_cons_zero, List.set_cons_succ]
        refine wpAnyH_take (i := 0) (v := (.pointer (some ⟨w.heap.size, 1, none⟩))) rfl (by kernel_rfl) (by kernel_rfl) (by kernel_rfl) (fun _ _ _ h => h) (Or.inl ⟨by rfl, ?_⟩) hHeld ?_
        · intro w' hSw
          try simp only [Act.put, List.getElem_toArray, List.getElem_cons_succ, List.getElem_cons_zero, List.setIfInBounds_toArray, List.set_cons_zero, List.set_cons_succ]
          go_simp
        try simp only [Act.put, List.getElem_toArray, List.getElem_cons_succ, List.getElem_cons_zero, List.setIfInBounds_toArray, List.set_cons_zero, List.set_cons_succ]
        refine wpAnyH_take (i := 1) (v := (.int .i64 ia)) rfl (by kernel_rfl) (by kernel_rfl) (by kernel_rfl) (fun _ _ _ h => h) (Or.inl ⟨by rfl, ?_⟩) hHeld ?_
        · intro w' hSw
          try simp only [Act.put, List.getElem_toArray, List.getElem_cons_succ, List.getElem_cons_zero, List.setIfInBounds_toArray, List.set_cons_zero, List.set_cons_succ]
          go_simp
        try simp only [Act.put, List.getElem_toArray, List.getElem_cons_succ, List.getElem_cons_zero, List.setIfInBounds_toArray, List.set_cons_zero, List.set_cons_succ]
        refine wpAnyH_take (i := 2) (v := (.int .i64 0)) rfl (by kernel_rfl) (by kernel_rfl) (by kernel_rfl) (fun _ _ _ h => h) (Or.inl ⟨by rfl, ?_⟩) hHeld ?_
        · intro w' hSw
          try simp only [Act.put, List.getElem_toArray, List.getElem_cons_succ, List.getElem_cons_zero, List.setIfInBounds_toArray, List.set_cons_zero, List.set_cons_succ]
          go_simp
        try simp only [Act.put, List.getElem_toArray, List.getElem_cons_succ, List.getElem_cons_zero, List.setIfInBounds_toArray, List.set_cons_zero, List.set_cons_succ]
        refine wpAnyH_take (i := 3) (v := (.int .i64 ia)) rfl (by kernel_rfl) (by kernel_rfl) (by kernel_rfl) (fun _ _ _ h => h) (Or.inl ⟨by rfl, ?_⟩) hHeld ?_
        · intro w' hSw
          try simp only [Act.put, List.getElem_toArray, List.getElem_cons_succ, List.getElem_cons_zero, List.setIfInBounds_toArray, List.set_cons_zero, List.set_cons_succ]
          go_simp
        try simp only [Act.put, List.getElem_toArray, List.getElem_cons_succ, List.getElem_cons_zero, List.setIfInBounds_toArray, List.set_cons_zero, List.set_cons_succ]
        refine wpAnyH_take (i := 4) (v := (.pointer (some ⟨b, 0, none⟩))) rfl (by kernel_rfl) (by kernel_rfl) (by kernel_rfl) (fun _ _ _ h => h) (Or.inl ⟨by rfl, ?_⟩) hHeld ?_
        · intro w' hSw
          try simp only [Act.put, List.getElem_toArray, List.getElem_cons_succ, List.getElem_cons_zero, List.setIfInBounds_toArray, List.set_cons_zero, List.set_cons_succ]
          go_simp
        try simp only [Act.put, List.getElem_toArray, List.getElem_cons_succ, List.getElem_cons_zero, List.setIfInBounds_toArray, List.set_cons_zero, List.set_cons_succ]
        refine wpAnyH_take (i := 5) (v := (.pointer (some ⟨b, 0, none⟩))) rfl (by kernel_rfl) (by kernel_rfl) (by kernel_rfl) (fun _ _ _ h => h) (Or.inl ⟨by rfl, ?_⟩) hHeld ?_
        · intro w' hSw
          try simp only [Act.put, List.getElem_toArray, List.getElem_cons_succ, List.getElem_cons_zero, List.setIfInBounds_toArray, List.set_cons_zero, List.set_cons_succ]
          go_simp
        try simp only [Act.put, List.getElem_toArray, List.getElem_cons_succ, List.getElem_cons_zero, List.setIfInBounds_toArray, List.set_cons_zero, List.set_cons_succ]
        refine wpAnyH_take (i := 6) (v := (.pointer (some ⟨b, 9, none⟩))) rfl (by kernel_rfl) (by kernel_rfl) (by kernel_rfl) (fun _ _ _ h => h) (Or.inl ⟨by rfl, ?_⟩) hHeld ?_
        · intro w' hSw
          try simp only [Act.put, List.getElem_toArray, List.getElem_cons_succ, List.getElem_cons_zero, List.setIfInBounds_toArray, List.set_cons_zero, List.set_cons_succ]
          go_simp
        try simp only [Act.put, List.getElem_toArray, List.getElem_cons_succ, List.getElem_cons_zero, List.setIfInBounds_toArray, List.set_cons_zero, List.set_cons_succ]
        refine wpAnyH_take (i := 7) (v := (.slice ah nh ch)) rfl (by kernel_rfl) (by kernel_rfl) (by kernel_rfl) (fun _ _ _ h => h) (Or.inl ⟨by rfl, ?_⟩) hHeld ?_
        · intro w' hSw
          try simp only [Act.put, List.getElem_toArray, List.getElem_cons_succ, List.getElem_cons_zero, List.setIfInBounds_toArray, List.set_cons_zero, List.set_cons_succ]
          go_simp
        try simp only [Act.put, List.getElem_toArray, List.getElem_cons_succ, List.getElem_cons_zero, List.setIfInBounds_toArray, List.set_cons_zero, List.set_cons_succ]
        refine wpAnyH_take (i := 8) (v := (.int .i64 (nh : Int))) rfl (by kernel_rfl) (by kernel_rfl) (by kernel_rfl) (fun _ _ _ h => h) (Or.inl ⟨by rfl, ?_⟩) hHeld ?_
        · intro w' hSw
          try simp only [Act.put, List.getElem_toArray, List.getElem_cons_succ, List.getElem_cons_zero, List.setIfInBounds_toArray, List.set_cons_zero, List.set_cons_succ]
          go_simp
        try simp only [Act.put, List.getElem_toArray, List.getElem_cons_succ, List.getElem_cons_zero, List.setIfInBounds_toArray, List.set_cons_zero, List.set_cons_succ]
        refine wpAnyH_take (i := 9) (v := (.bool false)) rfl (by kernel_rfl) (by kernel_rfl) (by kernel_rfl) (fun _ _ _ h => h) (Or.inl ⟨by rfl, ?_⟩) hHeld ?_
        · intro w' hSw
          try simp only [Act.put, List.getElem_toArray, List.getElem_cons_succ, List.getElem_cons_zero, List.setIfInBounds_toArray, List.set_cons_zero, List.set_cons_succ]
          go_simp
        try simp only [Act.put, List.getElem_toArray, List.getElem_cons_succ, List.getElem_cons_zero, List.setIfInBounds_toArray, List.set_cons_zero, List.set_cons_succ]
        clear hHeld
        refine wpAnyH_ready (rs := [10]) (by kernel_rfl) (by simp) (AllReadyH.cons rfl (fun K hK => ?_) AllReadyH.nil)
        rw [if_pos (by rfl)]
        go_simp
        refine (sneed_no 2 _).mono ?_
        rintro e w5 ⟨rfl, t5⟩
        exact ⟨rfl, .inr ⟨rfl, rfl, HT.out.trans (((Touch.refl _ []).drew).trans t5 (by simp)) (by simp)⟩⟩

end Go.Proofs.Ytlndbligbpfdpaa

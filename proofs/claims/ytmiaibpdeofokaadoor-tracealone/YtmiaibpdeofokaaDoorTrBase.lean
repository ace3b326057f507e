/-
  package trace: above, Merge AS PLAIN DATA, the program's and the document's BY THEIR CONTRACTS.
-/
import Derived.Test.YtmiaibpdeofokaaDoorHistRefRt
import Derived.Test.YtmiaibpdeofokaaDoorHistIn
import Derived.Test.YtmiaibpdeofokaaDoorHistSame
import Derived.Test.YtmiaibpdeofokaaDoorRowApp
import Derived.Deep.QuietTactic
import Derived.BigQuiet
namespace Go.Proofs.YtmiaibpdeofokaaDoor
set_option linter.unusedVariables false
set_option linter.unusedSimpArgs false
open Go.RowKit Go.Maps
attribute [local go_sem] Oper.semAt_some

/-- A contract, hidden. -/
structure HidC (P : Program) (f : Nat) (a : Array Value) (w : World) (Q : Ending → World → Prop) : Prop where
  out : Calls P f a w Q

/-- The number behind the highest one. -/
def abvS (l : List EvD) : Int := l.foldl (fun n e => max n (e.a + 1)) 0
theorem abvS_snoc {l : List EvD} {k : Nat} (hk : k < l.length) : abvS (l.take (k + 1)) = max (abvS (l.take k)) (l[k].a + 1) := by
  unfold abvS
  rw [List.take_succ_eq_append_getElem hk, List.foldl_append]
  rfl
/-- Numbers that attempts may have. -/
def Low (l : List EvD) : Prop := ∀ e ∈ l, 0 ≤ e.a ∧ e.a < 64
theorem abv_range (l : List EvD) (h : Low l) : ∀ n : Int, 0 ≤ n ∧ n ≤ 64 → 0 ≤ l.foldl (fun n e => max n (e.a + 1)) n ∧ l.foldl (fun n e => max n (e.a + 1)) n ≤ 64 := by
  induction l with
  | nil => intro n hn; exact hn
  | cons e l ih =>
    intro n hn
    have := h e (by simp)
    exact ih (fun x hx => h x (List.mem_cons_of_mem _ hx)) (max n (e.a + 1)) (by omega)
theorem abvS_range {l : List EvD} (h : Low l) : 0 ≤ abvS l ∧ abvS l ≤ 64 := abv_range l h 0 (by omega)
theorem Low.take {l : List EvD} (h : Low l) (k : Nat) : Low (l.take k) := fun e he => h e (List.mem_of_mem_take he)
theorem low_run (l : List EvD) : ∀ (M : CM), (runC M l).isSome = true → Low l := by
  induction l with
  | nil => intro M _ e he; cases he
  | cons x l ih =>
    intro M h
    have h1 : (runC M (x :: l)) = (stepC M x).bind fun M' => runC M' l := rfl
    rw [h1] at h
    cases hs : stepC M x with
    | none => rw [hs] at h; simp at h
    | some M' =>
      rw [hs] at h
      have hx : 0 ≤ x.a ∧ x.a < 64 := by
        unfold stepC at hs
        split at hs
        · assumption
        · cases hs
      intro e he
      rcases List.mem_cons.1 he with rfl | he
      · exact hx
      · exact ih M' (by simpa using h) e he
theorem low_right {l : List EvD} (h : rightS l = true) : Low l := by
  unfold rightS at h
  exact low_run l _ (by simp at h; exact h.2)

set_option maxRecDepth 100000 in
set_option maxHeartbeats 1000000 in
theorem above_any {w : World} {ao : Option Addr} {cap : Nat} {l : List EvD} (hr : EvRow w (.slice ao l.length cap) l) (hl : l.length ≤ 1000) (hlow : Low l) :
    Calls Tryd.prog 19 #[.slice ao l.length cap] w fun e w' => e = .returned (.int .i64 (abvS l)) ∧ Touch w w' [] := by
  obtain ⟨N, hN⟩ : ∃ N, N = l.length := ⟨_, rfl⟩
  have HN : Hid (N = l.length) := hN
  have HR : Hid (EvRow w (.slice ao l.length cap) l) := hr
  have HL : Hid (Low l) := hlow
  rw [← hN] at hl ⊢
  clear hN hr hlow
  go_enter Tryd.func19, Tryd.ntmps19
  go_wp2_with fail
  go_loopw [3, 8] (fun v i wr => ∃ k : Nat, i = .int .i64 k ∧ k ≤ N ∧ v = .int .i64 (abvS (l.take k)) ∧ Touch w wr []) (fun _ i _ => N - (intOf i).toNat)
  case atStart => exact ⟨0, rfl, Nat.zero_le _, rfl, Touch.refl _ _⟩
  case round =>
    obtain ⟨k, rfl, hk, rfl, hT⟩ := hrel
    have HT : Hid _ := hT
    by_cases hlt : k < N
    ·
      have h1 : (k : Int) < N := by omega
      have h0 : (0 : Int) ≤ k := by omega
      have hkl : k < l.length := by rw [← HN.out]; exact hlt
      obtain ⟨g, off, rfl, hg, m0, m1, m2, m3⟩ := HR.out.one k hkl
      have d0 := (hT.cell (p := ⟨g, off + k * 4, none⟩) hg (by simp)).trans m0
      have d1 := (hT.cell (p := ⟨g, off + k * 4 + 1, none⟩) hg (by simp)).trans m1
      have d2 := (hT.cell (p := ⟨g, off + k * 4 + 2, none⟩) hg (by simp)).trans m2
      have d3 := (hT.cell (p := ⟨g, off + k * 4 + 3, none⟩) hg (by simp)).trans m3
      have hsn := abvS_snoc hkl
      have hrg := abvS_range (HL.out.take k)
      have hre := HL.out _ (List.getElem_mem hkl)
      obtain ⟨e, he⟩ : ∃ e, e = l[k] := ⟨_, rfl⟩
      rw [← he] at d0 d1 d2 d3 hsn hre
      obtain ⟨n, hn⟩ : ∃ n : Int, n = abvS (l.take k) := ⟨_, rfl⟩
      rw [← hn] at hsn hrg
      have HSN : Hid _ := hsn
      have HT2 : Hid (Touch w (wr.alloc e.obj) []) := HT.out.alloc _
      have hw1 : IntKind.i64.wrap (e.a + 1) = e.a + 1 := by rw [IntKind.wrap_i64]; omega
      rw [← hn]
      clear m0 m1 m2 m3 he hT hsn hn hre hrg
      go_wp2
      go_roundw
      case rel => exact ⟨k + 1, by go_num, by omega, by rw [HSN.out]; first | rfl | (congr 1; omega), HT2.out⟩
      case measure => simp [intOf]; omega
    · obtain rfl : k = N := by omega
      have hall : l.take k = l := by rw [HN.out, List.take_length]
      rw [hall]
      clear hT hall
      go_wp2
      go_ret
      exact ⟨rfl, HT.out⟩

set_option maxRecDepth 100000 in
set_option maxHeartbeats 1000000 in
theorem rabove_any {w : World} {ao : Option Addr} {cap : Nat} {l : List EvD} (hr : EvRow w (.slice ao l.length cap) l) (hl : l.length ≤ 1000) (hlow : Low l) :
    Calls Tryd.prog 21 #[.slice ao l.length cap] w fun e w' => e = .returned (.int .i64 (abvS l)) ∧ Touch w w' [] := by
  obtain ⟨N, hN⟩ : ∃ N, N = l.length := ⟨_, rfl⟩
  have HN : Hid (N = l.length) := hN
  have HR : Hid (EvRow w (.slice ao l.length cap) l) := hr
  have HL : Hid (Low l) := hlow
  rw [← hN] at hl ⊢
  clear hN hr hlow
  go_enter Tryd.func21, Tryd.ntmps21
  go_wp2_with fail
  go_loopw [3, 4] (fun v i wr => ∃ k : Nat, i = .int .i64 k ∧ k ≤ N ∧ v = .int .i64 (abvS (l.take k)) ∧ Touch w wr []) (fun _ i _ => N - (intOf i).toNat)
  case atStart => exact ⟨0, rfl, Nat.zero_le _, rfl, Touch.refl _ _⟩
  case round =>
    obtain ⟨k, rfl, hk, rfl, hT⟩ := hrel
    have HT : Hid _ := hT
    by_cases hlt : k < N
    ·
      have h1 : (k : Int) < N := by omega
      have h0 : (0 : Int) ≤ k := by omega
      have hkl : k < l.length := by rw [← HN.out]; exact hlt
      obtain ⟨g, off, rfl, hg, m0, m1, m2, m3⟩ := HR.out.one k hkl
      have d0 := (hT.cell (p := ⟨g, off + k * 4, none⟩) hg (by simp)).trans m0
      have d1 := (hT.cell (p := ⟨g, off + k * 4 + 1, none⟩) hg (by simp)).trans m1
      have d2 := (hT.cell (p := ⟨g, off + k * 4 + 2, none⟩) hg (by simp)).trans m2
      have d3 := (hT.cell (p := ⟨g, off + k * 4 + 3, none⟩) hg (by simp)).trans m3
      have hsn := abvS_snoc hkl
      have hrg := abvS_range (HL.out.take k)
      have hre := HL.out _ (List.getElem_mem hkl)
      obtain ⟨e, he⟩ : ∃ e, e = l[k] := ⟨_, rfl⟩
      rw [← he] at d0 d1 d2 d3 hsn hre
      obtain ⟨n, hn⟩ : ∃ n : Int, n = abvS (l.take k) := ⟨_, rfl⟩
      rw [← hn] at hsn hrg
      have HSN : Hid _ := hsn
      have hw1 : IntKind.i64.wrap (e.a + 1) = e.a + 1 := by rw [IntKind.wrap_i64]; omega
      rw [← hn]
      clear m0 m1 m2 m3 he hT hsn hn hre hrg
      by_cases hge : n ≤ e.a
      · have HG : Hid _ := hge
        go_wp2
        go_roundw
        case rel => exact ⟨k + 1, by go_num, by omega, by rw [HSN.out, Int.max_eq_right (by have := HG.out; omega)], HT.out⟩
        case measure => simp [intOf]; omega
      · have HG : Hid _ := hge
        go_wp2
        go_roundw
        case rel => exact ⟨k + 1, by go_num, by omega, by rw [HSN.out, Int.max_eq_left (by have := HG.out; omega)], HT.out⟩
        case measure => simp [intOf]; omega
    · obtain rfl : k = N := by omega
      have hall : l.take k = l := by rw [HN.out, List.take_length]
      rw [hall]
      clear hT hall
      go_wp2
      go_ret
      exact ⟨rfl, HT.out⟩

end Go.Proofs.YtmiaibpdeofokaaDoor

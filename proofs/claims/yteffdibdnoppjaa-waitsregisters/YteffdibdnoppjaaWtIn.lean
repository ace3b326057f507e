/-
  in BY ITS CONTRACT.
-/
import Derived.Test.YteffdibdnoppjaaWtPlay
namespace Go.Proofs.Yteffdibdnoppjaa
set_option linter.unusedVariables false
set_option linter.unusedSimpArgs false
open Go.RowKit Go.Maps

set_option maxRecDepth 100000 in
theorem in_any {w : World} {v : Value} {l : List Int} (hr : IRow w v l) (hl : l.length ≤ 1000) (x : Int) :
    Calls Try.prog 21 #[v, .int .i64 x] w fun e w' => e = .returned (.bool (decide (x ∈ l))) ∧ w = w' := by
  obtain ⟨ao, cap, rfl⟩ := hr.shape
  obtain ⟨N, hN⟩ : ∃ N, N = l.length := ⟨_, rfl⟩
  have HN : Hid _ := hN
  have HC : Hid (∀ k (hk : k < l.length), ∃ g off, ao = some ⟨g, off, none⟩ ∧ g < w.heap.size ∧ w.cell? ⟨g, off + k, none⟩ = some (.int .i64 l[k])) := fun k hk => IRow.one hr k hk
  obtain ⟨res, hres⟩ : ∃ r, r = decide (x ∈ l) := ⟨_, rfl⟩
  have HRES : Hid (res = decide (x ∈ l.drop 0)) := hres
  rw [← hres]
  rw [← hN] at hl ⊢
  clear hN hr hres
  go_enter Try.func21, Try.ntmps21
  go_wp2_with fail
  go_loopw [5] (fun i wr => ∃ k : Nat, i = .int .i64 k ∧ k ≤ N ∧ res = decide (x ∈ l.drop k) ∧ wr = w) (fun i _ => N - (intOf i).toNat)
  case atStart => exact ⟨0, rfl, Nat.zero_le _, HRES.out, rfl⟩
  case round =>
    obtain ⟨k, rfl, hk, hrs, rfl⟩ := hrel
    clear HRES
    by_cases hlt : k < N
    · have h1 : (k : Int) < N := by omega
      have h0 : (0 : Int) ≤ k := by omega
      have hkl : k < l.length := by rw [← HN.out]; exact hlt
      obtain ⟨g, off, rfl, hg, d0⟩ := HC.out k hkl
      rw [List.drop_eq_getElem_cons hkl] at hrs
      generalize l[k] = y at *
      have HR : Hid _ := hrs
      clear hrs
      by_cases hxy : y = x
      · subst hxy
        go_wp2
        go_ret
        exact ⟨by have := HR.out; simp at this; rw [this]; rfl, rfl⟩
      · have hb : (y == x) = false := by simpa using hxy
        go_wp2
        go_roundw
        case rel => exact ⟨k + 1, by go_num, by omega, by have := HR.out; rw [this]; simp [Ne.symm hxy], by simp⟩
        case measure => simp [intOf]; omega
    · obtain rfl : k = N := by omega
      have hall : l.drop k = [] := by rw [HN.out, List.drop_length]
      rw [hall] at hrs
      have HR : Hid _ := hrs
      clear hrs hall
      go_wp2
      go_ret
      exact ⟨by rw [HR.out]; rfl, rfl⟩

end Go.Proofs.Yteffdibdnoppjaa

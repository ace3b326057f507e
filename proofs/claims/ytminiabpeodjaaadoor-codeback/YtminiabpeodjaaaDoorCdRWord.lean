/-
  THE DOCUMENT'S Word BY ITS CONTRACT.
-/
import Derived.Test.YtminiabpeodjaaaDoorCdBy
namespace Go.Proofs.YtminiabpeodjaaaDoor
set_option linter.unusedVariables false
set_option linter.unusedSimpArgs false
open Go.RowKit
attribute [local go_sem] Oper.semAt_some

/-- The words as the document's text has them. -/
def rwordsA : Array Value := #[.string ⟨#[110, 111, 112]⟩, .string ⟨#[112, 117, 115, 104]⟩, .string ⟨#[108, 111, 99, 97, 108]⟩, .string ⟨#[115, 101, 116]⟩, .string ⟨#[103, 101, 116]⟩, .string ⟨#[112, 117, 116]⟩, .string ⟨#[103, 101, 116, 97, 116]⟩, .string ⟨#[112, 117, 116, 97, 116]⟩, .string ⟨#[97, 100, 100]⟩, .string ⟨#[115, 117, 98]⟩, .string ⟨#[109, 117, 108]⟩, .string ⟨#[100, 105, 118]⟩, .string ⟨#[110, 101, 103]⟩, .string ⟨#[108, 101, 115, 115]⟩, .string ⟨#[115, 97, 109, 101]⟩, .string ⟨#[110, 111, 116]⟩, .string ⟨#[100, 117, 112]⟩, .string ⟨#[112, 111, 112]⟩, .string ⟨#[115, 119, 97, 112]⟩, .string ⟨#[106, 117, 109, 112]⟩, .string ⟨#[122, 101, 114, 111]⟩, .string ⟨#[97, 116, 111, 109, 105, 99]⟩, .string ⟨#[101, 110, 100]⟩, .string ⟨#[111, 114, 101, 108, 115, 101]⟩, .string ⟨#[101, 108, 115, 101]⟩, .string ⟨#[101, 110, 100, 111, 114]⟩, .string ⟨#[114, 101, 116, 114, 121]⟩, .string ⟨#[111, 117, 116]⟩, .string ⟨#[104, 97, 108, 116]⟩]
theorem rwords_at (k : Nat) (hk : k < 29) : rwordsA[k]? = some (.string (wordB k)) := by
  rcases (show k = 0 ∨ k = 1 ∨ k = 2 ∨ k = 3 ∨ k = 4 ∨ k = 5 ∨ k = 6 ∨ k = 7 ∨ k = 8 ∨ k = 9 ∨ k = 10 ∨ k = 11 ∨ k = 12 ∨ k = 13 ∨ k = 14 ∨ k = 15 ∨ k = 16 ∨ k = 17 ∨ k = 18 ∨ k = 19 ∨ k = 20 ∨ k = 21 ∨ k = 22 ∨ k = 23 ∨ k = 24 ∨ k = 25 ∨ k = 26 ∨ k = 27 ∨ k = 28 by omega) with rfl | rfl | rfl | rfl | rfl | rfl | rfl | rfl | rfl | rfl | rfl | rfl | rfl | rfl | rfl | rfl | rfl | rfl | rfl | rfl | rfl | rfl | rfl | rfl | rfl | rfl | rfl | rfl | rfl
  all_goals rfl
set_option maxRecDepth 100000 in
set_option maxHeartbeats 1000000 in
theorem rword_any (o : Int) (h0 : 0 ≤ o) (h1 : o ≤ 255) (w : World) : Calls Tryd.prog 20 #[.int .u8 o] w fun e w' => e = .returned (.string (wordP o)) ∧ Touch w w' [] := by
  have HT : Hid (Touch w (w.alloc (.cells rwordsA 9)) []) := (Touch.refl w []).alloc _
  have HC : Hid (∀ k, k < 29 → (w.alloc (.cells rwordsA 9)).cell? ⟨w.heap.size, k, none⟩ = some (.string (wordB k))) := fun k hk => by
    have hb : (w.alloc (.cells rwordsA 9)).heap[w.heap.size]? = some (.cells rwordsA 9 (0, 0)) := heap_alloc_new w _
    unfold World.cell?
    rw [hb]
    simpa using rwords_at k hk
  unfold wordP
  have hw : IntKind.i64.wrap o = o := by rw [IntKind.wrap_i64]; omega
  by_cases hb : 28 < o
  · rw [if_pos hb]
    have hb' : (29 : Int) ≤ o := by omega
    clear HC
    unfold rwordsA at HT
    go_enter Tryd.func20, Tryd.ntmps20
    go_wp2
    go_ret
    exact ⟨rfl, HT.out⟩
  · rw [if_neg hb]
    obtain ⟨k, rfl⟩ := Int.eq_ofNat_of_zero_le h0
    have hc := HC.out k (by omega)
    have hk1 : (k : Int) < 29 := by omega
    have hk2 : ¬ ((29 : Int) ≤ k) := by omega
    simp only [Int.toNat_natCast]
    generalize wordB k = s at *
    clear HC hb
    unfold rwordsA at HT hc
    go_enter Tryd.func20, Tryd.ntmps20
    go_wp2
    go_ret
    exact ⟨rfl, HT.out⟩

end Go.Proofs.YtminiabpeodjaaaDoor

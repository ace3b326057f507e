/-
  package code: appended BY ITS CONTRACT.
-/
import Derived.Test.YtphjaekcfbalkaaCdRight
import Derived.Test.YtphjaekcfbalkaaRowApp
import Derived.Laws.BitsAllLaws
import Derived.Lib.SliceRun
namespace Go.Proofs.Ytphjaekcfbalkaa
set_option linter.unusedVariables false
set_option linter.unusedSimpArgs false
open Go.RowKit
attribute [local go_sem] Oper.semAt_some

theorem info_parts' {P : Program} {t : TypeId} {z : Value} {s b : Nat} (h : (P.info? t).map (fun i => (i.zero, i.size, i.bytes)) = some (some z, s, b)) : ∃ i, P.info? t = some i ∧ i.zero = some z ∧ i.size = s ∧ i.bytes = b := by
  cases hi : P.info? t with
  | none => rw [hi] at h; cases h
  | some i => rw [hi] at h; simp at h; exact ⟨i, rfl, h.1, h.2.1, h.2.2⟩
theorem Try.info_u8 : (Try.prog.info? 5).map (fun i => (i.zero, i.size, i.bytes)) = some (some (.int .u8 0), 1, 1) := by kernel_rfl

/-! ### Rows of bytes -/
abbrev bytOwn (w : World) (B : Nat) (v : Value) (l : List Int) : Prop := w.ownsRow B 5 1 v l.length (l.map (Value.int .u8))
abbrev ucell : Int → List Value := fun x => [Value.int .u8 x]
abbrev BRow := SRow 1 ucell
theorem byt_lt {w : World} {B : Nat} {v : Value} {l : List Int} (h : bytOwn w B v l) : ∀ g, v.ownBlock = some g → B ≤ g ∧ g < w.heap.size := by
  intro g hg
  rcases h.2 with ⟨e, h0⟩ | ⟨g', cap, cur, e, hb, hg', _⟩
  · rw [e] at hg; simp [Value.ownBlock] at hg
  · rw [e] at hg
    simp [Value.ownBlock] at hg
    subst hg
    exact ⟨hb, lt_of_heap hg'⟩
theorem byte_new (w : World) (x : Int) : BRow (w.alloc (.cells #[.int .u8 x] 5)) (.slice (some ⟨w.heap.size, 0, none⟩) 1 1) [x] := by
  refine ⟨_, 1, rfl, fun _ => ⟨w.heap.size, 0, rfl, by simp, fun k hk j hj => ?_⟩⟩
  have hk0 : k = 0 := by simpa using hk
  have hj0 : j = 0 := by omega
  subst hk0 hj0
  have h0 := heap_alloc_new w (.cells #[.int .u8 x] 5)
  show (match (w.alloc (.cells #[.int .u8 x] 5)).heap[w.heap.size]? with
    | some (Obj.cells c elem frozen) => c[0]?
    | x => none) = _
  rw [h0]; rfl
/-! ### The bytes of an instruction -/
/-- The first k of a Val's eight bytes, the highest first. -/
def valB (v : Nat) (k : Nat) : List Int := (List.range k).map (fun i => ((v / 2 ^ (8 * (7 - i)) % 256 : Nat) : Int))
theorem valB_snoc (v k : Nat) : valB v (k + 1) = valB v k ++ [((v / 2 ^ (8 * (7 - k)) % 256 : Nat) : Int)] := by
  unfold valB; rw [List.range_succ, List.map_append]; rfl
theorem valB_len (v k : Nat) : (valB v k).length = k := by simp [valB]
def encI (i : InsD) : List Int := i.op :: ((if argP i.op then [i.arg % 256] else []) ++ (if valP i.op then valB i.val.toNat 8 else []))

end Go.Proofs.Ytphjaekcfbalkaa

/-
  LocksMean: WHAT IS KEPT from call to call.
-/
import Derived.Test.YtjbbjbbkembknaaAllC
import Derived.Test.YtjbbjbbkembknaaRbBlk
import Derived.Test.YtjbbjbbkembknaaRoShape
namespace Go.Proofs.Ytjbbjbbkembknaa
set_option linter.unusedVariables false
set_option linter.unusedSimpArgs false
open Go.RowKit
attribute [local go_sem] Oper.semAt_some

/-- The instructions, and the call in block p. -/
structure LmAt (w W : World) (ao : Option Addr) (cap : Nat) (L : List InsD) (p : Nat) (c u : Int) : Prop where
  ins : InsIn W ao L.length cap L
  box : BoxC W p c u 0
  t : Touch w W []
  gl : ∀ g, (Value.slice ao L.length cap).ownBlock = some g → L ≠ [] → g < p
  lt : p < W.heap.size
  wl : w.heap.size ≤ p
theorem LmAt.new {w w1 : World} {ao : Option Addr} {cap : Nat} {L : List InsD} {c u : Int} (h : InsIn w1 ao L.length cap L) (t : Touch w w1 []) : LmAt w (w1.alloc (.cells #[.int .u8 c, .int .i64 u, .int .u64 0] 27)) ao cap L w1.heap.size c u := by
  have tA : Touch w1 (w1.alloc (.cells #[.int .u8 c, .int .i64 u, .int .u64 0] 27)) [] := (Touch.refl w1 []).alloc _
  exact ⟨h.keep tA, BoxC.new w1 c u 0, t.trans tA (by simp), fun g hg hne => SRow.block h.row hne g hg, by simp, t.size⟩
theorem LmAt.keep {w W W' : World} {ao : Option Addr} {cap : Nat} {L : List InsD} {p : Nat} {c u : Int} {S : List Nat} (k : LmAt w W ao cap L p c u) (t : Touch W W' S) (hS : ∀ x ∈ S, p < x) : LmAt w W' ao cap L p c u :=
  have hw := k.wl
  ⟨⟨k.ins.len, SRow.keepB k.ins.row t (fun hne g hg hs => by have := k.gl g hg hne; have := hS g hs; omega), k.ins.le, k.ins.max, k.ins.wf⟩, k.box.touch t (fun hs => by have := hS p hs; omega), k.t.trans t (fun x hx => .inr (by have := hS x hx; omega)), k.gl, Nat.lt_of_lt_of_le k.lt t.size, hw⟩
theorem row3 (w : World) (x y z : Int) : VRow (w.alloc (.cells #[.int .u64 x, .int .u64 y, .int .u64 z] 25)) (.slice (some ⟨w.heap.size, 0, none⟩) 3 3) [x, y, z] :=
  vrow_of (B := 0) (World.ownsRow_lit w #[.int .u64 x, .int .u64 y, .int .u64 z] 3 (Nat.zero_le _) (by decide) (by simp))
theorem lm_blk (j u n : Int) (j0 : 0 ≤ j) (j1 : j < 4) (u0 : 0 ≤ u) (u1 : u < 4) (n0 : 0 ≤ n) (n1 : n < 5) :
    ∀ (W : World) (ap : Option Addr) (cp : Nat) (ah : Option Addr) (ch : Nat), InsIn W ap (oneL j 2 u).length cp (oneL j 2 u) → VRow W (.slice ah 3 ch) [0, 0, numV n] → HidC Try.prog 9 #[.slice ap (oneL j 2 u).length cp, .agg #[.int .i64 0, .slice none 0 0, .int .u64 0, .int .u64 0, .int .u64 0, .int .u64 0, .slice none 0 0], .slice ah 3 ch, .int .i64 50] W (BlkG W (lmR j u n) zWD [0, 0, numV n]) := fun W ap cp ah ch hin hv => by
  have ha : ∀ i ∈ oneL j 2 u, i.op ≠ 23 ∧ i.op ≠ 24 ∧ i.op ≠ 25 := by
    have := lm_arms ⟨j.toNat, by omega⟩ ⟨u.toNat, by omega⟩
    simpa only [Int.toNat_of_nonneg j0, Int.toNat_of_nonneg u0] using this
  have hl : (oneL j 2 u).length ≤ 11 ∧ 0 < (oneL j 2 u).length := by
    have := lm_len ⟨j.toNat, by omega⟩ ⟨u.toNat, by omega⟩
    simpa only [Int.toNat_of_nonneg j0, Int.toNat_of_nonneg u0] using this
  have hh : ((hereP (oneL j 2 u) 0).map (·.op)) = some 21 := by
    have := lm_here ⟨j.toNat, by omega⟩ ⟨u.toNat, by omega⟩
    simpa only [Int.toNat_of_nonneg j0, Int.toNat_of_nonneg u0] using this
  have hr := lm_run j u n j0 j1 u0 u1 n0 n1
  have hok : (lmR j u n).1 = 0 ∨ (lmR j u n).1 = -1 := by
    split at hr
    · exact .inr hr
    · exact .inl hr.1
  cases hx : hereP (oneL j 2 u) 0 with
  | none => rw [hx] at hh; simp at hh
  | some i0 =>
    rw [hx] at hh
    simp only [Option.map_some, Option.some.injEq] at hh
    have hn : VRow W (.slice none 0 0) [] := ⟨none, 0, rfl, fun h => absurd rfl h⟩
    have w0 : Wf64 0 := ⟨by decide, by decide⟩
    have wn : Wf64 (numV n) := numV_wf n (by omega)
    exact ⟨rblock_ok (D := zWD) (h := [0, 0, numV n]) (f := 50) hn hn hv hin.row (by omega) hin.wf ha ⟨by decide, by decide, by simp, by simp, by intro x hx; simp at hx; rcases hx with rfl | rfl <;> assumption, w0, w0, w0, w0⟩ hx hh hok⟩

end Go.Proofs.Ytjbbjbbkembknaa

/-
  package code: WHAT OPERATIONS POP AND PUSH, AS PLAIN DATA. No walk.
-/
import Derived.Test.YtjbbjbbkembknaaAllA
import Derived.Deep.RegionLaw
import Derived.Lib.SliceRun
import Derived.Deep.RegionHeld3
import Derived.Deep.QuietTactic
import Derived.BigQuiet
import Derived.Defers
import Derived.Recover
import Derived.Laws.Pointers
namespace Go.Proofs.Ytjbbjbbkembknaa
set_option linter.unusedVariables false
set_option linter.unusedSimpArgs false
open Go.RowKit

def popV (o : Int) : Int := if o = 3 ∨ o = 5 ∨ o = 17 ∨ o = 20 ∨ o = 27 ∨ o = 6 ∨ o = 12 ∨ o = 15 ∨ o = 16 then 1 else if o = 7 ∨ o = 8 ∨ o = 9 ∨ o = 10 ∨ o = 11 ∨ o = 13 ∨ o = 14 ∨ o = 18 then 2 else 0
def pushV (o : Int) : Int := if o = 1 ∨ o = 2 ∨ o = 4 ∨ o = 6 ∨ o = 12 ∨ o = 15 ∨ o = 8 ∨ o = 9 ∨ o = 10 ∨ o = 11 ∨ o = 13 ∨ o = 14 then 1 else if o = 16 ∨ o = 18 then 2 else 0
theorem pop_le (o : Int) : 0 ≤ popV o ∧ popV o ≤ 2 := by unfold popV; split <;> (try split) <;> omega
theorem push_le (o : Int) : 0 ≤ pushV o ∧ pushV o ≤ 2 := by unfold pushV; split <;> (try split) <;> omega

end Go.Proofs.Ytjbbjbbkembknaa
/-
  Effect, the program's and the document's, BY ITS CONTRACT.
-/
namespace Go.Proofs.Ytjbbjbbkembknaa
set_option linter.unusedVariables false
set_option linter.unusedSimpArgs false
open Go.RowKit
attribute [local go_sem] Oper.semAt_some


set_option maxRecDepth 100000 in
set_option maxHeartbeats 2000000 in
theorem reff_any (o : Int) (w : World) : Calls Try.prog 44 #[.int .u8 o] w fun e w' => e = .returned (.tuple #[.int .i64 (popV o), .int .i64 (pushV o)]) ∧ w = w' := by
  rcases (show o = 1 ∨ o = 2 ∨ o = 3 ∨ o = 4 ∨ o = 5 ∨ o = 6 ∨ o = 7 ∨ o = 8 ∨ o = 9 ∨ o = 10 ∨ o = 11 ∨ o = 12 ∨ o = 13 ∨ o = 14 ∨ o = 15 ∨ o = 16 ∨ o = 17 ∨ o = 18 ∨ o = 20 ∨ o = 27 ∨ (o ≠ 1 ∧ o ≠ 2 ∧ o ≠ 3 ∧ o ≠ 4 ∧ o ≠ 5 ∧ o ≠ 6 ∧ o ≠ 7 ∧ o ≠ 8 ∧ o ≠ 9 ∧ o ≠ 10 ∧ o ≠ 11 ∧ o ≠ 12 ∧ o ≠ 13 ∧ o ≠ 14 ∧ o ≠ 15 ∧ o ≠ 16 ∧ o ≠ 17 ∧ o ≠ 18 ∧ o ≠ 20 ∧ o ≠ 27) by omega) with rfl | rfl | rfl | rfl | rfl | rfl | rfl | rfl | rfl | rfl | rfl | rfl | rfl | rfl | rfl | rfl | rfl | rfl | rfl | rfl | ⟨h1, h2, h3, h4, h5, h6, h7, h8, h9, h10, h11, h12, h13, h14, h15, h16, h17, h18, h20, h27⟩
  · show Calls _ _ _ _ fun e w' => e = .returned (.tuple #[.int .i64 0, .int .i64 1]) ∧ w = w'
    go_enter Try.func44, Try.ntmps44
    go_wp2
    refine bodyPost_ret (v := .tuple #[.int .i64 0, .int .i64 1]) (by simp [results, Try.results44, go_sem]) rfl ?_
    exact ⟨rfl, rfl⟩
  · show Calls _ _ _ _ fun e w' => e = .returned (.tuple #[.int .i64 0, .int .i64 1]) ∧ w = w'
    go_enter Try.func44, Try.ntmps44
    go_wp2
    refine bodyPost_ret (v := .tuple #[.int .i64 0, .int .i64 1]) (by simp [results, Try.results44, go_sem]) rfl ?_
    exact ⟨rfl, rfl⟩
  · show Calls _ _ _ _ fun e w' => e = .returned (.tuple #[.int .i64 1, .int .i64 0]) ∧ w = w'
    go_enter Try.func44, Try.ntmps44
    go_wp2
    refine bodyPost_ret (v := .tuple #[.int .i64 1, .int .i64 0]) (by simp [results, Try.results44, go_sem]) rfl ?_
    exact ⟨rfl, rfl⟩
  · show Calls _ _ _ _ fun e w' => e = .returned (.tuple #[.int .i64 0, .int .i64 1]) ∧ w = w'
    go_enter Try.func44, Try.ntmps44
    go_wp2
    refine bodyPost_ret (v := .tuple #[.int .i64 0, .int .i64 1]) (by simp [results, Try.results44, go_sem]) rfl ?_
    exact ⟨rfl, rfl⟩
  · show Calls _ _ _ _ fun e w' => e = .returned (.tuple #[.int .i64 1, .int .i64 0]) ∧ w = w'
    go_enter Try.func44, Try.ntmps44
    go_wp2
    refine bodyPost_ret (v := .tuple #[.int .i64 1, .int .i64 0]) (by simp [results, Try.results44, go_sem]) rfl ?_
    exact ⟨rfl, rfl⟩
  · show Calls _ _ _ _ fun e w' => e = .returned (.tuple #[.int .i64 1, .int .i64 1]) ∧ w = w'
    go_enter Try.func44, Try.ntmps44
    go_wp2
    refine bodyPost_ret (v := .tuple #[.int .i64 1, .int .i64 1]) (by simp [results, Try.results44, go_sem]) rfl ?_
    exact ⟨rfl, rfl⟩
  · show Calls _ _ _ _ fun e w' => e = .returned (.tuple #[.int .i64 2, .int .i64 0]) ∧ w = w'
    go_enter Try.func44, Try.ntmps44
    go_wp2
    refine bodyPost_ret (v := .tuple #[.int .i64 2, .int .i64 0]) (by simp [results, Try.results44, go_sem]) rfl ?_
    exact ⟨rfl, rfl⟩
  · show Calls _ _ _ _ fun e w' => e = .returned (.tuple #[.int .i64 2, .int .i64 1]) ∧ w = w'
    go_enter Try.func44, Try.ntmps44
    go_wp2
    refine bodyPost_ret (v := .tuple #[.int .i64 2, .int .i64 1]) (by simp [results, Try.results44, go_sem]) rfl ?_
    exact ⟨rfl, rfl⟩
  · show Calls _ _ _ _ fun e w' => e = .returned (.tuple #[.int .i64 2, .int .i64 1]) ∧ w = w'
    go_enter Try.func44, Try.ntmps44
    go_wp2
    refine bodyPost_ret (v := .tuple #[.int .i64 2, .int .i64 1]) (by simp [results, Try.results44, go_sem]) rfl ?_
    exact ⟨rfl, rfl⟩
  · show Calls _ _ _ _ fun e w' => e = .returned (.tuple #[.int .i64 2, .int .i64 1]) ∧ w = w'
    go_enter Try.func44, Try.ntmps44
    go_wp2
    refine bodyPost_ret (v := .tuple #[.int .i64 2, .int .i64 1]) (by simp [results, Try.results44, go_sem]) rfl ?_
    exact ⟨rfl, rfl⟩
  · show Calls _ _ _ _ fun e w' => e = .returned (.tuple #[.int .i64 2, .int .i64 1]) ∧ w = w'
    go_enter Try.func44, Try.ntmps44
    go_wp2
    refine bodyPost_ret (v := .tuple #[.int .i64 2, .int .i64 1]) (by simp [results, Try.results44, go_sem]) rfl ?_
    exact ⟨rfl, rfl⟩
  · show Calls _ _ _ _ fun e w' => e = .returned (.tuple #[.int .i64 1, .int .i64 1]) ∧ w = w'
    go_enter Try.func44, Try.ntmps44
    go_wp2
    refine bodyPost_ret (v := .tuple #[.int .i64 1, .int .i64 1]) (by simp [results, Try.results44, go_sem]) rfl ?_
    exact ⟨rfl, rfl⟩
  · show Calls _ _ _ _ fun e w' => e = .returned (.tuple #[.int .i64 2, .int .i64 1]) ∧ w = w'
    go_enter Try.func44, Try.ntmps44
    go_wp2
    refine bodyPost_ret (v := .tuple #[.int .i64 2, .int .i64 1]) (by simp [results, Try.results44, go_sem]) rfl ?_
    exact ⟨rfl, rfl⟩
  · show Calls _ _ _ _ fun e w' => e = .returned (.tuple #[.int .i64 2, .int .i64 1]) ∧ w = w'
    go_enter Try.func44, Try.ntmps44
    go_wp2
    refine bodyPost_ret (v := .tuple #[.int .i64 2, .int .i64 1]) (by simp [results, Try.results44, go_sem]) rfl ?_
    exact ⟨rfl, rfl⟩
  · show Calls _ _ _ _ fun e w' => e = .returned (.tuple #[.int .i64 1, .int .i64 1]) ∧ w = w'
    go_enter Try.func44, Try.ntmps44
    go_wp2
    refine bodyPost_ret (v := .tuple #[.int .i64 1, .int .i64 1]) (by simp [results, Try.results44, go_sem]) rfl ?_
    exact ⟨rfl, rfl⟩
  · show Calls _ _ _ _ fun e w' => e = .returned (.tuple #[.int .i64 1, .int .i64 2]) ∧ w = w'
    go_enter Try.func44, Try.ntmps44
    go_wp2
    refine bodyPost_ret (v := .tuple #[.int .i64 1, .int .i64 2]) (by simp [results, Try.results44, go_sem]) rfl ?_
    exact ⟨rfl, rfl⟩
  · show Calls _ _ _ _ fun e w' => e = .returned (.tuple #[.int .i64 1, .int .i64 0]) ∧ w = w'
    go_enter Try.func44, Try.ntmps44
    go_wp2
    refine bodyPost_ret (v := .tuple #[.int .i64 1, .int .i64 0]) (by simp [results, Try.results44, go_sem]) rfl ?_
    exact ⟨rfl, rfl⟩
  · show Calls _ _ _ _ fun e w' => e = .returned (.tuple #[.int .i64 2, .int .i64 2]) ∧ w = w'
    go_enter Try.func44, Try.ntmps44
    go_wp2
    refine bodyPost_ret (v := .tuple #[.int .i64 2, .int .i64 2]) (by simp [results, Try.results44, go_sem]) rfl ?_
    exact ⟨rfl, rfl⟩
  · show Calls _ _ _ _ fun e w' => e = .returned (.tuple #[.int .i64 1, .int .i64 0]) ∧ w = w'
    go_enter Try.func44, Try.ntmps44
    go_wp2
    refine bodyPost_ret (v := .tuple #[.int .i64 1, .int .i64 0]) (by simp [results, Try.results44, go_sem]) rfl ?_
    exact ⟨rfl, rfl⟩
  · show Calls _ _ _ _ fun e w' => e = .returned (.tuple #[.int .i64 1, .int .i64 0]) ∧ w = w'
    go_enter Try.func44, Try.ntmps44
    go_wp2
    refine bodyPost_ret (v := .tuple #[.int .i64 1, .int .i64 0]) (by simp [results, Try.results44, go_sem]) rfl ?_
    exact ⟨rfl, rfl⟩
  · have e1 : popV o = 0 := by simp [popV, *]
    have e2 : pushV o = 0 := by simp [pushV, *]
    rw [e1, e2]
    go_enter Try.func44, Try.ntmps44
    go_wp2
    refine bodyPost_ret (v := .tuple #[.int .i64 0, .int .i64 0]) (by simp [results, Try.results44, go_sem]) rfl ?_
    exact ⟨rfl, rfl⟩

end Go.Proofs.Ytjbbjbbkembknaa
/-
  package spec: reckoned, popped BY THEIR CONTRACTS.
-/
namespace Go.Proofs.Ytjbbjbbkembknaa
set_option linter.unusedVariables false
set_option linter.unusedSimpArgs false
open Go.RowKit
attribute [local go_sem] Oper.semAt_some

/-- What an operation makes of two values. -/
def reckV (o a b : Int) : Int :=
  if o = 8 then (arithB .add (ofB a.toNat) (ofB b.toNat) : Int) else if o = 9 then (arithB .sub (ofB a.toNat) (ofB b.toNat) : Int) else if o = 10 then (arithB .mul (ofB a.toNat) (ofB b.toNat) : Int) else if o = 11 then (arithB .quo (ofB a.toNat) (ofB b.toNat) : Int) else if o = 13 then oneV (lessB (ofB a.toNat) (ofB b.toNat)) else oneV (((ofB a.toNat : Nat) : Int) == (ofB b.toNat : Nat))

/-- Are the values there that an operation pops, and has what it pushes room? -/
def fitsW (o : Int) (n : Nat) : Bool := decide (popV o ≤ n) && decide ((n : Int) - popV o + pushV o ≤ 12)

/-! ### Rows of values -/
abbrev vcell : Int → List Value := fun x => [Value.int .u64 x]
abbrev VRow := SRow 1 vcell
abbrev valOwn (w : World) (B : Nat) (v : Value) (l : List Int) : Prop := w.ownsRow B 25 1 v l.length (l.map (Value.int .u64))
theorem vrow_of {w : World} {B : Nat} {v : Value} {l : List Int} (h : valOwn w B v l) : VRow w v l := srow_of (cells := vcell) (n := 1) (fun _ => rfl) (by rw [flat_one]; exact h)
theorem vrow_drop {w : World} {g off cap : Nat} {l : List Int} (h : VRow w (.slice (some ⟨g, off, none⟩) l.length cap) l) (m c p : Nat) (hm : m ≤ l.length) (hp : m < l.length → p = off + m) : VRow w (.slice (some ⟨g, p, none⟩) (l.length - m) c) (l.drop m) := by
  refine ⟨_, c, by rw [List.length_drop], fun hne => ?_⟩
  have hlt : m < l.length := by
    rcases Nat.lt_or_ge m l.length with q | q
    · exact q
    · exact absurd (List.drop_of_length_le q) hne
  obtain ⟨g', off', e, hg, _⟩ := h.at m hlt
  simp only [Option.some.injEq, Addr.mk.injEq] at e
  obtain ⟨rfl, rfl, _⟩ := e
  refine ⟨g, p, rfl, hg, fun k hk j hj => ?_⟩
  rw [List.length_drop] at hk
  obtain ⟨g2, off2, e2, _, hc⟩ := h.at (m + k) (by omega)
  simp only [Option.some.injEq, Addr.mk.injEq] at e2
  obtain ⟨rfl, rfl, _⟩ := e2
  have := hc j hj
  rw [List.getElem_drop, hp hlt]
  have e3 : off + m + k * 1 + j = off + (m + k) * 1 + j := by omega
  rw [e3]
  exact this

end Go.Proofs.Ytjbbjbbkembknaa
/-
  package spec: exchange BY ITS CONTRACT.
-/
namespace Go.Proofs.Ytjbbjbbkembknaa
set_option linter.unusedVariables false
set_option linter.unusedSimpArgs false
open Go.RowKit
attribute [local go_sem] Oper.semAt_some

theorem info_partsE {P : Program} {t : TypeId} {z : Value} {s b : Nat} (h : (P.info? t).map (fun i => (i.zero, i.size, i.bytes)) = some (some z, s, b)) : ∃ i, P.info? t = some i ∧ i.zero = some z ∧ i.size = s ∧ i.bytes = b := by
  cases hi : P.info? t with
  | none => rw [hi] at h; cases h
  | some i => rw [hi] at h; simp at h; exact ⟨i, rfl, h.1, h.2.1, h.2.2⟩
theorem Try.info_val : (Try.prog.info? 25).map (fun i => (i.zero, i.size, i.bytes)) = some (some (.int .u64 0), 1, 8) := by kernel_rfl

theorem step_append_run {P : Program} {w : World} {ops : Array Oper} {o : Oper} {a : Act} {K : Act → World → Prop} {Q : Exit → Act → World → Prop} {E : Prop} (hgd : o.guard = none) (s x : Operand) (t ty : TypeId)
    (ho : o.op = .call { callee := .builtin .append, args := #[s, x], argTypes := #[t, t] }) (hty : o.type = ty) (v1 v2 v3 : Value) (w3 : World) (hs : a.eval s = v1) (hx : a.eval x = v2)
    (hr : (Builtin.append_ #[t, t] ty #[v1, v2]).run P w = .ok v3 w3) (h : K (a.put o.dst v3) w3) : if Region.wanted o (yielded ops a.tmps) = true then Oper.wp P o a w K Q else E := by
  have hw : Region.wanted o (yielded ops a.tmps) = true := by simp [Region.wanted, hgd]
  rw [if_pos hw]
  subst hty
  unfold Oper.wp execOp
  simp only [ho, resolve, invoke, builtin, Sem.run_bind, Sem.run_pure, Result.andThen_ok, List.map_toArray, List.map_cons, List.map_nil, hs, hx, hr]
  exact h
/-- The lower values of a stack. -/
theorem own_take {w : World} {B : Nat} {ao : Option Addr} {n cap : Nat} {l : List Int} (h : valOwn w B (.slice ao n cap) l) (q : Nat) (hq : q ≤ n) : valOwn w B (.slice ao q cap) (l.take q) := by
  have hl : l.length = n := by
    obtain ⟨a2, c2, e⟩ := owns_slice h
    simp only [Value.slice.injEq] at e
    exact e.2.1.symm
  have hlq : (l.take q).length = q := by rw [List.length_take]; omega
  refine ⟨by simp, ?_⟩
  rcases h.2 with ⟨e5, h5⟩ | ⟨g5, cap5, cur5, e5, hb5, hg5, hn5, hm5, hs5, ht5⟩
  · simp only [Value.slice.injEq] at e5
    obtain ⟨rfl, rfl, rfl⟩ := e5
    have hq0 : q = 0 := by omega
    subst hq0
    exact .inl ⟨rfl, by simp⟩
  · simp only [Value.slice.injEq] at e5
    obtain ⟨rfl, e6, rfl⟩ := e5
    refine .inr ⟨g5, cap, cur5, by rw [hlq], hb5, hg5, by rw [hlq]; omega, hm5, hs5, ?_⟩
    rw [hlq, List.map_take, ← ht5, List.take_take]
    congr 1
    omega
theorem val_app {w : World} {B : Nat} {v : Value} {xs : List Int} (h : valOwn w B v xs) (hl : xs.length ≤ 1000) (hB : B ≤ w.heap.size) {ao : Option Addr} {n cap : Nat} {l : List Int} (hr : VRow w (.slice ao n cap) l) (hn : n = l.length) (hm : n ≤ 1000) (ty : TypeId) :
    ∃ ao' cap' w', (Builtin.append_ #[41, 41] ty #[v, .slice ao n cap]).run Try.prog w = .ok (.slice ao' (xs.length + n) cap') w' ∧ valOwn w' B (.slice ao' (xs.length + n) cap') (xs ++ l) ∧ Touch w w' v.ownBlock.toList ∧ (∀ g, (Value.slice ao' (xs.length + n) cap').ownBlock = some g → v.ownBlock = some g ∨ w.heap.size ≤ g) := by
  obtain ⟨i0, hi, hz0, hz1, hz2⟩ := info_partsE Try.info_val
  subst hn
  obtain ⟨v', w', h1, h2, h3, h4⟩ := run_app (P := Try.prog) (cells := vcell) 41 ty 25 i0 _ 1 8 Try.underlying41 hi hz0 hz1 hz2 rfl (by decide) (fun _ => rfl) (by simp [vcell, Value.oneCell']) h (l := l) hr (by omega) (by decide) hB
  have h2' : valOwn w' B v' (xs ++ l) := by
    show w'.ownsRow _ _ _ _ _ _
    rw [flat_one] at h2
    rw [List.length_append, List.map_append]
    exact h2
  obtain ⟨ao', cap', rfl⟩ := owns_slice h2'
  simp only [List.length_append] at h1 h2' h4
  refine ⟨ao', cap', w', h1, h2', (Touch.refl w _).grown h3 (fun k hk => .inl (by simp [hk])), ?_⟩
  intro g hg
  rcases h4 with h4 | h4
  · left; rw [← h4]; exact hg
  · right; rw [h4] at hg; simp at hg; omega

/-- Behind exchange. -/
def ExchP (w : World) (b B : Nat) (T : TypeId) (tl : List Value) (vs vo vp : Value) (D : WD) (e : Ending) (w' : World) : Prop :=
  e = .returned (.tuple #[]) ∧ ∃ v', WObj w' b T tl v' vo vp D ∧ valOwn w' B v' D.st ∧ Touch w w' (b :: vs.ownBlock.toList) ∧ (∀ g, v'.ownBlock = some g → vs.ownBlock = some g ∨ w.heap.size ≤ g)

end Go.Proofs.Ytjbbjbbkembknaa
/-
  package spec: step BY ITS CONTRACT, where it gets stuck ahead of its switch.
-/
namespace Go.Proofs.Ytjbbjbbkembknaa
set_option linter.unusedVariables false
set_option linter.unusedSimpArgs false
open Go.RowKit
attribute [local go_sem] Oper.semAt_some

end Go.Proofs.Ytjbbjbbkembknaa
/-
  package spec: pushed BY ITS CONTRACT.
-/
namespace Go.Proofs.Ytjbbjbbkembknaa
set_option linter.unusedVariables false
set_option linter.unusedSimpArgs false
open Go.RowKit
attribute [local go_sem] Oper.semAt_some

/-- A local. -/
def WD.loc (D : WD) (k : Int) : Int := if k = 0 then D.l0 else if k = 1 then D.l1 else if k = 2 then D.l2 else D.l3
/-- The values that an instruction pushes for those that it pops. -/
def pushW (D : WD) (i : InsD) (pp : List Int) : List Int :=
  if i.op = 1 then [i.val] else if i.op = 2 then [D.loc i.arg] else if i.op = 16 then [pp.getD 0 0, pp.getD 0 0] else if i.op = 18 then [pp.getD 1 0, pp.getD 0 0] else if i.op = 12 then [(negV (ofB (pp.getD 0 0).toNat) : Int)] else if i.op = 15 then [oneV (!truthB (classB (ofB (pp.getD 0 0).toNat)))] else if i.op = 8 ∨ i.op = 9 ∨ i.op = 10 ∨ i.op = 11 ∨ i.op = 13 ∨ i.op = 14 then [reckV i.op (pp.getD 0 0) (pp.getD 1 0)] else []
/-- New values. -/
def PushP (w : World) (l : List Int) (e : Ending) (w' : World) : Prop := ∃ v, e = .returned v ∧ valOwn w' w.heap.size v l ∧ Touch w w' []

theorem own_one (w : World) (B : Nat) (hB : B ≤ w.heap.size) (x : Int) : valOwn (w.alloc (.cells #[.int .u64 x] 25)) B (.slice (some ⟨w.heap.size, 0, none⟩) 1 1) [x] :=
  ⟨by simp, .inr ⟨w.heap.size, 1, #[.int .u64 x], rfl, hB, heap_alloc_new w _, by simp, by decide, rfl, rfl⟩⟩
theorem own_two (w : World) (B : Nat) (hB : B ≤ w.heap.size) (x y : Int) : valOwn (w.alloc (.cells #[.int .u64 x, .int .u64 y] 25)) B (.slice (some ⟨w.heap.size, 0, none⟩) 2 2) [x, y] :=
  ⟨by simp, .inr ⟨w.heap.size, 2, #[.int .u64 x, .int .u64 y], rfl, hB, heap_alloc_new w _, by simp, by decide, rfl, rfl⟩⟩

end Go.Proofs.Ytjbbjbbkembknaa
/-
  package spec: pushed BY ITS CONTRACT, any way.
-/
namespace Go.Proofs.Ytjbbjbbkembknaa
set_option linter.unusedVariables false
set_option linter.unusedSimpArgs false
open Go.RowKit

theorem vrow_at {w : World} {a : Option Addr} {n c : Nat} {l : List Int} (h : VRow w (.slice a n c) l) (hl : l.length = n) (hn : 0 < n) : ∃ g off, a = some ⟨g, off, none⟩ ∧ ∀ k, k < n → w.cell? ⟨g, off + k, none⟩ = some (.int .u64 (l.getD k 0)) := by
  subst hl
  obtain ⟨g, off, e, _, _⟩ := h.at 0 hn
  refine ⟨g, off, e, fun k hk => ?_⟩
  obtain ⟨g2, off2, e2, _, hc⟩ := h.at k hk
  rw [e] at e2
  simp only [Option.some.injEq, Addr.mk.injEq] at e2
  obtain ⟨rfl, rfl, _⟩ := e2
  have := hc 0 (by simp)
  simp only [Nat.mul_one, Nat.add_zero, List.getElem_cons_zero] at this
  rw [List.getD_eq_getElem?_getD, List.getElem?_eq_getElem hk]
  simpa using this

end Go.Proofs.Ytjbbjbbkembknaa
/-
  package spec: step BY ITS CONTRACT, where its switch has no case.
-/
namespace Go.Proofs.Ytjbbjbbkembknaa
set_option linter.unusedVariables false
set_option linter.unusedSimpArgs false
open Go.RowKit
attribute [local go_sem] Oper.semAt_some

/-- A walk whose lists are its own, none of them twice. -/
structure WOwn (w : World) (b B : Nat) (T : TypeId) (tl : List Value) (vs vo vp : Value) (D : WD) : Prop where
  o : WObj w b T tl vs vo vp D
  s : valOwn w B vs D.st
  u : valOwn w B vo D.out
  n : ∀ g, vs.ownBlock = some g → vo.ownBlock ≠ some g
  hB : B ≤ w.heap.size
  hb : ∀ g, vs.ownBlock = some g → g ≠ b
  hc : ∀ g, vo.ownBlock = some g → g ≠ b
/-- Behind a step. -/
def StepP (w : World) (b B : Nat) (T : TypeId) (tl : List Value) (vs vo vp : Value) (D : WD) (e : Ending) (w' : World) : Prop :=
  e = .returned (.tuple #[]) ∧ ∃ vs' vo', WOwn w' b B T tl vs' vo' vp D ∧ Touch w w' (b :: (vs.ownBlock.toList ++ vo.ownBlock.toList)) ∧ (∀ g, vs'.ownBlock = some g → vs.ownBlock = some g ∨ w.heap.size ≤ g) ∧ (∀ g, vo'.ownBlock = some g → vo.ownBlock = some g ∨ w.heap.size ≤ g)

theorem own_ge {w : World} {B : Nat} {v : Value} {l : List Int} (h : valOwn w B v l) (g : Nat) (hg : v.ownBlock = some g) : B ≤ g := by
  rcases h.2 with ⟨e5, h5⟩ | ⟨g5, cap5, cur5, e5, hb5, _⟩
  · rw [e5] at hg; simp [Value.ownBlock] at hg
  · rw [e5] at hg; simp [Value.ownBlock] at hg; omega
theorem own_lt {w : World} {B : Nat} {v : Value} {l : List Int} (h : valOwn w B v l) (g : Nat) (hg : v.ownBlock = some g) : g < w.heap.size := by
  rcases h.2 with ⟨e5, h5⟩ | ⟨g5, cap5, cur5, e5, hb5, h6, _⟩
  · rw [e5] at hg; simp [Value.ownBlock] at hg
  · rw [e5] at hg; simp [Value.ownBlock] at hg; subst hg; exact lt_of_heap h6

/-- What exchange and the new place leave. -/
theorem step_tail {w w3 w4 : World} {b B : Nat} {T : TypeId} {tl : List Value} {vs vo vp : Value} {D D2 : WD} (h : WOwn w b B T tl vs vo vp D) (t1 : Touch w w3 []) (ho : D2.out = D.out) (hx : ∃ v', WObj w4 b T tl v' vo vp D2 ∧ valOwn w4 B v' D2.st ∧ Touch w3 w4 (b :: vs.ownBlock.toList) ∧ (∀ g, v'.ownBlock = some g → vs.ownBlock = some g ∨ w3.heap.size ≤ g)) (pc : Int) :
    StepP w b B T tl vs vo vp { D2 with pc := pc } (.returned (.tuple #[])) (w4.setCell ⟨b, 0, none⟩ (.int .i64 pc)) := by
  obtain ⟨v', h1, h2, t4, hg4⟩ := hx
  have tb : Touch w4 (w4.setCell ⟨b, 0, none⟩ (.int .i64 pc)) [b] := (Touch.refl w4 [b]).setCell (.inl (by simp)) _
  have hnb : ∀ g, v'.ownBlock = some g → g ≠ b := fun g hg => by
    rcases hg4 g hg with q | q
    · exact h.hb g q
    · have := h.o.lt
      have := t1.size
      omega
  have ht : Touch w w4 (b :: vs.ownBlock.toList) := (t1.mono (by simp)).trans t4 (fun x hx => .inl hx)
  have hu : valOwn w4 B vo D.out := ownsRow_touch h.u ht (fun g hg hs => by
    simp at hs
    rcases hs with rfl | hs
    · exact h.hc _ hg rfl
    · exact h.n g hs hg)
  refine ⟨rfl, v', vo, ⟨h1.set0 pc, ?_, ?_, ?_, ?_, ?_, h.hc⟩, ?_, ?_, fun g hg => .inl hg⟩
  · exact ownsRow_touch h2 tb (fun g hg hs => by simp at hs; subst hs; exact hnb _ hg rfl)
  · show valOwn _ B vo D2.out
    rw [ho]
    exact ownsRow_touch hu tb (fun g hg hs => by simp at hs; subst hs; exact h.hc _ hg rfl)
  · intro g hg hg2
    rcases hg4 g hg with q | q
    · exact h.n g q hg2
    · have := own_lt h.u g hg2
      have := t1.size
      omega
  · have := h.hB
    have := (ht.trans tb (fun x hx => .inl (by simp at hx; simp [hx]))).size
    omega
  · exact hnb
  · exact (ht.mono (fun x hx => by simp at hx ⊢; rcases hx with q | q; exact .inl q; exact .inr (.inl q))).trans tb (fun x hx => .inl (by simp at hx; simp [hx]))
  · intro g hg
    rcases hg4 g hg with q | q
    · exact .inl q
    · have := t1.size
      exact .inr (by omega)

end Go.Proofs.Ytjbbjbbkembknaa
/-
  package spec: step BY ITS CONTRACT, Jump and IfZero. Written by mkstep.py.
-/
namespace Go.Proofs.Ytjbbjbbkembknaa
set_option linter.unusedVariables false
set_option linter.unusedSimpArgs false
open Go.RowKit
attribute [local go_sem] Oper.semAt_some

end Go.Proofs.Ytjbbjbbkembknaa
/-
  package spec: step BY ITS CONTRACT, SetLocal.
-/
namespace Go.Proofs.Ytjbbjbbkembknaa
set_option linter.unusedVariables false
set_option linter.unusedSimpArgs false
open Go.RowKit
attribute [local go_sem] Oper.semAt_some

/-- A local is set. -/
def WD.setL (D : WD) (k : Int) (x : Int) : WD := if k = 0 then { D with l0 := x } else if k = 1 then { D with l1 := x } else if k = 2 then { D with l2 := x } else { D with l3 := x }
theorem WD.setL_st (D : WD) (k x : Int) : (D.setL k x).st = D.st := by unfold WD.setL; split; rfl; split; rfl; split <;> rfl
theorem WD.setL_out (D : WD) (k x : Int) : (D.setL k x).out = D.out := by unfold WD.setL; split; rfl; split; rfl; split <;> rfl
theorem WD.setL_pc (D : WD) (k x : Int) : (D.setL k x).pc = D.pc := by unfold WD.setL; split; rfl; split; rfl; split <;> rfl
theorem WObj.setL {w : World} {b : Nat} {T : TypeId} {tl : List Value} {vs vo vp : Value} {D : WD} (h : WObj w b T tl vs vo vp D) (k : Nat) (hk : k < 4) (x : Int) : WObj (w.setCell ⟨b, 2 + k, none⟩ (.int .u64 x)) b T tl vs vo vp (D.setL k x) := ⟨by
  rw [heap_setCell_same _ _ _ _ _ _ h.st]
  have hk : k = 0 ∨ k = 1 ∨ k = 2 ∨ k = 3 := by omega
  rcases hk with rfl | rfl | rfl | rfl <;> simp [WD.setL]⟩
theorem WObj.locAt {w : World} {b : Nat} {T : TypeId} {tl : List Value} {vs vo vp : Value} {D : WD} (h : WObj w b T tl vs vo vp D) (k : Nat) (hk : k < 4) : w.cell? ⟨b, 2 + k, none⟩ = some (.int .u64 (D.loc k)) := by
  have hc := h.cells
  have hk : k = 0 ∨ k = 1 ∨ k = 2 ∨ k = 3 := by omega
  rcases hk with rfl | rfl | rfl | rfl
  · exact hc.c2
  · exact hc.c3
  · exact hc.c4
  · exact hc.c5
theorem WOwn.keep {w w' : World} {b B : Nat} {T : TypeId} {tl : List Value} {vs vo vp : Value} {D D' : WD} (h : WOwn w b B T tl vs vo vp D) (t : Touch w w' [b]) (h' : WObj w' b T tl vs vo vp D') (es : D'.st = D.st) (eo : D'.out = D.out) : WOwn w' b B T tl vs vo vp D' := by
  have hB := h.hB
  have hs := t.size
  refine ⟨h', ?_, ?_, h.n, by omega, h.hb, h.hc⟩
  · rw [es]; exact ownsRow_touch h.s t (fun g hg hx => by simp at hx; subst hx; exact h.hb _ hg rfl)
  · rw [eo]; exact ownsRow_touch h.u t (fun g hg hx => by simp at hx; subst hx; exact h.hc _ hg rfl)
theorem WOwn.touch {w w' : World} {b B : Nat} {T : TypeId} {tl : List Value} {vs vo vp : Value} {D : WD} (h : WOwn w b B T tl vs vo vp D) (t : Touch w w' []) : WOwn w' b B T tl vs vo vp D := h.keep (t.mono (by simp)) (h.o.touch t (by simp)) rfl rfl
theorem StepP.after {w W : World} {b B : Nat} {T : TypeId} {tl : List Value} {vs vo vo5 vp : Value} {D : WD} {e : Ending} {w' : World} (t : Touch w W (b :: (vs.ownBlock.toList ++ vo.ownBlock.toList))) (hv : ∀ g, vo5.ownBlock = some g → vo.ownBlock = some g ∨ w.heap.size ≤ g) (h : StepP W b B T tl vs vo5 vp D e w') : StepP w b B T tl vs vo vp D e w' := by
  obtain ⟨rfl, v1, v2, h1, t2, h3, h4⟩ := h
  have hs := t.size
  refine ⟨rfl, v1, v2, h1, t.trans t2 ?_, ?_, ?_⟩
  · intro x hx
    simp at hx
    rcases hx with rfl | hx | hx
    · exact .inl (by simp)
    · exact .inl (by simp [hx])
    · rcases hv x hx with q | q
      · exact .inl (by simp [q])
      · exact .inr q
  · intro g hg
    rcases h3 g hg with q | q
    · exact .inl q
    · exact .inr (by omega)
  · intro g hg
    rcases h4 g hg with q | q
    · exact hv g q
    · exact .inr (by omega)

end Go.Proofs.Ytjbbjbbkembknaa
/-
  package spec: step BY ITS CONTRACT, Out.
-/
namespace Go.Proofs.Ytjbbjbbkembknaa
set_option linter.unusedVariables false
set_option linter.unusedSimpArgs false
open Go.RowKit
attribute [local go_sem] Oper.semAt_some

end Go.Proofs.Ytjbbjbbkembknaa
/-
  package spec: step BY ITS CONTRACT: one plain function.
-/
namespace Go.Proofs.Ytjbbjbbkembknaa
set_option linter.unusedVariables false
set_option linter.unusedSimpArgs false
open Go.RowKit

/-- One instruction, over values that are popped; 0, or the error by which it gets stuck. -/
def doW (np : Nat) (D : WD) (i : InsD) : Int × WD :=
  if i.op = 27 then (if D.out.length < 24 then (0, { D with out := D.out ++ [D.st.getD (D.st.length - 1) 0], st := D.st.take (D.st.length - 1) ++ [], pc := D.pc + 1 }) else (4, D))
  else if i.op = 3 then (0, { D.setL i.arg (D.st.getD (D.st.length - 1) 0) with st := D.st.take (D.st.length - 1) ++ [], pc := D.pc + 1 })
  else if i.op = 19 then (if i.arg ≤ np then (0, { D with st := D.st.take (D.st.length - 0) ++ [], pc := i.arg }) else (2, D))
  else if i.op = 20 then (if truthB (classB (ofB (D.st.getD (D.st.length - 1) 0).toNat)) = true then (0, { D with st := D.st.take (D.st.length - 1) ++ [], pc := D.pc + 1 }) else if i.arg ≤ np then (0, { D with st := D.st.take (D.st.length - 1) ++ [], pc := i.arg }) else (2, D))
  else (0, { D with st := D.st.take (D.st.length - (popV i.op).toNat) ++ pushW D i (D.st.drop (D.st.length - (popV i.op).toNat)), pc := D.pc + 1 })
def stepW (l : List InsD) (D : WD) : Int × WD :=
  if placeP D.pc l.length = false then (3, D)
  else if rightI (l.getD D.pc.toNat ⟨0, 0, 0⟩) = false then (3, D)
  else if plainO (l.getD D.pc.toNat ⟨0, 0, 0⟩).op = false then (3, D)
  else if fitsW (l.getD D.pc.toNat ⟨0, 0, 0⟩).op D.st.length = false then (12, D)
  else doW l.length D (l.getD D.pc.toNat ⟨0, 0, 0⟩)

theorem right_loc {i : InsD} (h : rightI i = true) (ho : i.op = 2 ∨ i.op = 3) : 0 ≤ i.arg ∧ i.arg < 4 := by
  unfold rightI at h
  simp only [Bool.and_eq_true, decide_eq_true_eq] at h
  have h1 := h.1.2
  have h0 := h.1.1.2
  rcases ho with q | q
  · rw [q] at h1
    have : highP 2 = 3 := rfl
    omega
  · rw [q] at h1
    have : highP 3 = 3 := rfl
    omega

end Go.Proofs.Ytjbbjbbkembknaa
/-
  package spec: slices.Clone of values BY ITS CONTRACT.
-/
namespace Go.Proofs.Ytjbbjbbkembknaa
set_option linter.unusedVariables false
set_option linter.unusedSimpArgs false
open Go.RowKit
attribute [local go_sem] Oper.semAt_some

theorem eqNilS (w : World) (a : Option Addr) (n c : Nat) : (binOp .eql 41 (.slice a n c) (.slice none 0 0)).run Try.prog w = .ok (.bool a.isNone) w := Lib.run_eql_slice_nil w _ _ a n c 0 0 Try.underlying41
attribute [local go_sem] eqNilS

end Go.Proofs.Ytjbbjbbkembknaa
/-
  package spec: copied BY ITS CONTRACT.
-/
namespace Go.Proofs.Ytjbbjbbkembknaa
set_option linter.unusedVariables false
set_option linter.unusedSimpArgs false
open Go.RowKit
attribute [local go_sem] Oper.semAt_some

/-- A State as a value. -/
abbrev stV (D : WD) (vs vo : Value) : Value := .agg #[.int .i64 D.pc, vs, .int .u64 D.l0, .int .u64 D.l1, .int .u64 D.l2, .int .u64 D.l3, vo]
/-- A State in a block of its own. -/
structure StB (w : World) (p : Nat) (D : WD) (vs vo : Value) : Prop where
  st : w.heap[p]? = some (.cells #[.int .i64 D.pc, vs, .int .u64 D.l0, .int .u64 D.l1, .int .u64 D.l2, .int .u64 D.l3, vo] 44 (0, 0))
theorem StB.touch {w w' : World} {p : Nat} {D : WD} {vs vo : Value} {S : List Nat} (h : StB w p D vs vo) (t : Touch w w' S) (hS : p ∉ S) : StB w' p D vs vo := ⟨(t.block p (lt_of_heap h.st) hS).trans h.st⟩
theorem StB.cells {w : World} {p : Nat} {D : WD} {vs vo : Value} (h : StB w p D vs vo) : w.cell? ⟨p, 0, none⟩ = some (.int .i64 D.pc) ∧ w.cell? ⟨p, 1, none⟩ = some vs ∧ w.cell? ⟨p, 2, none⟩ = some (.int .u64 D.l0) ∧ w.cell? ⟨p, 3, none⟩ = some (.int .u64 D.l1) ∧ w.cell? ⟨p, 4, none⟩ = some (.int .u64 D.l2) ∧ w.cell? ⟨p, 5, none⟩ = some (.int .u64 D.l3) ∧ w.cell? ⟨p, 6, none⟩ = some vo := by
  refine ⟨?_, ?_, ?_, ?_, ?_, ?_, ?_⟩ <;> (unfold World.cell?; rw [h.st]; rfl)
theorem StB.fr {w : World} {p : Nat} {D : WD} {vs vo : Value} (h : StB w p D vs vo) (j : Nat) : w.frozen? ⟨p, j, none⟩ = false := by unfold World.frozen?; rw [h.st]; simp
theorem StB.set1 {w : World} {p : Nat} {D : WD} {vs vo : Value} (h : StB w p D vs vo) (v : Value) : StB (w.setCell ⟨p, 1, none⟩ v) p D v vo := ⟨by rw [heap_setCell_same _ _ _ _ _ _ h.st]; simp⟩
theorem StB.set6 {w : World} {p : Nat} {D : WD} {vs vo : Value} (h : StB w p D vs vo) (v : Value) : StB (w.setCell ⟨p, 6, none⟩ v) p D vs v := ⟨by rw [heap_setCell_same _ _ _ _ _ _ h.st]; simp⟩

theorem own_base {w : World} {B B' : Nat} {e : TypeId} {size : Nat} {v : Value} {n : Nat} {xs : List Value} (h : w.ownsRow B e size v n xs) (hB : B' ≤ B) : w.ownsRow B' e size v n xs := by
  refine ⟨h.1, ?_⟩
  rcases h.2 with hn | ⟨g', cap', cur, e, hb, r⟩
  · exact .inl hn
  · exact .inr ⟨g', cap', cur, e, Nat.le_trans hB hb, r⟩
/-- A State stored over another one. -/
abbrev stPut (w : World) (p : Nat) (D : WD) (vs vo : Value) : World := ((((((w.setCell ⟨p, 0, none⟩ (.int .i64 D.pc)).setCell ⟨p, 1, none⟩ vs).setCell ⟨p, 2, none⟩ (.int .u64 D.l0)).setCell ⟨p, 3, none⟩ (.int .u64 D.l1)).setCell ⟨p, 4, none⟩ (.int .u64 D.l2)).setCell ⟨p, 5, none⟩ (.int .u64 D.l3)).setCell ⟨p, 6, none⟩ vo
theorem StB.put {w : World} {p : Nat} {D0 : WD} {v0 o0 : Value} (h : StB w p D0 v0 o0) (D : WD) (vs vo : Value) : StB (stPut w p D vs vo) p D vs vo :=
  ⟨by
    rw [heap_setCell_same _ _ _ _ _ _ (heap_setCell_same _ _ _ _ _ _ (heap_setCell_same _ _ _ _ _ _ (heap_setCell_same _ _ _ _ _ _ (heap_setCell_same _ _ _ _ _ _ (heap_setCell_same _ _ _ _ _ _ (heap_setCell_same _ _ _ _ _ _ h.st))))))]
    simp⟩
theorem stPut_touch (w : World) (p : Nat) (D : WD) (vs vo : Value) : Touch w (stPut w p D vs vo) [p] := (((((((Touch.refl w [p]).setCell (.inl (by simp)) _).setCell (.inl (by simp)) _).setCell (.inl (by simp)) _).setCell (.inl (by simp)) _).setCell (.inl (by simp)) _).setCell (.inl (by simp)) _).setCell (.inl (by simp)) _
/-- What copied leaves. -/
def CopP (w : World) (D : WD) (e : Ending) (w' : World) : Prop := ∃ vs' vo', e = .returned (stV D vs' vo') ∧ valOwn w' w.heap.size vs' D.st ∧ valOwn w' w.heap.size vo' D.out ∧ (∀ g, vs'.ownBlock = some g → vo'.ownBlock ≠ some g) ∧ Touch w w' []
theorem cop_fin {w Q w5 w6 : World} {D : WD} {vs vo : Value} {a5 a6 : Option Addr} {k5 k6 : Nat} (hQ : Q.heap.size = w.heap.size + 2) (t0 : Touch w Q []) (hb : StB Q w.heap.size D vs vo) (hr : StB Q (w.heap.size + 1) ⟨0, [], 0, 0, 0, 0, [], 0⟩ (.slice none 0 0) (.slice none 0 0))
    (o5 : valOwn w5 Q.heap.size (.slice a5 D.st.length k5) D.st) (t5 : Touch Q w5 []) (o6 : valOwn w6 w5.heap.size (.slice a6 D.out.length k6) D.out) (t6 : Touch w5 w6 []) :
    StB ((w6.setCell ⟨w.heap.size, 1, none⟩ (.slice a5 D.st.length k5)).setCell ⟨w.heap.size, 6, none⟩ (.slice a6 D.out.length k6)) w.heap.size D (.slice a5 D.st.length k5) (.slice a6 D.out.length k6) ∧
    StB ((w6.setCell ⟨w.heap.size, 1, none⟩ (.slice a5 D.st.length k5)).setCell ⟨w.heap.size, 6, none⟩ (.slice a6 D.out.length k6)) (w.heap.size + 1) ⟨0, [], 0, 0, 0, 0, [], 0⟩ (.slice none 0 0) (.slice none 0 0) ∧
    (∀ W', Touch ((w6.setCell ⟨w.heap.size, 1, none⟩ (.slice a5 D.st.length k5)).setCell ⟨w.heap.size, 6, none⟩ (.slice a6 D.out.length k6)) W' [w.heap.size + 1] → CopP w D (.returned (stV D (.slice a5 D.st.length k5) (.slice a6 D.out.length k6))) W') := by
  have t56 : Touch Q w6 [] := t5.trans t6 (by simp)
  have tS : Touch w6 ((w6.setCell ⟨w.heap.size, 1, none⟩ (.slice a5 D.st.length k5)).setCell ⟨w.heap.size, 6, none⟩ (.slice a6 D.out.length k6)) [w.heap.size] := ((Touch.refl w6 _).setCell (.inl (by simp)) _).setCell (.inl (by simp)) _
  refine ⟨((hb.touch t56 (by simp)).set1 _).set6 _, (hr.touch t56 (by simp)).touch tS (by simp), fun W' tW => ?_⟩
  have hs5 := t5.size
  have b5 : ∀ g, (Value.slice a5 D.st.length k5).ownBlock = some g → w.heap.size + 2 ≤ g ∧ g < w5.heap.size := fun g hg => by have := o5.lt g hg; omega
  have b6 : ∀ g, (Value.slice a6 D.out.length k6).ownBlock = some g → w5.heap.size ≤ g := fun g hg => (o6.lt g hg).1
  have tF : Touch w6 W' [w.heap.size, w.heap.size + 1] := (tS.mono (by simp)).trans tW (by simp)
  have O5 : valOwn W' Q.heap.size (.slice a5 D.st.length k5) D.st := ownsRow_touch (ownsRow_touch o5 t6 (by simp)) tF (fun g hg => by have := b5 g hg; simp; omega)
  have O6 : valOwn W' w5.heap.size (.slice a6 D.out.length k6) D.out := ownsRow_touch o6 tF (fun g hg => by have := b6 g hg; simp; omega)
  refine ⟨_, _, rfl, own_base O5 (by omega), own_base O6 (by omega), fun g hg hg' => ?_, ?_⟩
  · have := b5 g hg
    have := b6 g hg'
    omega
  · exact (t0.trans t56 (by simp)).trans tF (fun x hx => .inr (by simp at hx; omega))

end Go.Proofs.Ytjbbjbbkembknaa
/-
  package spec, the document's: Copied, plain, one, Fits, reckon BY THEIR CONTRACTS.
-/
namespace Go.Proofs.Ytjbbjbbkembknaa
set_option linter.unusedVariables false
set_option linter.unusedSimpArgs false
open Go.RowKit
attribute [local go_sem] Oper.semAt_some

set_option maxRecDepth 100000 in
theorem rplain_any (o : Int) (w : World) : Calls Try.prog 43 #[.int .u8 o] w fun e w' => e = .returned (.bool (plainO o)) ∧ w = w' := by
  rcases (show o = 4 ∨ o = 5 ∨ o = 6 ∨ o = 7 ∨ o = 26 ∨ o = 28 ∨ o = 21 ∨ o = 22 ∨ o = 23 ∨ o = 24 ∨ o = 25 ∨ (o ≠ 4 ∧ o ≠ 5 ∧ o ≠ 6 ∧ o ≠ 7 ∧ o ≠ 26 ∧ o ≠ 28 ∧ o ≠ 21 ∧ o ≠ 22 ∧ o ≠ 23 ∧ o ≠ 24 ∧ o ≠ 25) by omega) with rfl | rfl | rfl | rfl | rfl | rfl | rfl | rfl | rfl | rfl | rfl | ⟨h4, h5, h6, h7, h26, h28, h21, h22, h23, h24, h25⟩
  any_goals
    show Calls _ _ _ _ fun e w' => e = .returned (.bool false) ∧ w = w'
    go_enter Try.func43, Try.ntmps43
    go_wp2
    go_ret
    exact ⟨rfl, rfl⟩
  have e : plainO o = true := by unfold plainO; rw [decide_eq_false (by omega)]; rfl
  rw [e]
  clear e
  go_enter Try.func43, Try.ntmps43
  go_wp2
  go_ret
  exact ⟨rfl, rfl⟩
theorem rone_any (x : Bool) (w : World) : Calls Try.prog 58 #[.bool x] w fun e w' => e = .returned (.int .u64 (oneV x)) ∧ w = w' := by
  cases x
  · show Calls _ _ _ _ fun e w' => e = .returned (.int .u64 0) ∧ w = w'
    go_enter Try.func58, Try.ntmps58
    go_wp2
    go_ret
    exact ⟨rfl, rfl⟩
  · show Calls _ _ _ _ fun e w' => e = .returned (.int .u64 4607182418800017408) ∧ w = w'
    go_enter Try.func58, Try.ntmps58
    go_wp2
    go_ret
    exact ⟨rfl, rfl⟩

set_option maxRecDepth 100000 in
set_option maxHeartbeats 1000000 in
theorem rfits_any {w : World} {vo : Value} {ao : Option Addr} {n cap : Nat} {D : WD} (hn : n ≤ 1000) (o : Int) :
    Calls Try.prog 41 #[.int .u8 o, stV D (.slice ao n cap) vo] w fun e w' => e = .returned (.int .i64 (if fitsW o n = true then 0 else 12)) ∧ Touch w w' [] := by
  have hb : StB (w.alloc (.cells #[.int .i64 D.pc, .slice ao n cap, .int .u64 D.l0, .int .u64 D.l1, .int .u64 D.l2, .int .u64 D.l3, vo] 44)) w.heap.size D (.slice ao n cap) vo := ⟨heap_alloc_new w _⟩
  have HT : Hid (Touch w (w.alloc (.cells #[.int .i64 D.pc, .slice ao n cap, .int .u64 D.l0, .int .u64 D.l1, .int .u64 D.l2, .int .u64 D.l3, vo] 44)) []) := (Touch.refl w []).alloc _
  obtain ⟨x0, x1, x2, x3, x4, x5, x6⟩ := hb.cells
  have HEF : Hid (∀ W, HidC _ _ _ _ _) := fun W => ⟨reff_any o W⟩
  have p0 := pop_le o
  have p1 := push_le o
  unfold fitsW
  generalize popV o = po at *
  generalize pushV o = pu at *
  have hw1 : IntKind.i64.wrap ((n : Int) - po) = (n : Int) - po := by rw [IntKind.wrap_i64]; omega
  have hw2 : IntKind.i64.wrap (12 - pu) = 12 - pu := by rw [IntKind.wrap_i64]; omega
  clear hb x0 x2 x3 x4 x5 x6
  by_cases h1 : po ≤ n
  · have h2 : decide ((n : Int) < po) = false := decide_eq_false (by omega)
    have h1' : decide (po ≤ (n : Int)) = true := decide_eq_true h1
    by_cases h3 : (n : Int) - po + pu ≤ 12
    · have h4 : decide ((n : Int) - po > 12 - pu) = false := decide_eq_false (by omega)
      have e : (decide (po ≤ (n : Int)) && decide ((n : Int) - po + pu ≤ 12)) = true := by rw [h1', decide_eq_true h3]; rfl
      rw [if_pos e]
      clear e h1'
      go_enter Try.func41, Try.ntmps41
      go_wp2_with fail
      refine (HEF.out _).out.mono ?_
      rintro e w1 ⟨rfl, rfl⟩
      clear HEF
      go_wp2
      go_ret
      exact ⟨rfl, HT.out⟩
    · have h4 : decide ((n : Int) - po > 12 - pu) = true := decide_eq_true (by omega)
      have e : ¬ (decide (po ≤ (n : Int)) && decide ((n : Int) - po + pu ≤ 12)) = true := by rw [h1', decide_eq_false h3]; decide
      rw [if_neg e]
      clear e h1'
      go_enter Try.func41, Try.ntmps41
      go_wp2_with fail
      refine (HEF.out _).out.mono ?_
      rintro e w1 ⟨rfl, rfl⟩
      clear HEF
      go_wp2
      go_ret
      exact ⟨rfl, HT.out⟩
  · have h2 : decide ((n : Int) < po) = true := decide_eq_true (by omega)
    have e : ¬ (decide (po ≤ (n : Int)) && decide ((n : Int) - po + pu ≤ 12)) = true := by rw [decide_eq_false h1]; simp
    rw [if_neg e]
    clear e
    go_enter Try.func41, Try.ntmps41
    go_wp2_with fail
    refine (HEF.out _).out.mono ?_
    rintro e w1 ⟨rfl, rfl⟩
    clear HEF
    go_wp2
    go_ret
    exact ⟨rfl, HT.out⟩

/-- Values appended to none. -/
theorem app_new {w : World} {v : Value} {l : List Int} (hr : VRow w v l) (hl : l.length ≤ 1000) :
    ∃ ao cap w', (Builtin.append_ #[41, 41] 41 #[.slice (some ⟨w.heap.size, 0, none⟩) 0 0, v]).run Try.prog (w.alloc (.cells #[] 25)) = .ok (.slice ao l.length cap) w' ∧ valOwn w' w.heap.size (.slice ao l.length cap) l ∧ Touch w w' [] := by
  obtain ⟨a, c, e⟩ := hr.form
  subst e
  have t0 := (Touch.refl w []).alloc (.cells #[] 25)
  have h0 : valOwn (w.alloc (.cells #[] 25)) w.heap.size (.slice (some ⟨w.heap.size, 0, none⟩) 0 0) [] := empty_row w 25 1
  obtain ⟨ao, cap, w', h1, h2, h3, h4⟩ := val_app h0 (by simp) (by simp) (SRow.keep hr t0 (by simp)) rfl (by omega) 41
  simp only [List.length_nil, Nat.zero_add, List.nil_append] at h1 h2
  exact ⟨ao, cap, w', h1, h2, t0.trans h3 (fun x hx => .inr (by simp [Value.ownBlock] at hx; omega))⟩
set_option maxRecDepth 100000 in
set_option maxHeartbeats 2000000 in
theorem rcopied_any {w : World} {vs vo : Value} {D : WD} (hs : VRow w vs D.st) (ho : VRow w vo D.out) (hsl : D.st.length ≤ 1000) (hol : D.out.length ≤ 1000) :
    Calls Try.prog 19 #[stV D vs vo] w (CopP w D) := by
  have hB : StB ((w.alloc (.cells #[.int .i64 D.pc, vs, .int .u64 D.l0, .int .u64 D.l1, .int .u64 D.l2, .int .u64 D.l3, vo] 44)).alloc (.cells #[.int .i64 0, .slice none 0 0, .int .u64 0, .int .u64 0, .int .u64 0, .int .u64 0, .slice none 0 0] 44)) w.heap.size D vs vo := StB.touch (⟨heap_alloc_new w _⟩ : StB (w.alloc (.cells #[.int .i64 D.pc, vs, .int .u64 D.l0, .int .u64 D.l1, .int .u64 D.l2, .int .u64 D.l3, vo] 44)) w.heap.size D vs vo) ((Touch.refl _ []).alloc _) (by simp)
  have hT0 : Touch w ((w.alloc (.cells #[.int .i64 D.pc, vs, .int .u64 D.l0, .int .u64 D.l1, .int .u64 D.l2, .int .u64 D.l3, vo] 44)).alloc (.cells #[.int .i64 0, .slice none 0 0, .int .u64 0, .int .u64 0, .int .u64 0, .int .u64 0, .slice none 0 0] 44)) [] := ((Touch.refl w []).alloc _).alloc _
  have hR : StB ((w.alloc (.cells #[.int .i64 D.pc, vs, .int .u64 D.l0, .int .u64 D.l1, .int .u64 D.l2, .int .u64 D.l3, vo] 44)).alloc (.cells #[.int .i64 0, .slice none 0 0, .int .u64 0, .int .u64 0, .int .u64 0, .int .u64 0, .slice none 0 0] 44)) (w.heap.size + 1) ⟨0, [], 0, 0, 0, 0, [], 0⟩ (.slice none 0 0) (.slice none 0 0) := ⟨by
    have := heap_alloc_new (w.alloc (.cells #[.int .i64 D.pc, vs, .int .u64 D.l0, .int .u64 D.l1, .int .u64 D.l2, .int .u64 D.l3, vo] 44)) (.cells #[.int .i64 0, .slice none 0 0, .int .u64 0, .int .u64 0, .int .u64 0, .int .u64 0, .slice none 0 0] 44)
    simpa using this⟩
  have hQS : ((w.alloc (.cells #[.int .i64 D.pc, vs, .int .u64 D.l0, .int .u64 D.l1, .int .u64 D.l2, .int .u64 D.l3, vo] 44)).alloc (.cells #[.int .i64 0, .slice none 0 0, .int .u64 0, .int .u64 0, .int .u64 0, .int .u64 0, .slice none 0 0] 44)).heap.size = w.heap.size + 2 := by simp
  generalize hQ : ((w.alloc (.cells #[.int .i64 D.pc, vs, .int .u64 D.l0, .int .u64 D.l1, .int .u64 D.l2, .int .u64 D.l3, vo] 44)).alloc (.cells #[.int .i64 0, .slice none 0 0, .int .u64 0, .int .u64 0, .int .u64 0, .int .u64 0, .slice none 0 0] 44)) = Q at *
  have HQ : Hid _ := hQ
  obtain ⟨a5, c5, w5, hrun5, o5, t5⟩ := app_new (SRow.keep hs hT0 (by simp)) hsl
  have hB5 := hB.touch t5 (by simp)
  have t6 : Touch w5 (w5.setCell ⟨w.heap.size, 1, none⟩ (.slice a5 D.st.length c5)) [w.heap.size] := (Touch.refl w5 _).setCell (.inl (by simp)) _
  have hB6 := hB5.set1 (.slice a5 D.st.length c5)
  have hT6 : Touch w (w5.setCell ⟨w.heap.size, 1, none⟩ (.slice a5 D.st.length c5)) [] := (hT0.trans t5 (by simp)).trans t6 (fun x hx => .inr (by simp at hx; omega))
  have t6Q : Touch Q (w5.setCell ⟨w.heap.size, 1, none⟩ (.slice a5 D.st.length c5)) [w.heap.size] := (t5.mono (by simp)).trans t6 (fun x hx => .inl hx)
  have o6 : valOwn (w5.setCell ⟨w.heap.size, 1, none⟩ (.slice a5 D.st.length c5)) Q.heap.size (.slice a5 D.st.length c5) D.st := ownsRow_touch o5 t6 (fun g hg hs => by have := own_ge o5 g hg; simp at hs; omega)
  generalize hW6 : w5.setCell ⟨w.heap.size, 1, none⟩ (.slice a5 D.st.length c5) = w6 at *
  have HW6 : Hid _ := hW6
  obtain ⟨a7, c7, w7, hrun7, o7, t7⟩ := app_new (SRow.keep ho hT6 (by simp)) hol
  have hB7 := hB6.touch t7 (by simp)
  have hB8 := hB7.set6 (.slice a7 D.out.length c7)
  have t8 : Touch w7 (w7.setCell ⟨w.heap.size, 6, none⟩ (.slice a7 D.out.length c7)) [w.heap.size] := (Touch.refl w7 _).setCell (.inl (by simp)) _
  have hsz6 := t6Q.size
  have o8 : valOwn (w7.setCell ⟨w.heap.size, 6, none⟩ (.slice a7 D.out.length c7)) w6.heap.size (.slice a7 D.out.length c7) D.out := ownsRow_touch o7 t8 (fun g hg hs => by have := own_ge o7 g hg; simp at hs; omega)
  have p8 : valOwn (w7.setCell ⟨w.heap.size, 6, none⟩ (.slice a7 D.out.length c7)) Q.heap.size (.slice a5 D.st.length c5) D.st := ownsRow_touch (ownsRow_touch o6 t7 (by simp)) t8 (fun g hg hs => by have := own_ge o6 g hg; simp at hs; omega)
  have hT8 : Touch w (w7.setCell ⟨w.heap.size, 6, none⟩ (.slice a7 D.out.length c7)) [] := (hT6.trans t7 (by simp)).trans t8 (fun x hx => .inr (by simp at hx; omega))
  have hR8 : StB (w7.setCell ⟨w.heap.size, 6, none⟩ (.slice a7 D.out.length c7)) (w.heap.size + 1) ⟨0, [], 0, 0, 0, 0, [], 0⟩ (.slice none 0 0) (.slice none 0 0) := ((hR.touch t6Q (by simp)).touch t7 (by simp)).touch t8 (by simp)
  have HZ : Hid (∀ W', Touch (w7.setCell ⟨w.heap.size, 6, none⟩ (.slice a7 D.out.length c7)) W' [w.heap.size + 1] → CopP w D (.returned (stV D (.slice a5 D.st.length c5) (.slice a7 D.out.length c7))) W') := fun W' t => by
    have k5 := ownsRow_touch p8 t (fun g hg hs => by have := own_ge p8 g hg; simp at hs; omega)
    have k7 := ownsRow_touch o8 t (fun g hg hs => by have := own_ge o8 g hg; simp at hs; omega)
    refine ⟨_, _, rfl, own_base k5 (by omega), own_base k7 (by omega), fun g hg hg2 => ?_, hT8.trans t (fun x hx => .inr (by simp at hx; omega))⟩
    have l1 := own_lt o6 g hg
    have l2 := own_ge o8 g hg2
    omega
  have HR8 : Hid _ := hR8
  obtain ⟨x0, x1, x2, x3, x4, x5, x6⟩ := hB.cells
  have x1' : (Q.alloc (.cells #[] 25)).cell? ⟨w.heap.size, 1, none⟩ = some vs := (hB.touch ((Touch.refl Q []).alloc _) (by simp)).cells.2.1
  have y1 := hB5.cells.2.1
  have g1 := hB5.fr 1
  have z6' : (w6.alloc (.cells #[] 25)).cell? ⟨w.heap.size, 6, none⟩ = some vo := (hB6.touch ((Touch.refl w6 []).alloc _) (by simp)).cells.2.2.2.2.2.2
  have z6 := hB7.cells.2.2.2.2.2.2
  have g6 := hB7.fr 6
  obtain ⟨q0, q1, q2, q3, q4, q5, q6⟩ := hB8.cells
  obtain ⟨r0, r1, r2, r3, r4, r5, r6⟩ := hR8.cells
  have f0 := hR8.fr 0
  have f1 := hR8.fr 1
  have f2 := hR8.fr 2
  have f3 := hR8.fr 3
  have f4 := hR8.fr 4
  have f5 := hR8.fr 5
  have f6 := hR8.fr 6
  clear hB hR hT0 hQS hs ho hsl hol o5 t5 hB5 t6 hB6 hT6 t6Q o6 o7 t7 hB7 t8 hsz6 o8 p8 hT8 hR8 hB8 x0 x2 x3 x4 x5 x6
  go_enter Try.func19, Try.ntmps19
  go_wp2_with (at_builtin; first | refine Lib.wpList_append_run _ rfl _ _ _ _ rfl _ _ rfl rfl _ _ hrun5 ?_ | refine Lib.wpList_append_run _ rfl _ _ _ _ rfl _ _ rfl rfl _ _ hrun7 ?_ | (rw [HW6.out]; refine Lib.wpList_append_run _ rfl _ _ _ _ rfl _ _ rfl rfl _ _ hrun7 ?_))
  have hfin := HR8.out.put D (.slice a5 D.st.length c5) (.slice a7 D.out.length c7)
  obtain ⟨z0', z1', z2', z3', z4', z5', z6'⟩ := hfin.cells
  refine bodyPost_ret (v := stV D (.slice a5 D.st.length c5) (.slice a7 D.out.length c7)) ?_ rfl (HZ.out _ (stPut_touch _ _ _ _ _))
  rw [res_cell rfl]
  simp [go_sem, z0', z1', z2', z3', z4', z5', z6']

/-- What an operation makes of what it pops. -/
def rkV (o a b : Int) : Int := if o = 12 then (negV (ofB a.toNat) : Int) else if o = 15 then oneV (!truthB (classB (ofB a.toNat))) else reckV o a b
set_option maxRecDepth 100000 in
set_option maxHeartbeats 2000000 in
theorem rreck_any {w : World} {g off n cap : Nat} (o a b : Int) (ho : o = 8 ∨ o = 9 ∨ o = 10 ∨ o = 11 ∨ o = 12 ∨ o = 13 ∨ o = 14 ∨ o = 15) (ha : Wf64 a) (hb : Wf64 b) (hn : n = 1 ∨ n = 2) (c0 : w.cell? ⟨g, off, none⟩ = some (.int .u64 a)) (c1 : w.cell? ⟨g, off + (n - 1), none⟩ = some (.int .u64 b)) :
    Calls Try.prog 46 #[.int .u8 o, .slice (some ⟨g, off, none⟩) n cap] w fun e w' => e = .returned (.int .u64 (rkV o a b)) ∧ Touch w w' [] := by
  obtain ⟨m, rfl⟩ : ∃ m, n = m + 1 := ⟨n - 1, by omega⟩
  have hm : m ≤ 1 := by omega
  rw [Nat.add_sub_cancel] at c1
  have hwm : IntKind.i64.wrap (((m + 1 : Nat) : Int) - 1) = (m : Int) := by rw [IntKind.wrap_i64]; omega
  have hm0 : (0 : Int) ≤ m := by omega
  have hm1 : (m : Int) < ((m + 1 : Nat) : Int) := by omega
  have hm2 : (0 : Int) < ((m + 1 : Nat) : Int) := by omega
  have HON : Hid (∀ x W, HidC _ _ _ _ _) := fun x W => ⟨rone_any x W⟩
  clear hn
  rcases ho with rfl | rfl | rfl | rfl | rfl | rfl | rfl | rfl
  · have e : rkV 8 a b = ((arithB .add (ofB a.toNat) (ofB b.toNat) : Nat) : Int) := rfl
    rw [e]
    have HC : Hid (∀ W, HidC _ _ _ _ _) := fun W => ⟨radd_any a b ha hb W⟩
    clear e ha hb
    generalize ((arithB .add (ofB a.toNat) (ofB b.toNat) : Nat) : Int) = x at *
    go_enter Try.func46, Try.ntmps46
    go_wp2_with fail
    go_quiet (fail)
    have HT : Hid (Touch w (w.drewN nq) []) := (Touch.refl w []).drewN _
    generalize w.drewN nq = w1 at *
    clear c0 c1
    go_wp2_with fail
    refine (HC.out _).out.mono ?_
    rintro e w2 ⟨rfl, t2⟩
    have HT2 : Hid (Touch w w2 []) := HT.out.trans t2 (by simp)
    clear t2 HC
    clear HON
    go_wp2
    go_ret
    exact ⟨rfl, HT2.out⟩
  · have e : rkV 9 a b = ((arithB .sub (ofB a.toNat) (ofB b.toNat) : Nat) : Int) := rfl
    rw [e]
    have HC : Hid (∀ W, HidC _ _ _ _ _) := fun W => ⟨rsub_any a b ha hb W⟩
    clear e ha hb
    generalize ((arithB .sub (ofB a.toNat) (ofB b.toNat) : Nat) : Int) = x at *
    go_enter Try.func46, Try.ntmps46
    go_wp2_with fail
    go_quiet (fail)
    have HT : Hid (Touch w (w.drewN nq) []) := (Touch.refl w []).drewN _
    generalize w.drewN nq = w1 at *
    clear c0 c1
    go_wp2_with fail
    refine (HC.out _).out.mono ?_
    rintro e w2 ⟨rfl, t2⟩
    have HT2 : Hid (Touch w w2 []) := HT.out.trans t2 (by simp)
    clear t2 HC
    clear HON
    go_wp2
    go_ret
    exact ⟨rfl, HT2.out⟩
  · have e : rkV 10 a b = ((arithB .mul (ofB a.toNat) (ofB b.toNat) : Nat) : Int) := rfl
    rw [e]
    have HC : Hid (∀ W, HidC _ _ _ _ _) := fun W => ⟨rmul_any a b ha hb W⟩
    clear e ha hb
    generalize ((arithB .mul (ofB a.toNat) (ofB b.toNat) : Nat) : Int) = x at *
    go_enter Try.func46, Try.ntmps46
    go_wp2_with fail
    go_quiet (fail)
    have HT : Hid (Touch w (w.drewN nq) []) := (Touch.refl w []).drewN _
    generalize w.drewN nq = w1 at *
    clear c0 c1
    go_wp2_with fail
    refine (HC.out _).out.mono ?_
    rintro e w2 ⟨rfl, t2⟩
    have HT2 : Hid (Touch w w2 []) := HT.out.trans t2 (by simp)
    clear t2 HC
    clear HON
    go_wp2
    go_ret
    exact ⟨rfl, HT2.out⟩
  · have e : rkV 11 a b = ((arithB .quo (ofB a.toNat) (ofB b.toNat) : Nat) : Int) := rfl
    rw [e]
    have HC : Hid (∀ W, HidC _ _ _ _ _) := fun W => ⟨rdiv_any a b ha hb W⟩
    clear e ha hb
    generalize ((arithB .quo (ofB a.toNat) (ofB b.toNat) : Nat) : Int) = x at *
    go_enter Try.func46, Try.ntmps46
    go_wp2_with fail
    go_quiet (fail)
    have HT : Hid (Touch w (w.drewN nq) []) := (Touch.refl w []).drewN _
    generalize w.drewN nq = w1 at *
    clear c0 c1
    go_wp2_with fail
    refine (HC.out _).out.mono ?_
    rintro e w2 ⟨rfl, t2⟩
    have HT2 : Hid (Touch w w2 []) := HT.out.trans t2 (by simp)
    clear t2 HC
    clear HON
    go_wp2
    go_ret
    exact ⟨rfl, HT2.out⟩
  · have e : rkV 12 a b = (negV (ofB a.toNat) : Int) := rfl
    rw [e]
    have HC : Hid (∀ W, HidC _ _ _ _ _) := fun W => ⟨rneg_any a ha W⟩
    clear e ha hb
    generalize negV (ofB a.toNat) = x at *
    go_enter Try.func46, Try.ntmps46
    go_wp2_with fail
    go_quiet (fail)
    have HT : Hid (Touch w (w.drewN nq) []) := (Touch.refl w []).drewN _
    generalize w.drewN nq = w1 at *
    clear c0 c1
    go_wp2_with fail
    refine (HC.out _).out.mono ?_
    rintro e w2 ⟨rfl, rfl⟩
    have HT2 : Hid (Touch w w1 []) := HT.out
    clear HC
    clear HON
    go_wp2
    go_ret
    exact ⟨rfl, HT2.out⟩
  · have e : rkV 13 a b = oneV (lessB (ofB a.toNat) (ofB b.toNat)) := rfl
    rw [e]
    have HC : Hid (∀ W, HidC _ _ _ _ _) := fun W => ⟨rless_any a b ha hb W⟩
    clear e ha hb
    generalize (lessB (ofB a.toNat) (ofB b.toNat)) = x at *
    go_enter Try.func46, Try.ntmps46
    go_wp2_with fail
    go_quiet (fail)
    have HT : Hid (Touch w (w.drewN nq) []) := (Touch.refl w []).drewN _
    generalize w.drewN nq = w1 at *
    clear c0 c1
    go_wp2_with fail
    refine (HC.out _).out.mono ?_
    rintro e w2 ⟨rfl, rfl⟩
    have HT2 : Hid (Touch w w1 []) := HT.out
    clear HC
    go_wp2_with fail
    refine (HON.out _ _).out.mono ?_
    rintro e w3 ⟨rfl, rfl⟩
    clear HON
    go_wp2
    go_ret
    exact ⟨rfl, HT2.out⟩
  · have e : rkV 14 a b = oneV (((ofB a.toNat : Nat) : Int) == (ofB b.toNat : Nat)) := rfl
    rw [e]
    have HC : Hid (∀ W, HidC _ _ _ _ _) := fun W => ⟨rsame_any a b ha hb W⟩
    clear e ha hb
    generalize (((ofB a.toNat : Nat) : Int) == (ofB b.toNat : Nat)) = x at *
    go_enter Try.func46, Try.ntmps46
    go_wp2_with fail
    go_quiet (fail)
    have HT : Hid (Touch w (w.drewN nq) []) := (Touch.refl w []).drewN _
    generalize w.drewN nq = w1 at *
    clear c0 c1
    go_wp2_with fail
    refine (HC.out _).out.mono ?_
    rintro e w2 ⟨rfl, rfl⟩
    have HT2 : Hid (Touch w w1 []) := HT.out
    clear HC
    go_wp2_with fail
    refine (HON.out _ _).out.mono ?_
    rintro e w3 ⟨rfl, rfl⟩
    clear HON
    go_wp2
    go_ret
    exact ⟨rfl, HT2.out⟩
  · have e : rkV 15 a b = oneV (!truthB (classB (ofB a.toNat))) := rfl
    rw [e]
    have HC : Hid (∀ W, HidC _ _ _ _ _) := fun W => ⟨rtruth_any a ha W⟩
    clear e ha hb
    generalize truthB (classB (ofB a.toNat)) = x at *
    go_enter Try.func46, Try.ntmps46
    go_wp2_with fail
    go_quiet (fail)
    have HT : Hid (Touch w (w.drewN nq) []) := (Touch.refl w []).drewN _
    generalize w.drewN nq = w1 at *
    clear c0 c1
    go_wp2_with fail
    refine (HC.out _).out.mono ?_
    rintro e w2 ⟨rfl, rfl⟩
    have HT2 : Hid (Touch w w1 []) := HT.out
    clear HC
    go_wp2_with fail
    refine (HON.out _ _).out.mono ?_
    rintro e w3 ⟨rfl, rfl⟩
    clear HON
    go_wp2
    go_ret
    exact ⟨rfl, HT2.out⟩

end Go.Proofs.Ytjbbjbbkembknaa
/-
  package spec: walkOf BY ITS CONTRACT.
-/
namespace Go.Proofs.Ytjbbjbbkembknaa
set_option linter.unusedVariables false
set_option linter.unusedSimpArgs false
open Go.RowKit
attribute [local go_sem] Oper.semAt_some

def fuelW (f : Int) : Int := if f ≤ 300 then f else 300
/-- What walkOf leaves. -/
def WofP (w : World) (D : WD) (vp : Value) (e : Ending) (w' : World) : Prop := ∃ vs' vo', e = .returned (.agg #[.int .i64 D.pc, vs', .int .u64 D.l0, .int .u64 D.l1, .int .u64 D.l2, .int .u64 D.l3, vo', vp, .int .i64 D.fuel]) ∧ valOwn w' w.heap.size vs' D.st ∧ valOwn w' w.heap.size vo' D.out ∧ (∀ g, vs'.ownBlock = some g → vo'.ownBlock ≠ some g) ∧ Touch w w' []

/-- A walk stored over another one. -/
abbrev wPut (w : World) (p : Nat) (D : WD) (vs vo vp : Value) : World := ((((((((w.setCell ⟨p, 0, none⟩ (.int .i64 D.pc)).setCell ⟨p, 1, none⟩ vs).setCell ⟨p, 2, none⟩ (.int .u64 D.l0)).setCell ⟨p, 3, none⟩ (.int .u64 D.l1)).setCell ⟨p, 4, none⟩ (.int .u64 D.l2)).setCell ⟨p, 5, none⟩ (.int .u64 D.l3)).setCell ⟨p, 6, none⟩ vo).setCell ⟨p, 7, none⟩ vp).setCell ⟨p, 8, none⟩ (.int .i64 D.fuel)
theorem WObj.put {w : World} {p : Nat} {T : TypeId} {tl : List Value} {D0 : WD} {v0 o0 p0 : Value} (h : WObj w p T tl v0 o0 p0 D0) (D : WD) (vs vo vp : Value) : WObj (wPut w p D vs vo vp) p T tl vs vo vp D :=
  ⟨by
    rw [heap_setCell_same _ _ _ _ _ _ (heap_setCell_same _ _ _ _ _ _ (heap_setCell_same _ _ _ _ _ _ (heap_setCell_same _ _ _ _ _ _ (heap_setCell_same _ _ _ _ _ _ (heap_setCell_same _ _ _ _ _ _ (heap_setCell_same _ _ _ _ _ _ (heap_setCell_same _ _ _ _ _ _ (heap_setCell_same _ _ _ _ _ _ h.st))))))))]
    simp⟩
theorem wPut_touch (w : World) (p : Nat) (D : WD) (vs vo vp : Value) : Touch w (wPut w p D vs vo vp) [p] := (((((((((Touch.refl w [p]).setCell (.inl (by simp)) _).setCell (.inl (by simp)) _).setCell (.inl (by simp)) _).setCell (.inl (by simp)) _).setCell (.inl (by simp)) _).setCell (.inl (by simp)) _).setCell (.inl (by simp)) _).setCell (.inl (by simp)) _).setCell (.inl (by simp)) _

end Go.Proofs.Ytjbbjbbkembknaa
/-
  package spec: tried BY ITS CONTRACT.
-/
namespace Go.Proofs.Ytjbbjbbkembknaa
set_option linter.unusedVariables false
set_option linter.unusedSimpArgs false
open Go.RowKit

theorem tmpsS (p q : Addr) (v : Value) : (#[Value.pointer (some p), Value.pointer (some q)] ++ (Array.replicate 11 undef).setIfInBounds 2 v : Array Value) = #[.pointer (some p), .pointer (some q), undef, undef, v, undef, undef, undef, undef, undef, undef, undef, undef] := rfl

end Go.Proofs.Ytjbbjbbkembknaa
/-
  package spec: tried BY ITS CONTRACT, around any work.
-/
namespace Go.Proofs.Ytjbbjbbkembknaa
set_option linter.unusedVariables false
set_option linter.unusedSimpArgs false
open Go.RowKit

/-- Behind tried: the work went from w1 to w2; then nothing but tried's own cells. -/
def TriedP (w : World) (S : List Nat) (R : World → World → Prop) (kind er : Int) (e : Ending) (w' : World) : Prop :=
  e = .returned (.tuple #[.int .u8 kind, .int .i64 er]) ∧ ∃ w1 w2, Touch w w1 [] ∧ Touch w1 w2 S ∧ R w1 w2 ∧ Touch w2 w' [w.heap.size, w.heap.size + 1]

end Go.Proofs.Ytjbbjbbkembknaa
/-
  package spec: A BLOCK AS PLAIN DATA AND AS IT LIES: its walk, its heap, the left arms that are begun, the arms that were taken.
-/
namespace Go.Proofs.Ytjbbjbbkembknaa
set_option linter.unusedVariables false
set_option linter.unusedSimpArgs false
open Go.RowKit

/-- Since when (how many blocks there were), and which of the older ones, may be changed. -/
abbrev Gd := Nat × List Nat
def Gd.ok (B : Gd) (x : Nat) : Prop := x ∈ B.2 ∨ B.1 ≤ x
/-- What is kept of a left arm. -/
structure MkD where
  D : WD
  h : List Int
  e : Int
/-- A block. -/
structure BX where
  D : WD
  h : List Int
  ms : List MkD
  arms : List Bool

def ob (v : Value) : List Nat := v.ownBlock.toList
theorem mem_ob {v : Value} {g : Nat} : g ∈ ob v ↔ v.ownBlock = some g := by unfold ob; simp

/-- Whose blocks they are. -/
def comp (b : Nat) (vs vo vh vl va : Value) (F : List Nat) : Nat → List Nat
  | 0 => [b]
  | 1 => ob vs
  | 2 => ob vo
  | 3 => ob vh
  | 4 => ob vl
  | 5 => ob va
  | 6 => F
  | _ => []
theorem comp_swap {N : Nat} {c c' : Nat → List Nat} (ap : ∀ i j, i ≠ j → ∀ x ∈ c i, x ∉ c j) (h : ∀ i, ∀ x ∈ c' i, x ∈ c i ∨ N ≤ x) (hf : ∀ i j, i ≠ j → ∀ x ∈ c' i, N ≤ x → x ∉ c' j) : ∀ i j, i ≠ j → ∀ x ∈ c' i, x ∉ c' j := by
  intro i j hij x hx hx'
  rcases h i x hx with q | q
  · rcases h j x hx' with r | r
    · exact ap i j hij x q r
    · exact hf j i (fun e => hij e.symm) x hx' r hx
  · exact hf i j hij x hx q hx'

abbrev MkT := MkD × Value × List Nat
def ftL (L : List MkT) : List Nat := L.flatMap (fun t => t.2.2)
end Go.Proofs.Ytjbbjbbkembknaa
/-
  WHOLE NUMBERS AS FLOATS, AND THE OTHER SIGN IN SUMS. No walk.
-/
namespace Go.Proofs.Ytjbbjbbkembknaa
set_option linter.unusedVariables false
set_option linter.unusedSimpArgs false
open Go.RowKit

theorem cut_none (way : Ieee.Toward) (s : Bool) (n : Nat) : way.cut s n 0 = n := by
  unfold Ieee.Toward.cut
  simp
  cases way <;> simp [Nat.mod_one]

theorem cut_zero_exact (s : Bool) (m d : Nat) (h : d ≤ (m * 2 ^ d).log2 + 2) : Ieee.Toward.zero.cut s (m * 2 ^ d) d = m := by
  unfold Ieee.Toward.cut
  have e : min d ((m * 2 ^ d).log2 + 2) = d := by omega
  simp only [e, Nat.shiftLeft_eq, Nat.one_mul, Bool.toNat_false, Nat.add_zero]
  exact Nat.mul_div_cancel _ (Nat.pow_pos (by omega))

theorem pow53 : (2 : Nat) ^ 53 = 9007199254740992 := by decide
theorem pow52 : (2 : Nat) ^ 52 = 4503599627370496 := by decide
theorem kept_lt (m : Nat) (h1 : m.log2 ≤ 52) : m * 2 ^ (52 - m.log2) < 9007199254740992 := by
  have hlt : m < 2 ^ (m.log2 + 1) := Nat.lt_log2_self
  have e : (2 : Nat) ^ (m.log2 + 1) * 2 ^ (52 - m.log2) = 2 ^ 53 := by rw [← Nat.pow_add, show m.log2 + 1 + (52 - m.log2) = 53 by omega]
  rw [← pow53, ← e]
  exact Nat.mul_lt_mul_of_pos_right hlt (Nat.pow_pos (by omega))
theorem kept_ge (m : Nat) (h0 : 0 < m) (h1 : m.log2 ≤ 52) : 4503599627370496 ≤ m * 2 ^ (52 - m.log2) := by
  have hge : 2 ^ m.log2 ≤ m := Nat.log2_self_le (by omega)
  have e : (2 : Nat) ^ m.log2 * 2 ^ (52 - m.log2) = 2 ^ 52 := by rw [← Nat.pow_add, show m.log2 + (52 - m.log2) = 52 by omega]
  rw [← pow52, ← e]
  exact Nat.mul_le_mul_right _ hge

/-- A whole number below 2^53, as a float: exactly. -/
theorem exact_word (s : Bool) (m : Nat) (h0 : 0 < m) (h1 : m.log2 ≤ 52) : Ieee.double.nearest s m 0 = Ieee.double.word s ((m.log2 + 1022) * 4503599627370496 + m * 2 ^ (52 - m.log2)) := by
  have e3 : Ieee.double.binade = 4503599627370496 := by decide +kernel
  have e2 : Ieee.double.infRung = 9218868437227405312 := by decide +kernel
  have e4 : Ieee.double.leastPlace = -1074 := by decide +kernel
  have e5 : Ieee.double.fractionBits = 52 := rfl
  have hk := kept_lt m h1
  unfold Ieee.Format.nearest
  rw [if_neg (by omega)]
  rw [e2, e3, e4, e5]
  have hlast : max ((0 : Int) + (m.log2 : Nat) - (52 : Nat)) (-1074) = (m.log2 : Int) - 52 := by omega
  show Ieee.double.word s (min ((max ((0 : Int) + (m.log2 : Nat) - (52 : Nat)) (-1074) - -1074).toNat * 4503599627370496 + Ieee.Toward.even.cut s (m <<< (0 - max ((0 : Int) + (m.log2 : Nat) - (52 : Nat)) (-1074)).toNat) (max ((0 : Int) + (m.log2 : Nat) - (52 : Nat)) (-1074) - 0).toNat) 9218868437227405312) = _
  rw [hlast]
  have ea : ((0 : Int) - ((m.log2 : Int) - 52)).toNat = 52 - m.log2 := by omega
  have eb : (((m.log2 : Int) - 52) - 0).toNat = 0 := by omega
  have ec : (((m.log2 : Int) - 52) - -1074).toNat = m.log2 + 1022 := by omega
  rw [ea, eb, ec, cut_none, Nat.shiftLeft_eq]
  generalize m * 2 ^ (52 - m.log2) = K at *
  generalize m.log2 = L at *
  clear ea eb ec hlast e2 e3 e4 e5
  have hmin : min ((L + 1022) * 4503599627370496 + K) 9218868437227405312 = (L + 1022) * 4503599627370496 + K := by omega
  rw [hmin]

theorem word_is (s : Bool) (r : Nat) (h : r < 9223372036854775808) : Ieee.double.word s r < 18446744073709551616 ∧ isNeg (Ieee.double.word s r) = s ∧ rungB (Ieee.double.word s r) = r := by
  have e1 : Ieee.double.signWeight = 9223372036854775808 := by decide +kernel
  unfold Ieee.Format.word isNeg rungB
  rw [e1]
  cases s
  · simp only [Bool.false_eq_true, if_false]
    have : r / 9223372036854775808 = 0 := by omega
    rw [this]
    exact ⟨by omega, rfl, by omega⟩
  · simp only [if_true]
    have : (9223372036854775808 + r) / 9223372036854775808 = 1 := by omega
    rw [this]
    exact ⟨by omega, rfl, by omega⟩

/-- The bits of a whole number, not 0, below 2^53. -/
structure Ex (x : Nat) (s : Bool) (m : Nat) : Prop where
  lt : x < 18446744073709551616
  r : rungB x < 4845873199050653696
  rd : Ieee.double.read x = .number s (m * 2 ^ (52 - m.log2)) ((m.log2 : Int) - 52)

theorem exact_ex (s : Bool) (m : Nat) (h0 : 0 < m) (h1 : m.log2 ≤ 52) : Ex (Ieee.double.nearest s m 0) s m := by
  have e1 : Ieee.double.signWeight = 9223372036854775808 := by decide +kernel
  have e2 : Ieee.double.infRung = 9218868437227405312 := by decide +kernel
  have e3 : Ieee.double.binade = 4503599627370496 := by decide +kernel
  have e4 : Ieee.double.leastPlace = -1074 := by decide +kernel
  have hk := kept_lt m h1
  have hk2 := kept_ge m h0 h1
  rw [exact_word s m h0 h1]
  obtain ⟨K, hK⟩ : ∃ K, K = m * 2 ^ (52 - m.log2) := ⟨_, rfl⟩
  rw [← hK] at hk hk2 ⊢
  obtain ⟨L, hL⟩ : ∃ L, L = m.log2 := ⟨_, rfl⟩
  rw [← hL] at h1 ⊢
  obtain ⟨w1, w2, w3⟩ := word_is s ((L + 1022) * 4503599627370496 + K) (by omega)
  refine ⟨w1, by rw [w3]; omega, ?_⟩
  unfold Ieee.Format.read
  unfold rungB at w3
  unfold isNeg at w2
  simp only [e1, e2, e3, e4]
  rw [w2, w3, if_neg (by omega), if_pos (by omega)]
  have g1 : 4503599627370496 + ((L + 1022) * 4503599627370496 + K) % 4503599627370496 = K := by omega
  have g2 : ((L + 1022) * 4503599627370496 + K) / 4503599627370496 - 1 = L + 1022 := by omega
  have g3 : (-1074 : Int) + ((L + 1022 : Nat) : Int) = (L : Int) - 52 := by omega
  rw [g1, g2, g3, hK, hL]

theorem ex_nonan {x m : Nat} {s : Bool} (h : Ex x s m) : ofB x = x := by
  rcases ofB_cases x h.lt with ⟨_, e⟩ | ⟨h1, _⟩
  · exact e
  · have := h.r; omega

theorem floatOfInt_is (n : Int) : floatOfInt .f64 n = Ieee.double.nearest (decide (n < 0)) n.natAbs 0 := rfl

theorem wholeB_exact (n : Int) (h : n.natAbs.log2 ≤ 52) : WholeB (ofB (floatOfInt .f64 n) : Nat) n := by
  by_cases h0 : n = 0
  · subst h0
    have e : ofB (floatOfInt .f64 0) = 0 := by decide +kernel
    rw [e]
    refine ⟨by decide +kernel, ?_, by decide +kernel, by decide +kernel⟩
    intro s t h
    have h2 : (match FloatKind.f64.decode (ofB ((0 : Nat) : Int).toNat) with | .nan _ _ => true | _ => false) = false := by decide +kernel
    rw [h] at h2
    cases h2
  · have hx := exact_ex (decide (n < 0)) n.natAbs (by omega) h
    rw [floatOfInt_is]
    have ho := ex_nonan hx
    have hb1 : -9007199254740992 ≤ n ∧ n ≤ 9007199254740992 := by
      have g1 : n.natAbs < 2 ^ (n.natAbs.log2 + 1) := Nat.lt_log2_self
      have g2 : (2 : Nat) ^ (n.natAbs.log2 + 1) ≤ 2 ^ 53 := Nat.pow_le_pow_right (by omega) (by omega)
      rw [pow53] at g2
      omega
    have hint : Ieee.Datum.integral .zero (Ieee.double.read (Ieee.double.nearest (decide (n < 0)) n.natAbs 0)) = .number (decide (n < 0)) n.natAbs 0 := by
      rw [hx.rd]
      simp only [Ieee.Datum.integral]
      have ea : ((n.natAbs.log2 : Int) - 52).toNat = 0 := by omega
      have eb : (-((n.natAbs.log2 : Int) - 52)).toNat = 52 - n.natAbs.log2 := by omega
      rw [ea, eb, Nat.shiftLeft_zero, cut_zero_exact]
      have hk2 := kept_ge n.natAbs (by omega) h
      generalize n.natAbs * 2 ^ (52 - n.natAbs.log2) = K at *
      have : 52 ≤ K.log2 := (Nat.le_log2 (by omega)).2 (by rw [pow52]; exact hk2)
      omega
    generalize hX : Ieee.double.nearest (decide (n < 0)) n.natAbs 0 = x at *
    have hoo : ofB (((ofB x : Nat) : Int)).toNat = x := by rw [Int.toNat_natCast, ofB_idem, ho]
    have hdec : FloatKind.f64.decode x = Ieee.double.read x := rfl
    refine ⟨?_, ?_, ?_, ?_⟩
    · rw [hoo]
      unfold floatToIntVal Ieee.Datum.toInt
      rw [hdec, hint]
      simp only
      have es : Ieee.signed (decide (n < 0)) n.natAbs 0 = n := by
        unfold Ieee.signed
        by_cases hn : n < 0
        · simp [hn]; omega
        · simp [hn]; omega
      rw [es, if_pos]
      have e0 : IntKind.i64.min = -9223372036854775808 := rfl
      have e1 : IntKind.i64.max = 9223372036854775807 := rfl
      omega
    · rw [hoo, hdec, hx.rd]
      intro s t h
      cases h
    · rw [hoo]
      have hr := hx.r
      have hrr : rungB (rungB x) = rungB x := by unfold rungB; omega
      rw [absB_is x hx.lt, order_key (rungB x) 4845873199050653696 (by omega) (by decide), hrr]
      have hn : isNeg (rungB x) = false := by rw [isNeg_is _ (by unfold rungB; omega)]; exact decide_eq_false (by unfold rungB; omega)
      have e1 : sgn (isNeg 4845873199050653696) (rungB 4845873199050653696) = 4845873199050653696 := by decide
      rw [hn, e1]
      have e2 : sgn false (rungB x) = rungB x := rfl
      rw [e2, cmp_lt (by omega)]
      rfl
    · rw [hoo]
      have e1 : truncB x = x := by
        unfold truncB
        rw [hdec, hint]
        exact hX
      rw [e1, order_key x x (by have := hx.r; omega) (by have := hx.r; omega), cmp_is_eq]
      simp

end Go.Proofs.Ytjbbjbbkembknaa
/-
  tried OF PACKAGE value, BY ITS CONTRACT, where the work gives up.
-/
namespace Go.Proofs.Ytjbbjbbkembknaa
set_option linter.unusedVariables false
set_option linter.unusedSimpArgs false
open Go.RowKit

/-- It gives up. -/
def GivesUp (w : World) (e : Ending) (w' : World) : Prop := e = .panicked [{ v := .iface 110 (.agg #[]), recovered := false }] ∧ Touch w w' []

theorem need_no (w : World) : Calls Try.prog 62 #[.bool false] w (GivesUp w) := by
  go_enter Try.func62, Try.ntmps62
  go_wp2
  exact ⟨rfl, rfl, Touch.refl _ _⟩

theorem catchV_no (p : Addr) (w : World) (x : Bool) (u : TypeId) (pv : Value) (hc : w.cell? p = some (.bool x)) (hz : w.frozen? p = false) :
    CallsD Try.prog 65 #[.pointer (some p)] (.panicking [{ v := .iface u pv, recovered := false }]) w fun e u' w' => e = .returned (.tuple #[]) ∧ u' = .panicking [{ v := .iface u pv, recovered := true }] ∧ w' = w.setCell p (.bool false) := by
  refine callsD_of_wpS Try.func65 rfl fun c₀ cs hu => ?_
  apply wpS_region
  simp [wpOpsS, go_sem, recoverD, hu, Try.ntmps65, Exit.thenS]
  simp [wpOpsS, go_sem, hc, hz, bodyPostS, results, Try.results65]

set_option maxRecDepth 100000 in
theorem triedV_no (k : Nat) (cap : Array Value) (w : World) (hen : ∀ w1, (callFunc k cap).run Try.prog w1 = .ok (.enter k cap) w1) (hw : ∀ w1, Touch w w1 [] → Calls Try.prog k cap w1 (GivesUp w1)) :
    Calls Try.prog 60 #[.func (.func k) #[] cap] w fun e w' => e = .returned (.tuple #[.int .u64 0, .bool false]) ∧ Touch w w' [] := by
  have hmf : ∀ (fn : Fn) (first cap : Array Value) (w : World), (Instr.makeFunc fn first cap).run Try.prog w = .ok (.func fn first cap) w := fun _ _ _ _ => rfl
  go_enter_defers Try.func60, Try.ntmps60
  go_wp2_with fail
  refine (hw _ ((Touch.refl w []).alloc _)).mono ?_
  rintro e w1 ⟨rfl, t1⟩
  have c0 : w1.cell? ⟨w.heap.size, 0, none⟩ = some (.bool false) := (t1.cell (p := ⟨w.heap.size, 0, none⟩) (by simp) (by simp)).trans (by simp [go_sem])
  have f0 : w1.frozen? ⟨w.heap.size, 0, none⟩ = false := (t1.frozen (p := ⟨w.heap.size, 0, none⟩) (by simp) (by simp)).trans (by simp [go_sem])
  have HT : Hid (Touch w w1 []) := ((Touch.refl w []).alloc _).trans t1 (by simp)
  clear t1 hw
  go_wp2
  refine leaves_cons (f := 65) (args := #[.pointer (some ⟨w.heap.size, 0, none⟩)]) (by simp) (by simp [go_sem]) ?_
  refine (catchV_no ⟨w.heap.size, 0, none⟩ w1 false 110 (.agg #[]) c0 f0).mono ?_
  rintro e u' w'' ⟨rfl, rfl, rfl⟩
  have c2 : (w1.setCell ⟨w.heap.size, 0, none⟩ (.bool false)).cell? ⟨w.heap.size, 0, none⟩ = some (.bool false) := World.cell?_setCell_same _ _ _ c0
  have HT2 : Hid (Touch w (w1.setCell ⟨w.heap.size, 0, none⟩ (.bool false)) []) := HT.out.setCell (.inr (Nat.le_refl _)) _
  generalize w1.setCell ⟨w.heap.size, 0, none⟩ (.bool false) = w3 at *
  simp [Leaves, settle, results, Try.results60, go_sem, c2]
  exact HT2.out

theorem int1_no (p : Nat) (n : Int) (h : ¬ (-9007199254740992 ≤ n ∧ n ≤ 9007199254740992)) (w : World) (hc : w.cell? ⟨p, 0, none⟩ = some (.int .i64 n)) :
    Calls Try.prog 61 #[.pointer (some ⟨p, 0, none⟩)] w (GivesUp w) := by
  by_cases h0 : -9007199254740992 ≤ n
  · have h1 : ¬ n ≤ 9007199254740992 := fun k => h ⟨h0, k⟩
    clear h
    go_enter Try.func61, Try.ntmps61
    go_wp2_with fail
    refine (need_no w).mono ?_
    rintro e w1 ⟨rfl, t1⟩
    exact ⟨rfl, rfl, t1⟩
  · have h0' : decide (-9007199254740992 ≤ n) = false := decide_eq_false h0
    clear h
    go_enter Try.func61, Try.ntmps61
    go_wp2_with fail
    refine (need_no w).mono ?_
    rintro e w1 ⟨rfl, t1⟩
    exact ⟨rfl, rfl, t1⟩

theorem int_no (n : Int) (h : ¬ (-9007199254740992 ≤ n ∧ n ≤ 9007199254740992)) (w : World) :
    Calls Try.prog 49 #[.int .i64 n] w fun e w' => e = .returned (.tuple #[.int .u64 0, .bool false]) ∧ Touch w w' [] := by
  have hmf : ∀ (fn : Fn) (first cap : Array Value) (w : World), (Instr.makeFunc fn first cap).run Try.prog w = .ok (.func fn first cap) w := fun _ _ _ _ => rfl
  have hc := triedV_no 61 #[.pointer (some ⟨w.heap.size, 0, none⟩)] (w.alloc (.cells #[.int .i64 n] 3)) (enter_of Try.func61 (by kernel_rfl) (by kernel_rfl))
    (fun w1 t => int1_no w.heap.size n h w1 ((t.cell (p := ⟨w.heap.size, 0, none⟩) (by simp) (by simp)).trans (by simp [go_sem])))
  clear h
  go_enter Try.func49, Try.ntmps49
  go_wp2_with fail
  refine hc.mono ?_
  rintro e w1 ⟨rfl, t1⟩
  clear hc
  go_wp2
  go_ret2
  exact ⟨rfl, ((Touch.refl w []).alloc _).trans t1 (by simp)⟩

end Go.Proofs.Ytjbbjbbkembknaa
/-
  Whole AND Int OF BOTH SIDES, of every value and number.
-/
namespace Go.Proofs.Ytjbbjbbkembknaa
set_option linter.unusedVariables false
set_option linter.unusedSimpArgs false
open Go.RowKit

theorem cut_zero_le (s : Bool) (n d : Nat) : Ieee.Toward.zero.cut s n d * 2 ^ d ≤ n := by
  unfold Ieee.Toward.cut
  simp only [Nat.shiftLeft_eq, Nat.one_mul, Bool.toNat_false, Nat.add_zero]
  by_cases h : d ≤ n.log2 + 2
  · rw [Nat.min_eq_left h]
    exact Nat.div_mul_le_self _ _
  · rw [Nat.min_eq_right (by omega)]
    have : n / 2 ^ (n.log2 + 2) = 0 := by
      apply Nat.div_eq_of_lt
      have h1 : n < 2 ^ (n.log2 + 1) := Nat.lt_log2_self
      have h2 : (2 : Nat) ^ (n.log2 + 1) ≤ 2 ^ (n.log2 + 2) := Nat.pow_le_pow_right (by omega) (by omega)
      omega
    rw [this]
    omega

theorem magB_le {r s : Nat} (h : r ≤ s) : magB r ≤ magB s := by
  rcases Nat.lt_or_ge r s with h1 | h1
  · exact Nat.le_of_lt (magB_mono h1)
  · obtain rfl : r = s := by omega
    exact Nat.le_refl _

theorem mag_53 : magB 4845873199050653696 = 9007199254740992 * 2 ^ 1074 := by decide +kernel

/-- What int makes of a float that is not too far from 0. -/
theorem toInt_near (x : Nat) (h : rungB x ≤ 4845873199050653696) : ∃ (s : Bool) (c : Nat), c ≤ 9007199254740992 ∧ FloatKind.f64.decode x = Ieee.double.read x ∧ (Ieee.double.read x).integral .zero = .number s c 0 ∧ (∀ a b, Ieee.double.read x ≠ .nan a b) := by
  rcases read_is x with ⟨h1, m, a, e1, g1⟩ | ⟨h1, _⟩ | ⟨h1, _⟩
  · have e4 : Ieee.double.leastPlace = -1074 := by decide +kernel
    rw [e4] at e1
    refine ⟨isNeg x, Ieee.Toward.zero.cut (isNeg x) (m <<< ((-1074 : Int) + a).toNat) (-((-1074 : Int) + a)).toNat, ?_, rfl, by rw [e1]; rfl, by rw [e1]; intro a b h; cases h⟩
    have hc := cut_zero_le (isNeg x) (m <<< ((-1074 : Int) + a).toNat) (-((-1074 : Int) + a)).toNat
    rw [Nat.shiftLeft_eq] at hc ⊢
    generalize Ieee.Toward.zero.cut (isNeg x) (m * 2 ^ ((-1074 : Int) + a).toNat) (-((-1074 : Int) + a)).toNat = c at *
    have hm : m * 2 ^ a ≤ 9007199254740992 * 2 ^ 1074 := by rw [g1, ← mag_53]; exact magB_le h
    have hk : c * 2 ^ 1074 ≤ m * 2 ^ a := by
      rcases Nat.lt_or_ge a 1074 with ha | ha
      · have ea : ((-1074 : Int) + a).toNat = 0 := by omega
        have eb : (-((-1074 : Int) + a)).toNat = 1074 - a := by omega
        rw [ea, eb] at hc
        have e5 : (2 : Nat) ^ 1074 = 2 ^ (1074 - a) * 2 ^ a := by
          have e6 := Nat.pow_add 2 (1074 - a) a
          rw [Nat.sub_add_cancel (Nat.le_of_lt ha)] at e6
          exact e6
        rw [e5, ← Nat.mul_assoc]
        have : c * 2 ^ (1074 - a) ≤ m := by simpa using hc
        exact Nat.mul_le_mul_right _ this
      · have ea : ((-1074 : Int) + a).toNat = a - 1074 := by omega
        have eb : (-((-1074 : Int) + a)).toNat = 0 := by omega
        rw [ea, eb] at hc
        have e5 : (2 : Nat) ^ a = 2 ^ (a - 1074) * 2 ^ 1074 := by
          have e6 := Nat.pow_add 2 (a - 1074) 1074
          rw [Nat.sub_add_cancel ha] at e6
          exact e6
        rw [e5, ← Nat.mul_assoc]
        have : c ≤ m * 2 ^ (a - 1074) := by simpa using hc
        exact Nat.mul_le_mul_right _ this
    exact Nat.le_of_mul_le_mul_right (Nat.le_trans hk hm) (Nat.two_pow_pos 1074)
  · omega
  · omega

/-- Both ways to tell whether a float is whole. -/
theorem whole_both (x : Nat) (hx : x < 18446744073709551616) (h : rungB x ≤ 4845873199050653696) : ∃ n : Int, floatToIntVal .f64 x .i64 = some n ∧ (FloatKind.f64.format.order (floatOfInt .f64 n) x == some Ordering.eq) = (FloatKind.f64.format.order (truncB x) x == some Ordering.eq) := by
  obtain ⟨s, c, hc, hd, hi, _⟩ := toInt_near x h
  have es : Ieee.signed s c 0 = sgn s c := by rw [signed_sgn]; simp
  refine ⟨sgn s c, ?_, ?_⟩
  · unfold floatToIntVal Ieee.Datum.toInt
    rw [hd, hi]
    simp only [es]
    rw [if_pos]
    have e0 : IntKind.i64.min = -9223372036854775808 := rfl
    have e1 : IntKind.i64.max = 9223372036854775807 := rfl
    rw [e0, e1]
    unfold sgn
    split <;> omega
  · have et : truncB x = Ieee.double.nearest s c 0 := by
      unfold truncB
      rw [hd, hi]
      rfl
    rw [et, floatOfInt_is]
    by_cases h0 : c = 0
    · subst h0
      have e1 : sgn s 0 = 0 := by cases s <;> rfl
      rw [e1]
      have e2 : Ieee.double.nearest s 0 0 = Ieee.double.word s 0 := by unfold Ieee.Format.nearest; rw [if_pos rfl]
      have e3 : Ieee.double.nearest (decide ((0 : Int) < 0)) (Int.natAbs 0) 0 = Ieee.double.word false 0 := by unfold Ieee.Format.nearest; rw [if_pos (show Int.natAbs 0 = 0 from rfl)]; rfl
      rw [e2, e3]
      obtain ⟨a1, a2, a3⟩ := word_is s 0 (by omega)
      obtain ⟨b1, b2, b3⟩ := word_is false 0 (by omega)
      rw [order_key _ x (by rw [b3]; omega) (by omega), order_key _ x (by rw [a3]; omega) (by omega), a2, a3, b2, b3]
      cases s <;> rfl
    · have e1 : decide (sgn s c < 0) = s := by
        unfold sgn
        cases s
        · simp
        · simp; omega
      have e2 : (sgn s c).natAbs = c := by
        unfold sgn
        cases s <;> simp
      rw [e1, e2]

/-- Not too far from 0, on both sides. -/
theorem near_code (x : Nat) (h : Rt x) : (FloatKind.f64.format.order (absB x) 4845873199050653696 == some Ordering.lt || FloatKind.f64.format.order (absB x) 4845873199050653696 == some Ordering.eq) = decide (rungB x ≤ 4845873199050653696) := by
  rw [absB_is x h.lt]
  have hrl : rungB x < 9223372036854775808 := by unfold rungB; omega
  have hrr : rungB (rungB x) = rungB x := by unfold rungB; omega
  rcases h.r with h1 | h1
  · rw [order_key (rungB x) 4845873199050653696 (by omega) (by decide), cmp_is_lt, cmp_is_eq, hrr]
    have hn : isNeg (rungB x) = false := by rw [isNeg_is _ (by omega)]; exact decide_eq_false (by omega)
    have e1 : sgn (isNeg 4845873199050653696) (rungB 4845873199050653696) = 4845873199050653696 := by decide
    rw [hn, e1]
    have e2 : sgn false (rungB x) = rungB x := rfl
    rw [e2, ← Bool.decide_or]
    congr 1
    apply propext
    omega
  · subst h1; decide +kernel

theorem near_ref (x : Nat) (h : Rt x) : ((FloatKind.f64.format.order x 14069245235905429504 == some Ordering.gt || FloatKind.f64.format.order x 14069245235905429504 == some Ordering.eq) && (FloatKind.f64.format.order x 4845873199050653696 == some Ordering.lt || FloatKind.f64.format.order x 4845873199050653696 == some Ordering.eq)) = decide (rungB x ≤ 4845873199050653696) := by
  rcases h.r with h1 | h1
  · rw [order_key x 4845873199050653696 h1 (by decide), order_key x 14069245235905429504 h1 (by decide), cmp_is_lt, cmp_is_eq, cmp_is_gt, cmp_is_eq]
    have e1 : sgn (isNeg 4845873199050653696) (rungB 4845873199050653696) = 4845873199050653696 := by decide
    have e2 : sgn (isNeg 14069245235905429504) (rungB 14069245235905429504) = -4845873199050653696 := by decide
    rw [e1, e2, ← Bool.decide_or, ← Bool.decide_or, ← Bool.decide_and]
    congr 1
    apply propext
    unfold sgn
    cases isNeg x <;> simp only [Bool.false_eq_true, if_false, if_true] <;> omega
  · subst h1; decide +kernel

/-- What Whole tells. -/
def wholeV (x : Nat) : Int × Bool := match floatToIntVal .f64 x .i64 with
  | some n => if rungB x ≤ 4845873199050653696 ∧ (FloatKind.f64.format.order (truncB x) x == some Ordering.eq) = true then (n, true) else (0, false)
  | none => (0, false)
def pairV (r : Int × Bool) : Value := .tuple #[.int .i64 r.1, .bool r.2]

theorem wholeV_far (x : Nat) (h : ¬ rungB x ≤ 4845873199050653696) : wholeV x = (0, false) := by
  unfold wholeV
  split
  · rw [if_neg (fun k => h k.1)]
  · rfl

set_option maxRecDepth 100000 in
theorem rwhole_any (n : Int) (hn : Wf64 n) (w : World) : Calls Try.prog 51 #[.int .u64 n] w fun e w' => e = .returned (pairV (wholeV (ofB n.toNat))) ∧ w = w' := by
  have hf := rfloat_any n hn w
  have hR := near_ref _ hn.rt
  by_cases h : rungB (ofB n.toNat) ≤ 4845873199050653696
  · rw [decide_eq_true h, Bool.and_eq_true] at hR
    obtain ⟨hR1, hR2⟩ := hR
    obtain ⟨i, hi, hb⟩ := whole_both _ hn.rt.lt h
    have hcv : ∀ w : World, (convert 65 3 (.float .f64 (ofB n.toNat))).run Try.prog w = .ok (.int .i64 i) w := fun w => run_convert_float_int w _ _ _ _ _ _ (by rw [Try.underlying65]; rfl) Try.underlying3 hi
    unfold wholeV pairV
    rw [hi]
    simp only
    generalize hq : (FloatKind.f64.format.order (truncB (ofB n.toNat)) (ofB n.toNat) == some Ordering.eq) = q at *
    have hb' : (FloatKind.f64.format.order (floatOfInt .f64 i) (ofB n.toNat) != some Ordering.eq) = !q := by rw [← hb]; rfl
    cases q with
    | true =>
      rw [if_pos ⟨h, rfl⟩]
      generalize ofB n.toNat = x at *
      clear hn h hi hq
      go_enter Try.func51, Try.ntmps51
      go_wp2_with fail
      refine hf.mono ?_
      rintro e w1 ⟨rfl, rfl⟩
      clear hf
      go_wp2
      go_ret2
      exact ⟨rfl, rfl⟩
    | false =>
      rw [if_neg (fun k => by cases k.2)]
      generalize ofB n.toNat = x at *
      clear hn h hi hq
      go_enter Try.func51, Try.ntmps51
      go_wp2_with fail
      refine hf.mono ?_
      rintro e w1 ⟨rfl, rfl⟩
      clear hf
      go_wp2
      go_ret2
      exact ⟨rfl, rfl⟩
  · rw [wholeV_far _ h]
    rw [decide_eq_false h] at hR
    generalize ofB n.toNat = x at *
    clear hn h
    unfold pairV
    cases hR1 : (FloatKind.f64.format.order x 14069245235905429504 == some Ordering.gt || FloatKind.f64.format.order x 14069245235905429504 == some Ordering.eq) with
    | false =>
      clear hR
      go_enter Try.func51, Try.ntmps51
      go_wp2_with fail
      refine hf.mono ?_
      rintro e w1 ⟨rfl, rfl⟩
      clear hf
      go_wp2
      go_ret2
      exact ⟨rfl, rfl⟩
    | true =>
      rw [hR1, Bool.true_and] at hR
      go_enter Try.func51, Try.ntmps51
      go_wp2_with fail
      refine hf.mono ?_
      rintro e w1 ⟨rfl, rfl⟩
      clear hf
      go_wp2
      go_ret2
      exact ⟨rfl, rfl⟩

theorem rint_ok (n : Int) (h0 : -9007199254740992 ≤ n) (h1 : n ≤ 9007199254740992) (w : World) :
    Calls Try.prog 8 #[.int .i64 n] w fun e w' => e = .returned (.tuple #[.int .u64 (ofB (floatOfInt .f64 n)), .bool true]) ∧ w = w' := by
  have h0' : decide (n < -9007199254740992) = false := decide_eq_false (by omega)
  have h1' : decide (9007199254740992 < n) = false := decide_eq_false (by omega)
  go_enter Try.func8, Try.ntmps8
  go_wp2_with fail
  refine (rof_any _ w).mono ?_
  rintro e w1 ⟨rfl, rfl⟩
  go_wp2
  go_ret2
  exact ⟨rfl, rfl⟩

theorem rint_no (n : Int) (h : ¬ (-9007199254740992 ≤ n ∧ n ≤ 9007199254740992)) (w : World) :
    Calls Try.prog 8 #[.int .i64 n] w fun e w' => e = .returned (.tuple #[.int .u64 0, .bool false]) ∧ w = w' := by
  by_cases h0 : n < -9007199254740992
  · clear h
    go_enter Try.func8, Try.ntmps8
    go_wp2
    go_ret2
    exact ⟨rfl, rfl⟩
  · have h0' : decide (n < -9007199254740992) = false := decide_eq_false h0
    have h1 : 9007199254740992 < n := by omega
    clear h
    go_enter Try.func8, Try.ntmps8
    go_wp2
    go_ret2
    exact ⟨rfl, rfl⟩

end Go.Proofs.Ytjbbjbbkembknaa
/-
  package spec: variable BY ITS CONTRACT.
-/
namespace Go.Proofs.Ytjbbjbbkembknaa
set_option linter.unusedVariables false
set_option linter.unusedSimpArgs false
open Go.RowKit
attribute [local go_sem] Oper.semAt_some

theorem whole_le (x : Nat) (h : rungB x ≤ 4845873199050653696) (n : Int) (hn : floatToIntVal .f64 x .i64 = some n) : -9007199254740992 ≤ n ∧ n ≤ 9007199254740992 := by
  obtain ⟨s, c, hc, hd, hi, _⟩ := toInt_near x h
  have es : Ieee.signed s c 0 = sgn s c := by rw [signed_sgn]; simp
  unfold floatToIntVal Ieee.Datum.toInt at hn
  rw [hd, hi] at hn
  simp only [es] at hn
  split at hn
  · simp only [Option.some.injEq] at hn
    rw [← hn]
    unfold sgn
    split <;> omega
  · cases hn
theorem wholeV_le (x : Nat) : -9007199254740992 ≤ (wholeV x).1 ∧ (wholeV x).1 ≤ 9007199254740992 := by
  unfold wholeV
  split
  · rename_i n hn
    split
    · rename_i hh
      exact whole_le x hh.1 n hn
    · constructor <;> decide
  · constructor <;> decide

/-- Which variable an instruction names. -/
def idxW (i : InsD) (pp : List Int) : Option Int :=
  if i.op = 6 ∨ i.op = 7 then (if (wholeV (ofB (pp.getD (pp.length - 1) 0).toNat)).2 = true ∧ 0 ≤ (wholeV (ofB (pp.getD (pp.length - 1) 0).toNat)).1 then some (wholeV (ofB (pp.getD (pp.length - 1) 0).toNat)).1 else none) else some 0
def varW (i : InsD) (pp : List Int) (nh : Nat) : Option Int := match idxW i pp with
  | none => none
  | some k => if i.arg + k < nh then some (i.arg + k) else none
end Go.Proofs.Ytjbbjbbkembknaa
/-
  package spec: A BLOCK BEHIND WHAT IS DONE TO IT. No walk.
-/
namespace Go.Proofs.Ytjbbjbbkembknaa
set_option linter.unusedVariables false
set_option linter.unusedSimpArgs false
open Go.RowKit

theorem val_put {w : World} {g cap : Nat} {ls : List Int} (h : valOwn w 0 (.slice (some ⟨g, 0, none⟩) ls.length cap) ls) (i : Nat) (x : Int) : valOwn (w.setCell ⟨g, i, none⟩ (.int .u64 x)) 0 (.slice (some ⟨g, 0, none⟩) ls.length cap) (ls.set i x) := by
  have hl : (ls.set i x).length = ls.length := List.length_set
  refine ⟨by rw [List.length_map, hl]; omega, .inr ?_⟩
  rcases h.2 with ⟨e, _⟩ | ⟨g', cap', cur, e, hB, hg, h1, h2, h3, h4⟩
  · simp at e
  · simp only [Value.slice.injEq, Option.some.injEq, Addr.mk.injEq] at e
    obtain ⟨⟨rfl, _⟩, _, rfl⟩ := e
    refine ⟨g, cap, _, by rw [hl], hB, heap_setCell_same _ _ _ _ _ _ hg, by rw [hl]; exact h1, h2, by simpa using h3, ?_⟩
    rw [hl, List.map_set, ← h4]
    simp only [Array.toList_setIfInBounds]
    rw [List.take_set]
theorem apart_keep {w w' : World} {b p : Nat} {vs vo vh vl va : Value} {F S : List Nat} (h1 : p < w.heap.size) (h2 : ∀ i, p ∉ comp b vs vo vh vl va F i) (t : Touch w w' S) (hS : ∀ x ∈ S, ∃ i, x ∈ comp b vs vo vh vl va F i) : w'.heap[p]? = w.heap[p]? :=
  t.block p h1 (fun hm => by obtain ⟨i, hi⟩ := hS p hm; exact h2 i hi)

/-- reach as a plain function. -/
def reachB (X : BX) (i : InsD) : Int × BX :=
  if fitsW i.op X.D.st.length = false then (12, X) else match varW i (X.D.st.drop (X.D.st.length - (popV i.op).toNat)) X.h.length with
  | none => (2, X)
  | some t => if i.op = 4 ∨ i.op = 6 then (0, { X with D := { X.D with st := X.D.st.take (X.D.st.length - (popV i.op).toNat) ++ [X.h.getD t.toNat 0], pc := X.D.pc + 1 } })
    else (0, { X with h := X.h.set t.toNat ((X.D.st.drop (X.D.st.length - (popV i.op).toNat)).getD 0 0), D := { X.D with st := X.D.st.take (X.D.st.length - (popV i.op).toNat) ++ [], pc := X.D.pc + 1 } })

end Go.Proofs.Ytjbbjbbkembknaa
/-
  package spec: reach BY ITS CONTRACT. Written by mkreach.py.
-/
namespace Go.Proofs.Ytjbbjbbkembknaa
set_option linter.unusedVariables false
set_option linter.unusedSimpArgs false
open Go.RowKit
attribute [local go_sem] Oper.semAt_some

theorem right_var {i : InsD} (h : rightI i = true) (ho : i.op = 4 ∨ i.op = 5 ∨ i.op = 6 ∨ i.op = 7) : 0 ≤ i.arg ∧ i.arg ≤ 255 := by
  unfold rightI at h
  simp only [Bool.and_eq_true, decide_eq_true_eq] at h
  have h1 := h.1.2
  have h0 := h.1.1.2
  have : highP i.op = 11 := by rcases ho with q | q | q | q <;> (rw [q]; rfl)
  omega
theorem varW_some {i : InsD} {pp : List Int} {nh : Nat} {t : Int} (h : varW i pp nh = some t) (ha : 0 ≤ i.arg) : 0 ≤ t ∧ t < nh := by
  unfold varW at h
  split at h
  · cases h
  · rename_i k hk
    split at h
    · rename_i hlt
      simp only [Option.some.injEq] at h
      unfold idxW at hk
      split at hk
      · split at hk
        · rename_i h2
          simp only [Option.some.injEq] at hk
          omega
        · cases hk
      · simp only [Option.some.injEq] at hk
        omega
    · cases h
theorem own_some {w : World} {B : Nat} {ao : Option Addr} {n c : Nat} {l : List Int} (h : valOwn w B (.slice ao n c) l) (hn : 0 < n) : ∃ g, ao = some ⟨g, 0, none⟩ := by
  rcases h.2 with ⟨e, _⟩ | ⟨g, cap, cur, e, _⟩
  · simp only [Value.slice.injEq] at e; omega
  · simp only [Value.slice.injEq] at e; exact ⟨g, e.1⟩

end Go.Proofs.Ytjbbjbbkembknaa
/-
  package spec: A LEFT ARM's WAY BACK (begin's closure) BY ITS CONTRACT. Written by mkback.py.
-/
namespace Go.Proofs.Ytjbbjbbkembknaa
set_option linter.unusedVariables false
set_option linter.unusedSimpArgs false
open Go.RowKit
attribute [local go_sem] Oper.semAt_some

theorem WObj.stput {w : World} {p : Nat} {T : TypeId} {tl : List Value} {D0 : WD} {v0 o0 vp : Value} (h : WObj w p T tl v0 o0 vp D0) (D : WD) (vs vo : Value) : WObj (stPut w p D vs vo) p T tl vs vo vp { D with fuel := D0.fuel } :=
  ⟨by
    rw [heap_setCell_same _ _ _ _ _ _ (heap_setCell_same _ _ _ _ _ _ (heap_setCell_same _ _ _ _ _ _ (heap_setCell_same _ _ _ _ _ _ (heap_setCell_same _ _ _ _ _ _ (heap_setCell_same _ _ _ _ _ _ (heap_setCell_same _ _ _ _ _ _ h.st))))))]
    simp⟩
theorem WObj.set9 {w : World} {b : Nat} {T : TypeId} {v0 : Value} {tl : List Value} {vs vo vp : Value} {D : WD} (h : WObj w b T (v0 :: tl) vs vo vp D) (v : Value) : WObj (w.setCell ⟨b, 9, none⟩ v) b T (v :: tl) vs vo vp D := ⟨by rw [heap_setCell_same _ _ _ _ _ _ h.st]; simp⟩
theorem WObj.set10 {w : World} {b : Nat} {T : TypeId} {v0 v1 : Value} {tl : List Value} {vs vo vp : Value} {D : WD} (h : WObj w b T (v0 :: v1 :: tl) vs vo vp D) (v : Value) : WObj (w.setCell ⟨b, 10, none⟩ v) b T (v0 :: v :: tl) vs vo vp D := ⟨by rw [heap_setCell_same _ _ _ _ _ _ h.st]; simp⟩
theorem WObj.set11 {w : World} {b : Nat} {T : TypeId} {v0 v1 v2 : Value} {tl : List Value} {vs vo vp : Value} {D : WD} (h : WObj w b T (v0 :: v1 :: v2 :: tl) vs vo vp D) (v : Value) : WObj (w.setCell ⟨b, 11, none⟩ v) b T (v0 :: v1 :: v :: tl) vs vo vp D := ⟨by rw [heap_setCell_same _ _ _ _ _ _ h.st]; simp⟩

theorem nd_parts {s h p q : Nat} {a c d : List Nat} (nd : (s :: h :: p :: q :: (a ++ (c ++ d))).Nodup) : (∀ x ∈ a, x ∉ c) ∧ (∀ x ∈ a, x ∉ d) ∧ (∀ x ∈ c, x ∉ d) := by
  have h1 : (a ++ (c ++ d)).Nodup := by
    simp only [List.nodup_cons] at nd
    exact nd.2.2.2.2
  rw [List.nodup_append] at h1
  obtain ⟨_, h2, h3⟩ := h1
  rw [List.nodup_append] at h2
  refine ⟨fun x hx hc => h3 x hx x (by simp [hc]) rfl, fun x hx hd => h3 x hx x (by simp [hd]) rfl, fun x hx hd => h2.2.2 x hx x hd rfl⟩

end Go.Proofs.Ytjbbjbbkembknaa
/-
  package spec: innermost AND retry BY THEIR CONTRACTS.
-/
namespace Go.Proofs.Ytjbbjbbkembknaa
set_option linter.unusedVariables false
set_option linter.unusedSimpArgs false
open Go.RowKit
attribute [local go_sem] Oper.semAt_some

theorem row_take {w : World} {e : TypeId} {g n cap : Nat} {xs : List Value} (h : w.ownsRow 0 e 1 (.slice (some ⟨g, 0, none⟩) n cap) n xs) (q : Nat) (hq : q ≤ n) : w.ownsRow 0 e 1 (.slice (some ⟨g, 0, none⟩) q cap) q (xs.take q) := by
  have hl := h.1
  refine ⟨by rw [List.length_take]; omega, .inr ?_⟩
  rcases h.2 with ⟨e5, _⟩ | ⟨g5, cap5, cur5, e5, hb5, h6, hn5, hm5, hc5, ht5⟩
  · cases e5
  · simp only [Value.slice.injEq, Option.some.injEq, Addr.mk.injEq] at e5
    obtain ⟨⟨rfl, _⟩, _, rfl⟩ := e5
    refine ⟨g, cap, cur5, rfl, hb5, h6, by omega, hm5, hc5, ?_⟩
    rw [← ht5, List.take_take]
    congr 1
    omega

end Go.Proofs.Ytjbbjbbkembknaa
/-
  package spec: retry BY ITS CONTRACT.
-/
namespace Go.Proofs.Ytjbbjbbkembknaa
set_option linter.unusedVariables false
set_option linter.unusedSimpArgs false
open Go.RowKit
attribute [local go_sem] Oper.semAt_some

end Go.Proofs.Ytjbbjbbkembknaa
/-
  ROWS OF ONE CELL EACH: one more. No walk.
-/
namespace Go.Proofs.Ytjbbjbbkembknaa
set_option linter.unusedVariables false
set_option linter.unusedSimpArgs false
open Go.RowKit

theorem flat_self (l : List Value) : l.flatMap (fun v => [v]) = l := by induction l with
  | nil => rfl
  | cons x l ih => rw [List.flatMap_cons, ih]; rfl
theorem row1_push {P : Program} {w : World} {B : Nat} (t e : TypeId) {z : Value} {bytes : Nat} (ht : P.underlying t = some (.slice e)) (hinfo : (P.info? e).map (fun i => (i.zero, i.size, i.bytes)) = some (some z, 1, bytes)) (hzs : z.cells.size = 1) (hbp : 0 < bytes) (hbu : bytes ≤ 16) {v : Value} {n : Nat} {xs : List Value} (h : w.ownsRow B e 1 v n xs) (hn : n ≤ 1000) (hB : B ≤ w.heap.size) (x : Value) (hx : x.oneCell' = true) (ty : TypeId) :
    ∃ ao' cap' w', (Builtin.append_ #[t, t] ty #[v, .slice (some ⟨w.heap.size, 0, none⟩) 1 1]).run P (w.alloc (.cells #[x] e)) = .ok (.slice ao' (n + 1) cap') w' ∧ w'.ownsRow B e 1 (.slice ao' (n + 1) cap') (n + 1) (xs ++ [x]) ∧ Touch w w' v.ownBlock.toList ∧ (∀ g, (Value.slice ao' (n + 1) cap').ownBlock = some g → v.ownBlock = some g ∨ w.heap.size ≤ g) := by
  obtain ⟨i0, hi, hz0, hz1, hz2⟩ := info_partsE hinfo
  have T1 : Touch w (w.alloc (.cells #[x] e)) [] := (Touch.refl w []).alloc _
  have hr : SRow 1 (fun v : {y : Value // y.oneCell' = true} => [v.1]) (w.alloc (.cells #[x] e)) (.slice (some ⟨w.heap.size, 0, none⟩) [(⟨x, hx⟩ : {y : Value // y.oneCell' = true})].length 1) [⟨x, hx⟩] := by
    refine ⟨_, 1, rfl, fun _ => ⟨w.heap.size, 0, rfl, by simp, fun k hk j hj => ?_⟩⟩
    have hk0 : k = 0 := by simpa using hk
    have hj0 : j = 0 := by omega
    subst hk0 hj0
    have h0 := heap_alloc_new w (.cells #[x] e)
    unfold World.cell?
    simp only [h0]
    rfl
  obtain ⟨v', w', h1, h2, h3, h4⟩ := run_app (P := P) (cells := fun v : {y : Value // y.oneCell' = true} => [v.1]) t ty e i0 z 1 bytes ht hi hz0 hz1 hz2 hzs (by decide) (fun _ => rfl) (fun y u hu => by
    rw [List.mem_singleton.1 hu]; exact y.2) (ownsRow_touch h T1 (by simp)) hr (by
      simp only [List.length_cons, List.length_nil]
      have : (n + (0 + 1)) * bytes ≤ (n + (0 + 1)) * 16 := Nat.mul_le_mul_left _ hbu
      omega) hbp (by simp; omega)
  obtain ⟨ao', cap', rfl⟩ := owns_slice h2
  refine ⟨ao', cap', w', h1, h2, (T1.mono (by simp)).grown h3 (fun k hk => .inl (by simp [hk])), ?_⟩
  intro g hg
  rcases h4 with h4 | h4
  · left; rw [← h4]; exact hg
  · right
    have h5 : (Value.slice ao' (n + 1) cap').ownBlock = some (w.alloc (.cells #[x] e)).heap.size := h4
    rw [h5] at hg
    simp at hg
    omega
theorem Try.info_fun : (Try.prog.info? 1).map (fun i => (i.zero, i.size, i.bytes)) = some (some .nilFunc, 1, 8) := by kernel_rfl
theorem Try.info_bool : (Try.prog.info? 4).map (fun i => (i.zero, i.size, i.bytes)) = some (some (.bool false), 1, 1) := by kernel_rfl

/-! ### What is made ahead of a left arm, piece by piece -/
abbrev zWD : WD := ⟨0, [], 0, 0, 0, 0, [], 0⟩
def cB : Option (Value × Value) → List Nat
  | none => []
  | some p => ob p.1 ++ ob p.2
def dB : Option Value → List Nat
  | none => []
  | some v => ob v
def accF (s h : Option Nat) (c : Option (Value × Value)) (d : Option Value) : List Nat := s.toList ++ (h.toList ++ (cB c ++ dB d))
structure MkA (Q W : World) (D : WD) (H : List Int) (s h : Option Nat) (c : Option (Value × Value)) (d : Option Value) : Prop where
  t : Touch Q W []
  sb : ∀ x, s = some x → StB W x zWD (.slice none 0 0) (.slice none 0 0)
  hb : ∀ x, h = some x → W.heap[x]? = some (.cells #[.slice none 0 0] 41 (0, 0))
  co : ∀ p, c = some p → valOwn W Q.heap.size p.1 D.st ∧ valOwn W Q.heap.size p.2 D.out
  dd : ∀ v, d = some v → valOwn W Q.heap.size v H
  nd : (accF s h c d).Nodup
  lt : ∀ x ∈ accF s h c d, Q.heap.size ≤ x ∧ x < W.heap.size
theorem MkA.touch {Q W W' : World} {D : WD} {H : List Int} {s h : Option Nat} {c : Option (Value × Value)} {d : Option Value} (k : MkA Q W D H s h c d) (t : Touch W W' []) : MkA Q W' D H s h c d :=
  ⟨k.t.trans t (by simp), fun x hx => (k.sb x hx).touch t (by simp), fun x hx => (t.block x (lt_of_heap (k.hb x hx)) (by simp)).trans (k.hb x hx), fun p hp => ⟨ownsRow_touch (k.co p hp).1 t (by simp), ownsRow_touch (k.co p hp).2 t (by simp)⟩, fun v hv => ownsRow_touch (k.dd v hv) t (by simp), k.nd, fun x hx => ⟨(k.lt x hx).1, Nat.lt_of_lt_of_le (k.lt x hx).2 t.size⟩⟩
theorem MkA.zero (Q W : World) (D : WD) (H : List Int) (t : Touch Q W []) : MkA Q W D H none none none none :=
  ⟨t, fun x hx => (by cases hx), fun x hx => (by cases hx), fun x hx => (by cases hx), fun x hx => (by cases hx), by simp [accF, cB, dB], fun x hx => by simp [accF, cB, dB] at hx⟩
theorem nodup_add {A N C : List Nat} {m : Nat} (h : (A ++ C).Nodup) (hN : N.Nodup) (hl : ∀ x ∈ A ++ C, x < m) (hm : ∀ x ∈ N, m ≤ x) : (A ++ (N ++ C)).Nodup := by
  rw [List.nodup_append] at h ⊢
  obtain ⟨h1, h2, h3⟩ := h
  refine ⟨h1, ?_, ?_⟩
  · rw [List.nodup_append]
    exact ⟨hN, h2, fun a ha b hb e => by have := hm a ha; have := hl b (by simp [hb]); omega⟩
  · intro a ha b hb e
    rcases List.mem_append.1 hb with hb | hb
    · have := hm b hb; have := hl a (by simp [ha]); omega
    · exact h3 a ha b hb e
theorem MkA.allocS {Q W : World} {D : WD} {H : List Int} {h : Option Nat} {c : Option (Value × Value)} {d : Option Value} (k : MkA Q W D H none h c d) : MkA Q (W.alloc (.cells #[.int .i64 0, .slice none 0 0, .int .u64 0, .int .u64 0, .int .u64 0, .int .u64 0, .slice none 0 0] 44)) D H (some W.heap.size) h c d := by
  have t : Touch W (W.alloc (.cells #[.int .i64 0, .slice none 0 0, .int .u64 0, .int .u64 0, .int .u64 0, .int .u64 0, .slice none 0 0] 44)) [] := (Touch.refl W []).alloc _
  have k' := k.touch t
  have hs : (W.alloc (.cells #[.int .i64 0, .slice none 0 0, .int .u64 0, .int .u64 0, .int .u64 0, .int .u64 0, .slice none 0 0] 44)).heap.size = W.heap.size + 1 := by simp
  refine ⟨k'.t, fun x hx => ?_, k'.hb, k'.co, k'.dd, ?_, ?_⟩
  · simp only [Option.some.injEq] at hx; subst hx; exact ⟨heap_alloc_new W _⟩
  · exact nodup_add (A := []) (m := W.heap.size) (N := [W.heap.size]) (C := h.toList ++ (cB c ++ dB d)) (by have := k.nd; simpa [accF] using this) (by simp) (fun x hx => (k.lt x (by simpa [accF] using hx)).2) (by simp)
  · intro x hx
    have hx' : x = W.heap.size ∨ x ∈ accF none h c d := by simpa [accF] using hx
    rw [hs]
    rcases hx' with rfl | hx'
    · exact ⟨k.t.size, by omega⟩
    · have := k.lt x hx'; omega
theorem MkA.allocH {Q W : World} {D : WD} {H : List Int} {s : Option Nat} {c : Option (Value × Value)} {d : Option Value} (k : MkA Q W D H s none c d) : MkA Q (W.alloc (.cells #[.slice none 0 0] 41)) D H s (some W.heap.size) c d := by
  have t : Touch W (W.alloc (.cells #[.slice none 0 0] 41)) [] := (Touch.refl W []).alloc _
  have k' := k.touch t
  have hs : (W.alloc (.cells #[.slice none 0 0] 41)).heap.size = W.heap.size + 1 := by simp
  refine ⟨k'.t, k'.sb, fun x hx => ?_, k'.co, k'.dd, ?_, ?_⟩
  · simp only [Option.some.injEq] at hx; subst hx; exact heap_alloc_new W _
  · exact nodup_add (A := s.toList) (m := W.heap.size) (N := [W.heap.size]) (C := cB c ++ dB d) (by have := k.nd; simpa [accF] using this) (by simp) (fun x hx => (k.lt x (by simpa [accF] using hx)).2) (by simp)
  · intro x hx
    have hx' : x = W.heap.size ∨ x ∈ accF s none c d := by
      simp only [accF, List.mem_append, Option.toList_some, Option.toList_none, List.mem_singleton, List.not_mem_nil] at hx ⊢
      rcases hx with q | q | q
      · exact .inr (.inl q)
      · exact .inl q
      · exact .inr (.inr (.inr q))
    rw [hs]
    rcases hx' with rfl | hx'
    · exact ⟨k.t.size, by omega⟩
    · have := k.lt x hx'; omega
theorem ob_nodup (v : Value) : (ob v).Nodup := by
  unfold ob
  cases v.ownBlock with
  | none => simp
  | some g => simp
theorem MkA.callC {Q W w' : World} {D : WD} {H : List Int} {s h : Option Nat} {d : Option Value} (k : MkA Q W D H s h none d) {e : Ending} (hc : CopP W D e w') : ∃ sa sc oa oc, e = .returned (stV D (.slice sa D.st.length sc) (.slice oa D.out.length oc)) ∧ MkA Q w' D H s h (some (.slice sa D.st.length sc, .slice oa D.out.length oc)) d ∧ Touch W w' [] := by
  obtain ⟨vs, vo, rfl, o1, o2, n1, t⟩ := hc
  obtain ⟨sa, sc, rfl⟩ := owns_slice o1
  obtain ⟨oa, oc, rfl⟩ := owns_slice o2
  have k' := k.touch t
  have hq := k.t.size
  refine ⟨sa, sc, oa, oc, rfl, ⟨k'.t, k'.sb, k'.hb, fun p hp => ?_, k'.dd, ?_, ?_⟩, t⟩
  · simp only [Option.some.injEq] at hp; subst hp; exact ⟨own_base o1 hq, own_base o2 hq⟩
  · have := nodup_add (A := s.toList ++ h.toList) (m := W.heap.size) (N := ob (.slice sa D.st.length sc) ++ ob (.slice oa D.out.length oc)) (C := dB d) (by have := k.nd; simpa [accF, cB] using this) (by
      rw [List.nodup_append]
      exact ⟨ob_nodup _, ob_nodup _, fun a ha b hb e => n1 a (mem_ob.1 ha) (by rw [e]; exact mem_ob.1 hb)⟩) (fun x hx => (k.lt x (by simpa [accF, cB] using hx)).2) (fun x hx => by
        rcases List.mem_append.1 hx with q | q
        · exact own_ge o1 x (mem_ob.1 q)
        · exact own_ge o2 x (mem_ob.1 q))
    simpa [accF, cB] using this
  · intro x hx
    have hx' : x ∈ ob (.slice sa D.st.length sc) ∨ x ∈ ob (.slice oa D.out.length oc) ∨ x ∈ accF s h none d := by
      simp only [accF, cB, List.mem_append, List.not_mem_nil] at hx ⊢
      rcases hx with q | q | (q | q) | q
      · exact .inr (.inr (.inl q))
      · exact .inr (.inr (.inr (.inl q)))
      · exact .inl q
      · exact .inr (.inl q)
      · exact .inr (.inr (.inr (.inr (.inr q))))
    rcases hx' with q | q | q
    · exact ⟨Nat.le_trans hq (own_ge o1 x (mem_ob.1 q)), own_lt o1 x (mem_ob.1 q)⟩
    · exact ⟨Nat.le_trans hq (own_ge o2 x (mem_ob.1 q)), own_lt o2 x (mem_ob.1 q)⟩
    · have := k'.lt x q; exact this
theorem MkA.callD {Q W w' : World} {D : WD} {H : List Int} {s h : Option Nat} {c : Option (Value × Value)} (k : MkA Q W D H s h c none) {e : Ending} (hc : PushP W H e w') : ∃ ha hc, e = .returned (.slice ha H.length hc) ∧ MkA Q w' D H s h c (some (.slice ha H.length hc)) ∧ Touch W w' [] := by
  obtain ⟨v, rfl, o1, t⟩ := hc
  obtain ⟨ha, hc, rfl⟩ := owns_slice o1
  have k' := k.touch t
  have hq := k.t.size
  refine ⟨ha, hc, rfl, ⟨k'.t, k'.sb, k'.hb, k'.co, fun p hp => ?_, ?_, ?_⟩, t⟩
  · simp only [Option.some.injEq] at hp; subst hp; exact own_base o1 hq
  · have := nodup_add (A := s.toList ++ (h.toList ++ cB c)) (m := W.heap.size) (N := ob (.slice ha H.length hc)) (C := []) (by have := k.nd; simpa [accF, dB] using this) (ob_nodup _) (fun x hx => (k.lt x (by simpa [accF, dB] using hx)).2) (fun x hx => own_ge o1 x (mem_ob.1 hx))
    simpa [accF, dB] using this
  · intro x hx
    have hx' : x ∈ ob (.slice ha H.length hc) ∨ x ∈ accF s h c none := by
      simp only [accF, dB, List.mem_append, List.not_mem_nil] at hx ⊢
      rcases hx with q | q | q | q
      · exact .inr (.inl q)
      · exact .inr (.inr (.inl q))
      · exact .inr (.inr (.inr (.inl q)))
      · exact .inl q
    rcases hx' with q | q
    · exact ⟨Nat.le_trans hq (own_ge o1 x (mem_ob.1 q)), own_lt o1 x (mem_ob.1 q)⟩
    · have := k'.lt x q; exact this

end Go.Proofs.Ytjbbjbbkembknaa
/-
  package spec: begin BY ITS CONTRACT. Written by mkbegin.py.
-/
namespace Go.Proofs.Ytjbbjbbkembknaa
set_option linter.unusedVariables false
set_option linter.unusedSimpArgs false
open Go.RowKit
attribute [local go_sem] Oper.semAt_some

end Go.Proofs.Ytjbbjbbkembknaa
/-
  package spec: bracket BY ITS CONTRACT.
-/
namespace Go.Proofs.Ytjbbjbbkembknaa
set_option linter.unusedVariables false
set_option linter.unusedSimpArgs false
open Go.RowKit
attribute [local go_sem] Oper.semAt_some

/-- bracket as a plain function. -/
def brB (X : BX) (i : InsD) : Int × BX :=
  if i.op = 23 then (0, { X with ms := X.ms ++ [⟨X.D, X.h, i.arg⟩], D := { X.D with pc := X.D.pc + 1 } })
  else if i.op = 24 then (match X.ms.getLast? with
    | none => (3, X)
    | some _ => (0, { X with ms := X.ms.dropLast, arms := X.arms ++ [true], D := { X.D with pc := i.arg + 1 } }))
  else if i.op = 25 then (0, { X with arms := X.arms ++ [false], D := { X.D with pc := X.D.pc + 1 } })
  else if i.op = 26 then (match X.ms.getLast? with
    | none => (-1, X)
    | some m => (0, { X with ms := X.ms.dropLast, h := m.h, D := { m.D with fuel := X.D.fuel, pc := m.e + 1 } }))
  else (0, { X with D := { X.D with pc := X.D.pc + 1 } })

theorem bk_keep {w W : World} {b p : Nat} {vs vo vh vl va : Value} {F : List Nat} (h1 : p < w.heap.size) (h2 : ∀ i, p ∉ comp b vs vo vh vl va F i) (t : Touch w W (b :: (ob vl ++ ob va))) : W.heap[p]? = w.heap[p]? := by
  refine apart_keep h1 h2 t (fun y hy => ?_)
  simp only [List.mem_cons, List.mem_append] at hy
  rcases hy with rfl | hy | hy
  · exact ⟨0, by simp [comp]⟩
  · exact ⟨4, hy⟩
  · exact ⟨5, hy⟩

end Go.Proofs.Ytjbbjbbkembknaa
/-
  package spec: do BY ITS CONTRACT. Written by mkdo.py.
-/
namespace Go.Proofs.Ytjbbjbbkembknaa
set_option linter.unusedVariables false
set_option linter.unusedSimpArgs false
open Go.RowKit
attribute [local go_sem] Oper.semAt_some

/-- do as a plain function. -/
def doB (l : List InsD) (X : BX) (i : InsD) : Int × BX :=
  if i.op = 27 ∨ i.op = 28 ∨ i.op = 21 then (3, X)
  else if i.op = 4 ∨ i.op = 5 ∨ i.op = 6 ∨ i.op = 7 then reachB X i
  else if i.op = 22 ∨ i.op = 23 ∨ i.op = 24 ∨ i.op = 25 ∨ i.op = 26 then (if fitsW i.op X.D.st.length = false then (12, X) else brB X i)
  else ((stepW l X.D).1, { X with D := (stepW l X.D).2 })

/-- How long a block's lists may be, and what they may hold. -/
structure BWf (X : BX) : Prop where
  st : X.D.st.length ≤ 1000
  out : X.D.out.length ≤ 1000
  h : X.h.length ≤ 1000
  ms : X.ms.length ≤ 1000
  arms : X.arms.length ≤ 1000
  me : ∀ m ∈ X.ms, 0 ≤ m.e ∧ m.e ≤ 1000
  w : ∀ x ∈ X.D.st, Wf64 x

theorem step_pos (l : List InsD) (D : WD) : 0 ≤ (stepW l D).1 := by
  unfold stepW
  split
  · show (0 : Int) ≤ 3; decide
  · split
    · show (0 : Int) ≤ 3; decide
    · split
      · show (0 : Int) ≤ 3; decide
      · split
        · show (0 : Int) ≤ 12; decide
        · unfold doW
          repeat' split
          all_goals (first | exact Int.le_refl _ | (show (0 : Int) ≤ 2; decide) | (show (0 : Int) ≤ 4; decide) | decide)

end Go.Proofs.Ytjbbjbbkembknaa
/-
  package spec: WHAT A BLOCK HOLDS STAYS SMALL AND RIGHT. No walk.
-/
namespace Go.Proofs.Ytjbbjbbkembknaa
set_option linter.unusedVariables false
set_option linter.unusedSimpArgs false
open Go.RowKit

theorem wf_zero : Wf64 0 := by unfold Wf64; decide
theorem wf_getD {l : List Int} (h : ∀ x ∈ l, Wf64 x) (k : Nat) : Wf64 (l.getD k 0) := by
  rw [List.getD_eq_getElem?_getD]
  by_cases hk : k < l.length
  · rw [List.getElem?_eq_getElem hk]; exact h _ (List.getElem_mem hk)
  · rw [List.getElem?_eq_none (by omega)]; exact wf_zero
theorem arith_wf (op : BinOp) (x y : Nat) : Wf64 (arithB op x y : Nat) := by
  unfold arithB
  split
  · rename_i r h
    have h1 := floatBits_wf h
    have h2 : r < 18446744073709551616 := by simpa [Lit.wf] using h1
    have := ofB_lt r h2
    unfold Wf64; omega
  · unfold Wf64; omega
theorem oneV_wf (b : Bool) : Wf64 (oneV b) := by cases b <;> (unfold oneV Wf64; decide)
theorem neg_wf {n : Int} (h : Wf64 n) : Wf64 (negV (ofB n.toNat)) := by
  have hr := h.rt
  have hl : Op.negFloat .f64 (ofB n.toNat) < 18446744073709551616 := by rw [negFloat_is _ hr.lt]; have := hr.lt; split <;> omega
  rw [← negV_is hr]
  have := ofB_lt _ hl
  unfold Wf64; omega
theorem reck_wf (o a b : Int) : Wf64 (reckV o a b) := by
  unfold reckV
  repeat' split
  all_goals first | exact arith_wf _ _ _ | exact oneV_wf _

structure SWf (D : WD) (h : List Int) : Prop where
  st : D.st.length ≤ 1000
  out : D.out.length ≤ 1000
  hl : h.length ≤ 1000
  ws : ∀ x ∈ D.st, Wf64 x
  wh : ∀ x ∈ h, Wf64 x
  w0 : Wf64 D.l0
  w1 : Wf64 D.l1
  w2 : Wf64 D.l2
  w3 : Wf64 D.l3
structure BW (X : BX) (k : Nat) : Prop where
  s : SWf X.D X.h
  m : ∀ m ∈ X.ms, SWf m.D m.h ∧ 0 ≤ m.e ∧ m.e ≤ 1000
  ms : X.ms.length ≤ k
  arms : X.arms.length ≤ k
theorem BW.wf {X : BX} {k : Nat} (h : BW X k) (hk : k ≤ 1000) : BWf X := ⟨h.s.st, h.s.out, h.s.hl, by have := h.ms; omega, by have := h.arms; omega, fun m hm => (h.m m hm).2, h.s.ws⟩

theorem push_wf {D : WD} {h : List Int} (k : SWf D h) {i : InsD} (hi : i.Wf) {pp : List Int} (hp : ∀ x ∈ pp, Wf64 x) : ∀ x ∈ pushW D i pp, Wf64 x := by
  intro x hx
  unfold pushW at hx
  split at hx
  · rw [List.mem_singleton.1 hx]; exact hi.val
  split at hx
  · rw [List.mem_singleton.1 hx]
    unfold WD.loc
    split
    · exact k.w0
    · split
      · exact k.w1
      · split
        · exact k.w2
        · exact k.w3
  split at hx
  · simp only [List.mem_cons, List.not_mem_nil, or_false] at hx
    rcases hx with rfl | rfl <;> exact wf_getD hp _
  split at hx
  · simp only [List.mem_cons, List.not_mem_nil, or_false] at hx
    rcases hx with rfl | rfl <;> exact wf_getD hp _
  split at hx
  · rw [List.mem_singleton.1 hx]; exact neg_wf (wf_getD hp _)
  split at hx
  · rw [List.mem_singleton.1 hx]; exact oneV_wf _
  split at hx
  · rw [List.mem_singleton.1 hx]; exact reck_wf _ _ _
  · cases hx
theorem push_len (D : WD) (i : InsD) (pp : List Int) : (pushW D i pp).length ≤ 2 := by
  unfold pushW
  repeat' split
  all_goals simp
theorem take_app_wf {l m : List Int} {n : Nat} (h1 : ∀ x ∈ l, Wf64 x) (h2 : ∀ x ∈ m, Wf64 x) : ∀ x ∈ l.take n ++ m, Wf64 x := by
  intro x hx
  rcases List.mem_append.1 hx with q | q
  · exact h1 x (List.mem_of_mem_take q)
  · exact h2 x q

/-- A State whose stack is another one. -/
theorem SWf.stack {D : WD} {h : List Int} (k : SWf D h) {st : List Int} {pc : Int} (h1 : st.length ≤ 1000) (h2 : ∀ x ∈ st, Wf64 x) : SWf { D with st := st, pc := pc } h := ⟨h1, k.out, k.hl, h2, k.wh, k.w0, k.w1, k.w2, k.w3⟩
theorem SWf.pc {D : WD} {h : List Int} (k : SWf D h) (pc : Int) : SWf { D with pc := pc } h := ⟨k.st, k.out, k.hl, k.ws, k.wh, k.w0, k.w1, k.w2, k.w3⟩
theorem SWf.fuel {D : WD} {h : List Int} (k : SWf D h) (pc : Int) : SWf { D with fuel := pc } h := ⟨k.st, k.out, k.hl, k.ws, k.wh, k.w0, k.w1, k.w2, k.w3⟩
theorem SWf.setL {D : WD} {h : List Int} (k : SWf D h) (j x : Int) (hx : Wf64 x) : SWf (D.setL j x) h := by
  unfold WD.setL
  split
  · exact ⟨k.st, k.out, k.hl, k.ws, k.wh, hx, k.w1, k.w2, k.w3⟩
  · split
    · exact ⟨k.st, k.out, k.hl, k.ws, k.wh, k.w0, hx, k.w2, k.w3⟩
    · split
      · exact ⟨k.st, k.out, k.hl, k.ws, k.wh, k.w0, k.w1, hx, k.w3⟩
      · exact ⟨k.st, k.out, k.hl, k.ws, k.wh, k.w0, k.w1, k.w2, hx⟩
theorem take_len {l m : List Int} {n a : Nat} (h1 : l.length ≤ 1000) (h2 : n + m.length ≤ 1000) : (l.take n ++ m).length ≤ 1000 := by
  rw [List.length_append, List.length_take]; omega
theorem fits_le {o : Int} {n : Nat} (h : fitsW o n = true) : n - (popV o).toNat + (pushV o).toNat ≤ 12 := by
  unfold fitsW at h
  simp only [Bool.and_eq_true, decide_eq_true_eq] at h
  have := pop_le o
  have := push_le o
  omega

/-- A step keeps a State right. -/
theorem step_keep {l : List InsD} {D : WD} {h : List Int} (k : SWf D h) (hl : ∀ i ∈ l, i.Wf) (h0 : (stepW l D).1 = 0) : SWf (stepW l D).2 h := by
  unfold stepW at h0 ⊢
  split
  · rename_i q; rw [if_pos q] at h0; simp at h0
  rename_i q1
  rw [if_neg q1] at h0
  split
  · rename_i q; rw [if_pos q] at h0; simp at h0
  rename_i q2
  rw [if_neg q2] at h0
  split
  · rename_i q; rw [if_pos q] at h0; simp at h0
  rename_i q3
  rw [if_neg q3] at h0
  split
  · rename_i q; rw [if_pos q] at h0; simp at h0
  rename_i q4
  rw [if_neg q4] at h0
  have hi : (l.getD D.pc.toNat ⟨0, 0, 0⟩).Wf := by
    rw [List.getD_eq_getElem?_getD]
    by_cases hk : D.pc.toNat < l.length
    · rw [List.getElem?_eq_getElem hk]; exact hl _ (List.getElem_mem hk)
    · rw [List.getElem?_eq_none (by omega)]; exact ⟨⟨by decide, by decide⟩, ⟨by decide, by decide⟩, wf_zero⟩
  generalize l.getD D.pc.toNat ⟨0, 0, 0⟩ = i at *
  have hf : fitsW i.op D.st.length = true := by simpa using q4
  have hfl := fits_le hf
  have hst := k.st
  unfold doW at h0 ⊢
  have nilwf : ∀ x ∈ ([] : List Int), Wf64 x := fun x hx => by cases hx
  split
  · rename_i q; rw [if_pos q] at h0
    split
    · rename_i q5
      have hs := k.stack (pc := D.pc + 1) (st := D.st.take (D.st.length - 1) ++ []) (take_len (a := 0) hst (by simp; omega)) (take_app_wf k.ws nilwf)
      exact ⟨hs.st, by show (D.out ++ [_]).length ≤ 1000; rw [List.length_append]; simp; omega, hs.hl, hs.ws, hs.wh, hs.w0, hs.w1, hs.w2, hs.w3⟩
    · rename_i q5; rw [if_neg q5] at h0; simp at h0
  rename_i q; rw [if_neg q] at h0; clear q
  split
  · exact (k.setL i.arg _ (wf_getD k.ws _)).stack (take_len (a := 0) hst (by simp; omega)) (take_app_wf k.ws nilwf)
  rename_i q; rw [if_neg q] at h0; clear q
  split
  · rename_i q; rw [if_pos q] at h0
    split
    · exact k.stack (take_len (a := 0) hst (by simp; omega)) (take_app_wf k.ws nilwf)
    · rename_i q5; rw [if_neg q5] at h0; simp at h0
  rename_i q; rw [if_neg q] at h0; clear q
  split
  · rename_i q; rw [if_pos q] at h0
    split
    · exact k.stack (take_len (a := 0) hst (by simp; omega)) (take_app_wf k.ws nilwf)
    · rename_i q5; rw [if_neg q5] at h0
      split
      · exact k.stack (take_len (a := 0) hst (by simp; omega)) (take_app_wf k.ws nilwf)
      · rename_i q6; rw [if_neg q6] at h0; simp at h0
  exact k.stack (take_len (a := 0) hst (by have := push_len D i (D.st.drop (D.st.length - (popV i.op).toNat)); omega)) (take_app_wf k.ws (push_wf k hi (fun x hx => k.ws x (List.mem_of_mem_drop hx))))

theorem reach_keep {X : BX} {k : Nat} (h : BW X k) {i : InsD} (h0 : (reachB X i).1 = 0) : BW (reachB X i).2 (k + 1) := by
  unfold reachB at h0 ⊢
  have nilwf : ∀ x ∈ ([] : List Int), Wf64 x := fun x hx => by cases hx
  have hst := h.s.st
  split
  · rename_i q; rw [if_pos q] at h0; simp at h0
  rename_i q
  rw [if_neg q] at h0
  have hf : fitsW i.op X.D.st.length = true := by simpa using q
  have hfl := fits_le hf
  split
  · rename_i q5; rw [q5] at h0; simp at h0
  rename_i t q5
  split
  · exact ⟨h.s.stack (take_len (a := 0) hst (by simp; omega)) (take_app_wf h.s.ws (fun x hx => by rw [List.mem_singleton.1 hx]; exact wf_getD h.s.wh _)), h.m, by have := h.ms; show X.ms.length ≤ _; omega, by have := h.arms; show X.arms.length ≤ _; omega⟩
  · have hs := h.s.stack (pc := X.D.pc + 1) (st := X.D.st.take (X.D.st.length - (popV i.op).toNat) ++ []) (take_len (a := 0) hst (by simp; omega)) (take_app_wf h.s.ws nilwf)
    refine ⟨⟨hs.st, hs.out, by rw [List.length_set]; exact hs.hl, hs.ws, fun x hx => ?_, hs.w0, hs.w1, hs.w2, hs.w3⟩, h.m, by have := h.ms; show X.ms.length ≤ _; omega, by have := h.arms; show X.arms.length ≤ _; omega⟩
    rcases List.mem_or_eq_of_mem_set hx with q | q
    · exact h.s.wh x q
    · rw [q]; exact wf_getD (fun y hy => h.s.ws y (List.mem_of_mem_drop hy)) _

theorem br_keep {X : BX} {k : Nat} (h : BW X k) {i : InsD} (ha : 0 ≤ i.arg ∧ i.arg ≤ 1000) (h0 : (brB X i).1 = 0) : BW (brB X i).2 (k + 1) := by
  have hms := h.ms
  have har := h.arms
  unfold brB at h0 ⊢
  split
  · refine ⟨h.s.pc _, fun m hm => ?_, by show (X.ms ++ [_]).length ≤ _; rw [List.length_append]; simp; omega, by show X.arms.length ≤ _; omega⟩
    rcases List.mem_append.1 hm with q | q
    · exact h.m m q
    · rw [List.mem_singleton.1 q]; exact ⟨h.s, ha⟩
  rename_i q; rw [if_neg q] at h0; clear q
  split
  · rename_i q; rw [if_pos q] at h0
    split
    · rename_i q5; rw [q5] at h0; simp at h0
    · exact ⟨h.s.pc _, fun m hm => h.m m ((List.dropLast_sublist X.ms).subset hm), by show X.ms.dropLast.length ≤ _; rw [List.length_dropLast]; omega, by show (X.arms ++ [_]).length ≤ _; rw [List.length_append]; simp; omega⟩
  rename_i q; rw [if_neg q] at h0; clear q
  split
  · exact ⟨h.s.pc _, h.m, by show X.ms.length ≤ _; omega, by show (X.arms ++ [_]).length ≤ _; rw [List.length_append]; simp; omega⟩
  rename_i q; rw [if_neg q] at h0; clear q
  split
  · rename_i q; rw [if_pos q] at h0
    split
    · rename_i q5; rw [q5] at h0; simp at h0
    · rename_i m q5
      have hm := h.m m (List.mem_of_getLast? q5)
      exact ⟨⟨hm.1.st, hm.1.out, hm.1.hl, hm.1.ws, hm.1.wh, hm.1.w0, hm.1.w1, hm.1.w2, hm.1.w3⟩, fun m hm => h.m m ((List.dropLast_sublist X.ms).subset hm), by show X.ms.dropLast.length ≤ _; rw [List.length_dropLast]; omega, by show X.arms.length ≤ _; omega⟩
  · exact ⟨h.s.pc _, h.m, by show X.ms.length ≤ _; omega, by show X.arms.length ≤ _; omega⟩

theorem do_keep {l : List InsD} {X : BX} {k : Nat} (h : BW X k) (hl : ∀ i ∈ l, i.Wf) {i : InsD} (ha : i.op ≠ 1 → 0 ≤ i.arg ∧ i.arg ≤ 1000) (h0 : (doB l X i).1 = 0) : BW (doB l X i).2 (k + 1) := by
  have hms := h.ms
  have har := h.arms
  unfold doB at h0 ⊢
  split
  · rename_i q; rw [if_pos q] at h0; simp at h0
  rename_i q; rw [if_neg q] at h0; clear q
  split
  · rename_i q; rw [if_pos q] at h0; exact reach_keep h h0
  rename_i q; rw [if_neg q] at h0; clear q
  split
  · rename_i q; rw [if_pos q] at h0
    split
    · rename_i q5; rw [if_pos q5] at h0; simp at h0
    · rename_i q5; rw [if_neg q5] at h0; exact br_keep h (ha (by omega)) h0
  · rename_i q; rw [if_neg q] at h0
    exact ⟨step_keep h.s hl h0, h.m, by show X.ms.length ≤ _; omega, by show X.arms.length ≤ _; omega⟩

end Go.Proofs.Ytjbbjbbkembknaa
/-
  package spec: toEnd BY ITS CONTRACT.
-/
namespace Go.Proofs.Ytjbbjbbkembknaa
set_option linter.unusedVariables false
set_option linter.unusedSimpArgs false
open Go.RowKit
attribute [local go_sem] Oper.semAt_some

/-- A block from behind its Atomic on. -/
def runB (l : List InsD) : Nat → BX → Int × BX
  | 0, X => match hereP l X.D.pc with
    | none => (3, X)
    | some _ => (11, X)
  | n + 1, X => match hereP l X.D.pc with
    | none => (3, X)
    | some i => if (doB l { X with D := { X.D with fuel := X.D.fuel - 1 } } i).1 = 0 then (if i.op = 22 then doB l { X with D := { X.D with fuel := X.D.fuel - 1 } } i else runB l n (doB l { X with D := { X.D with fuel := X.D.fuel - 1 } } i).2) else doB l { X with D := { X.D with fuel := X.D.fuel - 1 } } i
theorem run_some {l : List InsD} {n : Nat} {X : BX} {i : InsD} (hh : hereP l X.D.pc = some i) : runB l (n + 1) X = if (doB l { X with D := { X.D with fuel := X.D.fuel - 1 } } i).1 = 0 then (if i.op = 22 then doB l { X with D := { X.D with fuel := X.D.fuel - 1 } } i else runB l n (doB l { X with D := { X.D with fuel := X.D.fuel - 1 } } i).2) else doB l { X with D := { X.D with fuel := X.D.fuel - 1 } } i := by
  simp only [runB, hh]
def endB (l : List InsD) (X : BX) : Int × BX := if opAtW l X.D.pc = 21 then runB l X.D.fuel.toNat { X with D := { X.D with pc := X.D.pc + 1 } } else (3, X)

theorem right_arg {i : InsD} (h : rightI i = true) : 0 ≤ i.arg ∧ i.arg ≤ 255 := by
  unfold rightI at h
  simp only [Bool.and_eq_true, decide_eq_true_eq] at h
  have h1 := h.1.2
  have h0 := h.1.1.2
  have : highP i.op ≤ 63 := by unfold highP; split; decide; split; decide; decide
  omega

theorem BW.mono {X : BX} {k m : Nat} (h : BW X k) (hm : k ≤ m) : BW X m := ⟨h.s, h.m, Nat.le_trans h.ms hm, Nat.le_trans h.arms hm⟩
/-- The fuel as it lies. -/
def fuelAt (b : Nat) (w : World) : Nat := match w.cell? ⟨b, 8, none⟩ with
  | some (.int _ f) => f.toNat
  | _ => 0
theorem doB_fuel (l : List InsD) (X : BX) (i : InsD) : (doB l X i).2.D.fuel = X.D.fuel := by
  unfold doB
  split
  · rfl
  split
  · unfold reachB
    split
    · rfl
    split
    · rfl
    split
    · rfl
    · rfl
  split
  · split
    · rfl
    · unfold brB
      split
      · rfl
      split
      · split <;> rfl
      split
      · rfl
      split
      · split <;> rfl
      · rfl
  · show (stepW l X.D).2.fuel = _
    unfold stepW
    split
    · rfl
    split
    · rfl
    split
    · rfl
    split
    · rfl
    unfold doW
    split
    · split <;> rfl
    split
    · unfold WD.setL; split; rfl; split; rfl; split <;> rfl
    split
    · split <;> rfl
    split
    · split
      · rfl
      · split <;> rfl
    · rfl

end Go.Proofs.Ytjbbjbbkembknaa
/-
  package spec: tried AROUND toEnd; AN OUTCOME AS IT LIES.
-/
namespace Go.Proofs.Ytjbbjbbkembknaa
set_option linter.unusedVariables false
set_option linter.unusedSimpArgs false
open Go.RowKit
attribute [local go_sem] Oper.semAt_some

/-- An Outcome in a block of its own. -/
structure OutB (w : World) (p : Nat) (c : Array Value) : Prop where
  st : w.heap[p]? = some (.cells c 47 (0, 0))
abbrev outA (kd : Int) (D : WD) (vs vo vh va : Value) (er : Int) : Array Value := #[.int .u8 kd, .int .i64 D.pc, vs, .int .u64 D.l0, .int .u64 D.l1, .int .u64 D.l2, .int .u64 D.l3, vo, vh, va, .int .i64 er]
theorem OutB.touch {w w' : World} {p : Nat} {c : Array Value} {S : List Nat} (h : OutB w p c) (t : Touch w w' S) (hS : p ∉ S) : OutB w' p c := ⟨(t.block p (lt_of_heap h.st) hS).trans h.st⟩
theorem OutB.fr {w : World} {p : Nat} {c : Array Value} (h : OutB w p c) (j : Nat) : w.frozen? ⟨p, j, none⟩ = false := by unfold World.frozen?; rw [h.st]; simp
theorem OutB.cell {w : World} {p : Nat} {c : Array Value} (h : OutB w p c) (j : Nat) : w.cell? ⟨p, j, none⟩ = c[j]? := by unfold World.cell?; rw [h.st]; rfl
abbrev outPut (w : World) (p : Nat) (kd : Int) (D : WD) (vs vo vh va : Value) (er : Int) : World := ((((((((((w.setCell ⟨p, 0, none⟩ (.int .u8 kd)).setCell ⟨p, 1, none⟩ (.int .i64 D.pc)).setCell ⟨p, 2, none⟩ vs).setCell ⟨p, 3, none⟩ (.int .u64 D.l0)).setCell ⟨p, 4, none⟩ (.int .u64 D.l1)).setCell ⟨p, 5, none⟩ (.int .u64 D.l2)).setCell ⟨p, 6, none⟩ (.int .u64 D.l3)).setCell ⟨p, 7, none⟩ vo).setCell ⟨p, 8, none⟩ vh).setCell ⟨p, 9, none⟩ va).setCell ⟨p, 10, none⟩ (.int .i64 er)
theorem OutB.put {w : World} {p : Nat} {kd0 : Int} {D0 : WD} {vs0 vo0 vh0 va0 : Value} {er0 : Int} (h : OutB w p (outA kd0 D0 vs0 vo0 vh0 va0 er0)) (kd : Int) (D : WD) (vs vo vh va : Value) (er : Int) : OutB (outPut w p kd D vs vo vh va er) p (outA kd D vs vo vh va er) :=
  ⟨by
    rw [heap_setCell_same _ _ _ _ _ _ (heap_setCell_same _ _ _ _ _ _ (heap_setCell_same _ _ _ _ _ _ (heap_setCell_same _ _ _ _ _ _ (heap_setCell_same _ _ _ _ _ _ (heap_setCell_same _ _ _ _ _ _ (heap_setCell_same _ _ _ _ _ _ (heap_setCell_same _ _ _ _ _ _ (heap_setCell_same _ _ _ _ _ _ (heap_setCell_same _ _ _ _ _ _ (heap_setCell_same _ _ _ _ _ _ h.st))))))))))]
    simp⟩
theorem outPut_touch (w : World) (p : Nat) (kd : Int) (D : WD) (vs vo vh va : Value) (er : Int) : Touch w (outPut w p kd D vs vo vh va er) [p] := (((((((((((Touch.refl w [p]).setCell (.inl (by simp)) _).setCell (.inl (by simp)) _).setCell (.inl (by simp)) _).setCell (.inl (by simp)) _).setCell (.inl (by simp)) _).setCell (.inl (by simp)) _).setCell (.inl (by simp)) _).setCell (.inl (by simp)) _).setCell (.inl (by simp)) _).setCell (.inl (by simp)) _).setCell (.inl (by simp)) _

abbrev bcell : Bool → List Value := fun x => [Value.bool x]
/-- What Block tells. -/
def outX (l : List InsD) (D : WD) (h : List Int) (f : Int) : Int × BX := endB l ⟨{ D with fuel := fuelW f }, h, [], []⟩
def BlkP (w : World) (r : Int × BX) (D : WD) (h : List Int) (e : Ending) (w' : World) : Prop :=
  (r.1 = 0 ∧ ∃ vs vo vh va, e = .returned (.agg (outA 1 r.2.D vs vo vh va 0)) ∧ VRow w' vs r.2.D.st ∧ VRow w' vo r.2.D.out ∧ VRow w' vh r.2.h ∧ SRow 1 bcell w' va r.2.arms ∧ Touch w w' []) ∨
  (r.1 ≠ 0 ∧ ∃ vs vo vh, e = .returned (.agg (outA (if r.1 = -1 then 2 else 3) D vs vo vh (.slice none 0 0) (if r.1 = -1 then 0 else r.1))) ∧ VRow w' vs D.st ∧ VRow w' vo D.out ∧ VRow w' vh h ∧ Touch w w' [])

end Go.Proofs.Ytjbbjbbkembknaa
/-
  package spec: Block BY ITS CONTRACT. Written by mkblock.py.
-/
namespace Go.Proofs.Ytjbbjbbkembknaa
set_option linter.unusedVariables false
set_option linter.unusedSimpArgs false
open Go.RowKit
attribute [local go_sem] Oper.semAt_some

/-- A value's block is new. -/
def FrA (w : World) (v : Value) : Prop := ∀ g, v.ownBlock = some g → w.heap.size ≤ g
/-- As BlkP, and the rows lie in new blocks. -/
def BlkF (w : World) (r : Int × BX) (D : WD) (h : List Int) (e : Ending) (w' : World) : Prop :=
  (r.1 = 0 ∧ ∃ vs vo vh va, e = .returned (.agg (outA 1 r.2.D vs vo vh va 0)) ∧ VRow w' vs r.2.D.st ∧ VRow w' vo r.2.D.out ∧ VRow w' vh r.2.h ∧ SRow 1 bcell w' va r.2.arms ∧ Touch w w' [] ∧ FrA w vs ∧ FrA w vo ∧ FrA w vh ∧ FrA w va) ∨
  (r.1 ≠ 0 ∧ ∃ vs vo vh, e = .returned (.agg (outA (if r.1 = -1 then 2 else 3) D vs vo vh (.slice none 0 0) (if r.1 = -1 then 0 else r.1))) ∧ VRow w' vs D.st ∧ VRow w' vo D.out ∧ VRow w' vh h ∧ Touch w w' [] ∧ FrA w vs ∧ FrA w vo ∧ FrA w vh)
theorem BlkF.p {w : World} {r : Int × BX} {D : WD} {h : List Int} {e : Ending} {w' : World} (k : BlkF w r D h e w') : BlkP w r D h e w' := by
  rcases k with ⟨h0, vs, vo, vh, va, e1, r1, r2, r3, r4, t, _⟩ | ⟨h0, vs, vo, vh, e1, r1, r2, r3, t, _⟩
  · exact .inl ⟨h0, vs, vo, vh, va, e1, r1, r2, r3, r4, t⟩
  · exact .inr ⟨h0, vs, vo, vh, e1, r1, r2, r3, t⟩

end Go.Proofs.Ytjbbjbbkembknaa
/-
  package spec: Plain BY ITS CONTRACT, where it stands at an Atomic or a Halt.
-/
namespace Go.Proofs.Ytjbbjbbkembknaa
set_option linter.unusedVariables false
set_option linter.unusedSimpArgs false
open Go.RowKit
attribute [local go_sem] Oper.semAt_some

def PlnP (w : World) (kd : Int) (D : WD) (e : Ending) (w' : World) : Prop := ∃ sa sc oa oc, e = .returned (.agg (outA kd D (.slice sa D.st.length sc) (.slice oa D.out.length oc) (.slice none 0 0) (.slice none 0 0) 0)) ∧ VRow w' (.slice sa D.st.length sc) D.st ∧ VRow w' (.slice oa D.out.length oc) D.out ∧ Touch w w' [] ∧ FrA w (.slice sa D.st.length sc) ∧ FrA w (.slice oa D.out.length oc)
end Go.Proofs.Ytjbbjbbkembknaa
/-
  package spec: Step BY ITS CONTRACT.
-/
namespace Go.Proofs.Ytjbbjbbkembknaa
set_option linter.unusedVariables false
set_option linter.unusedSimpArgs false
open Go.RowKit
attribute [local go_sem] Oper.semAt_some

theorem res_cell_slot {fn : Func} {p q : Tmp} {ty : TypeId} (h : fn.results = #[.cell p ty, .tmp q]) (tmps : Array Value) (P : Program) (w : World) {v : Value} {a : Addr} (hp : tmps.getD p undef = .pointer (some a)) (hl : (loadVar ty a).run P w = .ok v w) :
    (results fn tmps).run P w = .ok (.tuple #[v, tmps.getD q undef]) w := by
  rw [Array.getD_eq_getD_getElem?] at hp
  simp only [results, h]
  simp [Sem.run_bind, Result.andThen, hp, asAddr, hl]
/-- Behind Step: a State and no error, or the error. -/
def StpP (w : World) (r : Int × WD) (e : Ending) (w' : World) : Prop :=
  (r.1 = 0 ∧ ∃ sa sc oa oc, e = .returned (.tuple #[stV r.2 (.slice sa r.2.st.length sc) (.slice oa r.2.out.length oc), .int .i64 0]) ∧ VRow w' (.slice sa r.2.st.length sc) r.2.st ∧ VRow w' (.slice oa r.2.out.length oc) r.2.out ∧ Touch w w' [] ∧ (∀ g, (Value.slice sa r.2.st.length sc).ownBlock = some g → w.heap.size ≤ g) ∧ (∀ g, (Value.slice oa r.2.out.length oc).ownBlock = some g → w.heap.size ≤ g)) ∨
  (r.1 ≠ 0 ∧ e = .returned (.tuple #[stV zWD (.slice none 0 0) (.slice none 0 0), .int .i64 r.1]) ∧ Touch w w' [])

end Go.Proofs.Ytjbbjbbkembknaa

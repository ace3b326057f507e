/-
  package verify: BRACKETS AS PLAIN DATA. No walk.
-/
import Derived.Test.YtcbkafbchpjnoaaGreatDoorAllA
import Derived.WalkSmall
import Derived.Deep.AppendLies
import Derived.Deep.RegionLaw
import Derived.Lib.OwnKind
import Derived.Lib.SmallJoins
import Derived.Test.YtcbkafbchpjnoaaGreatDoorCdPop
import Derived.Test.YtcbkafbchpjnoaaGreatDoorVfEff
import Derived.WalkMore
import Derived.ScopeJumps
namespace Go.Proofs.YtcbkafbchpjnoaaGreatDoor
set_option linter.unusedVariables false
set_option linter.unusedSimpArgs false
open Go.RowKit

def opensV (o : Int) : Bool := decide (o = 21 ∨ o = 23 ∨ o = 24)
def closesV (o : Int) : Bool := decide (o = 22 ∨ o = 24 ∨ o = 25)
def closerV (o : Int) : Int := if o = 21 then 22 else if o = 23 then 24 else if o = 24 then 25 else 0
def opAt (l : List InsD) (k : Nat) : Int := (l[k]?.map InsD.op).getD 0
def argAt (l : List InsD) (k : Nat) : Int := (l[k]?.map InsD.arg).getD 0
theorem opAt_get {l : List InsD} {k : Nat} (h : k < l.length) : opAt l k = l[k].op := by simp [opAt, h]
theorem argAt_get {l : List InsD} {k : Nat} (h : k < l.length) : argAt l k = l[k].arg := by simp [argAt, h]

/-- How far brackets are matched: those that are open (the innermost first), the least place that is wrong. -/
structure MD where
  op : List Nat
  wr : Option Nat
def blameV (k : Nat) : Option Nat → Option Nat
  | none => some k
  | some j => some (if k < j then k else j)
def topV : List Nat → Int
  | [] => -1
  | t :: _ => (t : Int)
def shutV (args : Bool) (l : List InsD) (k : Nat) (s : MD) : MD :=
  match s.op with
  | [] => ⟨s.op, blameV k s.wr⟩
  | t :: r => if closerV (opAt l t) = opAt l k then ⟨r, if args = true ∧ argAt l t ≠ (k : Int) then blameV t s.wr else s.wr⟩ else ⟨s.op, blameV k s.wr⟩
def mayV (o : Int) (op : List Nat) : Bool := if o = 21 then decide (op.length = 0) else if o = 23 then decide (0 < op.length ∧ op.length ≤ 4) else true
def armsV (l : List InsD) (op : List Nat) : Nat := (op.filter fun t => decide (opAt l t ≠ 21)).length
def mayR (l : List InsD) (o : Int) (op : List Nat) : Bool := if o = 21 then decide (op.length = 0) else if o = 23 then decide (0 < op.length ∧ armsV l op < 4) else true
def beginV (may : Int → List Nat → Bool) (l : List InsD) (k : Nat) (s : MD) : MD := ⟨k :: s.op, if may (opAt l k) s.op then s.wr else blameV k s.wr⟩
def step1V (args : Bool) (l : List InsD) (k : Nat) (s : MD) : MD := if closesV (opAt l k) then shutV args l k s else s
def stepV (args : Bool) (may : Int → List Nat → Bool) (l : List InsD) (k : Nat) (s : MD) : MD :=
  if opensV (opAt l k) then beginV may l k (step1V args l k s) else step1V args l k s
def runV (args : Bool) (may : Int → List Nat → Bool) (l : List InsD) : Nat → MD
  | 0 => ⟨[], none⟩
  | k + 1 => stepV args may l k (runV args may l k)

/-- What is open lies ahead. -/
theorem step_lt {args : Bool} {may : Int → List Nat → Bool} {l : List InsD} {k : Nat} {s : MD} (h : ∀ t ∈ s.op, t < k) : ∀ t ∈ (stepV args may l k s).op, t < k + 1 := by
  have h1 : ∀ t ∈ (step1V args l k s).op, t < k := by
    unfold step1V
    split
    · unfold shutV
      split
      · exact h
      · rename_i t r e
        split
        · intro x hx; exact h x (by rw [e]; simp [hx])
        · exact h
    · exact h
  unfold stepV
  split
  · intro t ht
    simp only [beginV, List.mem_cons] at ht
    rcases ht with rfl | ht
    · omega
    · have := h1 t ht; omega
  · intro t ht; have := h1 t ht; omega
theorem run_lt {args : Bool} {may : Int → List Nat → Bool} {l : List InsD} : ∀ k, ∀ t ∈ (runV args may l k).op, t < k
  | 0 => by simp [runV]
  | k + 1 => step_lt (run_lt k)
theorem step1_len {args : Bool} {l : List InsD} {k : Nat} {s : MD} : (step1V args l k s).op.length ≤ s.op.length := by
  unfold step1V
  split
  · unfold shutV
    split
    · exact Nat.le_refl _
    · rename_i t r e
      split
      · rw [e]; simp
      · exact Nat.le_refl _
  · exact Nat.le_refl _
theorem run_len {args : Bool} {may : Int → List Nat → Bool} {l : List InsD} : ∀ k, (runV args may l k).op.length ≤ k
  | 0 => by simp [runV]
  | k + 1 => by
    have h := run_len (args := args) (may := may) (l := l) k
    have h1 := step1_len (args := args) (l := l) (k := k) (s := runV args may l k)
    unfold runV stepV
    split
    · simp only [beginV, List.length_cons]; omega
    · omega
/-- What is wrong lies ahead. -/
theorem blame_lt {k n : Nat} {w : Option Nat} (hk : k < n) (h : ∀ j, w = some j → j < n) : ∀ j, blameV k w = some j → j < n := by
  intro j hj
  cases w with
  | none => simp [blameV] at hj; omega
  | some i =>
    have := h i rfl
    simp only [blameV, Option.some.injEq] at hj
    split at hj <;> omega
theorem step1_wr {args : Bool} {l : List InsD} {k : Nat} {s : MD} (h : ∀ t ∈ s.op, t < k) (hw : ∀ j, s.wr = some j → j < k) : ∀ j, (step1V args l k s).wr = some j → j < k + 1 := by
  have hw1 : ∀ j, s.wr = some j → j < k + 1 := fun j hj => by have := hw j hj; omega
  unfold step1V
  split
  · unfold shutV
    split
    · exact blame_lt (by omega) hw1
    · rename_i t r e
      split
      · show ∀ j, (if args = true ∧ argAt l t ≠ (k : Int) then blameV t s.wr else s.wr) = some j → j < k + 1
        split
        · exact blame_lt (by have := h t (by rw [e]; simp); omega) hw1
        · exact hw1
      · exact blame_lt (by omega) hw1
  · exact hw1
theorem run_wr {args : Bool} {may : Int → List Nat → Bool} {l : List InsD} : ∀ k, ∀ j, (runV args may l k).wr = some j → j < k
  | 0 => by simp [runV]
  | k + 1 => by
    have h1 := step1_wr (args := args) (l := l) (run_lt (args := args) (may := may) (l := l) k) (run_wr k)
    unfold runV stepV
    split
    · show ∀ j, (if may (opAt l k) (step1V args l k (runV args may l k)).op then _ else _) = some j → j < k + 1
      split
      · exact h1
      · exact blame_lt (by omega) h1
    · exact h1

/-- Behind what is wrong nothing later counts. -/
theorem blame_past {k j : Nat} (h : j < k) : blameV k (some j) = some j := by
  simp only [blameV, Option.some.injEq]; split <;> omega

/-- The document counts arms, the program all that is open: the same, as long as nothing is wrong. -/
def Sound (l : List InsD) (s : MD) : Prop := s.wr = none → s.op = [] ∨ ∃ m a, s.op = m ++ [a] ∧ opAt l a = 21 ∧ ∀ t ∈ m, opAt l t ≠ 21
theorem sound_tail {l : List InsD} {t : Nat} {r : List Nat} (h : ∃ m a, t :: r = m ++ [a] ∧ opAt l a = 21 ∧ ∀ t ∈ m, opAt l t ≠ 21) : r = [] ∨ ∃ m a, r = m ++ [a] ∧ opAt l a = 21 ∧ ∀ t ∈ m, opAt l t ≠ 21 := by
  obtain ⟨m, a, e, h1, h2⟩ := h
  cases m with
  | nil => left; simpa using (List.cons.inj e).2
  | cons x m => right; exact ⟨m, a, (List.cons.inj e).2, h1, fun t ht => h2 t (by simp [ht])⟩
theorem blame_some (k : Nat) (w : Option Nat) : blameV k w ≠ none := by cases w <;> simp [blameV]
theorem step1_sound {args : Bool} {l : List InsD} {k : Nat} {s : MD} (h : Sound l s) : Sound l (step1V args l k s) := by
  unfold step1V
  split
  · unfold shutV
    split
    · intro hw; exact absurd hw (blame_some _ _)
    · rename_i t r e
      split
      · intro hw
        have hw' : s.wr = none := by
          simp only at hw
          split at hw
          · exact absurd hw (blame_some _ _)
          · exact hw
        rcases h hw' with h0 | h0
        · rw [e] at h0; cases h0
        · rw [e] at h0; exact sound_tail h0
      · intro hw; exact absurd hw (blame_some _ _)
  · exact h
theorem arms_sound {l : List InsD} {m : List Nat} {a : Nat} (h1 : opAt l a = 21) (h2 : ∀ t ∈ m, opAt l t ≠ 21) : armsV l (m ++ [a]) = m.length := by
  unfold armsV
  rw [List.filter_append, List.length_append, List.filter_eq_self.2 (fun t ht => by simpa using h2 t ht)]
  simp [h1]
theorem may_same {l : List InsD} {s : MD} {o : Int} (h : Sound l s) (hw : s.wr = none) : mayR l o s.op = mayV o s.op := by
  unfold mayR mayV
  rcases h hw with h0 | ⟨m, a, h0, h1, h2⟩
  · simp [h0]
  · rw [h0, arms_sound h1 h2]
    simp only [List.length_append, List.length_singleton]
    have : decide (0 < m.length + 1 ∧ m.length < 4) = decide (0 < m.length + 1 ∧ m.length + 1 ≤ 4) := by simp; omega
    rw [this]
theorem step_same {args : Bool} {l : List InsD} {k : Nat} {s : MD} (h : Sound l s) (hlt : ∀ t ∈ s.op, t < k) (hwr : ∀ j, s.wr = some j → j < k) : stepV args (mayR l) l k s = stepV args mayV l k s ∧ Sound l (stepV args mayV l k s) := by
  have h1 := step1_sound (args := args) (k := k) h
  by_cases ho : opensV (opAt l k)
  · unfold stepV
    rw [if_pos ho, if_pos ho]
    cases hw : (step1V args l k s).wr with
    | none =>
      refine ⟨by unfold beginV; rw [may_same h1 hw], ?_⟩
      intro hw2
      unfold beginV at hw2 ⊢
      simp only at hw2 ⊢
      have hm : mayV (opAt l k) (step1V args l k s).op = true := by
        cases hm : mayV (opAt l k) (step1V args l k s).op
        · rw [hm] at hw2; simp at hw2; exact absurd hw2 (blame_some _ _)
        · rfl
      have hcs : opAt l k = 21 ∨ opAt l k = 23 ∨ opAt l k = 24 := by simpa [opensV] using ho
      right
      rcases h1 hw with h0 | ⟨m, a, h0, h2, h3⟩
      · rw [h0] at hm ⊢
        rcases hcs with e | e | e
        · exact ⟨[], k, rfl, e, by simp⟩
        · rw [e] at hm; simp [mayV] at hm
        · -- an Else that closes nothing is wrong
          exfalso
          have hcl : closesV (opAt l k) = true := by rw [e]; decide
          unfold step1V at hw h0
          rw [if_pos hcl] at hw h0
          unfold shutV at hw h0
          split at hw
          · exact absurd hw (blame_some _ _)
          · rename_i t r e1
            by_cases hc : closerV (opAt l t) = opAt l k
            · rw [if_pos hc] at hw
              rw [e1] at h0
              simp only [hc, if_true] at h0
              have hw' : s.wr = none := by
                simp only at hw
                split at hw
                · exact absurd hw (blame_some _ _)
                · exact hw
              rcases h hw' with hh | ⟨m, a, hh, ha, hm2⟩
              · rw [e1] at hh; cases hh
              · rw [e1, h0] at hh
                have : t = a := by
                  cases m with
                  | nil => simpa using hh
                  | cons x m => simp at hh
                rw [this, ha, e] at hc
                simp [closerV] at hc
            · rw [if_neg hc] at hw
              exact absurd hw (blame_some _ _)
      · rw [h0] at hm ⊢
        refine ⟨k :: m, a, rfl, h2, ?_⟩
        intro t ht
        rcases List.mem_cons.1 ht with rfl | ht
        · intro e
          rw [e] at hm
          simp [mayV] at hm
        · exact h3 t ht
    | some j =>
      have hj := step1_wr (args := args) (l := l) hlt hwr j hw
      refine ⟨?_, ?_⟩
      · unfold beginV
        rw [hw]
        have e : blameV k (some j) = some j := by
          simp only [blameV, Option.some.injEq]; split <;> omega
        rw [e]; simp
      · intro h2
        unfold beginV at h2
        rw [hw] at h2
        simp only at h2
        split at h2
        · cases h2
        · exact absurd h2 (blame_some _ _)
  · unfold stepV
    rw [if_neg ho, if_neg ho]
    exact ⟨rfl, h1⟩
theorem run_same {args : Bool} {l : List InsD} : ∀ k, runV args (mayR l) l k = runV args mayV l k ∧ Sound l (runV args mayV l k)
  | 0 => ⟨rfl, fun _ => .inl rfl⟩
  | k + 1 => by
    have ⟨h1, h2⟩ := run_same (args := args) (l := l) k
    show stepV args (mayR l) l k (runV args (mayR l) l k) = stepV args mayV l k (runV args mayV l k) ∧ _
    rw [h1]
    exact step_same h2 (run_lt k) (run_wr k)

/-- The bracket in which each of the first k stands. -/
def insV (l : List InsD) (k : Nat) : List Int := (List.range k).map fun j => topV (runV true mayV l j).op
theorem insV_succ (l : List InsD) (k : Nat) : insV l (k + 1) = insV l k ++ [topV (runV true mayV l k).op] := by
  unfold insV; rw [List.range_succ, List.map_append]; rfl
theorem insV_len (l : List InsD) (k : Nat) : (insV l k).length = k := by simp [insV]
def endV (s : MD) : Option Nat := match s.wr with | some k => some k | none => s.op.head?
/-- The first place that is wrong. -/
def regV (l : List InsD) : Option Nat := endV (runV true mayV l l.length)

end Go.Proofs.YtcbkafbchpjnoaaGreatDoor
/-
  package verify: THE STACK OF BRACKETS: size, top, pop, push BY THEIR CONTRACTS.
-/
namespace Go.Proofs.YtcbkafbchpjnoaaGreatDoor
set_option linter.unusedVariables false
set_option linter.unusedSimpArgs false
open Go.RowKit
attribute [local go_sem] Oper.semAt_some

/-- All ways end alike: shown once. -/
theorem onceV {G Q : Prop} (pf : G) (body : G → Q) : Q := body pf
/-- append, by what it is known to come to. -/
theorem step_appendV {P : Program} {w : World} {ops : Array Oper} {o : Oper} {a : Act} {K : Act → World → Prop} {Q : Exit → Act → World → Prop} {E : Prop} (hgd : o.guard = none) (s x : Operand) (t ty : TypeId)
    (ho : o.op = .call { callee := .builtin .append, args := #[s, x], argTypes := #[t, t] }) (hty : o.type = ty) (v1 v2 v3 : Value) (w3 : World) (hs : a.eval s = v1) (hx : a.eval x = v2)
    (hr : (Builtin.append_ #[t, t] ty #[v1, v2]).run P w = .ok v3 w3) (h : K (a.put o.dst v3) w3) : if Region.wanted o (yielded ops a.tmps) = true then Oper.wp P o a w K Q else E := by
  have hw : Region.wanted o (yielded ops a.tmps) = true := by simp [Region.wanted, hgd]
  rw [if_pos hw]
  subst hty
  unfold Oper.wp execOp
  simp only [ho, resolve, invoke, builtin, Sem.run_bind, Sem.run_pure, Result.andThen_ok, List.map_toArray, List.map_cons, List.map_nil, hs, hx, hr]
  exact h

/-- An open bracket: its place, and what closes it. -/
structure BrD where
  at_ : Int
  cl : Int
def BrD.cells (x : BrD) : List Value := [.int .i64 x.at_, .int .u8 x.cl]
abbrev BrD.v (x : BrD) : Value := .agg #[.int .i64 x.at_, .int .u8 x.cl]
theorem info_partsV {p : Program} {t : TypeId} {z : Value} {n k : Nat} (h : (p.info? t).map (fun i => (i.zero, i.size, i.bytes)) = some (some z, n, k)) : ∃ i, p.info? t = some i ∧ i.zero = some z ∧ i.size = n ∧ i.bytes = k := by
  cases e : p.info? t with
  | none => rw [e] at h; simp at h
  | some i => rw [e] at h; simp at h; exact ⟨i, rfl, h.1, h.2.1, h.2.2⟩

end Go.Proofs.YtcbkafbchpjnoaaGreatDoor
/-
  package verify: closes, closerOf, blame, around, mayBegin BY THEIR CONTRACTS.
-/
namespace Go.Proofs.YtcbkafbchpjnoaaGreatDoor
set_option linter.unusedVariables false
set_option linter.unusedSimpArgs false
open Go.RowKit
attribute [local go_sem] Oper.semAt_some

/-- Instructions that can be read. -/
abbrev InsV := SRow 3 InsD.cells
theorem insv_at {w : World} {ao : Option Addr} {cap : Nat} {l : List InsD} (h : InsV w (.slice ao l.length cap) l) (k : Nat) (hk : k < l.length) :
    ∃ g off, ao = some ⟨g, off, none⟩ ∧ g < w.heap.size ∧ w.cell? ⟨g, off + k * 3, none⟩ = some (.int .u8 (opAt l k)) ∧ w.cell? ⟨g, off + k * 3 + 1, none⟩ = some (.int .i64 (argAt l k)) ∧ w.cell? ⟨g, off + k * 3 + 2, none⟩ = some (.int .u64 l[k].val) := by
  obtain ⟨g, off, e, hg, hc⟩ := SRow.at h k hk
  have h0 := hc 0 (by omega)
  have h1 := hc 1 (by omega)
  have h2 := hc 2 (by omega)
  rw [opAt_get hk, argAt_get hk]
  exact ⟨g, off, e, hg, by simpa [InsD.cells] using h0, by simpa [InsD.cells] using h1, by simpa [InsD.cells] using h2⟩

/-- The cell and the flag of the least place that is wrong. -/
def wrC (wr : Option Nat) : Value := .int .i64 (match wr with | none => 0 | some j => (j : Int))
def wrF (wr : Option Nat) : Value := .bool wr.isSome

/-- Open brackets as they lie: the outermost first. -/
def brRow (l : List InsD) (op : List Nat) : List BrD := op.reverse.map fun (t : Nat) => (⟨(t : Int), closerV (opAt l t)⟩ : BrD)
def topB (l : List InsD) : List Nat → BrD
  | [] => ⟨0, 0⟩
  | t :: _ => ⟨(t : Int), closerV (opAt l t)⟩
theorem brRow_len (l : List InsD) (op : List Nat) : (brRow l op).length = op.length := by simp [brRow]
theorem brRow_cons (l : List InsD) (t : Nat) (r : List Nat) : brRow l (t :: r) = brRow l r ++ [⟨(t : Int), closerV (opAt l t)⟩] := by simp [brRow]

theorem br_flat (xs : List BrD) : (xs.flatMap BrD.cells).length = xs.length * 2 := flat_len (cells := BrD.cells) (n := 2) (fun _ => rfl) xs
end Go.Proofs.YtcbkafbchpjnoaaGreatDoor
/-
  package verify: around, mayBegin, begin BY THEIR CONTRACTS.
-/
namespace Go.Proofs.YtcbkafbchpjnoaaGreatDoor
set_option linter.unusedVariables false
set_option linter.unusedSimpArgs false
open Go.RowKit
attribute [local go_sem] Oper.semAt_some

theorem kind_ne {w : World} {B n k : Nat} {e T : TypeId} {v : Value} {xs : List Value} {b : Nat} {cs : Array Value} {f : Nat × Nat} (h : w.ownsRow B e n v k xs) (hb : w.heap[b]? = some (.cells cs T f)) (ht : e ≠ T) : v.ownBlock ≠ some b := fun hv => by
  obtain ⟨c, fz, h1⟩ := Lib.ownsRow_kind h b hv
  rw [hb] at h1
  simp only [Option.some.injEq, Obj.cells.injEq] at h1
  exact ht h1.2.1.symm
end Go.Proofs.YtcbkafbchpjnoaaGreatDoor
/-
  package verify: begin BY ITS CONTRACT.
-/
namespace Go.Proofs.YtcbkafbchpjnoaaGreatDoor
set_option linter.unusedVariables false
set_option linter.unusedSimpArgs false
open Go.RowKit
attribute [local go_sem] Oper.semAt_some

end Go.Proofs.YtcbkafbchpjnoaaGreatDoor
/-
  Two lists that are the same: SameInts BY ITS CONTRACT.
-/
namespace Go.Proofs.YtcbkafbchpjnoaaGreatDoor
set_option linter.unusedVariables false
set_option linter.unusedSimpArgs false
open Go.RowKit

theorem owns_form {w : World} {B : Nat} {e : TypeId} {size : Nat} {v : Value} {n : Nat} {xs : List Value} (h : w.ownsRow B e size v n xs) :
    ∃ ao cap, v = .slice ao n cap ∧ (0 < n → ∃ g, ao = some ⟨g, 0, none⟩ ∧ g < w.heap.size ∧ ∀ j u, xs[j]? = some u → w.cell? ⟨g, j, none⟩ = some u) := by
  rcases h.2 with ⟨rfl, h0⟩ | ⟨g, cap, cur, rfl, hb, hg, _⟩
  · exact ⟨none, 0, by rw [h0], fun hn => by omega⟩
  · refine ⟨_, cap, rfl, fun _ => ⟨g, rfl, lt_of_heap hg, fun j u hu => ?_⟩⟩
    have := h.cells (g := g) rfl j u hu
    rw [Addr.add_lit] at this
    simpa using this

end Go.Proofs.YtcbkafbchpjnoaaGreatDoor
/-
  package verify: shut BY ITS CONTRACT.
-/
namespace Go.Proofs.YtcbkafbchpjnoaaGreatDoor
set_option linter.unusedVariables false
set_option linter.unusedSimpArgs false
open Go.RowKit
attribute [local go_sem] Oper.semAt_some

theorem own_firstV {w : World} {B g cap n size : Nat} {e : TypeId} {xs : List Value} (h : w.ownsRow B e size (.slice (some ⟨g, 0, none⟩) n cap) n xs) (i : Nat) (hi : i ≤ n) : w.ownsRow B e size (.slice (some ⟨g, 0, none⟩) i cap) i (xs.take (i * size)) := by
  have hmul : i * size ≤ n * size := Nat.mul_le_mul_right _ hi
  refine ⟨by rw [List.length_take, h.1]; omega, .inr ?_⟩
  rcases h.2 with ⟨e, _⟩ | ⟨g', cap', cur, e, hB, hg, h1, h2, h3, h4⟩
  · simp at e
  · simp only [Value.slice.injEq, Option.some.injEq, Addr.mk.injEq] at e
    obtain ⟨⟨rfl, _⟩, _, rfl⟩ := e
    refine ⟨g, cap, cur, rfl, hB, hg, by omega, h2, h3, ?_⟩
    rw [← h4, List.take_take, Nat.min_eq_left hmul]

end Go.Proofs.YtcbkafbchpjnoaaGreatDoor
/-
  package verify: matchingOf BY ITS CONTRACT.
-/
namespace Go.Proofs.YtcbkafbchpjnoaaGreatDoor
set_option linter.unusedVariables false
set_option linter.unusedSimpArgs false
open Go.RowKit
attribute [local go_sem] Oper.semAt_some

theorem Tryz.info_intV : (Tryz.prog.info? 3).map (fun i => (i.zero, i.size, i.bytes)) = some (some (.int .i64 0), 1, 8) := by kernel_rfl
theorem made_intV (n : Nat) : madeCells (Value.cells (.int .i64 0)) (n * 1) = Array.replicate n (.int .i64 0) := by
  apply Array.ext
  · simp [size_madeCells]
  · intro i h1 h2
    simp [madeCells, Value.cells, Nat.mod_one]
theorem make_intV (n : Nat) (hn : n ≤ 1000) (w : World) : (Instr.makeSlice 88 (.int .i64 n) (.int .i64 n)).run Tryz.prog w = .ok (.slice (some ⟨w.heap.size, 0, none⟩) n n) (w.alloc (.cells (Array.replicate n (.int .i64 0)) 3)) := by
  obtain ⟨i, hi, hz, hs, hb⟩ := info_partsV Tryz.info_intV
  have e := run_make (P := Tryz.prog) w 88 3 i (.int .i64 0) Tryz.underlying88 hi hz .i64 .i64 n n (by omega) (by omega) (by rw [hb]; omega) (by omega)
  rw [e, hs, Int.toNat_natCast, made_intV]
theorem own_intV (w : World) (n : Nat) (hn : n ≤ 1000) : (w.alloc (.cells (Array.replicate n (.int .i64 0)) 3)).ownsRow w.heap.size 3 1 (.slice (some ⟨w.heap.size, 0, none⟩) n n) (List.replicate n (0 : Int)).length ((List.replicate n (0 : Int)).map (Value.int .i64)) := by
  have e : List.map (Value.int .i64) (List.replicate n 0) = List.replicate n (.int .i64 0) := by simp
  rw [List.length_replicate, e]
  refine ⟨by simp, .inr ⟨w.heap.size, n, Array.replicate n (.int .i64 0), rfl, Nat.le_refl _, heap_alloc_new w _, Nat.le_refl _, by unfold maxLen; omega, by simp, ?_⟩⟩
  rw [List.take_of_length_le (by simp)]
  simp
theorem int_setV {w : World} {B g cap n : Nat} {ys : List Int} (h : w.ownsRow B 3 1 (.slice (some ⟨g, 0, none⟩) n cap) n (ys.map (Value.int .i64))) (i : Nat) (x : Int) :
    (w.setCell ⟨g, i, none⟩ (.int .i64 x)).ownsRow B 3 1 (.slice (some ⟨g, 0, none⟩) n cap) n ((ys.set i x).map (Value.int .i64)) := by
  refine ⟨by have := h.1; simpa using this, .inr ?_⟩
  rcases h.2 with ⟨e, _⟩ | ⟨g', cap', cur, e, hB, hg, h1, h2, h3, h4⟩
  · simp at e
  · simp only [Value.slice.injEq, Option.some.injEq, Addr.mk.injEq] at e
    obtain ⟨⟨rfl, _⟩, _, rfl⟩ := e
    refine ⟨g, cap, _, rfl, hB, heap_setCell_same _ _ _ _ _ _ hg, h1, h2, by simpa using h3, ?_⟩
    rw [List.map_set, ← h4]
    simp only [Array.toList_setIfInBounds, Nat.mul_one]
    rw [List.take_set]
/-- The places so far, and noughts behind. -/
def inZ (l : List InsD) (N k : Nat) : List Int := insV l k ++ List.replicate (N - k) 0
theorem inZ_len {l : List InsD} {N k : Nat} (h : k ≤ N) : (inZ l N k).length = N := by simp [inZ, insV_len]; omega
theorem inZ_set {l : List InsD} {N k : Nat} (h : k < N) : (inZ l N k).set k (topV (runV true mayV l k).op) = inZ l N (k + 1) := by
  unfold inZ
  rw [List.set_append_right _ _ (by rw [insV_len]; exact Nat.le_refl _), insV_len, Nat.sub_self, show N - k = (N - (k + 1)) + 1 by omega, List.replicate_succ, List.set_cons_zero, insV_succ, List.append_assoc]
  rfl
theorem inZ_at {l : List InsD} {N k : Nat} (h : k < N) : (inZ l N k)[k]? = some 0 := by
  unfold inZ
  rw [List.getElem?_append_right (by rw [insV_len]; exact Nat.le_refl _), insV_len, Nat.sub_self, show N - k = (N - (k + 1)) + 1 by omega, List.replicate_succ]
  rfl

end Go.Proofs.YtcbkafbchpjnoaaGreatDoor
/-
  package verify: Regions, Blocks BY THEIR CONTRACTS.
-/
namespace Go.Proofs.YtcbkafbchpjnoaaGreatDoor
set_option linter.unusedVariables false
set_option linter.unusedSimpArgs false
open Go.RowKit
attribute [local go_sem] Oper.semAt_some

abbrev intOwnV (w : World) (B : Nat) (v : Value) (xs : List Int) : Prop := w.ownsRow B 3 1 v xs.length (xs.map (Value.int .i64))
def ansK (s : MD) : Int := match endV s with | some k => (k : Int) | none => 0
def ansE (s : MD) : Int := match endV s with | some _ => 8 | none => 0
def ansI (s : MD) (xs : List Int) : List Int := match endV s with | some _ => [] | none => xs
/-- What Regions answers. -/
def RegPost (w : World) (l : List InsD) (e : Ending) (w' : World) : Prop :=
  ∃ v, e = .returned (.tuple #[v, .int .i64 (ansK (runV true mayV l l.length)), .int .i64 (ansE (runV true mayV l l.length))]) ∧ intOwnV w' w.heap.size v (ansI (runV true mayV l l.length) (insV l l.length)) ∧ Touch w w' []

end Go.Proofs.YtcbkafbchpjnoaaGreatDoor
/-
  package verify: HOW MANY VALUES STAND AHEAD OF EACH PLACE, AS PLAIN DATA. No walk.
-/
namespace Go.Proofs.YtcbkafbchpjnoaaGreatDoor
set_option linter.unusedVariables false
set_option linter.unusedSimpArgs false
open Go.RowKit

def nextV (l : List InsD) (i : Nat) : List Int :=
  if opAt l i = 19 then [argAt l i] else if opAt l i = 20 then [(i : Int) + 1, argAt l i] else if opAt l i = 23 then [(i : Int) + 1, argAt l i + 1] else if opAt l i = 24 then [argAt l i + 1]
  else if opAt l i = 26 ∨ opAt l i = 28 then [] else [(i : Int) + 1]
def dAt (D : List Int) (n : Nat) : Int := D.getD n (-1)
/-- One next place: the error so far, the numbers, the least place that is new. -/
def sprS (N : Nat) (beh : Int) (st : Int × List Int × Int) (n : Int) : Int × List Int × Int :=
  if st.1 ≠ 0 then st else if n < 0 ∨ (N : Int) ≤ n then (3, st.2) else if dAt st.2.1 n.toNat = -1 then (0, st.2.1.set n.toNat beh, min st.2.2 n) else if dAt st.2.1 n.toNat ≠ beh then (12, st.2) else st
def behV (l : List InsD) (D : List Int) (i : Nat) : Int := dAt D i - popV (opAt l i) + pushV (opAt l i)
def sprV (l : List InsD) (D : List Int) (i : Nat) : Int × List Int × Int :=
  if dAt D i < popV (opAt l i) ∨ 12 < behV l D i then (12, D, l.length) else (nextV l i).foldl (sprS l.length (behV l D i)) (0, D, l.length)

theorem spr_err {N : Nat} {beh : Int} {st : Int × List Int × Int} (h : st.1 ≠ 0) : ∀ ns : List Int, ns.foldl (sprS N beh) st = st
  | [] => rfl
  | n :: ns => by
    rw [List.foldl_cons]
    have : sprS N beh st n = st := by unfold sprS; rw [if_pos h]
    rw [this]
    exact spr_err h ns
/-- What became of the numbers, if nothing was wrong. -/
structure Ext (N : Nat) (beh : Int) (D : List Int) (m : Int) (D' : List Int) (m' : Int) : Prop where
  len : D'.length = D.length
  old : ∀ j, dAt D j ≠ -1 → dAt D' j = dAt D j
  new : ∀ j, dAt D j = -1 → dAt D' j = -1 ∨ (dAt D' j = beh ∧ m' ≤ j)
  le : m' ≤ m
  lst : m' = m ∨ ∃ j : Nat, m' = j ∧ j < N ∧ dAt D j = -1 ∧ dAt D' j = beh
theorem Ext.refl (N : Nat) (beh : Int) (D : List Int) (m : Int) : Ext N beh D m D m := ⟨rfl, fun _ _ => rfl, fun _ h => .inl h, Int.le_refl _, .inl rfl⟩
theorem dAt_set {D : List Int} {n j : Nat} {x : Int} (h : n < D.length) : dAt (D.set n x) j = if j = n then x else dAt D j := by
  unfold dAt
  rw [List.getD_eq_getElem?_getD, List.getD_eq_getElem?_getD, List.getElem?_set]
  split
  · rename_i e; subst e; simp [h]
  · rename_i e; rw [if_neg (fun q => e q.symm)]
theorem Ext.trans {N : Nat} {beh : Int} {D D1 D2 : List Int} {m m1 m2 : Int} (hb : beh ≠ -1) (a : Ext N beh D m D1 m1) (b : Ext N beh D1 m1 D2 m2) : Ext N beh D m D2 m2 := by
  refine ⟨b.len.trans a.len, fun j hj => ?_, fun j hj => ?_, Int.le_trans b.le a.le, ?_⟩
  · rw [b.old j (by rw [a.old j hj]; exact hj), a.old j hj]
  · rcases a.new j hj with e | ⟨e, hle⟩
    · exact b.new j e
    · right; rw [b.old j (by rw [e]; exact hb)]; exact ⟨e, Int.le_trans b.le hle⟩
  · rcases b.lst with e | ⟨j, e, hj, h1, h2⟩
    · rcases a.lst with e1 | ⟨j, e1, hj, h1, h2⟩
      · left; omega
      · right; exact ⟨j, by omega, hj, h1, by rw [b.old j (by rw [h2]; exact hb)]; exact h2⟩
    · right
      refine ⟨j, e, hj, ?_, h2⟩
      by_cases hd : dAt D j = -1
      · exact hd
      · rw [a.old j hd] at h1; exact absurd h1 hd
theorem ext_set {N : Nat} {beh : Int} {D : List Int} {m : Int} {n : Nat} (hn : n < D.length) (hN : n < N) (h : dAt D n = -1) : Ext N beh D m (D.set n beh) (min m n) := by
  refine ⟨by simp, fun j hj => ?_, fun j hj => ?_, by omega, ?_⟩
  · rw [dAt_set hn, if_neg (fun e => by subst e; exact hj h)]
  · rw [dAt_set hn]
    split
    · rename_i e; subst e; right; exact ⟨rfl, by omega⟩
    · left; exact hj
  · by_cases hm : m ≤ n
    · left; omega
    · right; exact ⟨n, by omega, hN, h, by rw [dAt_set hn]; simp⟩
theorem sprS_far {N : Nat} {beh : Int} {D : List Int} {m n : Int} (h : n < 0 ∨ (N : Int) ≤ n) : sprS N beh (0, D, m) n = (3, D, m) := by
  unfold sprS; rw [if_neg (by simp), if_pos h]
theorem sprS_new {N : Nat} {beh : Int} {D : List Int} {m n : Int} (h : ¬ (n < 0 ∨ (N : Int) ≤ n)) (h2 : dAt D n.toNat = -1) : sprS N beh (0, D, m) n = (0, D.set n.toNat beh, min m n) := by
  unfold sprS; rw [if_neg (by simp), if_neg h, if_pos h2]
theorem sprS_bad {N : Nat} {beh : Int} {D : List Int} {m n : Int} (h : ¬ (n < 0 ∨ (N : Int) ≤ n)) (h2 : dAt D n.toNat ≠ -1) (h3 : dAt D n.toNat ≠ beh) : sprS N beh (0, D, m) n = (12, D, m) := by
  unfold sprS; rw [if_neg (by simp), if_neg h, if_neg h2, if_pos h3]
theorem sprS_ok {N : Nat} {beh : Int} {D : List Int} {m n : Int} (h : ¬ (n < 0 ∨ (N : Int) ≤ n)) (h2 : dAt D n.toNat ≠ -1) (h3 : dAt D n.toNat = beh) : sprS N beh (0, D, m) n = (0, D, m) := by
  unfold sprS; rw [if_neg (by simp), if_neg h, if_neg h2, if_neg (fun q => q h3)]
theorem spr_fold {N : Nat} {beh : Int} (hb : beh ≠ -1) : ∀ (ns : List Int) (D : List Int) (m : Int), D.length = N → ∀ D' m', ns.foldl (sprS N beh) (0, D, m) = (0, D', m') → Ext N beh D m D' m' ∧ ∀ n ∈ ns, 0 ≤ n ∧ n < N ∧ dAt D' n.toNat = beh
  | [], D, m, hl, D', m', h => by
    simp only [List.foldl_nil, Prod.mk.injEq] at h
    obtain ⟨_, rfl, rfl⟩ := h
    exact ⟨Ext.refl _ _ _ _, by simp⟩
  | n :: ns, D, m, hl, D', m', h => by
    rw [List.foldl_cons] at h
    by_cases h1 : n < 0 ∨ (N : Int) ≤ n
    · rw [sprS_far h1, spr_err (by simp)] at h
      simp at h
    · by_cases h2 : dAt D n.toNat = -1
      · rw [sprS_new h1 h2] at h
        have hn : n.toNat < D.length := by omega
        obtain ⟨i1, i2⟩ := spr_fold hb ns _ _ (by simp [hl]) D' m' h
        have e1 := ext_set (N := N) (beh := beh) (m := m) hn (by omega) h2
        have hc : (n.toNat : Int) = n := by omega
        rw [hc] at e1
        refine ⟨e1.trans hb i1, ?_⟩
        intro x hx
        rcases List.mem_cons.1 hx with rfl | hx
        · refine ⟨by omega, by omega, ?_⟩
          have e2 : dAt (D.set x.toNat beh) x.toNat = beh := by rw [dAt_set hn]; simp
          rw [i1.old _ (by rw [e2]; exact hb), e2]
        · exact i2 x hx
      · by_cases h3 : dAt D n.toNat ≠ beh
        · rw [sprS_bad h1 h2 h3, spr_err (by simp)] at h
          simp at h
        · rw [sprS_ok h1 h2 (Classical.not_not.1 h3)] at h
          obtain ⟨i1, i2⟩ := spr_fold hb ns D m hl D' m' h
          refine ⟨i1, ?_⟩
          intro x hx
          rcases List.mem_cons.1 hx with rfl | hx
          · refine ⟨by omega, by omega, ?_⟩
            rw [i1.old _ h2]
            exact Classical.not_not.1 h3
          · exact i2 x hx

/-- Going through a place again has nothing new to tell. -/
structure Settled (l : List InsD) (D : List Int) (i : Nat) : Prop where
  has : dAt D i ≠ -1
  pop : ¬ dAt D i < popV (opAt l i)
  top : ¬ 12 < behV l D i
  nxt : ∀ n ∈ nextV l i, 0 ≤ n ∧ n < l.length ∧ dAt D n.toNat = behV l D i
theorem spr_still {N : Nat} {beh : Int} {D : List Int} {m : Int} (hb : beh ≠ -1) : ∀ ns : List Int, (∀ n ∈ ns, 0 ≤ n ∧ n < (N : Int) ∧ dAt D n.toNat = beh) → ns.foldl (sprS N beh) (0, D, m) = (0, D, m)
  | [], _ => rfl
  | n :: ns, h => by
    rw [List.foldl_cons]
    obtain ⟨h1, h2, h3⟩ := h n (by simp)
    rw [sprS_ok (by omega) (by rw [h3]; exact hb) h3]
    exact spr_still hb ns (fun x hx => h x (by simp [hx]))
theorem beh_ge {l : List InsD} {D : List Int} {i : Nat} (h : ¬ dAt D i < popV (opAt l i)) : 0 ≤ behV l D i := by
  have := push_le (opAt l i)
  unfold behV
  omega
theorem Settled.spr {l : List InsD} {D : List Int} {i : Nat} (h : Settled l D i) : sprV l D i = (0, D, (l.length : Int)) := by
  unfold sprV
  rw [if_neg (fun q => q.elim h.pop h.top)]
  exact spr_still (by have := beh_ge h.pop; omega) _ h.nxt
theorem Settled.ext {l : List InsD} {D D' : List Int} {i : Nat} {beh m m' : Int} (h : Settled l D i) (e : Ext l.length beh D m D' m') : Settled l D' i := by
  have h0 : dAt D' i = dAt D i := e.old i h.has
  have hb : behV l D' i = behV l D i := by unfold behV; rw [h0]
  refine ⟨by rw [h0]; exact h.has, by rw [h0]; exact h.pop, by rw [hb]; exact h.top, fun n hn => ?_⟩
  obtain ⟨h1, h2, h3⟩ := h.nxt n hn
  have := beh_ge h.pop
  exact ⟨h1, h2, by rw [hb, e.old _ (by rw [h3]; omega)]; exact h3⟩
theorem spr_settled {l : List InsD} {D D' : List Int} {i : Nat} {m : Int} (hl : D.length = l.length) (hi : dAt D i ≠ -1) (h : sprV l D i = (0, D', m)) : Ext l.length (behV l D i) D l.length D' m ∧ Settled l D' i ∧ 0 ≤ behV l D i ∧ behV l D i ≤ 12 := by
  unfold sprV at h
  split at h
  · simp at h
  · rename_i hq
    have h1 : ¬ dAt D i < popV (opAt l i) := fun q => hq (.inl q)
    have h2 : ¬ 12 < behV l D i := fun q => hq (.inr q)
    have h0 := beh_ge h1
    obtain ⟨e, hn⟩ := spr_fold (by omega) _ D _ hl D' m h
    have e0 : dAt D' i = dAt D i := e.old i hi
    have hb : behV l D' i = behV l D i := by unfold behV; rw [e0]
    exact ⟨e, ⟨by rw [e0]; exact hi, by rw [e0]; exact h1, by rw [hb]; exact h2, by rw [hb]; exact hn⟩, h0, by omega⟩

/-! ### All rounds -/
def leastV (D : List Int) (G : List Bool) (N : Nat) : Option Nat := (List.range N).find? fun i => decide (dAt D i ≠ -1) && !G.getD i false
/-- The error, the place, the numbers. -/
def roundsV (l : List InsD) : Nat → List Int → List Bool → Int × Nat × List Int
  | 0, D, _ => (0, 0, D)
  | n + 1, D, G => match leastV D G l.length with
    | none => (0, 0, D)
    | some i => if (sprV l D i).1 ≠ 0 then ((sprV l D i).1, i, []) else roundsV l n (sprV l D i).2.1 (G.set i true)
def finV (l : List InsD) (D : List Int) (G : List Bool) : Int × Nat × List Int := roundsV l (G.count false) D G
theorem count_set {G : List Bool} {i : Nat} (hi : i < G.length) (h : G.getD i false = false) : G.count false = (G.set i true).count false + 1 := by
  have hg : G[i] = false := by simpa [List.getD_eq_getElem?_getD, hi] using h
  rw [List.count_set hi, hg]
  have : 0 < G.count false := List.count_pos_iff.2 (by rw [← hg]; exact List.getElem_mem hi)
  simp
  omega
theorem least_some {D : List Int} {G : List Bool} {N i : Nat} (hi : i < N) (h1 : dAt D i ≠ -1) (h2 : G.getD i false = false) (h3 : ∀ j < i, dAt D j ≠ -1 → G.getD j false = true) : leastV D G N = some i := by
  unfold leastV
  rw [List.find?_eq_some_iff_getElem]
  refine ⟨by rw [h2]; simp [h1], i, by simpa using hi, by simp, fun j hj => ?_⟩
  simp only [List.getElem_range]
  by_cases hd : dAt D j = -1
  · simp [hd]
  · rw [h3 j hj hd]; simp
theorem least_none {D : List Int} {G : List Bool} {N : Nat} (h : ∀ j < N, dAt D j ≠ -1 → G.getD j false = true) : leastV D G N = none := by
  unfold leastV
  rw [List.find?_eq_none]
  intro j hj
  have := h j (by simpa using hj)
  by_cases hd : dAt D j = -1
  · simp [hd]
  · rw [this hd]; simp

/-- How far the walk is: all ahead of a place is gone through. -/
structure WInv (l : List InsD) (D : List Int) (G : List Bool) (at_ : Nat) : Prop where
  dl : D.length = l.length
  gl : G.length = l.length
  rng : ∀ j, -1 ≤ dAt D j ∧ dAt D j ≤ 12
  low : ∀ j < at_, dAt D j ≠ -1 → G.getD j false = true
  set_ : ∀ j < l.length, G.getD j false = true → Settled l D j
theorem WInv.skip {l : List InsD} {D : List Int} {G : List Bool} {a : Nat} (h : WInv l D G a) (ha : dAt D a = -1) : WInv l D G (a + 1) :=
  ⟨h.dl, h.gl, h.rng, fun j hj hd => h.low j (by rcases Nat.lt_succ_iff_lt_or_eq.1 hj with q | q; exact q; subst q; exact absurd ha hd) hd, h.set_⟩
theorem WInv.done {l : List InsD} {D : List Int} {G : List Bool} (h : WInv l D G l.length) : finV l D G = (0, 0, D) := by
  unfold finV
  cases G.count false with
  | zero => rfl
  | succ n => unfold roundsV; rw [least_none h.low]
theorem rounds_some {l : List InsD} {D : List Int} {G : List Bool} {n i : Nat} (h : leastV D G l.length = some i) : roundsV l (n + 1) D G = if (sprV l D i).1 ≠ 0 then ((sprV l D i).1, i, []) else roundsV l n (sprV l D i).2.1 (G.set i true) := by
  conv => lhs; unfold roundsV
  rw [h]
theorem WInv.step {l : List InsD} {D : List Int} {G : List Bool} {a : Nat} (h : WInv l D G a) (ha : a < l.length) (hd : dAt D a ≠ -1) :
    ((sprV l D a).1 ≠ 0 → finV l D G = ((sprV l D a).1, a, [])) ∧
    ((sprV l D a).1 = 0 → ∃ G', finV l D G = finV l (sprV l D a).2.1 G' ∧ WInv l (sprV l D a).2.1 G' (if (sprV l D a).2.2 < (a : Int) then (sprV l D a).2.2.toNat else a + 1) ∧ ((sprV l D a).2.2 < (a : Int) → ∃ j : Nat, (sprV l D a).2.2 = j ∧ j < l.length ∧ dAt D j = -1 ∧ dAt (sprV l D a).2.1 j ≠ -1)) := by
  by_cases hg : G.getD a false = true
  · have hs := (h.set_ a ha hg).spr
    rw [hs]
    refine ⟨fun q => absurd rfl q, fun _ => ⟨G, rfl, ?_, fun q => absurd q (by simp only; omega)⟩⟩
    rw [if_neg (by simp only; omega)]
    exact ⟨h.dl, h.gl, h.rng, fun j hj hd2 => by
      rcases Nat.lt_succ_iff_lt_or_eq.1 hj with q | q
      · exact h.low j q hd2
      · subst q; exact hg, h.set_⟩
  · have hg' : G.getD a false = false := by simpa using hg
    have hle := least_some ha hd hg' h.low
    have hc := count_set (by rw [h.gl]; exact ha) hg'
    have hfin : finV l D G = if (sprV l D a).1 ≠ 0 then ((sprV l D a).1, a, []) else finV l (sprV l D a).2.1 (G.set a true) := by
      unfold finV
      rw [hc, rounds_some hle]
    refine ⟨fun q => by rw [hfin, if_pos q], fun q => ⟨G.set a true, by rw [hfin, if_neg (by simp [q])], ?_, ?_⟩⟩
    · obtain ⟨e, hst, hb0, hb12⟩ := spr_settled h.dl hd (D' := (sprV l D a).2.1) (m := (sprV l D a).2.2) (by rw [← q])
      have hlow : ∀ j : Nat, (j : Int) < (sprV l D a).2.2 → j < a + 1 → dAt (sprV l D a).2.1 j ≠ -1 → (G.set a true).getD j false = true := by
        intro j h1 h2 h3
        by_cases hja : j = a
        · subst hja
          have : j < G.length := by rw [h.gl]; exact ha
          simp [List.getD_eq_getElem?_getD, this]
        · have h4 : dAt D j ≠ -1 := fun q2 => by
            rcases e.new j q2 with q3 | ⟨_, q3⟩
            · exact h3 q3
            · omega
          have := h.low j (by omega) h4
          rw [List.getD_eq_getElem?_getD] at this ⊢
          rw [List.getElem?_set_ne (fun q => hja q.symm)]
          exact this
      refine ⟨e.len.trans h.dl, by simpa using h.gl, fun j => ?_, ?_, fun j hj hgj => ?_⟩
      · by_cases h4 : dAt D j = -1
        · rcases e.new j h4 with q3 | ⟨q3, _⟩ <;> omega
        · rw [e.old j h4]; exact h.rng j
      · intro j hj h3
        split at hj
        · rename_i hm
          refine hlow j ?_ (by omega) h3
          rcases e.lst with q3 | ⟨i, q3, _⟩ <;> omega
        · rename_i hm
          by_cases hja : j = a
          · subst hja
            have : j < G.length := by rw [h.gl]; exact ha
            simp [List.getD_eq_getElem?_getD, this]
          · refine hlow j ?_ hj h3
            omega
      · by_cases hja : j = a
        · subst hja; exact hst
        · rw [List.getD_eq_getElem?_getD, List.getElem?_set_ne (fun q => hja q.symm), ← List.getD_eq_getElem?_getD] at hgj
          exact (h.set_ j hj hgj).ext e
    · intro hm
      obtain ⟨e, hst, hb0, hb12⟩ := spr_settled h.dl hd (D' := (sprV l D a).2.1) (m := (sprV l D a).2.2) (by rw [← q])
      rcases e.lst with q3 | ⟨j, q3, q4, q5, q6⟩
      · omega
      · exact ⟨j, q3, q4, q5, by rw [q6]; omega⟩

def beginD (N : Nat) : List Int := match N with | 0 => [] | n + 1 => 0 :: List.replicate n (-1)
/-- The error, the place, the numbers of Depths. -/
def depV (l : List InsD) : Int × Nat × List Int := match regV l with | some k => (8, k, []) | none => roundsV l l.length (beginD l.length) (List.replicate l.length false)
theorem fin_begin (l : List InsD) : finV l (beginD l.length) (List.replicate l.length false) = roundsV l l.length (beginD l.length) (List.replicate l.length false) := by
  unfold finV; rw [List.count_replicate_self]
theorem begin_inv (l : List InsD) : WInv l (beginD l.length) (List.replicate l.length false) 0 := by
  refine ⟨by cases l.length <;> simp [beginD], by simp, fun j => ?_, fun j hj => by omega, fun j hj h => ?_⟩
  · unfold dAt beginD
    cases l.length with
    | zero => simp
    | succ n =>
      cases j with
      | zero => simp
      | succ j =>
        rw [List.getD_cons_succ, List.getD_eq_getElem?_getD]
        by_cases hj : j < n
        · simp [hj]
        · rw [List.getElem?_eq_none (by simp; omega)]; simp
  · rw [List.getD_eq_getElem?_getD, List.getElem?_replicate] at h
    split at h <;> simp at h

end Go.Proofs.YtcbkafbchpjnoaaGreatDoor
/-
  package verify: isPlace, nexts BY THEIR CONTRACTS.
-/
namespace Go.Proofs.YtcbkafbchpjnoaaGreatDoor
set_option linter.unusedVariables false
set_option linter.unusedSimpArgs false
open Go.RowKit
attribute [local go_sem] Oper.semAt_some

theorem lit_own (w : World) (xs : List Int) (hx : xs.length ≤ 1000) : intOwnV (w.alloc (.cells (xs.map (Value.int .i64)).toArray 3)) w.heap.size (.slice (some ⟨w.heap.size, 0, none⟩) xs.length xs.length) xs := by
  refine ⟨by simp, .inr ⟨w.heap.size, xs.length, (xs.map (Value.int .i64)).toArray, rfl, Nat.le_refl _, heap_alloc_new w _, Nat.le_refl _, by unfold maxLen; omega, by simp, ?_⟩⟩
  rw [List.take_of_length_le (by simp)]

end Go.Proofs.YtcbkafbchpjnoaaGreatDoor
/-
  package verify: through BY ITS CONTRACT.
-/
namespace Go.Proofs.YtcbkafbchpjnoaaGreatDoor
set_option linter.unusedVariables false
set_option linter.unusedSimpArgs false
open Go.RowKit
attribute [local go_sem] Oper.semAt_some

end Go.Proofs.YtcbkafbchpjnoaaGreatDoor
/-
  package verify: waysOf BY ITS CONTRACT.
-/
namespace Go.Proofs.YtcbkafbchpjnoaaGreatDoor
set_option linter.unusedVariables false
set_option linter.unusedSimpArgs false
open Go.RowKit
attribute [local go_sem] Oper.semAt_some

def unZ (N k : Nat) : List Int := List.replicate k (-1) ++ List.replicate (N - k) 0
theorem unZ_len {N k : Nat} (h : k ≤ N) : (unZ N k).length = N := by simp [unZ]; omega
theorem unZ_set {N k : Nat} (h : k < N) : (unZ N k).set k (-1) = unZ N (k + 1) := by
  unfold unZ
  rw [List.set_append_right _ _ (by simp), List.length_replicate, Nat.sub_self, show N - k = (N - (k + 1)) + 1 by omega, List.replicate_succ, List.set_cons_zero, List.replicate_succ', List.append_assoc]
  rfl
theorem unZ_begin (N : Nat) (h : 0 < N) : (unZ N N).set 0 0 = beginD N := by
  unfold unZ beginD
  cases N with
  | zero => omega
  | succ n => simp [List.replicate_succ]

end Go.Proofs.YtcbkafbchpjnoaaGreatDoor
/-
  package verify: walk BY ITS CONTRACT.
-/
namespace Go.Proofs.YtcbkafbchpjnoaaGreatDoor
set_option linter.unusedVariables false
set_option linter.unusedSimpArgs false
open Go.RowKit
attribute [local go_sem] Oper.semAt_some

def isUn : Value → Bool
  | .int _ x => x == -1
  | _ => false
/-- How many places have no number. -/
def unC (w : World) (g : Nat) : Nat := match w.heap[g]? with
  | some (.cells cs _ _) => cs.toList.countP isUn
  | _ => 0
def cntU (D : List Int) : Nat := D.countP (· == -1)
theorem cnt_le : ∀ (D D' : List Int), D'.length = D.length → (∀ j, dAt D j ≠ -1 → dAt D' j ≠ -1) → cntU D' ≤ cntU D
  | [], D', hl, _ => by
    have : D' = [] := List.eq_nil_of_length_eq_zero hl
    subst this; exact Nat.le_refl _
  | x :: D, [], hl, _ => by simp at hl
  | x :: D, y :: D', hl, h => by
    have ih := cnt_le D D' (by simpa using hl) (fun j hj => by have := h (j + 1); simpa [dAt] using this (by simpa [dAt] using hj))
    have h0 := h 0
    simp only [dAt, List.getD_cons_zero] at h0
    unfold cntU at ih ⊢
    rw [List.countP_cons, List.countP_cons]
    by_cases hx : x = -1
    · subst hx; simp; split <;> omega
    · have := h0 hx
      simp [hx, this]; exact ih
theorem cnt_lt : ∀ (D D' : List Int), D'.length = D.length → (∀ j, dAt D j ≠ -1 → dAt D' j ≠ -1) → (∃ j, j < D.length ∧ dAt D j = -1 ∧ dAt D' j ≠ -1) → cntU D' < cntU D
  | [], D', hl, _, ⟨j, hj, _⟩ => by simp at hj
  | x :: D, [], hl, _, _ => by simp at hl
  | x :: D, y :: D', hl, h, ⟨j, hj, h1, h2⟩ => by
    have hs : ∀ j, dAt D j ≠ -1 → dAt D' j ≠ -1 := fun j hj => by have := h (j + 1); simpa [dAt] using this (by simpa [dAt] using hj)
    have hle := cnt_le D D' (by simpa using hl) hs
    cases j with
    | zero =>
      simp only [dAt, List.getD_cons_zero] at h1 h2
      unfold cntU at hle ⊢
      rw [List.countP_cons, List.countP_cons]
      simp [h1, h2]
      omega
    | succ j =>
      have ih := cnt_lt D D' (by simpa using hl) hs ⟨j, by simpa using hj, by simpa [dAt] using h1, by simpa [dAt] using h2⟩
      have h0 := h 0
      simp only [dAt, List.getD_cons_zero] at h0
      unfold cntU at ih ⊢
      rw [List.countP_cons, List.countP_cons]
      by_cases hx : x = -1
      · subst hx; simp; split <;> omega
      · have := h0 hx
        simp [hx, this]; exact ih

end Go.Proofs.YtcbkafbchpjnoaaGreatDoor
/-
  package verify: Depths BY ITS CONTRACT.
-/
namespace Go.Proofs.YtcbkafbchpjnoaaGreatDoor
set_option linter.unusedVariables false
set_option linter.unusedSimpArgs false
open Go.RowKit
attribute [local go_sem] Oper.semAt_some

/-- What was opened is open, or something is wrong, or its Arg is a place. -/
theorem opened_right {l : List InsD} : ∀ i k, k < i → opensV (opAt l k) = true → k ∈ (runV true mayV l i).op ∨ (runV true mayV l i).wr ≠ none ∨ (0 ≤ argAt l k ∧ argAt l k < i)
  | 0, k, hk, _ => by omega
  | i + 1, k, hk, ho => by
    have hs1 : ∀ k, k < i → opensV (opAt l k) = true → k ∈ (step1V true l i (runV true mayV l i)).op ∨ (step1V true l i (runV true mayV l i)).wr ≠ none ∨ (0 ≤ argAt l k ∧ argAt l k < (i : Int) + 1) := by
      intro k hk ho
      have ih := opened_right i k hk ho
      unfold step1V
      split
      · unfold shutV
        split
        · right; left; exact blame_some _ _
        · rename_i t r e
          split
          · rename_i hc
            show k ∈ r ∨ (if true = true ∧ argAt l t ≠ (i : Int) then blameV t (runV true mayV l i).wr else (runV true mayV l i).wr) ≠ none ∨ _
            by_cases ha : argAt l t = (i : Int)
            · rw [if_neg (by simp [ha])]
              rw [e] at ih
              rcases ih with h | h | h
              · rcases List.mem_cons.1 h with rfl | h
                · right; right; omega
                · left; exact h
              · right; left; exact h
              · right; right; omega
            · rw [if_pos ⟨rfl, ha⟩]
              right; left; exact blame_some _ _
          · right; left; exact blame_some _ _
      · rcases ih with h | h | h
        · exact .inl h
        · exact .inr (.inl h)
        · exact .inr (.inr (by omega))
    show k ∈ (stepV true mayV l i (runV true mayV l i)).op ∨ (stepV true mayV l i (runV true mayV l i)).wr ≠ none ∨ _
    unfold stepV
    by_cases hop : opensV (opAt l i) = true
    · rw [if_pos hop]
      rcases Nat.lt_succ_iff_lt_or_eq.1 hk with hlt | rfl
      · rcases hs1 k hlt ho with h | h | h
        · left; simp [beginV, h]
        · right; left
          unfold beginV
          simp only
          split
          · exact h
          · exact blame_some _ _
        · right; right; omega
      · left; simp [beginV]
    · rw [if_neg hop]
      rcases Nat.lt_succ_iff_lt_or_eq.1 hk with hlt | rfl
      · rcases hs1 k hlt ho with h | h | h
        · exact .inl h
        · exact .inr (.inl h)
        · exact .inr (.inr (by omega))
      · exact absurd ho hop
theorem arg_right {l : List InsD} (h : regV l = none) {k : Nat} (hk : k < l.length) (ho : opensV (opAt l k) = true) : 0 ≤ argAt l k ∧ argAt l k < l.length := by
  unfold regV endV at h
  split at h
  · simp at h
  · rename_i hw
    rcases opened_right l.length k hk ho with q | q | q
    · cases hp : (runV true mayV l l.length).op with
      | nil => rw [hp] at q; simp at q
      | cons t r => rw [hp] at h; simp at h
    · exact absurd hw q
    · exact q

/-- What Depths answers. -/
def DepPost (w : World) (l : List InsD) (e : Ending) (w' : World) : Prop :=
  ∃ v, e = .returned (.tuple #[v, .int .i64 (depV l).2.1, .int .i64 (depV l).1]) ∧ intOwnV w' w.heap.size v (depV l).2.2 ∧ Touch w w' []
theorem rounds_nil {l : List InsD} : ∀ n D G, (roundsV l n D G).1 ≠ 0 → (roundsV l n D G).2.2 = []
  | 0, D, G, h => by simp [roundsV] at h
  | n + 1, D, G, h => by
    unfold roundsV at h ⊢
    split
    · rename_i e; rw [e] at h; simp at h
    · rename_i i e
      rw [e] at h
      simp only at h
      split
      · rfl
      · rename_i hq
        rw [if_neg hq] at h
        exact rounds_nil n _ _ h

theorem rounds_zero {l : List InsD} : ∀ n D G, (roundsV l n D G).1 = 0 → (roundsV l n D G).2.1 = 0
  | 0, D, G, h => rfl
  | n + 1, D, G, h => by
    unfold roundsV at h ⊢
    split
    · rfl
    · rename_i i e
      rw [e] at h
      simp only at h
      split
      · rename_i hq; rw [if_pos hq] at h; exact absurd h hq
      · rename_i hq
        rw [if_neg hq] at h
        exact rounds_zero n _ _ h

end Go.Proofs.YtcbkafbchpjnoaaGreatDoor
/-
  package verify: belongs, reaches BY THEIR CONTRACTS.
-/
namespace Go.Proofs.YtcbkafbchpjnoaaGreatDoor
set_option linter.unusedVariables false
set_option linter.unusedSimpArgs false
open Go.RowKit
attribute [local go_sem] Oper.semAt_some

def varV (o : Int) : Bool := decide (o = 4 ∨ o = 5 ∨ o = 6 ∨ o = 7)
def belV (o : Int) (inside : Bool) : Bool := if o = 4 ∨ o = 5 ∨ o = 6 ∨ o = 7 ∨ o = 26 then inside else if o = 27 ∨ o = 28 then !inside else true
/-- Does the instruction at a place reach what it names? -/
def rchV (l : List InsD) (ins : List Int) (tvars : Int) (k : Nat) : Bool :=
  if varV (opAt l k) then decide (argAt l k < tvars) else if opAt l k = 19 ∨ opAt l k = 20 then decide (0 ≤ argAt l k ∧ argAt l k < l.length) && (ins.getD (argAt l k).toNat 0 == ins.getD k 0) else true

end Go.Proofs.YtcbkafbchpjnoaaGreatDoor
/-
  package verify: Check BY ITS CONTRACT.
-/
namespace Go.Proofs.YtcbkafbchpjnoaaGreatDoor
set_option linter.unusedVariables false
set_option linter.unusedSimpArgs false
open Go.RowKit
attribute [local go_sem] Oper.semAt_some

def fbad (p : Nat → Bool) (N : Nat) : Option Nat := (List.range N).find? fun k => !p k
theorem fbad_some {p : Nat → Bool} {N k : Nat} (hk : k < N) (h : ∀ j < k, p j = true) (hp : p k = false) : fbad p N = some k := by
  unfold fbad
  rw [List.find?_eq_some_iff_getElem]
  exact ⟨by simp [hp], k, by simpa using hk, by simp, fun j hj => by simp [h j hj]⟩
theorem fbad_none {p : Nat → Bool} {N : Nat} (h : ∀ j < N, p j = true) : fbad p N = none := by
  unfold fbad
  rw [List.find?_eq_none]
  intro j hj
  simp [h j (by simpa using hj)]
def okRight (l : List InsD) (k : Nat) : Bool := match l[k]? with | some i => rightI i | none => true
def okBel (l : List InsD) (k : Nat) : Bool := belV (opAt l k) ((insV l l.length).getD k 0 != -1)
/-- What Check answers: the place, the error. -/
def chkV (l : List InsD) (tvars : Int) : Nat × Int :=
  if l.length = 0 ∨ 64 < l.length then (0, 3) else match fbad (okRight l) l.length with
  | some k => (k, 3)
  | none => match regV l with
    | some k => (k, 8)
    | none => match fbad (okBel l) l.length with
      | some k => (k, 8)
      | none => match fbad (rchV l (insV l l.length) tvars) l.length with
        | some k => (k, 2)
        | none => ((depV l).2.1, (depV l).1)
/-- What Check leaves. -/
def ChkPost (w : World) (l : List InsD) (tvars : Int) (e : Ending) (w' : World) : Prop := e = .returned (.tuple #[.int .i64 (chkV l tvars).1, .int .i64 (chkV l tvars).2]) ∧ Touch w w' []

end Go.Proofs.YtcbkafbchpjnoaaGreatDoor
/-
  package verify: Blocks BY ITS CONTRACT; few, live OF THE LAWS.
-/
namespace Go.Proofs.YtcbkafbchpjnoaaGreatDoor
set_option linter.unusedVariables false
set_option linter.unusedSimpArgs false
open Go.RowKit
attribute [local go_sem] Oper.semAt_some

/-- One number more. -/
theorem int_pushV {w : World} {B : Nat} {v : Value} {xs : List Int} (h : intOwnV w B v xs) (hl : xs.length ≤ 1000) (hB : B ≤ w.heap.size) (x : Int) (ty : TypeId) :
    ∃ ao' cap' w', (Builtin.append_ #[88, 88] ty #[v, .slice (some ⟨w.heap.size, 0, none⟩) 1 1]).run Tryz.prog (w.alloc (.cells #[.int .i64 x] 3)) = .ok (.slice ao' (xs.length + 1) cap') w' ∧ intOwnV w' B (.slice ao' (xs.length + 1) cap') (xs ++ [x]) ∧ Touch w w' v.ownBlock.toList := by
  obtain ⟨i0, hi, hz0, hz1, hz2⟩ := info_partsV Tryz.info_intV
  obtain ⟨v', w', h1, h2, h3, h4, h5⟩ := run_append_own_at (P := Tryz.prog) (w.alloc (.cells #[.int .i64 x] 3)) B 88 ty 3 i0 _ 1 8 Tryz.underlying88 hi hz0 hz1 hz2 rfl (by decide) v xs.length _ (h.alloc _) ⟨w.heap.size, 0, none⟩ 1 1 [.int .i64 x] rfl (World.news_of_block (cs := #[.int .i64 x]) (t := 3) (fr := (0, 0)) (heap_alloc_new w _)) (by simp [Value.oneCell']) (by unfold maxLen; omega) (by omega) (by simp; omega)
  have h2' : intOwnV w' B v' (xs ++ [x]) := by
    show w'.ownsRow _ _ _ _ _ _
    rw [List.length_append, List.map_append]
    exact h2
  obtain ⟨ao', cap', rfl⟩ := owns_slice h2
  exact ⟨ao', cap', w', h1, h2', ((Touch.refl w _).alloc _).grown h3 (fun k hk => .inl (by simp [hk]))⟩

def blkV (l : List InsD) (k : Nat) : List Int := ((List.range k).filter fun j => decide (opAt l j = 21)).map Int.ofNat
theorem blk_succ (l : List InsD) (k : Nat) : blkV l (k + 1) = if opAt l k = 21 then blkV l k ++ [(k : Int)] else blkV l k := by
  unfold blkV
  rw [List.range_succ, List.filter_append, List.map_append]
  by_cases h : opAt l k = 21 <;> simp [h]
theorem blk_len (l : List InsD) (k : Nat) : (blkV l k).length ≤ k := by
  unfold blkV
  rw [List.length_map]
  exact Nat.le_trans (List.length_filter_le _ _) (by simp)

/-- The first ones of instructions that can be read. -/
theorem insv_take {w : World} {ao : Option Addr} {cap : Nat} {l : List InsD} (h : InsV w (.slice ao l.length cap) l) (n c : Nat) (hn : n ≤ l.length) : InsV w (.slice ao n c) (l.take n) := by
  refine ⟨ao, c, by rw [List.length_take, Nat.min_eq_left hn], fun hne => ?_⟩
  have hpos : 0 < n := by
    rcases Nat.eq_zero_or_pos n with h0 | h0
    · subst h0; simp at hne
    · exact h0
  obtain ⟨g, off, e, hg, _⟩ := SRow.at h 0 (by omega)
  refine ⟨g, off, e, hg, fun k hk j hj => ?_⟩
  rw [List.length_take] at hk
  obtain ⟨g', off', e', _, hc⟩ := SRow.at h k (by omega)
  rw [e] at e'
  simp only [Option.some.injEq, Addr.mk.injEq] at e'
  obtain ⟨rfl, rfl, _⟩ := e'
  rw [hc j hj, List.getElem_take]

end Go.Proofs.YtcbkafbchpjnoaaGreatDoor
/-
  THE DOCUMENT'S closes, opens, arms BY THEIR CONTRACTS; THREE ROWS OF NUMBERS.
-/
namespace Go.Proofs.YtcbkafbchpjnoaaGreatDoor
set_option linter.unusedVariables false
set_option linter.unusedSimpArgs false
open Go.RowKit
attribute [local go_sem] Oper.semAt_some

def rclV (o : Int) : Int := if o = 22 then 21 else if o = 24 then 23 else if o = 25 then 24 else 0
set_option maxRecDepth 100000 in
theorem rcloses_any (o : Int) (w : World) : Calls Tryz.prog 105 #[.int .u8 o] w fun e w' => e = .returned (.int .u8 (rclV o)) ∧ w = w' := by
  rcases (show o = 22 ∨ o = 24 ∨ o = 25 ∨ (o ≠ 22 ∧ o ≠ 24 ∧ o ≠ 25) by omega) with rfl | rfl | rfl | ⟨h1, h2, h3⟩
  all_goals try (
    go_enter Tryz.func105, Tryz.ntmps105
    go_wp2
    go_ret
    exact ⟨rfl, rfl⟩)
  have e : rclV o = 0 := by simp [rclV, *]
  have b1 : (o == 22) = false := by simpa using h1
  have b2 : (o == 24) = false := by simpa using h2
  have b3 : (o == 25) = false := by simpa using h3
  rw [e]
  go_enter Tryz.func105, Tryz.ntmps105
  go_wp2
  go_ret
  exact ⟨rfl, rfl⟩
set_option maxRecDepth 100000 in
theorem ropens_any (o : Int) (w : World) : Calls Tryz.prog 106 #[.int .u8 o] w fun e w' => e = .returned (.bool (opensV o)) ∧ w = w' := by
  have e : opensV o = (o == 21 || o == 23 || o == 24) := by unfold opensV; rw [Bool.eq_iff_iff]; simp; omega
  rw [e]
  rcases (show o = 21 ∨ o = 23 ∨ o = 24 ∨ (o ≠ 21 ∧ o ≠ 23 ∧ o ≠ 24) by omega) with rfl | rfl | rfl | ⟨h1, h2, h3⟩
  all_goals try (
    go_enter Tryz.func106, Tryz.ntmps106
    go_wp2
    go_ret
    exact ⟨rfl, rfl⟩)
  all_goals (
    go_enter Tryz.func106, Tryz.ntmps106
    go_wp2
    go_ret
    exact ⟨by simp [*], rfl⟩)

/-- Open places as they lie in the document's list. -/
def opRow (op : List Nat) : List Int := op.reverse.map Int.ofNat
theorem opRow_len (op : List Nat) : (opRow op).length = op.length := by simp [opRow]
theorem opRow_cons (t : Nat) (r : List Nat) : opRow (t :: r) = opRow r ++ [(t : Int)] := by simp [opRow]
theorem opRow_at {op : List Nat} {j : Nat} (h : j < op.length) : ∃ t, t ∈ op ∧ (opRow op)[j]? = some (t : Int) ∧ op.reverse[j]? = some t := by
  have hj : j < op.reverse.length := by simpa using h
  exact ⟨op.reverse[j], by simp, by unfold opRow; rw [List.getElem?_map, List.getElem?_eq_getElem hj]; rfl, List.getElem?_eq_getElem hj⟩
def armsK (l : List InsD) (op : List Nat) (k : Nat) : Nat := ((op.reverse.take k).filter fun t => decide (opAt l t ≠ 21)).length
theorem armsK_all (l : List InsD) (op : List Nat) : armsK l op op.length = armsV l op := by
  unfold armsK armsV
  rw [List.take_of_length_le (by simp), List.filter_reverse, List.length_reverse]
theorem armsK_succ (l : List InsD) {op : List Nat} {k t : Nat} (h : op.reverse[k]? = some t) : armsK l op (k + 1) = armsK l op k + (if opAt l t ≠ 21 then 1 else 0) := by
  unfold armsK
  obtain ⟨hk, e⟩ := List.getElem?_eq_some_iff.1 h
  rw [List.take_succ_eq_append_getElem hk, e, List.filter_append, List.length_append]
  by_cases hq : opAt l t = 21 <;> simp [hq]
theorem armsK_le (l : List InsD) (op : List Nat) (k : Nat) : armsK l op k ≤ k := by
  unfold armsK
  exact Nat.le_trans (List.length_filter_le _ _) (by rw [List.length_take]; omega)

set_option maxRecDepth 100000 in
set_option maxHeartbeats 1000000 in
theorem arms_any {w : World} {ao : Option Addr} {N cap B : Nat} {l : List InsD} {ap : Option Addr} {cp M : Nat} {op : List Nat} (hN : N = l.length) (hn : N ≤ 900) (hr : InsV w (.slice ao N cap) l) (ho : intOwnV w B (.slice ap M cp) (opRow op)) (hM : M = op.length) (hop : ∀ t ∈ op, t < N) (hl : op.length ≤ 1000) :
    Calls Tryz.prog 104 #[.slice ao N cap, .slice ap M cp] w fun e w' => e = .returned (.int .i64 (armsV l op)) ∧ w = w' := by
  have HR : Hid _ := hr
  have HO : Hid _ := ho
  have HN : Hid _ := hN
  have HM : Hid _ := hM
  have HOP : Hid _ := hop
  have hm : M ≤ 1000 := by omega
  clear hr ho hN hM hop hl
  go_enter Tryz.func104, Tryz.ntmps104
  go_wp2_with fail
  go_loopw [5, 6] (fun v i wr => ∃ k : Nat, i = .int .i64 k ∧ k ≤ M ∧ v = .int .i64 (armsK l op k) ∧ wr = w) (fun _ i _ => M - (intOf i).toNat)
  case atStart => exact ⟨0, rfl, Nat.zero_le _, rfl, rfl⟩
  case round =>
    obtain ⟨k, rfl, hk, rfl, rfl⟩ := hrel
    have hle := armsK_le l op k
    by_cases hlt : k < M
    · obtain ⟨t, ht, e1, e2⟩ := opRow_at (op := op) (j := k) (by rw [← HM.out]; exact hlt)
      have htN := HOP.out t ht
      have hr0 := HR.out
      rw [HN.out] at hr0
      obtain ⟨g, off, rfl, hg, c0, c1, c2⟩ := insv_at hr0 t (by rw [← HN.out]; exact htN)
      have hlo : (opRow op).length = M := by rw [opRow_len, HM.out]
      obtain ⟨gp, cp', hap⟩ := Go.Joins.ownsRow_form HO.out (by rw [hlo]; omega)
      rw [hlo] at hap
      simp only [Value.slice.injEq, true_and] at hap
      obtain ⟨rfl, rfl⟩ := hap
      have hO2 : intOwnV wr B (.slice (some ⟨gp, 0, none⟩) M cp) (opRow op) := HO.out
      unfold intOwnV at hO2
      rw [hlo] at hO2
      have d0 := hO2.cellAt k (by omega)
      rw [List.getElem?_map, e1] at d0
      simp only [Option.map_some] at d0
      have HS := armsK_succ l e2
      have HSH : Hid _ := HS
      generalize opAt l t = o at *
      have hkM : (k : Int) < M := by omega
      have hk0 : (0 : Int) ≤ k := by omega
      have hkw : IntKind.i64.wrap ((k : Int) + 1) = (k : Int) + 1 := by rw [IntKind.wrap_i64]; omega
      have htN' : (t : Int) < N := by omega
      have ht0 : (0 : Int) ≤ t := by omega
      generalize armsK l op k = q at *
      have hqw : IntKind.i64.wrap ((q : Int) + 1) = (q : Int) + 1 := by rw [IntKind.wrap_i64]; omega
      clear hr0 hO2 hlo c1 c2 HS e1 e2 ht
      by_cases ho : o = 21
      · have HQ : Hid (armsK l op (k + 1) = q) := by show _ = _; rw [HSH.out]; simp [ho]
        subst ho
        clear HSH
        go_wp2
        go_roundw
        case rel => exact ⟨k + 1, rfl, by omega, by rw [HQ.out], by first | rfl | trivial⟩
        case measure => simp [intOf]; omega
      · have HQ : Hid (armsK l op (k + 1) = q + 1) := by show _ = _; rw [HSH.out]; simp [ho]
        have ho' : (o == 21) = false := by simpa using ho
        clear HSH
        go_wp2
        go_roundw
        case rel => exact ⟨k + 1, rfl, by omega, by rw [HQ.out]; rfl, by first | rfl | trivial⟩
        case measure => simp [intOf]; omega
    · obtain rfl : k = M := by omega
      go_wp2
      go_ret
      refine ⟨?_, rfl⟩
      rw [← armsK_all, ← HM.out]; rfl

end Go.Proofs.YtcbkafbchpjnoaaGreatDoor
/-
  THREE ROWS OF NUMBERS, EACH IN A BLOCK OF ITS OWN. No walk.
-/
namespace Go.Proofs.YtcbkafbchpjnoaaGreatDoor
set_option linter.unusedVariables false
set_option linter.unusedSimpArgs false
open Go.RowKit

structure R3 (B : Nat) (w : World) (vi ve vo : Value) (xi xe xo : List Int) : Prop where
  i : intOwnV w B vi xi
  e : intOwnV w B ve xe
  o : intOwnV w B vo xo
  ie : ∀ g, vi.ownBlock = some g → ve.ownBlock ≠ some g
  io : ∀ g, vi.ownBlock = some g → vo.ownBlock ≠ some g
  eo : ∀ g, ve.ownBlock = some g → vo.ownBlock ≠ some g
theorem own_ltV {w : World} {B : Nat} {v : Value} {xs : List Int} (h : intOwnV w B v xs) : ∀ g, v.ownBlock = some g → B ≤ g ∧ g < w.heap.size := fun g hg => World.ownsRow.lt h g hg
theorem int_pushW {w : World} {B : Nat} {v : Value} {xs : List Int} (h : intOwnV w B v xs) (hl : xs.length ≤ 1000) (hB : B ≤ w.heap.size) (x : Int) (ty : TypeId) :
    ∃ ao' cap' w', (Builtin.append_ #[88, 88] ty #[v, .slice (some ⟨w.heap.size, 0, none⟩) 1 1]).run Tryz.prog (w.alloc (.cells #[.int .i64 x] 3)) = .ok (.slice ao' (xs.length + 1) cap') w' ∧ intOwnV w' B (.slice ao' (xs.length + 1) cap') (xs ++ [x]) ∧ Touch w w' v.ownBlock.toList ∧ (∀ g, (Value.slice ao' (xs.length + 1) cap').ownBlock = some g → v.ownBlock = some g ∨ w.heap.size ≤ g) := by
  obtain ⟨i0, hi, hz0, hz1, hz2⟩ := info_partsV Tryz.info_intV
  obtain ⟨v', w', h1, h2, h3, h4, h5⟩ := run_append_own_at (P := Tryz.prog) (w.alloc (.cells #[.int .i64 x] 3)) B 88 ty 3 i0 _ 1 8 Tryz.underlying88 hi hz0 hz1 hz2 rfl (by decide) v xs.length _ (h.alloc _) ⟨w.heap.size, 0, none⟩ 1 1 [.int .i64 x] rfl (World.news_of_block (cs := #[.int .i64 x]) (t := 3) (fr := (0, 0)) (heap_alloc_new w _)) (by simp [Value.oneCell']) (by unfold maxLen; omega) (by omega) (by simp; omega)
  have h2' : intOwnV w' B v' (xs ++ [x]) := by
    show w'.ownsRow _ _ _ _ _ _
    rw [List.length_append, List.map_append]
    exact h2
  obtain ⟨ao', cap', rfl⟩ := owns_slice h2
  refine ⟨ao', cap', w', h1, h2', ((Touch.refl w _).alloc _).grown h3 (fun k hk => .inl (by simp [hk])), fun g hg => ?_⟩
  rcases h5 with q | q
  · left; rw [← q]; exact hg
  · right; rw [q] at hg; simp at hg; omega
theorem touch_up {W0 w w' : World} {S : List Nat} (a : Touch W0 w []) (t : Touch w w' S) (h : ∀ x ∈ S, W0.heap.size ≤ x) : Touch W0 w' [] := a.trans t (fun x hx => .inr (h x hx))
theorem R3.pushI {W0 w : World} {vi ve vo : Value} {xi xe xo : List Int} (h : R3 W0.heap.size w vi ve vo xi xe xo) (t0 : Touch W0 w []) (hl : xi.length ≤ 1000) (x : Int) (ty : TypeId) :
    ∃ ao' cap' w', (Builtin.append_ #[88, 88] ty #[vi, .slice (some ⟨w.heap.size, 0, none⟩) 1 1]).run Tryz.prog (w.alloc (.cells #[.int .i64 x] 3)) = .ok (.slice ao' (xi.length + 1) cap') w' ∧ R3 W0.heap.size w' (.slice ao' (xi.length + 1) cap') ve vo (xi ++ [x]) xe xo ∧ Touch W0 w' [] ∧ Touch w w' vi.ownBlock.toList := by
  obtain ⟨ao', cap', w', h1, h2, h3, h4⟩ := int_pushW h.i hl t0.size x ty
  refine ⟨ao', cap', w', h1, ⟨h2, ownsRow_touch h.e h3 (fun g hg hs => h.ie g (by simpa using hs) hg), ownsRow_touch h.o h3 (fun g hg hs => h.io g (by simpa using hs) hg), fun g hg he => ?_, fun g hg he => ?_, h.eo⟩, touch_up t0 h3 (fun x hx => (own_ltV h.i x (by simpa using hx)).1), h3⟩
  · rcases h4 g hg with q | q
    · exact h.ie g q he
    · have := (own_ltV h.e g he).2; omega
  · rcases h4 g hg with q | q
    · exact h.io g q he
    · have := (own_ltV h.o g he).2; omega
theorem R3.pushE {W0 w : World} {vi ve vo : Value} {xi xe xo : List Int} (h : R3 W0.heap.size w vi ve vo xi xe xo) (t0 : Touch W0 w []) (hl : xe.length ≤ 1000) (x : Int) (ty : TypeId) :
    ∃ ao' cap' w', (Builtin.append_ #[88, 88] ty #[ve, .slice (some ⟨w.heap.size, 0, none⟩) 1 1]).run Tryz.prog (w.alloc (.cells #[.int .i64 x] 3)) = .ok (.slice ao' (xe.length + 1) cap') w' ∧ R3 W0.heap.size w' vi (.slice ao' (xe.length + 1) cap') vo xi (xe ++ [x]) xo ∧ Touch W0 w' [] ∧ Touch w w' ve.ownBlock.toList := by
  obtain ⟨ao', cap', w', h1, h2, h3, h4⟩ := int_pushW h.e hl t0.size x ty
  refine ⟨ao', cap', w', h1, ⟨ownsRow_touch h.i h3 (fun g hg hs => h.ie g hg (by simpa using hs)), h2, ownsRow_touch h.o h3 (fun g hg hs => h.eo g (by simpa using hs) hg), fun g hg he => ?_, h.io, fun g hg he => ?_⟩, touch_up t0 h3 (fun x hx => (own_ltV h.e x (by simpa using hx)).1), h3⟩
  · rcases h4 g he with q | q
    · exact h.ie g hg q
    · have := (own_ltV h.i g hg).2; omega
  · rcases h4 g hg with q | q
    · exact h.eo g q he
    · have := (own_ltV h.o g he).2; omega
/-- end[t] is written. -/
theorem R3.setE {W0 w : World} {vi vo : Value} {ge ce n : Nat} {xi xe xo : List Int} (h : R3 W0.heap.size w vi (.slice (some ⟨ge, 0, none⟩) n ce) vo xi xe xo) (hn : xe.length = n) (t0 : Touch W0 w []) (t : Nat) (x : Int) :
    R3 W0.heap.size (w.setCell ⟨ge, t, none⟩ (.int .i64 x)) vi (.slice (some ⟨ge, 0, none⟩) n ce) vo xi (xe.set t x) xo ∧ Touch W0 (w.setCell ⟨ge, t, none⟩ (.int .i64 x)) [] := by
  have tt : Touch w (w.setCell ⟨ge, t, none⟩ (.int .i64 x)) [ge] := (Touch.refl w [ge]).setCell (.inl (by simp)) _
  refine ⟨⟨ownsRow_touch h.i tt (fun g hg hs => by simp at hs; subst hs; exact h.ie _ hg rfl), ?_, ownsRow_touch h.o tt (fun g hg hs => by simp at hs; subst hs; exact h.eo _ rfl hg), h.ie, h.io, h.eo⟩, touch_up t0 tt (fun y hy => by simp at hy; subst hy; exact (own_ltV h.e _ rfl).1)⟩
  have := h.e
  unfold intOwnV at this ⊢
  rw [hn] at this
  rw [List.length_set, hn]
  exact int_setV this t x
theorem srow_int {w : World} {B : Nat} {v : Value} {xs : List Int} (h : intOwnV w B v xs) : SRow 1 (fun x : Int => [Value.int .i64 x]) w v xs := by
  have : w.ownsRow B 3 1 v xs.length (xs.flatMap fun x : Int => [Value.int .i64 x]) := by rw [flat_one]; exact h
  exact srow_of (cells := fun x : Int => [Value.int .i64 x]) (n := 1) (fun _ => rfl) this
/-- append to a new empty list. -/
theorem clone_own {w : World} {B : Nat} {ao : Option Addr} {cp : Nat} {ys : List Int} (hr : SRow 1 (fun x : Int => [Value.int .i64 x]) w (.slice ao ys.length cp) ys) (hl : ys.length ≤ 1000) (hB : B ≤ w.heap.size) (ty : TypeId) :
    ∃ ao' cap' w', (Builtin.append_ #[88, 88] ty #[.slice (some ⟨w.heap.size, 0, none⟩) 0 0, .slice ao ys.length cp]).run Tryz.prog (w.alloc (.cells #[] 3)) = .ok (.slice ao' ys.length cap') w' ∧ intOwnV w' B (.slice ao' ys.length cap') ys ∧ Touch w w' [] ∧ (∀ g, (Value.slice ao' ys.length cap').ownBlock = some g → w.heap.size ≤ g) := by
  obtain ⟨i0, hi, hz0, hz1, hz2⟩ := info_partsV Tryz.info_intV
  have t1 : Touch w (w.alloc (.cells #[] 3)) [] := (Touch.refl w []).alloc _
  have he : (w.alloc (.cells #[] 3)).ownsRow B 3 1 (.slice (some ⟨w.heap.size, 0, none⟩) 0 0) 0 [] := World.ownsRow_made w #[] 0 hB (by decide) (by simp)
  obtain ⟨v', w', h1, h2, h3, h4⟩ := run_app (P := Tryz.prog) (cells := fun x : Int => [Value.int .i64 x]) 88 ty 3 i0 _ 1 8 Tryz.underlying88 hi hz0 hz1 hz2 rfl (by decide) (fun _ => rfl) (by simp [Value.oneCell']) he (SRow.keep hr t1 (by simp)) (by omega) (by decide) (by simp; omega)
  rw [List.nil_append, flat_one, Nat.zero_add] at h2
  obtain ⟨ao', cap', rfl⟩ := owns_slice h2
  refine ⟨ao', cap', w', h1, h2, t1.grown h3 (fun k hk => .inr (by simp [Value.ownBlock] at hk; omega)), fun g hg => ?_⟩
  rcases h4 with q | q
  · rw [q] at hg; simp [Value.ownBlock] at hg; omega
  · rw [q] at hg; simp at hg; omega
/-- A new list of what is open. -/
theorem R3.newO {W0 w w' : World} {vi ve vo v' : Value} {xi xe xo ys : List Int} (h : R3 W0.heap.size w vi ve vo xi xe xo) (t0 : Touch W0 w []) (t : Touch w w' []) (hv : intOwnV w' W0.heap.size v' ys) (hf : ∀ g, v'.ownBlock = some g → w.heap.size ≤ g) : R3 W0.heap.size w' vi ve v' xi xe ys ∧ Touch W0 w' [] :=
  ⟨⟨ownsRow_touch h.i t (by simp), ownsRow_touch h.e t (by simp), hv, h.ie, fun g hg he => by have := (own_ltV h.i g hg).2; have := hf g he; omega, fun g hg he => by have := (own_ltV h.e g hg).2; have := hf g he; omega⟩, t0.trans t (by simp)⟩

end Go.Proofs.YtcbkafbchpjnoaaGreatDoor

/-
  package verify: THE STACK OF BRACKETS: size, top, pop, push BY THEIR CONTRACTS.
-/
import Derived.Test.YtonjbldnhbbdjaaVfPlain
import Derived.WalkSmall
import Derived.Deep.AppendLies
import Derived.Deep.RegionLaw
import Derived.Lib.OwnKind
import Derived.Lib.SmallJoins
namespace Go.Proofs.Ytonjbldnhbbdjaa
set_option linter.unusedVariables false
set_option linter.unusedSimpArgs false
open Go.RowKit
attribute [local go_sem] Oper.semAt_some

/-- All ways end alike: shown once. -/
theorem onceV {G Q : Prop} (pf : G) (body : G → Q) : Q := body pf
/-- append, by what it is known to come to. -/
theorem step_appendV {P : Program} {w : World} {ops : Array Oper} {o : Oper} {a : Act} {K : Act → World → Prop} {Q : Exit → Act → World → Prop} {E : Prop} (hgd : o.guard = none) (s x : Operand) (t ty : TypeId)
    (ho : o.op = .call { callee := .builtin .append, args := #[s, x], argTypes := #[t, t] }) (hty : o.type = ty) (v1 v2 v3 : Value) (w3 : World) (hs : a.eval s = v1) (hx : a.eval x = v2)
    (hr : (Builtin.append_ #[t, t] ty #[v1, v2]).run P w = .ok v3 w3) (h : K (a.put o.dst v3) w3) : if Region.wanted o (yielded ops a.tmps) = true then Oper.wp P o a w K Q else E := by
  have hw : Region.wanted o (yielded ops a.tmps) = true := by simp [Region.wanted, hgd]
  rw [if_pos hw]
  subst hty
  unfold Oper.wp execOp
  simp only [ho, resolve, invoke, builtin, Sem.run_bind, Sem.run_pure, Result.andThen_ok, List.map_toArray, List.map_cons, List.map_nil, hs, hx, hr]
  exact h

/-- An open bracket: its place, and what closes it. -/
structure BrD where
  at_ : Int
  cl : Int
def BrD.cells (x : BrD) : List Value := [.int .i64 x.at_, .int .u8 x.cl]
abbrev BrD.v (x : BrD) : Value := .agg #[.int .i64 x.at_, .int .u8 x.cl]
abbrev brOwn (w : World) (B : Nat) (v : Value) (l : List BrD) : Prop := w.ownsRow B 50 2 v l.length (l.flatMap BrD.cells)

set_option maxRecDepth 100000 in
theorem size_any {w : World} {b : Nat} {ao : Option Addr} {n cap : Nat} (h : w.cell? ⟨b, 0, none⟩ = some (.slice ao n cap)) :
    Calls Try.prog 44 #[.pointer (some ⟨b, 0, none⟩)] w fun e w' => e = .returned (.int .i64 n) ∧ w = w' := by
  go_enter Try.func44, Try.ntmps44
  go_wp2
  go_ret
  exact ⟨rfl, rfl⟩

set_option maxRecDepth 100000 in
theorem top_none {w : World} {b : Nat} {ao : Option Addr} {cap : Nat} (h : w.cell? ⟨b, 0, none⟩ = some (.slice ao 0 cap)) :
    Calls Try.prog 26 #[.pointer (some ⟨b, 0, none⟩)] w fun e w' => e = .returned (.tuple #[.agg #[.int .i64 0, .int .u8 0], .bool false]) ∧ Touch w w' [] := by
  have hb : b < w.heap.size := World.block_lt_of_cell? w _ h
  have h1 : ∀ o, (w.alloc o).cell? ⟨b, 0, none⟩ = some (.slice ao 0 cap) := fun o => (World.cell?_alloc_past _ _ _ hb).trans h
  have hs : HidC _ _ _ _ _ := ⟨size_any (h1 (.cells #[.int .i64 0, .int .u8 0] 50))⟩
  go_enter Try.func26, Try.ntmps26
  go_wp2_with fail
  refine hs.out.mono ?_
  rintro e w1 ⟨rfl, rfl⟩
  clear hs
  go_wp2
  refine bodyPost_ret (v := .tuple #[.agg #[.int .i64 0, .int .u8 0], .bool false]) (by simp [results, Try.results26, go_sem]) rfl ?_
  exact ⟨rfl, (Touch.refl w []).alloc _⟩

set_option maxRecDepth 100000 in
theorem top_some {w : World} {b g m n cap : Nat} {a c : Int} (h : w.cell? ⟨b, 0, none⟩ = some (.slice (some ⟨g, 0, none⟩) m cap)) (hm : m = n + 1) (hn : n ≤ 1000)
    (ha : w.cell? ⟨g, n * 2, none⟩ = some (.int .i64 a)) (hc : w.cell? ⟨g, n * 2 + 1, none⟩ = some (.int .u8 c)) :
    Calls Try.prog 26 #[.pointer (some ⟨b, 0, none⟩)] w fun e w' => e = .returned (.tuple #[.agg #[.int .i64 a, .int .u8 c], .bool true]) ∧ Touch w w' [] := by
  have e1 : (m : Int) - 1 = n := by omega
  have e2 : IntKind.i64.wrap ((m : Int) - 1) = n := by rw [e1]; rw [IntKind.wrap_i64]; omega
  have e3 : (n : Int) < m := by omega
  have e4 : ((m : Int) = 0) = False := by simp; omega
  have e5 : (0 : Int) ≤ n := by omega
  clear hm e1
  have hb : b < w.heap.size := World.block_lt_of_cell? w _ h
  have hg : g < w.heap.size := World.block_lt_of_cell? w _ ha
  have h1 : ∀ o, (w.alloc o).cell? ⟨b, 0, none⟩ = some (.slice (some ⟨g, 0, none⟩) m cap) := fun o => (World.cell?_alloc_past _ _ _ hb).trans h
  have h2 : ∀ o, (w.alloc o).cell? ⟨g, n * 2, none⟩ = some (.int .i64 a) := fun o => (World.cell?_alloc_past _ _ _ hg).trans ha
  have h3 : ∀ o, (w.alloc o).cell? ⟨g, n * 2 + 1, none⟩ = some (.int .u8 c) := fun o => (World.cell?_alloc_past _ _ _ hg).trans hc
  have hs : HidC _ _ _ _ _ := ⟨size_any (h1 (.cells #[.int .i64 0, .int .u8 0] 50))⟩
  have HS : Hid (∀ W, W.cell? ⟨b, 0, none⟩ = some (.slice (some ⟨g, 0, none⟩) m cap) → HidC _ _ _ W _) := fun W hW => ⟨size_any hW⟩
  go_enter Try.func26, Try.ntmps26
  go_wp2_with fail
  refine hs.out.mono ?_
  rintro e w1 ⟨rfl, rfl⟩
  clear hs
  go_wp2_with fail
  go_region_held3 (fun w' => w'.cell? ⟨b, 0, none⟩ = some (.slice (some ⟨g, 0, none⟩) m cap) ∧ w'.cell? ⟨g, n * 2, none⟩ = some (.int .i64 a) ∧ w'.cell? ⟨g, n * 2 + 1, none⟩ = some (.int .u8 c)) (exact ⟨h1 _, h2 _, h3 _⟩) (first | (go_at_call 44; refine Calls.mono (HS.out _ ?hq).out ?_; (case hq => exact h1 _); rintro e w4 ⟨rfl, rfl⟩))
  go_wp2
  refine bodyPost_ret (v := .tuple #[.agg #[.int .i64 a, .int .u8 c], .bool true]) (by simp [results, Try.results26, go_sem]) rfl ?_
  refine ⟨rfl, ?_⟩
  repeat (first | exact (Touch.refl w []).alloc _ | refine Touch.setCell ?_ (.inr (Nat.le_refl _)) _ | exact ((Touch.refl w []).alloc _).drew | refine Touch.drew ?_)

set_option maxRecDepth 100000 in
theorem pop_any {w : World} {b g m n cap : Nat} {v1 v2 v3 : Value} {T : TypeId} (h : w.heap[b]? = some (.cells #[.slice (some ⟨g, 0, none⟩) m cap, v1, v2, v3] T (0, 0))) (hm : m = n + 1) (hn : n ≤ 1000) (hcap : m ≤ cap) :
    Calls Try.prog 53 #[.pointer (some ⟨b, 0, none⟩)] w fun e w' => e = .returned (.tuple #[]) ∧ w' = (w.drew.setCell ⟨b, 0, none⟩ (.slice (some ⟨g, 0, none⟩) n cap)) := by
  have e2 : IntKind.i64.wrap ((m : Int) - 1) = n := by rw [IntKind.wrap_i64]; omega
  have e3 : (n : Int) ≤ cap := by omega
  have e4 : (0 : Int) ≤ n := by omega
  have e5 : (n : Int) ≤ m := by omega
  have h0 : w.cell? ⟨b, 0, none⟩ = some (.slice (some ⟨g, 0, none⟩) m cap) := by simp [World.cell?, h]
  have f0 : w.frozen? ⟨b, 0, none⟩ = false := by simp [World.frozen?, h]
  have HS : Hid (∀ W, W.cell? ⟨b, 0, none⟩ = some (.slice (some ⟨g, 0, none⟩) m cap) → HidC _ _ _ W _) := fun W hW => ⟨size_any hW⟩
  clear hm
  go_enter Try.func53, Try.ntmps53
  apply onceV
  case body =>
    intro hall
    go_region_with (refine Calls.mono (HS.out _ ?hq).out ?_; (case hq => exact h0); rintro e w4 ⟨rfl, rfl⟩)
    all_goals exact hall
  go_wp2
  go_end0
  exact ⟨rfl, rfl⟩

theorem Try.info_br : (Try.prog.info? 50).map (fun i => (i.zero, i.size, i.bytes)) = some (some (.agg #[.int .i64 0, .int .u8 0]), 2, 16) := by kernel_rfl
theorem info_partsV {p : Program} {t : TypeId} {z : Value} {n k : Nat} (h : (p.info? t).map (fun i => (i.zero, i.size, i.bytes)) = some (some z, n, k)) : ∃ i, p.info? t = some i ∧ i.zero = some z ∧ i.size = n ∧ i.bytes = k := by
  cases e : p.info? t with
  | none => rw [e] at h; simp at h
  | some i => rw [e] at h; simp at h; exact ⟨i, rfl, h.1, h.2.1, h.2.2⟩

/-- What push leaves. -/
def PushPost (B : Nat) (w : World) (b : Nat) (vo v1 v2 v3 : Value) (T : TypeId) (xs : List BrD) (e : Ending) (w' : World) : Prop :=
  ∃ vo', e = .returned (.tuple #[]) ∧ w'.heap[b]? = some (.cells #[vo', v1, v2, v3] T (0, 0)) ∧ brOwn w' B vo' xs ∧ Touch w w' (b :: vo.ownBlock.toList) ∧ (∀ g, vo'.ownBlock = some g → vo.ownBlock = some g ∨ w.heap.size ≤ g)

set_option maxRecDepth 100000 in
set_option maxHeartbeats 1600000 in
theorem push_any {w : World} {B b : Nat} {vo v1 v2 v3 : Value} {T : TypeId} {xs : List BrD} (x : BrD) (h : w.heap[b]? = some (.cells #[vo, v1, v2, v3] T (0, 0))) (hr : brOwn w B vo xs) (hl : xs.length ≤ 1000) (hB : B ≤ w.heap.size) (hne : vo.ownBlock ≠ some b) :
    Calls Try.prog 55 #[.pointer (some ⟨b, 0, none⟩), .agg #[.int .i64 x.at_, .int .u8 x.cl]] w (PushPost B w b vo v1 v2 v3 T (xs ++ [x])) := by
  obtain ⟨a, c⟩ := x
  have tB : Touch w (w.alloc (.cells #[.int .i64 a, .int .u8 c] 50)) [] := (Touch.refl w []).alloc _
  have hst := (tB.block b (lt_of_heap h) (by simp)).trans h
  have hrB : brOwn _ B vo xs := ownsRow_touch hr tB (by simp)
  have eB : (w.alloc (.cells #[.int .i64 a, .int .u8 c] 50)).heap[w.heap.size]? = some (.cells #[.int .i64 a, .int .u8 c] 50 (0, 0)) := heap_alloc_new w _
  have hbl := lt_of_heap h
  have hlt : ∀ g, vo.ownBlock = some g → g < w.heap.size := fun g hg => (hr.lt g hg).2
  clear h hr
  simp only
  go_enter Try.func55, Try.ntmps55
  go_wp2_with fail
  refine wp_name fun W hW => ?_
  rw [← hW] at tB hst hrB eB
  have hsz : W.heap.size = w.heap.size + 1 := by rw [hW]; simp
  clear hW
  generalize hq : w.heap.size = q at *
  obtain ⟨i0, hi, hz0, hz1, hz2⟩ := info_partsV Try.info_br
  obtain ⟨al, cl, hve⟩ := owns_slice hrB
  obtain ⟨v3', w3, hr3, ho3, hg3, hn3, ha3⟩ := run_append_own_at (P := Try.prog) ((W.alloc (.cells #[.int .i64 a, .int .u8 c] 50)).drew) B 52 52 50 i0 _ 2 16 Try.underlying52 hi hz0 hz1 hz2 rfl (by decide) _ xs.length _ ((hrB.alloc _).drew) ⟨W.heap.size, 0, none⟩ 1 1 [.int .i64 a, .int .u8 c] rfl (World.news_of_block (cs := #[.int .i64 a, .int .u8 c]) (t := 50) (fr := (0, 0)) (heap_alloc_new W _)) (by intro u hu; simp at hu; rcases hu with rfl | rfl <;> rfl) (by unfold maxLen; omega) (by omega) (by simp; omega)
  obtain ⟨a3, c3, rfl⟩ := owns_slice ho3
  have tw3 : Touch W w3 vo.ownBlock.toList := (((Touch.refl W _).alloc _).drew).grown hg3 (fun x hx => .inl (by simp [hx]))
  have hvb : b ∉ vo.ownBlock.toList := by simpa using hne
  have hqb : q ∉ vo.ownBlock.toList := fun hx => by have := hlt q (by simpa using hx); omega
  have st3 := (tw3.block b (by omega) hvb).trans hst
  have c0 : W.cell? ⟨b, 0, none⟩ = some vo := by simp [World.cell?, hst]
  have d3 : w3.cell? ⟨b, 0, none⟩ = some vo := by simp [World.cell?, st3]
  have g3 : w3.frozen? ⟨b, 0, none⟩ = false := by simp [World.frozen?, st3]
  have k0 : W.cell? ⟨q, 0, none⟩ = some (.int .i64 a) := by simp [World.cell?, eB]
  have k1 : W.cell? ⟨q, 1, none⟩ = some (.int .u8 c) := by simp [World.cell?, eB]
  have dz : ∀ o, (W.alloc o).cell? ⟨b, 0, none⟩ = some vo := fun o => (World.cell?_alloc_past _ _ _ (by omega)).trans c0
  have HFIN : Hid (PushPost B w b vo v1 v2 v3 T (xs ++ [⟨a, c⟩]) (.returned (.tuple #[])) (w3.setCell ⟨b, 0, none⟩ (.slice a3 (xs.length + 1) c3))) := by
    have hT : Touch W (w3.setCell ⟨b, 0, none⟩ (.slice a3 (xs.length + 1) c3)) (b :: vo.ownBlock.toList) := (tw3.mono (fun x hx => by simp at hx; simp [hx])).setCell (.inl (by simp)) _
    have hst' : (w3.setCell ⟨b, 0, none⟩ (.slice a3 (xs.length + 1) c3)).heap[b]? = some (.cells #[.slice a3 (xs.length + 1) c3, v1, v2, v3] T (0, 0)) := by
      rw [heap_setCell_same _ _ _ _ _ _ st3]; rfl
    have hnb : ∀ g, (Value.slice a3 (xs.length + 1) c3).ownBlock = some g → vo.ownBlock = some g ∨ q ≤ g := fun g hg => by
      rcases ha3 with e | e
      · rw [e] at hg; exact .inl hg
      · rw [e] at hg; simp at hg; right; omega
    have hrow : brOwn (w3.setCell ⟨b, 0, none⟩ (.slice a3 (xs.length + 1) c3)) B (.slice a3 (xs.length + 1) c3) (xs ++ [⟨a, c⟩]) := by
      have := ownsRow_touch ho3 ((Touch.refl w3 [b]).setCell (p := ⟨b, 0, none⟩) (.inl (by simp)) (.slice a3 (xs.length + 1) c3)) (fun x hx hs => by
        simp at hs; subst hs
        rcases hnb _ hx with e | e
        · exact hne e
        · omega)
      simpa [brOwn, List.flatMap_append, BrD.cells] using this
    exact ⟨_, rfl, hst', hrow, (tB.mono (by simp)).trans hT (fun x hx => .inl hx), fun g hg => by rw [hq]; exact hnb g hg⟩
  have HR3 : Hid _ := hr3
  clear hr3 ho3 hg3 hn3 ha3 tw3 st3 eB hst hrB tB hqb hvb hlt hsz hq
  rw [hve] at HR3 c0 d3 dz
  clear hve
  apply onceV
  case body =>
    intro hall
    go_region_law (refine step_appendV (by rfl) _ _ _ 52 (by rfl) (by rfl) _ _ (.slice a3 (xs.length + 1) c3) w3 (by rfl) (by rfl) HR3.out ?_)
    all_goals exact hall
  go_wp2
  go_end0
  exact HFIN.out

end Go.Proofs.Ytonjbldnhbbdjaa

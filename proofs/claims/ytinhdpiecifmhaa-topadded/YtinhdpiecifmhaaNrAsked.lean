/-
  Asked OF package norec, BY CONTRACT.
-/
import Derived.Test.YtinhdpiecifmhaaNrLive
namespace Go.Proofs.Ytinhdpiecifmhaa.Nr
set_option linter.unusedVariables false
set_option linter.unusedSimpArgs false
open Go.RowKit Go.Maps

def askdE (E : Eng) (k : Nat) : AskD × Bool := match E.th k with | none => (⟨0, 0, 0⟩, false) | some A => if A.ask.k = 0 then (⟨0, 0, 0⟩, false) else (A.ask, true)

theorem res_ct {fn : Func} {p q : Tmp} {ty : TypeId} (h : fn.results = #[.cell p ty, .tmp q]) (tmps : Array Value) (P : Program) (w : World) {v : Value} {a : Addr} (hp : tmps.getD p undef = .pointer (some a)) (hl : (loadVar ty a).run P w = .ok v w) :
    (results fn tmps).run P w = .ok (.tuple #[v, tmps.getD q undef]) w := by
  rw [Array.getD_eq_getD_getElem?] at hp
  simp only [results, h]
  simp [Sem.run_bind, Result.andThen, hp, asAddr, hl]
theorem Try.size_asks : (Try.prog.info? 32).map (·.size) = some 3 := by kernel_rfl
theorem aload (w : World) (x y z : Int) : (loadVar 32 ⟨w.heap.size, 0, none⟩).run Try.prog (w.alloc (.cells #[.int .u8 x, .int .i64 y, .int .u64 z] 32)) = .ok (.agg #[.int .u8 x, .int .i64 y, .int .u64 z]) (w.alloc (.cells #[.int .u8 x, .int .i64 y, .int .u64 z] 32)) := by
  have h := World.rangeAt_of_block (heap_alloc_new w (.cells #[.int .u8 x, .int .i64 y, .int .u64 z] 32)) 0 3
  exact run_loadVar_mid (P := Try.prog) _ w.heap.size 0 32 [.int .u8 x, .int .i64 y, .int .u64 z] _ h Try.underlying32 rfl Try.size_asks

set_option maxRecDepth 100000 in
set_option maxHeartbeats 1600000 in
theorem asked_any {X : ELoc} {E : Eng} {w : World} (h : EObj w X E) (k : Nat) (hk : k < 4) : Calls Try.prog 5 #[ptr X.e, .int .i64 k] w fun x w' => x = .returned (.tuple #[(askdE E k).1.val, .bool (askdE E k).2]) ∧ Touch w w' [] := by
  have t1 : Touch w (w.alloc (.cells #[.int .u8 0, .int .i64 0, .int .u64 0] 32)) [] := (Touch.refl w []).alloc _
  have h1 := h.fresh t1
  have TH := HidC.mk (thread_any X E k hk _ h1)
  have HT : Hid _ := t1
  unfold askdE
  cases hA : E.th k with
  | none =>
    rw [h.noatt hA] at TH
    simp only [tptr, AskD.val] at TH ⊢
    clear h h1 t1
    go_enter Try.func5, Try.ntmps5
    go_wp2_with fail
    refine TH.out.mono ?_
    rintro x w3 ⟨rfl, rfl⟩
    clear TH
    go_wp2
    refine bodyPost_ret (res_ct (p := 4) (q := 5) (ty := 32) rfl _ _ _ rfl (aload w _ _ _)) rfl ?_
    exact ⟨rfl, (Touch.refl w []).alloc _⟩
  | some A =>
    obtain ⟨l, hl, hob⟩ := h1.att hA
    have c2 := hob.cells.c2
    have c3 := hob.cells.c3
    have c4 := hob.cells.c4
    have hlt : l.a < w.heap.size := by
      obtain ⟨l', hl', hob'⟩ := h.att hA
      rw [hl] at hl'
      simp only [Option.some.injEq] at hl'
      subst hl'
      exact lt_of_heap hob'.st
    rw [hl] at TH
    simp only [tptr, AskD.val] at TH ⊢
    obtain ⟨ac, ab, ⟨ak, at', av⟩, ap, ag, avl, ath, anm, aL, aF⟩ := A
    simp only at c2 c3 c4 ⊢
    clear h h1 t1 hob hA
    by_cases hz : ak = 0
    · subst hz
      rw [if_pos rfl]
      go_enter Try.func5, Try.ntmps5
      go_wp2_with fail
      refine TH.out.mono ?_
      rintro x w3 ⟨rfl, rfl⟩
      clear TH
      go_wp2
      refine bodyPost_ret (res_ct (p := 4) (q := 5) (ty := 32) rfl _ _ _ rfl (aload w _ _ _)) rfl ?_
      exact ⟨rfl, (Touch.refl w []).alloc _⟩
    · rw [if_neg hz]
      have hz1 : (ak == 0) = false := by simpa using hz
      go_enter Try.func5, Try.ntmps5
      go_wp2_with fail
      refine TH.out.mono ?_
      rintro x w3 ⟨rfl, rfl⟩
      clear TH
      go_wp2
      refine bodyPost_ret (res_ct (p := 4) (q := 5) (ty := 32) rfl _ _ _ rfl (aload w _ _ _)) rfl ?_
      exact ⟨rfl, (Touch.refl w []).alloc _⟩

end Go.Proofs.Ytinhdpiecifmhaa.Nr

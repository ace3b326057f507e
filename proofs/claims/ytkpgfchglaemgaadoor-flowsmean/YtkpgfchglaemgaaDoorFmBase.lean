/-
  FlowsMean: New of a queue and a barrier, and WHAT IS KEPT from call to call.
-/
import Derived.Test.YtkpgfchglaemgaaDoorRvHeld
import Derived.Test.YtkpgfchglaemgaaDoorRbBlk
namespace Go.Proofs.YtkpgfchglaemgaaDoor
set_option linter.unusedVariables false
set_option linter.unusedSimpArgs false
open Go.RowKit
attribute [local go_sem] Oper.semAt_some

def NewV (w : World) (k s : Int) (e : Ending) (w' : World) : Prop := ∃ b, e = .returned (.pointer (some ⟨b, 0, none⟩)) ∧ RObV w' b k s (-1) 0 0 (.slice none 0 0) [] ∧ w.heap.size ≤ b ∧ Touch w w' []
theorem robv_new (w : World) (k s : Int) : RObV (w.alloc (.cells #[.int .u8 k, .int .i64 s, .int .i64 (-1), .int .i64 0, .int .i64 0, .slice none 0 0] 64)) w.heap.size k s (-1) 0 0 (.slice none 0 0) [] := ⟨heap_alloc_new w _, ⟨none, 0, rfl, fun h => absurd rfl h⟩, fun h => absurd rfl h, fun a m c e => by simp only [Value.slice.injEq] at e; omega⟩
theorem rnew_queue (s : Int) (h0 : 1 ≤ s) (h1 : s ≤ 4) (w : World) : Calls Tryd.prog 7 #[.int .u8 3, .int .i64 s] w (NewV w 3 s) := by
  have HB : Hid _ := robv_new w 3 s
  have HT : Hid (Touch w (w.alloc (.cells #[.int .u8 3, .int .i64 s, .int .i64 (-1), .int .i64 0, .int .i64 0, .slice none 0 0] 64)) []) := (Touch.refl w []).alloc _
  have hd0 : decide (s ≥ 1) = true := decide_eq_true h0
  have hd1 : decide (s ≤ 4) = true := decide_eq_true h1
  have hd2 : decide (1 ≤ s) = true := decide_eq_true h0
  go_enter Tryd.func7, Tryd.ntmps7
  go_wp2
  go_ret
  exact ⟨w.heap.size, rfl, HB.out, Nat.le_refl _, HT.out⟩
theorem rnew_bar (s : Int) (h0 : 1 ≤ s) (h1 : s ≤ 4) (w : World) : Calls Tryd.prog 7 #[.int .u8 4, .int .i64 s] w (NewV w 4 s) := by
  have HB : Hid _ := robv_new w 4 s
  have HT : Hid (Touch w (w.alloc (.cells #[.int .u8 4, .int .i64 s, .int .i64 (-1), .int .i64 0, .int .i64 0, .slice none 0 0] 64)) []) := (Touch.refl w []).alloc _
  have hd0 : decide (s ≥ 1) = true := decide_eq_true h0
  have hd1 : decide (s ≤ 4) = true := decide_eq_true h1
  have hd2 : decide (1 ≤ s) = true := decide_eq_true h0
  go_enter Tryd.func7, Tryd.ntmps7
  go_wp2
  go_ret
  exact ⟨w.heap.size, rfl, HB.out, Nat.le_refl _, HT.out⟩

/-- The instructions, and the call in block p. -/
structure FmAt (w W : World) (ao : Option Addr) (cap : Nat) (L : List InsD) (p : Nat) (c v : Int) : Prop where
  ins : InsIn W ao L.length cap L
  box : BoxC W p c 0 v
  t : Touch w W []
  gl : ∀ g, (Value.slice ao L.length cap).ownBlock = some g → L ≠ [] → g < p
  lt : p < W.heap.size
  wl : w.heap.size ≤ p
theorem FmAt.new {w w1 : World} {ao : Option Addr} {cap : Nat} {L : List InsD} {c v : Int} (h : InsIn w1 ao L.length cap L) (t : Touch w w1 []) : FmAt w (w1.alloc (.cells #[.int .u8 c, .int .i64 0, .int .u64 v] 30)) ao cap L w1.heap.size c v := by
  have tA : Touch w1 (w1.alloc (.cells #[.int .u8 c, .int .i64 0, .int .u64 v] 30)) [] := (Touch.refl w1 []).alloc _
  exact ⟨h.keep tA, BoxC.new w1 c 0 v, t.trans tA (by simp), fun g hg hne => SRow.block h.row hne g hg, by simp, t.size⟩
theorem FmAt.keep {w W W' : World} {ao : Option Addr} {cap : Nat} {L : List InsD} {p : Nat} {c v : Int} {S : List Nat} (k : FmAt w W ao cap L p c v) (t : Touch W W' S) (hS : ∀ x ∈ S, p < x) : FmAt w W' ao cap L p c v := by
  have hw := k.wl
  exact ⟨⟨k.ins.len, SRow.keepB k.ins.row t (fun hne g hg hs => by have := k.gl g hg hne; have := hS g hs; omega), k.ins.le, k.ins.max, k.ins.wf⟩, k.box.touch t (fun hs => by have := hS p hs; omega), k.t.trans t (fun x hx => .inr (by have := hS x hx; omega)), k.gl, Nat.lt_of_lt_of_le k.lt t.size, hw⟩

/-- A slice of zeros is made. -/
theorem made_val (n : Nat) : madeCells (Value.cells (.int .u64 0)) (n * 1) = Array.replicate n (.int .u64 0) := by
  apply Array.ext
  · simp [size_madeCells]
  · intro i h1 h2
    simp [madeCells, Value.cells, Nat.mod_one]
theorem make_val (n : Nat) (hn : n ≤ 1000) (w : World) : (Instr.makeSlice 35 (.int .i64 n) (.int .i64 n)).run Tryd.prog w = .ok (.slice (some ⟨w.heap.size, 0, none⟩) n n) (w.alloc (.cells (Array.replicate n (.int .u64 0)) 24)) := by
  obtain ⟨i, hi, hz, hs, hb⟩ := info_partsE Tryd.info_val
  have e := run_make (P := Tryd.prog) w 35 24 i (.int .u64 0) Tryd.underlying35 hi hz .i64 .i64 n n (by omega) (by omega) (by rw [hb]; omega) (by omega)
  rw [hs, made_val] at e
  exact e
theorem zero_own (w : World) (n : Nat) (hn : n ≤ 1000) : valOwn (w.alloc (.cells (Array.replicate n (.int .u64 0)) 24)) w.heap.size (.slice (some ⟨w.heap.size, 0, none⟩) n n) (List.replicate n 0) := by
  have h := World.ownsRow_lit (base := w.heap.size) (e := 24) (size := 1) w (Array.replicate n (.int .u64 0)) n (Nat.le_refl _) (by unfold maxLen; omega) (by simp)
  show World.ownsRow _ _ _ _ _ (List.replicate n (0 : Int)).length _
  rw [List.length_replicate, List.map_replicate]
  simpa using h
/-- A value is stored into a row of one's own. -/
theorem own_set {w : World} {B g n cap : Nat} {l : List Int} (h : valOwn w B (.slice (some ⟨g, 0, none⟩) n cap) l) (j : Nat) (x : Int) : valOwn (w.setCell ⟨g, j, none⟩ (.int .u64 x)) B (.slice (some ⟨g, 0, none⟩) n cap) (l.set j x) := by
  have hl := (own_form h).1
  subst hl
  have := (World.ownsRow.stored h j (.int .u64 x)).1
  rw [← List.map_set] at this
  show World.ownsRow _ _ _ _ _ (l.set j x).length _
  rw [List.length_set]
  exact this

/-- The queue's variables while it is filled. -/
def fmFill (n c f : Nat) : Nat → List Int
  | 0 => ((List.replicate (n + 2) 0).set 0 (numV c)).set 1 (numV f)
  | i + 1 => (fmFill n c f i).set (2 + (f + i) % n) (numV (10 + (i : Nat)))
theorem fmFill_len (n c f i : Nat) : (fmFill n c f i).length = n + 2 := by
  induction i with
  | zero => simp [fmFill]
  | succ i ih => simp [fmFill, ih]
set_option maxRecDepth 100000 in
theorem fmFill_fin : ∀ (n : Fin 4) (c : Fin 5) (f : Fin 4), c.val ≤ n.val + 1 → f.val < n.val + 1 → fmFill (n.val + 1) c.val f.val c.val = fmQ (n.val + 1) c.val f.val := by decide +kernel
theorem fmV_succ (i : Nat) : fmV (i + 1) = fmV i ++ [numV (10 + (i : Nat))] := by unfold fmV; rw [List.range_succ, List.map_append]; rfl
theorem fmV_len (i : Nat) : (fmV i).length = i := by unfold fmV; simp
set_option maxRecDepth 100000 in
theorem fmB_fin : ∀ (n : Fin 4) (a : Fin 9), ((List.replicate (n.val + 1 + 2) 0).set 0 (numV (a.val % (n.val + 1) : Nat))).set 1 (numV (a.val / (n.val + 1) : Nat)) = fmB (n.val + 1) a.val := by decide +kernel
theorem fmArr_fin : ∀ (n : Fin 4) (i : Fin 8), if i.val % (n.val + 1) + 1 = n.val + 1 then (i.val + 1) % (n.val + 1) = 0 ∧ (i.val + 1) / (n.val + 1) = i.val / (n.val + 1) + 1 else (i.val + 1) % (n.val + 1) = i.val % (n.val + 1) + 1 ∧ (i.val + 1) / (n.val + 1) = i.val / (n.val + 1) := by decide +kernel

end Go.Proofs.YtkpgfchglaemgaaDoor

/-
  Fork of both tables BY ITS CONTRACT.
-/
import Derived.Test.YthkphhjhgkclfaaDoorStripesSame2
import Derived.Test.YthkphhjhgkclfaaDoorStripesPlayAny
import Derived.Test.YthkphhjhgkclfaaDoorAppendSrc
import Derived.Deep.RegionLaw
namespace Go.Proofs.YthkphhjhgkclfaaDoor
set_option linter.unusedVariables false
set_option linter.unusedSimpArgs false
open Go.RowKit

theorem list8 (l : List Int) (h : l.length = 8) : ∃ a b c d e f g i, l = [a, b, c, d, e, f, g, i] := by
  match l, h with
  | [a, b, c, d, e, f, g, i], _ => exact ⟨a, b, c, d, e, f, g, i, rfl⟩

def TFork (w : World) (now : Int) (ws : List Int) (e : Ending) (w' : World) : Prop := e = .returned (ptr w.heap.size) ∧ TObj w' w.heap.size now ws ∧ Touch w w' []

set_option maxRecDepth 100000 in
theorem tfork_any {w : World} {b : Nat} {now : Int} {ws : List Int} (h : TObj w b now ws) (h8 : ws.length ≤ 8) : Calls Tryd.prog 21 #[ptr b] w (TFork w now ws) := by
  have hst := h.st
  have HT : Hid (tcells now ws = tcells now ws) := rfl
  unfold TFork
  obtain ⟨a0, a1, a2, a3, a4, a5, a6, a7, e8⟩ := list8 (ws ++ List.replicate (8 - ws.length) 0) (by simp; omega)
  have et : tcells now ws = [.int .u64 now, .int .i64 ws.length, .int .u64 a0, .int .u64 a1, .int .u64 a2, .int .u64 a3, .int .u64 a4, .int .u64 a5, .int .u64 a6, .int .u64 a7] := by
    unfold tcells
    rw [e8]
    rfl
  rw [et] at hst
  have HE : Hid _ := et
  clear et e8 HT h
  generalize ws.length = n at *
  have c0 : w.cell? ⟨b, 0, none⟩ = some (.int .u64 now) := by simp [World.cell?, hst]
  have c1 : w.cell? ⟨b, 1, none⟩ = some (.int .i64 n) := by simp [World.cell?, hst]
  have c2 : w.cell? ⟨b, 2, none⟩ = some (.int .u64 a0) := by simp [World.cell?, hst]
  have c3 : w.cell? ⟨b, 3, none⟩ = some (.int .u64 a1) := by simp [World.cell?, hst]
  have c4 : w.cell? ⟨b, 4, none⟩ = some (.int .u64 a2) := by simp [World.cell?, hst]
  have c5 : w.cell? ⟨b, 5, none⟩ = some (.int .u64 a3) := by simp [World.cell?, hst]
  have c6 : w.cell? ⟨b, 6, none⟩ = some (.int .u64 a4) := by simp [World.cell?, hst]
  have c7 : w.cell? ⟨b, 7, none⟩ = some (.int .u64 a5) := by simp [World.cell?, hst]
  have c8 : w.cell? ⟨b, 8, none⟩ = some (.int .u64 a6) := by simp [World.cell?, hst]
  have c9 : w.cell? ⟨b, 9, none⟩ = some (.int .u64 a7) := by simp [World.cell?, hst]
  clear hst
  go_enter Tryd.func21, Tryd.ntmps21
  go_wp2
  go_ret
  refine ⟨by simp [ptr], ⟨?_⟩, ?_⟩
  · rw [HE.out]
    exact heap_alloc_new w _
  · exact (Touch.refl w []).alloc _

def RFork (B : Nat) (w : World) (now : Int) (ws : List Int) (e : Ending) (w' : World) : Prop := ∃ rb vw, e = .returned (ptr rb) ∧ RObj B w' rb vw now ws ∧ Touch w w' [] ∧ w.heap.size ≤ rb ∧ ∀ k, vw.ownBlock = some k → w.heap.size ≤ k

theorem empty_rowB (w : World) (B E size : Nat) (hB : B ≤ w.heap.size) : (w.alloc (.cells #[] E)).ownsRow B E size (.slice (some ⟨w.heap.size, 0, none⟩) 0 0) 0 [] := World.ownsRow_made w #[] 0 hB (by decide) (by simp)

set_option maxRecDepth 100000 in
theorem rfork_any {B C : Nat} {w : World} {b : Nat} {vw : Value} {now : Int} {ws : List Int} (h : RObj B w b vw now ws) (h8 : ws.length ≤ 8) (hC : C ≤ w.heap.size) : Calls Tryd.prog 22 #[ptr b] w (RFork C w now ws) := by
  obtain ⟨c0, c1, _⟩ := h.cNow
  obtain ⟨i0, hi0, hz0, hz1, hz2⟩ := info_parts Tryd.info_u64
  have hown := h.own
  have h1 : Hid (∀ u ∈ ws.map (Value.int .u64), u.oneCell' = true) := by
    intro u hu
    rw [List.mem_map] at hu
    obtain ⟨x, _, rfl⟩ := hu
    rfl
  have hb : b < w.heap.size := lt_of_heap h.st
  have A0 := fun o => ((Touch.refl w []).alloc o).cell (p := ⟨b, 0, none⟩) hb (by simp) |>.trans c0
  have A1 := fun o => ((Touch.refl w []).alloc o).cell (p := ⟨b, 1, none⟩) hb (by simp) |>.trans c1
  have e1 := empty_rowB w C 31 1 hC
  have hl1 : 0 + ws.length ≤ maxLen := by unfold maxLen; omega
  have hl2 : (0 + ws.length) * 8 ≤ 140737488355328 := by omega
  have FIN : Hid (∀ w1 g cap, Touch w w1 [] → w.heap.size ≤ g → w1.ownsRow C 31 1 (.slice (some ⟨g, 0, none⟩) ws.length cap) ws.length (ws.map (Value.int .u64)) → RFork C w now ws (.returned (ptr w1.heap.size)) (w1.alloc (.cells #[.slice (some ⟨g, 0, none⟩) ws.length cap, .int .u64 now] 58))) := by
    intro w1 g cap t hg ho
    have hs := t.size
    refine ⟨w1.heap.size, _, rfl, ⟨by omega, heap_alloc_new w1 _, ho.alloc _⟩, t.alloc _, hs, fun k hk => ?_⟩
    simp [Value.ownBlock] at hk
    omega
  generalize ws.map (Value.int .u64) = xs at *
  generalize ws.length = n at *
  clear h
  go_enter Tryd.func22, Tryd.ntmps22
  go_wp2_with fail
  go_region_law (refine step_append_src (by rfl) (.tmp 5) (.tmp 9) 56 (by rfl) C 31 i0 _ 1 8 Tryd.underlying56 hi0 hz0 hz1 hz2 rfl (by omega) w.heap.size 0 0 [] (by rfl) e1.drew vw B n xs (by rfl) (hown.alloc _).drew h1.out hl1 hl2 (by simp; omega) ?_; intro g cap w1 hown1 hgrow1 hat1 hlt1; simp only [Nat.zero_add, List.nil_append] at hown1; have tw : Touch w w1 [] := ((Touch.refl w []).alloc _).drew.grown hgrow1 (fun q hq => .inr (by simp at hq; omega)); have k1 : w1.cell? ⟨b, 1, none⟩ = some (.int .u64 now) := (tw.cell (p := ⟨b, 1, none⟩) hb (by simp)).trans c1; have hg1 : w.heap.size ≤ g := hat1.elim (fun e => by omega) (fun e => by simp at e; omega))
  all_goals
    clear A0 A1 e1 hgrow1 hat1 c0 c1 k1 hl1 hl2 h1 hown
    go_wp2
    go_ret
    exact FIN.out w1 g cap tw hg1 hown1

/-- Both forks, side by side. -/
theorem fork_pair {B C : Nat} {w w1 w2 : World} {b rb b' rb' : Nat} {vw vw' : Value} {st : Int × List Int} (h : Pair B w b rb vw st) (hC : C = w.heap.size) (h1 : TObj w1 w.heap.size st.1 st.2) (t1 : Touch w w1 []) (h2 : RObj C w2 rb' vw' st.1 st.2) (t2 : Touch w1 w2 []) (h3 : w1.heap.size ≤ rb') (h4 : ∀ k, vw'.ownBlock = some k → w1.heap.size ≤ k) :
    Pair C w2 w.heap.size rb' vw' st := by
  have := h1.lt
  exact ⟨h1.touch t2 (by simp), h2, h.g, by omega, by simp; omega, fun k hk => by have := h4 k hk; simp; omega⟩

end Go.Proofs.YthkphhjhgkclfaaDoor

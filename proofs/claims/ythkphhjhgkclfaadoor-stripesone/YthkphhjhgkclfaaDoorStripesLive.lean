/-
  Two new tables; what every statement on stripes asks (live).
-/
import Derived.Test.YthkphhjhgkclfaaDoorStripesDo
namespace Go.Proofs.YthkphhjhgkclfaaDoor
set_option linter.unusedVariables false
set_option linter.unusedSimpArgs false
open Go.RowKit

theorem Tryd.info_u64 : (Tryd.prog.info? 31).map (fun i => (i.zero, i.size, i.bytes)) = some (some (.int .u64 0), 1, 8) := by kernel_rfl

theorem made_u64 (n : Nat) : madeCells (Value.cells (.int .u64 0)) (n * 1) = Array.replicate n (.int .u64 0) := by
  apply Array.ext
  · simp [size_madeCells]
  · intro i h1 h2
    simp [madeCells, Value.cells, Nat.mod_one]

theorem make_u64 (n : Nat) (hn : n ≤ 1000) (w : World) : (Instr.makeSlice 56 (.int .i64 n) (.int .i64 n)).run Tryd.prog w = .ok (.slice (some ⟨w.heap.size, 0, none⟩) n n) (w.alloc (.cells (Array.replicate n (.int .u64 0)) 31)) := by
  obtain ⟨i, hi, hz, hs, hb⟩ := info_parts Tryd.info_u64
  have e := run_make (P := Tryd.prog) w 56 31 i (.int .u64 0) Tryd.underlying56 hi hz .i64 .i64 n n (by omega) (by omega) (by rw [hb]; omega) (by omega)
  rw [e, hs, Int.toNat_natCast, made_u64]

theorem rnew_obj (B : Nat) (w : World) (n : Nat) (hn : 0 < n) (hm : n ≤ 8) (hB : B ≤ w.heap.size) :
    RObj B ((w.alloc (.cells (Array.replicate n (.int .u64 0)) 31)).alloc (.cells #[.slice (some ⟨w.heap.size, 0, none⟩) n n, .int .u64 0] 58)) (w.heap.size + 1) (.slice (some ⟨w.heap.size, 0, none⟩) n n) 0 (List.replicate n 0) := by
  have e : List.map (Value.int .u64) (List.replicate n 0) = List.replicate n (.int .u64 0) := by simp
  refine ⟨by omega, ?_, ?_⟩
  · have := heap_alloc_new (w.alloc (.cells (Array.replicate n (.int .u64 0)) 31)) (.cells #[.slice (some ⟨w.heap.size, 0, none⟩) n n, .int .u64 0] 58)
    simpa using this
  · rw [List.length_replicate, e]
    refine World.ownsRow.alloc ⟨by simp, .inr ⟨w.heap.size, n, Array.replicate n (.int .u64 0), rfl, hB, heap_alloc_new w _, Nat.le_refl _, by unfold maxLen; omega, by simp, ?_⟩⟩ _
    rw [List.take_of_length_le (by simp)]
    simp

/-- What New of the document's leaves. -/
def RNew (B n : Nat) (w : World) (e : Ending) (w' : World) : Prop := ∃ vw, e = .returned (ptr (w.heap.size + 1)) ∧ RObj B w' (w.heap.size + 1) vw 0 (List.replicate n 0) ∧ Touch w w' [] ∧ ∀ k, vw.ownBlock = some k → w.heap.size ≤ k

theorem rnew_ok (B n : Nat) (h1 : 1 ≤ n) (h8 : n ≤ 8) (w : World) (hB : B ≤ w.heap.size) : Calls Tryd.prog 10 #[.int .i64 n] w (RNew B n w) := by
  have hmk := make_u64 n (by omega)
  have a1 : ¬ (n : Int) < 1 := by omega
  have a2 : ¬ (8 : Int) < n := by omega
  have HO : Hid _ := rnew_obj B w n h1 h8 hB
  go_enter Tryd.func10, Tryd.ntmps10
  go_wp2
  go_ret
  exact ⟨_, rfl, HO.out, ((Touch.refl _ _).alloc _).alloc _, fun k hk => by simp [Value.ownBlock] at hk; omega⟩

theorem good_new (n : Nat) (h1 : 1 ≤ n) (h8 : n ≤ 8) : Good 0 (List.replicate n 0) :=
  ⟨by simp; omega, by simpa using h8, by omega, by omega, fun x hx => by
    rw [List.mem_replicate] at hx
    rw [hx.2]
    decide⟩

theorem of_live {w : World} {b : Nat} {now : Int} {ws : List Int} (h : TObj w b now ws) (h4 : ws.length = 4) : Calls Tryd.prog 25 #[ptr b, .int .i64 2] w fun e w' => e = .returned (.int .i64 1) ∧ w = w' := by
  have c1 := h.cSize
  rw [h4] at c1
  clear h
  go_enter Tryd.func25, Tryd.ntmps25
  go_wp2
  go_ret
  exact ⟨by simp, rfl⟩

set_option maxRecDepth 100000 in
theorem slive_any (w : World) (S : Sh w) : Calls Tryd.prog 8 #[] w fun e w' => e = .returned (.bool true) ∧ Touch w w' [] := by
  have G0 := good_new 4 (by omega) (by omega)
  have hb : 0 < w.heap.size := S.lt
  have HS : Hid _ := S
  have hn := tnew_ok 4 (by omega) (by omega) w
  clear S
  go_enter Tryd.func8, Tryd.ntmps8
  go_wp2_with fail
  refine hn.mono ?_
  rintro e w1 ⟨rfl, h1, t1, _⟩
  clear hn
  have S1 := HS.out.touch t1 (by simp)
  have h2 := tlock_ext h1 G0 S1 0 1
  have G1 := G0.lock 0 1
  rw [show lockS (List.replicate 4 0) 0 1 = (0, [0, 1, 0, 0]) by decide] at h2 G1
  clear h1
  go_wp2_with fail
  refine h2.mono ?_
  rintro e w2 ⟨rfl, h2', t2⟩
  have T2 : Touch w w2 [] := t1.trans t2 (by simp)
  have h3 := ttick_ext h2' G1
  have G2 := G1.tick (by decide)
  rw [show nextP 0 = (1, 0) by decide] at G2
  rw [show tickS 0 = ((1, 0), 1) by decide] at h3
  clear h2 h2' t2 t1 S1
  go_wp2_with fail
  refine h3.mono ?_
  rintro e w3 ⟨rfl, h3', t3⟩
  have T3 : Touch w w3 [] := T2.trans t3 (by simp)
  have S3 := HS.out.touch T3 (by simp)
  have h4 := owner_ext h3' G2 S3 1
  rw [show ownerP [0, 1, 0, 0] 1 = (0, true) by decide] at h4
  clear h3 t3 T2
  go_wp2_with fail
  refine h4.mono ?_
  rintro e w4 ⟨rfl, t4⟩
  have h4' := h3'.touch t4 (by simp)
  have T4 : Touch w w4 [] := T3.trans t4 (by simp)
  have S4 := HS.out.touch T4 (by simp)
  have h5 := tunlock_ext h4' G2 S4 0 1 1 (by omega)
  have G3 := G2.unlock 0 1 (v := 1) (by omega)
  rw [show unlockS 1 [0, 1, 0, 0] 0 1 1 = (0, [0, 32, 0, 0]) by decide] at h5 G3
  clear h4 t4 T3 S3 h3' h4' S4
  go_wp2_with fail
  refine h5.mono ?_
  rintro e w5 ⟨rfl, h5', t5⟩
  have T5 : Touch w w5 [] := T4.trans t5 (by simp)
  have S5 := HS.out.touch T5 (by simp)
  have h6 := of_live h5' rfl
  clear h5 t5 T4
  go_wp2_with fail
  refine h6.mono ?_
  rintro e w6 ⟨rfl, e6⟩
  subst e6
  have h7 := version_any h5' G3 S5 1
  rw [show (saysP [0, 32, 0, 0] 1).2.1 = 1 by decide] at h7
  clear h6 h5'
  go_wp2_with fail
  refine h7.mono ?_
  rintro e w7 ⟨rfl, t7⟩
  have T7 : Touch w w7 [] := T5.trans t7 (by simp)
  clear h7 t7 T5 S5
  go_wp2
  go_ret
  exact ⟨by simp, T7⟩

end Go.Proofs.YthkphhjhgkclfaaDoor

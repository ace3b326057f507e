/-
  live OF PACKAGE value's LAWS: what must be whatever is asked.
-/
import Derived.Test.YthkedpfbnaeaaabDoorValueHex
import Derived.Test.YthkedpfbnaeaaabDoorValueArith
namespace Go.Proofs.YthkedpfbnaeaaabDoor
set_option linter.unusedVariables false
set_option linter.unusedSimpArgs false
open Go.RowKit

theorem one_n : hexN (ByteArray.mk #[51, 102, 102, 48, 48, 48, 48, 48, 48, 48, 48, 48, 48, 48, 48, 48]).data.toList = 4607182418800017408 := by decide +kernel
theorem one_s : (ByteArray.mk (hexS 4607182418800017408 16).toArray) = ByteArray.mk #[51, 102, 102, 48, 48, 48, 48, 48, 48, 48, 48, 48, 48, 48, 48, 48] := by decide +kernel
theorem one_of : ofB (4607182418800017408 : Int).toNat = 4607182418800017408 := by decide +kernel

set_option maxRecDepth 100000 in
theorem read_one (w : World) (h : Tz w) : Calls Tryd.prog 32 #[.string ⟨#[51, 102, 102, 48, 48, 48, 48, 48, 48, 48, 48, 48, 48, 48, 48, 48]⟩] w fun e w' => e = .returned (.int .u64 4607182418800017408) ∧ Touch w w' [] := by
  have hp := parse16 ⟨#[51, 102, 102, 48, 48, 48, 48, 48, 48, 48, 48, 48, 48, 48, 48, 48]⟩ (by decide) (by decide) (by decide) w
  rw [one_n] at hp
  have HZ : Hid _ := h
  clear h
  go_enter Tryd.func32, Tryd.ntmps32
  go_wp2_with fail
  refine hp.mono ?_
  rintro e w1 ⟨rfl, t1⟩
  clear hp
  have hh := hex16 4607182418800017408 (by rw [one_of]; omega) (by rw [one_of]; omega) w1 (HZ.out.touch t1)
  rw [one_of, one_s] at hh
  go_wp2_with fail
  refine (need_ok w1).mono ?_
  rintro e w2 ⟨rfl, rfl⟩
  go_wp2_with fail
  refine hh.mono ?_
  rintro e w2 ⟨rfl, t2⟩
  have HT : Hid (Touch w w2 []) := t1.trans t2 (by simp)
  clear hh t1 t2
  go_wp2_with fail
  refine (need_ok w2).mono ?_
  rintro e w3 ⟨rfl, rfl⟩
  go_wp2
  go_ret
  exact ⟨rfl, HT.out⟩

set_option maxRecDepth 100000 in
theorem parse1_one (p : Nat) (w : World) (h : Tz w) (hc : w.cell? ⟨p, 0, none⟩ = some (.string ⟨#[51, 102, 102, 48, 48, 48, 48, 48, 48, 48, 48, 48, 48, 48, 48, 48]⟩)) :
    Calls Tryd.prog 31 #[.pointer (some ⟨p, 0, none⟩)] w fun e w' => e = .returned (.int .u64 4607182418800017408) ∧ Touch w w' [] := by
  have hr := read_one w h
  clear h
  go_enter Tryd.func31, Tryd.ntmps31
  go_wp2_with fail
  refine hr.mono ?_
  rintro e w1 ⟨rfl, t1⟩
  clear hr hc
  go_wp2
  go_ret
  exact ⟨rfl, t1⟩

set_option maxRecDepth 100000 in
theorem parse_one (w : World) (h : Tz w) :
    Calls Tryd.prog 14 #[.string ⟨#[51, 102, 102, 48, 48, 48, 48, 48, 48, 48, 48, 48, 48, 48, 48, 48]⟩] w fun e w' => e = .returned (.tuple #[.int .u64 4607182418800017408, .int .i64 0]) ∧ Touch w w' [] := by
  have hmf : ∀ (fn : Fn) (first cap : Array Value) (w : World), (Instr.makeFunc fn first cap).run Tryd.prog w = .ok (.func fn first cap) w := fun _ _ _ _ => rfl
  have t0 : ∀ o, Touch w (w.alloc o) [] := fun o => (Touch.refl w []).alloc o
  have hc := triedV_ok 31 #[.pointer (some ⟨w.heap.size, 0, none⟩)] 4607182418800017408 (w.alloc (.cells #[.string ⟨#[51, 102, 102, 48, 48, 48, 48, 48, 48, 48, 48, 48, 48, 48, 48, 48]⟩] 9)) (enter_of Tryd.func31 (by kernel_rfl) (by kernel_rfl))
    (fun w1 t => parse1_one w.heap.size w1 (h.touch ((t0 _).trans t (by simp))) ((t.cell (p := ⟨w.heap.size, 0, none⟩) (by simp) (by simp)).trans (by simp [go_sem])))
  clear h t0
  go_enter Tryd.func14, Tryd.ntmps14
  go_wp2_with fail
  refine hc.mono ?_
  rintro e w1 ⟨rfl, t1⟩
  clear hc
  go_wp2
  go_ret2
  exact ⟨rfl, ((Touch.refl w []).alloc _).trans t1 (by simp)⟩

theorem add_infs : arithB .add (ofB (9218868437227405312 : Int).toNat) (ofB (18442240474082181120 : Int).toNat) = 9221120237041090560 := by decide +kernel
theorem less_zeros : lessB (ofB (9223372036854775808 : Int).toNat) (ofB (0 : Int).toNat) = true := by decide +kernel

set_option maxRecDepth 100000 in
theorem vlive_any (w : World) (h : Tz w) : Calls Tryd.prog 7 #[] w fun e w' => e = .returned (.bool true) ∧ Touch w w' [] := by
  have HZ : Hid _ := h
  have hi := int_ok (-3) (by omega) (by omega) w
  have hw := fun w1 : World => whole_ok _ _ wholeB_m3 w1
  generalize ofB (floatOfInt .f64 (-3)) = m3 at *
  clear h
  go_enter Tryd.func7, Tryd.ntmps7
  go_wp2_with fail
  refine hi.mono ?_
  rintro e w1 ⟨rfl, t1⟩
  have hw1 := hw w1
  clear hi hw
  go_wp2_with fail
  refine hw1.mono ?_
  rintro e w2 ⟨rfl, t2'⟩
  have t2 : Touch w w2 [] := t1.trans t2' (by simp)
  have hp := parse_one w2 (HZ.out.touch t2)
  clear hw1 t1 t2'
  go_wp2_with fail
  refine hp.mono ?_
  rintro e w3 ⟨rfl, t3'⟩
  have t3 : Touch w w3 [] := t2.trans t3' (by simp)
  clear hp t2 t3'
  have hl := less_any 9223372036854775808 0 w3
  rw [less_zeros] at hl
  have hn := neg_inf w3
  have ha := add_any 9218868437227405312 18442240474082181120 w3
  rw [add_infs] at ha
  go_wp2_with fail
  refine hl.mono ?_
  rintro e w4 ⟨rfl, rfl⟩
  go_wp2_with fail
  refine hn.mono ?_
  rintro e w4 ⟨rfl, rfl⟩
  go_wp2_with fail
  refine ha.mono ?_
  rintro e w4 ⟨rfl, t4⟩
  clear hl hn ha
  go_wp2
  go_ret
  exact ⟨by simp, t3.trans t4 (by simp)⟩

end Go.Proofs.YthkedpfbnaeaaabDoor

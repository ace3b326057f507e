/-
  package flows: what a word stands for.
-/
import Derived.Test.YtcbkafbchpjnoaaGreatDoorLkAt
import Derived.Test.YtcbkafbchpjnoaaGreatDoorAllA
import Derived.Test.YtcbkafbchpjnoaaGreatDoorAtoiLays
import Derived.Shelf.Strconv.Atoi
import Derived.Lib.AtoiErrMem
namespace Go.Proofs.YtcbkafbchpjnoaaGreatDoor
set_option linter.unusedVariables false
set_option linter.unusedSimpArgs false
open Go.RowKit
attribute [local go_sem] Oper.semAt_some

theorem flatoi_any (s : ByteArray) (n : Int) (hl : s.size ≤ 18) (h : Lib.atoi s.data.toList = some n) (w : World) :
    Calls Tryz.prog 159 #[.string s] w fun e w' => e = .returned (.tuple #[.int .i64 n, .nilIface]) ∧ Touch w w' [] := by
  refine (Any.strconv_Atoi Tryz.Lays_n172 s n hl h w).mono ?_
  rintro e w' ⟨rfl, t, rfl⟩
  exact ⟨rfl, Touch.of_below (Lib.bytesWorld_below w _ t) _⟩

structure Nm where
  a : Int
  t : Int
  s : Int
  l : Int
  v : Int
abbrev Nm.val (N : Nm) : Value := .agg #[.int .i64 N.a, .int .i64 N.t, .int .i64 N.s, .int .i64 N.l, .int .u64 N.v]
structure Nm.Ok (N : Nm) : Prop where
  a : 0 ≤ N.a ∧ N.a ≤ 64
  t : 0 ≤ N.t ∧ N.t ≤ 11
  s : 0 ≤ N.s ∧ N.s ≤ 15
  l : 0 ≤ N.l ∧ N.l ≤ 15
def numP (N : Nm) (s : List UInt8) : Int :=
  if (s == [110]) = true then N.t else if (s == [102]) = true then N.t + 1 else if (s == [115]) = true then N.t + 2 else if (s == [115, 105, 122, 101]) = true then N.s else if (s == [108, 111, 99, 97, 108]) = true then N.l else (Lib.atoi s).getD 0
/-- Names, and digits of small numbers. -/
def okW (s : List UInt8) : Bool := s == [110] || s == [102] || s == [115] || s == [115, 105, 122, 101] || s == [108, 111, 99, 97, 108] || (decide (0 ≤ (Lib.atoi s).getD (-1)) && decide ((Lib.atoi s).getD (-1) ≤ 30))
theorem numP_bound {N : Nm} (hN : N.Ok) {s : List UInt8} (h : okW s = true) : 0 ≤ numP N s ∧ numP N s ≤ 30 := by
  obtain ⟨a, t, z, l⟩ := hN
  unfold numP
  repeat' split
  all_goals first | omega | skip
  rename_i h1 h2 h3 h4 h5
  unfold okW at h
  simp only [Bool.not_eq_true] at h1 h2 h3 h4 h5
  rw [h1, h2, h3, h4, h5] at h
  cases e : Lib.atoi s with
  | none => rw [e] at h; simp at h
  | some n => rw [e] at h; simp at h; simpa using h

set_option maxRecDepth 100000 in
set_option maxHeartbeats 2000000 in
theorem flnum_any (N : Nm) (hN : N.Ok) (s : ByteArray) (hs : s.size ≤ 18) (hok : okW s.data.toList = true) (w : World) : Calls Tryz.prog 158 #[N.val, .string s] w fun e w' => e = .returned (.int .i64 (numP N s.data.toList)) ∧ Touch w w' [] := by
  have et : s.toList = s.data.toList := by simp [ByteArray.toList_eq]
  have HN : Hid N.Ok := hN
  have w1 : IntKind.i64.wrap (N.t + 1) = N.t + 1 := by rw [IntKind.wrap_i64]; have := hN.t; omega
  have w2 : IntKind.i64.wrap (N.t + 2) = N.t + 2 := by rw [IntKind.wrap_i64]; have := hN.t; omega
  have HT : Hid (∀ o, Touch w (w.alloc o) []) := fun o => (Touch.refl w []).alloc o
  obtain ⟨x, hx⟩ : ∃ x, x = numP N s.data.toList := ⟨_, rfl⟩
  rw [← hx]
  unfold numP at hx
  rw [← et] at hx
  have HA : Hid (∀ n, Lib.atoi s.data.toList = some n → ∀ W, HidC _ _ _ _ _) := fun n h W => ⟨flatoi_any s n hs h W⟩
  have HX : Hid _ := hx
  have HOK : Hid _ := hok
  have ET : Hid _ := et
  clear hN hx hok hs et
  cases h0 : s.toList == [110] with
  | true =>
    have hx : x = N.t := by rw [HX.out, if_pos h0]
    subst hx
    clear HX HOK HA HN
    go_enter Tryz.func158, Tryz.ntmps158
    go_wp2
    go_ret
    exact ⟨rfl, HT.out _⟩
  | false =>
  cases h1 : s.toList == [102] with
  | true =>
    have hx : x = N.t + 1 := by rw [HX.out, if_neg (by simp [h0]), if_pos h1]
    subst hx
    clear HX HOK HA HN
    go_enter Tryz.func158, Tryz.ntmps158
    go_wp2
    go_ret
    exact ⟨by simp [wrap64, w1], HT.out _⟩
  | false =>
  cases h2 : s.toList == [115] with
  | true =>
    have hx : x = N.t + 2 := by rw [HX.out, if_neg (by simp [h0]), if_neg (by simp [h1]), if_pos h2]
    subst hx
    clear HX HOK HA HN
    go_enter Tryz.func158, Tryz.ntmps158
    go_wp2
    go_ret
    exact ⟨by simp [wrap64, w2], HT.out _⟩
  | false =>
  cases h3 : s.toList == [115, 105, 122, 101] with
  | true =>
    have hx : x = N.s := by rw [HX.out, if_neg (by simp [h0]), if_neg (by simp [h1]), if_neg (by simp [h2]), if_pos h3]
    subst hx
    clear HX HOK HA HN
    go_enter Tryz.func158, Tryz.ntmps158
    go_wp2
    go_ret
    exact ⟨rfl, HT.out _⟩
  | false =>
  cases h4 : s.toList == [108, 111, 99, 97, 108] with
  | true =>
    have hx : x = N.l := by rw [HX.out, if_neg (by simp [h0]), if_neg (by simp [h1]), if_neg (by simp [h2]), if_neg (by simp [h3]), if_pos h4]
    subst hx
    clear HX HOK HA HN
    go_enter Tryz.func158, Tryz.ntmps158
    go_wp2
    go_ret
    exact ⟨rfl, HT.out _⟩
  | false =>
    have HA2 : Hid (∀ W, HidC Tryz.prog 159 #[.string s] W fun e w' => e = .returned (.tuple #[.int .i64 x, .nilIface]) ∧ Touch W w' []) := by
      intro W
      have hx := HX.out
      have hok := HOK.out
      unfold okW at hok
      rw [← ET.out, h0, h1, h2, h3, h4] at hok
      rw [if_neg (by simp [h0]), if_neg (by simp [h1]), if_neg (by simp [h2]), if_neg (by simp [h3]), if_neg (by simp [h4])] at hx
      cases e : Lib.atoi s.toList with
      | none => rw [e] at hok; simp at hok
      | some n =>
        rw [e] at hx
        simp at hx
        subst hx
        rw [ET.out] at e
        exact HA.out x e W
    clear HX HOK HA HN
    go_enter Tryz.func158, Tryz.ntmps158
    go_wp2_with fail
    refine (HA2.out _).out.mono ?_
    rintro e w3 ⟨rfl, t3⟩
    have HT3 : Hid _ := (HT.out _).trans t3 (by simp)
    clear HA2 t3 HT
    go_wp2
    go_ret
    exact ⟨rfl, HT3.out⟩

end Go.Proofs.YtcbkafbchpjnoaaGreatDoor

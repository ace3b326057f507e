/-
  THE SHELF's LAYINGS AT THIS PROGRAM, in plain words: no walk.
-/
import Derived.Shelf.Strconv.Atoi
import Derived.Test.YtkpgfchglaemgaaDoorProg
import Derived.Test.YtkpgfchglaemgaaDoorAllB
import Derived.Test.YtkpgfchglaemgaaDoorAllA
import Derived.Lib.AtoiErrMem
import Derived.Deep.RegionHeld3
import Derived.RangeFuncNested
import Derived.RangeFuncBound
import Derived.RangeFuncCalls
import Derived.RangeFuncLeaves
import Derived.RangeFuncBox
import Derived.Maps.AppendAt
import Derived.Shelf.Abstract
import Derived.Shelf.RegionOpen
import Derived.OwnWalkIn
import Derived.TacticsInMore
import Derived.LoopNIn
import Derived.LoopIn
import Derived.Lib.OthersKept
import Derived.WalkSmall
import Derived.Lib.Walk
import Derived.Lib.AppendZeros
namespace Go.Proofs
open Go.Shelf
def Tryd.Lays_n172_ren : Go.Shelf.Ren := ⟨fun | 172 => 68 | 244 => 72 | 245 => 73 | 247 => 75 | 279 => 76 | 280 => 77 | 281 => 78 | 282 => 79 | 287 => 80 | 316 => 81 | 171 => 83 | 205 => 82 | 321 => 84 | 322 => 85 | 243 => 86 | 246 => 87 | 283 => 88 | 284 => 89 | 285 => 90 | 286 => 91 | 129 => 93 | 317 => 92 | 318 => 94 | 319 => 95 | 320 => 96 | 337 => 97 | 338 => 98 | n => n, fun | 9 => 9 | 3 => 3 | 75 => 122 | 76 => 123 | 4 => 4 | 5 => 5 | 167 => 131 | 37 => 132 | 0 => 0 | 85 => 133 | 2 => 2 | 168 => 135 | 53 => 23 | 175 => 138 | 46 => 140 | 210 => 143 | 127 => 148 | 145 => 151 | 143 => 149 | 21 => 21 | 171 => 153 | 173 => 156 | 212 => 159 | 51 => 160 | 20 => 20 | 213 => 161 | 232 => 164 | 233 => 165 | 80 => 166 | n => n, fun | 15 => 2 | 16 => 3 | 17 => 4 | 18 => 5 | 19 => 6 | n => n⟩
theorem Tryd.Lays_n172 : Go.Proofs.Lays.n172 Tryd.prog Tryd.Lays_n172_ren := {
  mixed := by kernel_rfl
  f129 := Tryd.func93.trans (congrArg some (by kernel_rfl))
  f171 := Tryd.func83.trans (congrArg some (by kernel_rfl))
  f172 := Tryd.func68.trans (congrArg some (by kernel_rfl))
  f205 := Tryd.func82.trans (congrArg some (by kernel_rfl))
  f243 := Tryd.func86.trans (congrArg some (by kernel_rfl))
  f244 := Tryd.func72.trans (congrArg some (by kernel_rfl))
  f245 := Tryd.func73.trans (congrArg some (by kernel_rfl))
  f246 := Tryd.func87.trans (congrArg some (by kernel_rfl))
  f247 := Tryd.func75.trans (congrArg some (by kernel_rfl))
  f279 := Tryd.func76.trans (congrArg some (by kernel_rfl))
  f280 := Tryd.func77.trans (congrArg some (by kernel_rfl))
  f281 := Tryd.func78.trans (congrArg some (by kernel_rfl))
  f282 := Tryd.func79.trans (congrArg some (by kernel_rfl))
  f283 := Tryd.func88.trans (congrArg some (by kernel_rfl))
  f284 := Tryd.func89.trans (congrArg some (by kernel_rfl))
  f285 := Tryd.func90.trans (congrArg some (by kernel_rfl))
  f286 := Tryd.func91.trans (congrArg some (by kernel_rfl))
  f287 := Tryd.func80.trans (congrArg some (by kernel_rfl))
  f316 := Tryd.func81.trans (congrArg some (by kernel_rfl))
  f317 := Tryd.func92.trans (congrArg some (by kernel_rfl))
  f318 := Tryd.func94.trans (congrArg some (by kernel_rfl))
  f319 := Tryd.func95.trans (congrArg some (by kernel_rfl))
  f320 := Tryd.func96.trans (congrArg some (by kernel_rfl))
  f321 := Tryd.func84.trans (congrArg some (by kernel_rfl))
  f322 := Tryd.func85.trans (congrArg some (by kernel_rfl))
  f337 := Tryd.func97.trans (congrArg some (by kernel_rfl))
  f338 := Tryd.func98.trans (congrArg some (by kernel_rfl))
  t0 := Tryd.underlying0
  a0 := Tryd.isAgg0
  z0 := Tryd.sizeOf0
  v0 := Tryd.zeroValue0
  t2 := Tryd.underlying2
  a2 := Tryd.isAgg2
  z2 := Tryd.sizeOf2
  v2 := Tryd.zeroValue2
  t3 := Tryd.underlying3
  a3 := Tryd.isAgg3
  z3 := Tryd.sizeOf3
  v3 := Tryd.zeroValue3
  t4 := Tryd.underlying4
  a4 := Tryd.isAgg4
  z4 := Tryd.sizeOf4
  v4 := Tryd.zeroValue4
  t5 := Tryd.underlying5
  a5 := Tryd.isAgg5
  z5 := Tryd.sizeOf5
  v5 := Tryd.zeroValue5
  t9 := Tryd.underlying9
  a9 := Tryd.isAgg9
  z9 := Tryd.sizeOf9
  v9 := Tryd.zeroValue9
  t20 := Tryd.underlying20
  a20 := Tryd.isAgg20
  z20 := Tryd.sizeOf20
  v20 := Tryd.zeroValue20
  t21 := Tryd.underlying21
  a21 := Tryd.isAgg21
  z21 := Tryd.sizeOf21
  v21 := Tryd.zeroValue21
  t37 := Tryd.underlying132
  a37 := Tryd.isAgg132
  z37 := Tryd.sizeOf132
  v37 := Tryd.zeroValue132
  t46 := Tryd.underlying140
  a46 := Tryd.isAgg140
  z46 := Tryd.sizeOf140
  v46 := Tryd.zeroValue140
  t51 := Tryd.underlying160
  a51 := Tryd.isAgg160
  z51 := Tryd.sizeOf160
  v51 := Tryd.zeroValue160
  t53 := Tryd.underlying23
  a53 := Tryd.isAgg23
  z53 := Tryd.sizeOf23
  v53 := Tryd.zeroValue23
  t75 := Tryd.underlying122
  a75 := Tryd.isAgg122
  z75 := Tryd.sizeOf122
  v75 := Tryd.zeroValue122
  t76 := Tryd.underlying123
  a76 := Tryd.isAgg123
  z76 := Tryd.sizeOf123
  v76 := Tryd.zeroValue123
  t85 := Tryd.underlying133
  a85 := Tryd.isAgg133
  z85 := Tryd.sizeOf133
  v85 := Tryd.zeroValue133
  t127 := Tryd.underlying148
  a127 := Tryd.isAgg148
  z127 := Tryd.sizeOf148
  v127 := Tryd.zeroValue148
  t143 := Tryd.underlying149
  a143 := Tryd.isAgg149
  z143 := Tryd.sizeOf149
  v143 := Tryd.zeroValue149
  t145 := Tryd.underlying151
  a145 := Tryd.isAgg151
  z145 := Tryd.sizeOf151
  v145 := Tryd.zeroValue151
  t167 := Tryd.underlying131
  a167 := Tryd.isAgg131
  z167 := Tryd.sizeOf131
  v167 := Tryd.zeroValue131
  t168 := Tryd.underlying135
  a168 := Tryd.isAgg135
  z168 := Tryd.sizeOf135
  v168 := Tryd.zeroValue135
  t171 := Tryd.underlying153
  a171 := Tryd.isAgg153
  z171 := Tryd.sizeOf153
  v171 := Tryd.zeroValue153
  t173 := Tryd.underlying156
  a173 := Tryd.isAgg156
  z173 := Tryd.sizeOf156
  v173 := Tryd.zeroValue156
  t175 := Tryd.underlying138
  a175 := Tryd.isAgg138
  z175 := Tryd.sizeOf138
  v175 := Tryd.zeroValue138
  t210 := Tryd.underlying143
  a210 := Tryd.isAgg143
  z210 := Tryd.sizeOf143
  v210 := Tryd.zeroValue143
  t212 := Tryd.underlying159
  a212 := Tryd.isAgg159
  z212 := Tryd.sizeOf159
  v212 := Tryd.zeroValue159
  t213 := Tryd.underlying161
  a213 := Tryd.isAgg161
  z213 := Tryd.sizeOf161
  t232 := Tryd.underlying164
  a232 := Tryd.isAgg164
  z232 := Tryd.sizeOf164
  v232 := Tryd.zeroValue164
  t233 := Tryd.underlying165
  a233 := Tryd.isAgg165
  z233 := Tryd.sizeOf165
  v233 := Tryd.zeroValue165
  g15 := by kernel_rfl
  g16 := by kernel_rfl
  g17 := by kernel_rfl
  g18 := by kernel_rfl
  g19 := by kernel_rfl }
end Go.Proofs
/-
  package flows: what a word stands for.
-/
namespace Go.Proofs.YtkpgfchglaemgaaDoor
set_option linter.unusedVariables false
set_option linter.unusedSimpArgs false
open Go.RowKit
attribute [local go_sem] Oper.semAt_some

theorem flatoi_any (s : ByteArray) (n : Int) (hl : s.size ≤ 18) (h : Lib.atoi s.data.toList = some n) (w : World) :
    Calls Tryd.prog 68 #[.string s] w fun e w' => e = .returned (.tuple #[.int .i64 n, .nilIface]) ∧ Touch w w' [] := by
  refine (Any.strconv_Atoi Tryd.Lays_n172 s n hl h w).mono ?_
  rintro e w' ⟨rfl, t, rfl⟩
  exact ⟨rfl, Touch.of_below (Lib.bytesWorld_below w _ t) _⟩

structure Nm where
  a : Int
  t : Int
  s : Int
  l : Int
  v : Int
abbrev Nm.val (N : Nm) : Value := .agg #[.int .i64 N.a, .int .i64 N.t, .int .i64 N.s, .int .i64 N.l, .int .u64 N.v]
structure Nm.Ok (N : Nm) : Prop where
  a : 0 ≤ N.a ∧ N.a ≤ 64
  t : 0 ≤ N.t ∧ N.t ≤ 11
  s : 0 ≤ N.s ∧ N.s ≤ 15
  l : 0 ≤ N.l ∧ N.l ≤ 15
def numP (N : Nm) (s : List UInt8) : Int :=
  if (s == [110]) = true then N.t else if (s == [102]) = true then N.t + 1 else if (s == [115]) = true then N.t + 2 else if (s == [115, 105, 122, 101]) = true then N.s else if (s == [108, 111, 99, 97, 108]) = true then N.l else (Lib.atoi s).getD 0
/-- Names, and digits of small numbers. -/
def okW (s : List UInt8) : Bool := s == [110] || s == [102] || s == [115] || s == [115, 105, 122, 101] || s == [108, 111, 99, 97, 108] || (decide (0 ≤ (Lib.atoi s).getD (-1)) && decide ((Lib.atoi s).getD (-1) ≤ 30))
theorem numP_bound {N : Nm} (hN : N.Ok) {s : List UInt8} (h : okW s = true) : 0 ≤ numP N s ∧ numP N s ≤ 30 := by
  obtain ⟨a, t, z, l⟩ := hN
  unfold numP
  repeat' split
  all_goals first | omega | skip
  rename_i h1 h2 h3 h4 h5
  unfold okW at h
  simp only [Bool.not_eq_true] at h1 h2 h3 h4 h5
  rw [h1, h2, h3, h4, h5] at h
  cases e : Lib.atoi s with
  | none => rw [e] at h; simp at h
  | some n => rw [e] at h; simp at h; simpa using h

set_option maxRecDepth 100000 in
set_option maxHeartbeats 2000000 in
theorem flnum_any (N : Nm) (hN : N.Ok) (s : ByteArray) (hs : s.size ≤ 18) (hok : okW s.data.toList = true) (w : World) : Calls Tryd.prog 66 #[N.val, .string s] w fun e w' => e = .returned (.int .i64 (numP N s.data.toList)) ∧ Touch w w' [] := by
  have et : s.toList = s.data.toList := by simp [ByteArray.toList_eq]
  have HN : Hid N.Ok := hN
  have w1 : IntKind.i64.wrap (N.t + 1) = N.t + 1 := by rw [IntKind.wrap_i64]; have := hN.t; omega
  have w2 : IntKind.i64.wrap (N.t + 2) = N.t + 2 := by rw [IntKind.wrap_i64]; have := hN.t; omega
  have HT : Hid (∀ o, Touch w (w.alloc o) []) := fun o => (Touch.refl w []).alloc o
  obtain ⟨x, hx⟩ : ∃ x, x = numP N s.data.toList := ⟨_, rfl⟩
  rw [← hx]
  unfold numP at hx
  rw [← et] at hx
  have HA : Hid (∀ n, Lib.atoi s.data.toList = some n → ∀ W, HidC _ _ _ _ _) := fun n h W => ⟨flatoi_any s n hs h W⟩
  have HX : Hid _ := hx
  have HOK : Hid _ := hok
  have ET : Hid _ := et
  clear hN hx hok hs et
  cases h0 : s.toList == [110] with
  | true =>
    have hx : x = N.t := by rw [HX.out, if_pos h0]
    subst hx
    clear HX HOK HA HN
    go_enter Tryd.func66, Tryd.ntmps66
    go_wp2
    go_ret
    exact ⟨rfl, HT.out _⟩
  | false =>
  cases h1 : s.toList == [102] with
  | true =>
    have hx : x = N.t + 1 := by rw [HX.out, if_neg (by simp [h0]), if_pos h1]
    subst hx
    clear HX HOK HA HN
    go_enter Tryd.func66, Tryd.ntmps66
    go_wp2
    go_ret
    exact ⟨by simp [wrap64, w1], HT.out _⟩
  | false =>
  cases h2 : s.toList == [115] with
  | true =>
    have hx : x = N.t + 2 := by rw [HX.out, if_neg (by simp [h0]), if_neg (by simp [h1]), if_pos h2]
    subst hx
    clear HX HOK HA HN
    go_enter Tryd.func66, Tryd.ntmps66
    go_wp2
    go_ret
    exact ⟨by simp [wrap64, w2], HT.out _⟩
  | false =>
  cases h3 : s.toList == [115, 105, 122, 101] with
  | true =>
    have hx : x = N.s := by rw [HX.out, if_neg (by simp [h0]), if_neg (by simp [h1]), if_neg (by simp [h2]), if_pos h3]
    subst hx
    clear HX HOK HA HN
    go_enter Tryd.func66, Tryd.ntmps66
    go_wp2
    go_ret
    exact ⟨rfl, HT.out _⟩
  | false =>
  cases h4 : s.toList == [108, 111, 99, 97, 108] with
  | true =>
    have hx : x = N.l := by rw [HX.out, if_neg (by simp [h0]), if_neg (by simp [h1]), if_neg (by simp [h2]), if_neg (by simp [h3]), if_pos h4]
    subst hx
    clear HX HOK HA HN
    go_enter Tryd.func66, Tryd.ntmps66
    go_wp2
    go_ret
    exact ⟨rfl, HT.out _⟩
  | false =>
    have HA2 : Hid (∀ W, HidC Tryd.prog 68 #[.string s] W fun e w' => e = .returned (.tuple #[.int .i64 x, .nilIface]) ∧ Touch W w' []) := by
      intro W
      have hx := HX.out
      have hok := HOK.out
      unfold okW at hok
      rw [← ET.out, h0, h1, h2, h3, h4] at hok
      rw [if_neg (by simp [h0]), if_neg (by simp [h1]), if_neg (by simp [h2]), if_neg (by simp [h3]), if_neg (by simp [h4])] at hx
      cases e : Lib.atoi s.toList with
      | none => rw [e] at hok; simp at hok
      | some n =>
        rw [e] at hx
        simp at hx
        subst hx
        rw [ET.out] at e
        exact HA.out x e W
    clear HX HOK HA HN
    go_enter Tryd.func66, Tryd.ntmps66
    go_wp2_with fail
    refine (HA2.out _).out.mono ?_
    rintro e w3 ⟨rfl, t3⟩
    have HT3 : Hid _ := (HT.out _).trans t3 (by simp)
    clear HA2 t3 HT
    go_wp2
    go_ret
    exact ⟨rfl, HT3.out⟩

end Go.Proofs.YtkpgfchglaemgaaDoor
/-
  package flows: an operation with what a word stands for.
-/
namespace Go.Proofs.YtkpgfchglaemgaaDoor
set_option linter.unusedVariables false
set_option linter.unusedSimpArgs false
open Go.RowKit
attribute [local go_sem] Oper.semAt_some

def wvalP (N : Nm) (s : List UInt8) : Int := if (s == [118]) = true then N.v else numV (numP N s)
set_option maxRecDepth 100000 in
set_option maxHeartbeats 2000000 in
theorem flval_any (N : Nm) (hN : N.Ok) (s : ByteArray) (hs : s.size ≤ 18) (hok : (s.data.toList == [118] || okW s.data.toList) = true) (w : World) : Calls Tryd.prog 65 #[N.val, .string s] w fun e w' => e = .returned (.int .u64 (wvalP N s.data.toList)) ∧ Touch w w' [] := by
  have et : s.toList = s.data.toList := by simp [ByteArray.toList_eq]
  obtain ⟨x, hx⟩ : ∃ x, x = wvalP N s.data.toList := ⟨_, rfl⟩
  rw [← hx]
  unfold wvalP at hx
  have HT : Hid (∀ o, Touch w (w.alloc o) []) := fun o => (Touch.refl w []).alloc o
  cases h0 : s.toList == [118] with
  | true =>
    have hx2 : x = N.v := by rw [hx, if_pos (by rw [← et]; exact h0)]
    clear hx et hok hs hN
    subst hx2
    go_enter Tryd.func65, Tryd.ntmps65
    go_wp2
    go_ret
    exact ⟨rfl, HT.out _⟩
  | false =>
    rw [et] at h0
    rw [if_neg (by simp [h0])] at hx
    rw [h0, Bool.false_or] at hok
    have hb := numP_bound hN hok
    have HN : Hid (∀ W, HidC _ _ _ _ _) := fun W => ⟨flnum_any N hN s hs hok W⟩
    have HI : Hid (∀ W, HidC Tryd.prog 67 #[.int .i64 (numP N s.data.toList)] W fun e w' => e = .returned (.tuple #[.int .u64 x, .bool true]) ∧ Touch W w' []) := fun W => ⟨by rw [hx]; exact int_ok (numP N s.data.toList) (by omega) (by omega) W⟩
    rw [← et] at h0
    generalize numP N s.data.toList = y at *
    clear hx et hok hs hN hb
    go_enter Tryd.func65, Tryd.ntmps65
    go_wp2_with fail
    refine (HN.out _).out.mono ?_
    rintro e w1 ⟨rfl, t1⟩
    have HT1 : Hid _ := (HT.out _).trans t1 (by simp)
    clear HN t1 HT
    go_wp2_with fail
    refine (HI.out _).out.mono ?_
    rintro e w2 ⟨rfl, t2⟩
    have HT2 : Hid _ := HT1.out.trans t2 (by simp)
    clear HI t2 HT1
    go_wp2
    go_ret
    exact ⟨rfl, HT2.out⟩

def withP (N : Nm) (o : Int) (s : List UInt8) : InsD := if o = 1 then ⟨1, 0, wvalP N s⟩ else if o = 21 ∨ o = 19 ∨ o = 20 then ⟨o, N.a + numP N s, 0⟩ else ⟨o, numP N s, 0⟩
def okA (o : Int) (s : List UInt8) : Bool := if o = 1 then (s == [118] || okW s) else okW s
set_option maxRecDepth 100000 in
set_option maxHeartbeats 4000000 in
theorem flwith_any (N : Nm) (hN : N.Ok) (o : Int) (s : ByteArray) (hs : s.size ≤ 18) (hok : okA o s.data.toList = true) (w : World) : Calls Tryd.prog 60 #[N.val, .int .u8 o, .string s] w fun e w' => e = .returned (withP N o s.data.toList).v ∧ Touch w w' [] := by
  unfold okA at hok
  obtain ⟨X, hX⟩ : ∃ X, X = withP N o s.data.toList := ⟨_, rfl⟩
  rw [← hX]
  unfold withP at hX
  have HB : Hid (BoxI ((w.alloc (.cells #[.int .i64 N.a, .int .i64 N.t, .int .i64 N.s, .int .i64 N.l, .int .u64 N.v] 88)).alloc (.cells #[.int .u8 0, .int .i64 0, .int .u64 0] 62)) (w.heap.size + 1) 0 0 0) := by
    show BoxI _ _ _ _ _
    have := BoxI.new (w.alloc (.cells #[.int .i64 N.a, .int .i64 N.t, .int .i64 N.s, .int .i64 N.l, .int .u64 N.v] 88)) 0 0 0
    rwa [World.size_alloc] at this
  have HT : Hid (Touch w ((w.alloc (.cells #[.int .i64 N.a, .int .i64 N.t, .int .i64 N.s, .int .i64 N.l, .int .u64 N.v] 88)).alloc (.cells #[.int .u8 0, .int .i64 0, .int .u64 0] 62)) []) := ((Touch.refl w []).alloc _).alloc _
  have HS : Hid (∀ W, Touch ((w.alloc (.cells #[.int .i64 N.a, .int .i64 N.t, .int .i64 N.s, .int .i64 N.l, .int .u64 N.v] 88)).alloc (.cells #[.int .u8 0, .int .i64 0, .int .u64 0] 62)) W [w.heap.size + 1] → W.cell? ⟨w.heap.size, 0, none⟩ = some (.int .i64 N.a) ∧ W.cell? ⟨w.heap.size, 1, none⟩ = some (.int .i64 N.t) ∧ W.cell? ⟨w.heap.size, 2, none⟩ = some (.int .i64 N.s) ∧ W.cell? ⟨w.heap.size, 3, none⟩ = some (.int .i64 N.l) ∧ W.cell? ⟨w.heap.size, 4, none⟩ = some (.int .u64 N.v)) := fun W t => by
    have h1 : ((w.alloc (.cells #[.int .i64 N.a, .int .i64 N.t, .int .i64 N.s, .int .i64 N.l, .int .u64 N.v] 88)).alloc (.cells #[.int .u8 0, .int .i64 0, .int .u64 0] 62)).heap[w.heap.size]? = some (.cells #[.int .i64 N.a, .int .i64 N.t, .int .i64 N.s, .int .i64 N.l, .int .u64 N.v] 88 (0, 0)) := (heap_alloc_old _ _ (by simp)).trans (heap_alloc_new w _)
    have h2 : W.heap[w.heap.size]? = _ := (t.block _ (by simp; omega) (by simp)).trans h1
    unfold World.cell?
    rw [h2]
    exact ⟨rfl, rfl, rfl, rfl, rfl⟩
  by_cases h1 : o = 1
  · subst h1
    rw [if_pos rfl] at hX hok
    have HV : Hid (∀ W, HidC _ _ _ _ _) := fun W => ⟨flval_any N hN s hs hok W⟩
    generalize wvalP N s.data.toList = x at *
    subst hX
    clear hN hs hok HS
    go_enter Tryd.func60, Tryd.ntmps60
    go_wp2_with fail
    generalize ((w.alloc (.cells #[.int .i64 N.a, .int .i64 N.t, .int .i64 N.s, .int .i64 N.l, .int .u64 N.v] 88)).alloc (.cells #[.int .u8 0, .int .i64 0, .int .u64 0] 62)) = Q at *
    refine (HV.out _).out.mono ?_
    rintro e w1 ⟨rfl, t1⟩
    have hb1 := HB.out.touch t1 (by simp)
    obtain ⟨z0, z1, z2⟩ := hb1.cells
    have f0 := hb1.fr 0
    have f1 := hb1.fr 1
    have f2 := hb1.fr 2
    have HB1 : Hid _ := hb1
    have HT1 : Hid _ := HT.out.trans t1 (by simp)
    clear t1 hb1
    go_wp2
    have hb2 := ((HB1.out.set0 1).set1 0).set2 x
    obtain ⟨k0, k1, k2⟩ := hb2.cells
    refine bodyPost_ret (v := .agg #[.int .u8 1, .int .i64 0, .int .u64 x]) ?_ rfl ⟨rfl, ?_⟩
    · rw [res_cellC rfl]
      simp [go_sem, k0, k1, k2]
    · exact HT1.out.trans ((((Touch.refl w1 [w.heap.size + 1]).setCell (.inl (by simp)) _).setCell (.inl (by simp)) _).setCell (.inl (by simp)) _) (fun k hk => .inr (by simp at hk; omega))
  · rw [if_neg h1] at hX hok
    have HN : Hid (∀ W, HidC _ _ _ _ _) := fun W => ⟨flnum_any N hN s hs hok W⟩
    have hb := numP_bound hN hok
    have ha := hN.a
    have hwr : IntKind.i64.wrap (N.a + numP N s.data.toList) = N.a + numP N s.data.toList := by rw [IntKind.wrap_i64]; omega
    clear hN hs hok
    generalize numP N s.data.toList = x at *
    by_cases h2 : o = 21 ∨ o = 19 ∨ o = 20
    · rw [if_pos h2] at hX
      subst hX
      have hd : Touch ((w.alloc (.cells #[.int .i64 N.a, .int .i64 N.t, .int .i64 N.s, .int .i64 N.l, .int .u64 N.v] 88)).alloc (.cells #[.int .u8 0, .int .i64 0, .int .u64 0] 62)) ((w.alloc (.cells #[.int .i64 N.a, .int .i64 N.t, .int .i64 N.s, .int .i64 N.l, .int .u64 N.v] 88)).alloc (.cells #[.int .u8 0, .int .i64 0, .int .u64 0] 62)).drew [] := (Touch.refl _ []).drew
      have HW : Hid _ := hwr
      rcases h2 with rfl | rfl | rfl
      · go_enter Tryd.func60, Tryd.ntmps60
        go_wp2_with fail
        generalize ((w.alloc (.cells #[.int .i64 N.a, .int .i64 N.t, .int .i64 N.s, .int .i64 N.l, .int .u64 N.v] 88)).alloc (.cells #[.int .u8 0, .int .i64 0, .int .u64 0] 62)) = Q at *
        go_region_held3 (fun w' => w'.cell? ⟨w.heap.size, 0, none⟩ = some (.int .i64 N.a) ∧ w'.cell? ⟨w.heap.size, 1, none⟩ = some (.int .i64 N.t) ∧ w'.cell? ⟨w.heap.size, 2, none⟩ = some (.int .i64 N.s) ∧ w'.cell? ⟨w.heap.size, 3, none⟩ = some (.int .i64 N.l) ∧ w'.cell? ⟨w.heap.size, 4, none⟩ = some (.int .u64 N.v)) ((first | exact HS.out _ (hd.mono (by simp)) | exact HS.out _ (t1.mono (by simp)) | exact HS.out _ ((((t1.mono (by simp)).setCell (.inl (by simp)) _).setCell (.inl (by simp)) _).setCell (.inl (by simp)) _))) ((go_at_call 66; refine (HN.out _).out.mono ?_; rintro e w1 ⟨rfl, t1'⟩; have t1 : Touch Q w1 [] := hd.trans t1' (by simp); have hb1 := HB.out.touch t1 (by simp); have f0 := hb1.fr 0; have f1 := hb1.fr 1; have f2 := hb1.fr 2; obtain ⟨z0, z1, z2⟩ := hb1.cells))
        rename_i hHeld
        clear hHeld
        have hb2 := ((hb1.set0 21).set1 (N.a + x)).set2 0
        have HB2 : Hid _ := hb2
        have HT2 : Hid (Touch w (((w1.setCell ⟨w.heap.size + 1, 0, none⟩ (.int .u8 21)).setCell ⟨w.heap.size + 1, 1, none⟩ (.int .i64 (N.a + x))).setCell ⟨w.heap.size + 1, 2, none⟩ (.int .u64 0)) []) := (HT.out.trans t1 (by simp)).trans ((((Touch.refl w1 [w.heap.size + 1]).setCell (.inl (by simp)) _).setCell (.inl (by simp)) _).setCell (.inl (by simp)) _) (fun k hk => .inr (by simp at hk; omega))
        clear hb1 hb2 t1 t1' f0 f1 f2 z0 z1 z2
        go_wp2
        obtain ⟨k0, k1, k2⟩ := HB2.out.cells
        refine bodyPost_ret (v := .agg #[.int .u8 21, .int .i64 (N.a + x), .int .u64 0]) ?_ rfl ⟨rfl, ?_⟩
        · rw [res_cellC rfl]
          simp [go_sem, k0, k1, k2]
        · exact HT2.out
      · go_enter Tryd.func60, Tryd.ntmps60
        go_wp2_with fail
        generalize ((w.alloc (.cells #[.int .i64 N.a, .int .i64 N.t, .int .i64 N.s, .int .i64 N.l, .int .u64 N.v] 88)).alloc (.cells #[.int .u8 0, .int .i64 0, .int .u64 0] 62)) = Q at *
        go_region_held3 (fun w' => w'.cell? ⟨w.heap.size, 0, none⟩ = some (.int .i64 N.a) ∧ w'.cell? ⟨w.heap.size, 1, none⟩ = some (.int .i64 N.t) ∧ w'.cell? ⟨w.heap.size, 2, none⟩ = some (.int .i64 N.s) ∧ w'.cell? ⟨w.heap.size, 3, none⟩ = some (.int .i64 N.l) ∧ w'.cell? ⟨w.heap.size, 4, none⟩ = some (.int .u64 N.v)) ((first | exact HS.out _ (hd.mono (by simp)) | exact HS.out _ (t1.mono (by simp)) | exact HS.out _ ((((t1.mono (by simp)).setCell (.inl (by simp)) _).setCell (.inl (by simp)) _).setCell (.inl (by simp)) _))) ((go_at_call 66; refine (HN.out _).out.mono ?_; rintro e w1 ⟨rfl, t1'⟩; have t1 : Touch Q w1 [] := hd.trans t1' (by simp); have hb1 := HB.out.touch t1 (by simp); have f0 := hb1.fr 0; have f1 := hb1.fr 1; have f2 := hb1.fr 2; obtain ⟨z0, z1, z2⟩ := hb1.cells))
        rename_i hHeld
        clear hHeld
        have hb2 := ((hb1.set0 19).set1 (N.a + x)).set2 0
        have HB2 : Hid _ := hb2
        have HT2 : Hid (Touch w (((w1.setCell ⟨w.heap.size + 1, 0, none⟩ (.int .u8 19)).setCell ⟨w.heap.size + 1, 1, none⟩ (.int .i64 (N.a + x))).setCell ⟨w.heap.size + 1, 2, none⟩ (.int .u64 0)) []) := (HT.out.trans t1 (by simp)).trans ((((Touch.refl w1 [w.heap.size + 1]).setCell (.inl (by simp)) _).setCell (.inl (by simp)) _).setCell (.inl (by simp)) _) (fun k hk => .inr (by simp at hk; omega))
        clear hb1 hb2 t1 t1' f0 f1 f2 z0 z1 z2
        go_wp2
        obtain ⟨k0, k1, k2⟩ := HB2.out.cells
        refine bodyPost_ret (v := .agg #[.int .u8 19, .int .i64 (N.a + x), .int .u64 0]) ?_ rfl ⟨rfl, ?_⟩
        · rw [res_cellC rfl]
          simp [go_sem, k0, k1, k2]
        · exact HT2.out
      · go_enter Tryd.func60, Tryd.ntmps60
        go_wp2_with fail
        generalize ((w.alloc (.cells #[.int .i64 N.a, .int .i64 N.t, .int .i64 N.s, .int .i64 N.l, .int .u64 N.v] 88)).alloc (.cells #[.int .u8 0, .int .i64 0, .int .u64 0] 62)) = Q at *
        go_region_held3 (fun w' => w'.cell? ⟨w.heap.size, 0, none⟩ = some (.int .i64 N.a) ∧ w'.cell? ⟨w.heap.size, 1, none⟩ = some (.int .i64 N.t) ∧ w'.cell? ⟨w.heap.size, 2, none⟩ = some (.int .i64 N.s) ∧ w'.cell? ⟨w.heap.size, 3, none⟩ = some (.int .i64 N.l) ∧ w'.cell? ⟨w.heap.size, 4, none⟩ = some (.int .u64 N.v)) ((first | exact HS.out _ (hd.mono (by simp)) | exact HS.out _ (t1.mono (by simp)) | exact HS.out _ ((((t1.mono (by simp)).setCell (.inl (by simp)) _).setCell (.inl (by simp)) _).setCell (.inl (by simp)) _))) ((go_at_call 66; refine (HN.out _).out.mono ?_; rintro e w1 ⟨rfl, t1'⟩; have t1 : Touch Q w1 [] := hd.trans t1' (by simp); have hb1 := HB.out.touch t1 (by simp); have f0 := hb1.fr 0; have f1 := hb1.fr 1; have f2 := hb1.fr 2; obtain ⟨z0, z1, z2⟩ := hb1.cells))
        rename_i hHeld
        clear hHeld
        have hb2 := ((hb1.set0 20).set1 (N.a + x)).set2 0
        have HB2 : Hid _ := hb2
        have HT2 : Hid (Touch w (((w1.setCell ⟨w.heap.size + 1, 0, none⟩ (.int .u8 20)).setCell ⟨w.heap.size + 1, 1, none⟩ (.int .i64 (N.a + x))).setCell ⟨w.heap.size + 1, 2, none⟩ (.int .u64 0)) []) := (HT.out.trans t1 (by simp)).trans ((((Touch.refl w1 [w.heap.size + 1]).setCell (.inl (by simp)) _).setCell (.inl (by simp)) _).setCell (.inl (by simp)) _) (fun k hk => .inr (by simp at hk; omega))
        clear hb1 hb2 t1 t1' f0 f1 f2 z0 z1 z2
        go_wp2
        obtain ⟨k0, k1, k2⟩ := HB2.out.cells
        refine bodyPost_ret (v := .agg #[.int .u8 20, .int .i64 (N.a + x), .int .u64 0]) ?_ rfl ⟨rfl, ?_⟩
        · rw [res_cellC rfl]
          simp [go_sem, k0, k1, k2]
        · exact HT2.out
    · rw [if_neg h2] at hX
      subst hX
      have g1 : o ≠ 21 := by omega
      have g2 : o ≠ 19 := by omega
      have g3 : o ≠ 20 := by omega
      clear hb ha hwr HS h2
      go_enter Tryd.func60, Tryd.ntmps60
      go_wp2_with fail
      generalize ((w.alloc (.cells #[.int .i64 N.a, .int .i64 N.t, .int .i64 N.s, .int .i64 N.l, .int .u64 N.v] 88)).alloc (.cells #[.int .u8 0, .int .i64 0, .int .u64 0] 62)) = Q at *
      refine (HN.out _).out.mono ?_
      rintro e w1 ⟨rfl, t1⟩
      have hb1 := HB.out.touch t1 (by simp)
      obtain ⟨z0, z1, z2⟩ := hb1.cells
      have f0 := hb1.fr 0
      have f1 := hb1.fr 1
      have f2 := hb1.fr 2
      have HB1 : Hid _ := hb1
      have HT1 : Hid _ := HT.out.trans t1 (by simp)
      clear t1 hb1
      go_wp2
      have hb2 := ((HB1.out.set0 o).set1 x).set2 0
      obtain ⟨k0, k1, k2⟩ := hb2.cells
      refine bodyPost_ret (v := .agg #[.int .u8 o, .int .i64 x, .int .u64 0]) ?_ rfl ⟨rfl, ?_⟩
      · rw [res_cellC rfl]
        simp [go_sem, k0, k1, k2]
      · exact HT1.out.trans ((((Touch.refl w1 [w.heap.size + 1]).setCell (.inl (by simp)) _).setCell (.inl (by simp)) _).setCell (.inl (by simp)) _) (fun k hk => .inr (by simp at hk; omega))

end Go.Proofs.YtkpgfchglaemgaaDoor
/-
  A loop over a function that goes through a string and yields two values: a law of our own.
-/
namespace Go.Proofs.YtkpgfchglaemgaaDoor
set_option linter.unusedVariables false
set_option linter.unusedSimpArgs false
open Go.RowKit Go.Shelf

theorem Touch.putObj {a w : World} {S : List Nat} (h : Touch a w S) {l : Nat} (hl : l ∈ S ∨ a.heap.size ≤ l) (o : Obj) : Touch a (w.putObj l o) S :=
  h.trans (R := [l]) ⟨rfl, rfl, rfl, by simp, fun k _ hk => World.putObj_heap_other (by simpa using hk)⟩ (by simpa using hl)

theorem keeps_of_touch {W W' : World} {S : List Nat} (t : Touch W W' S) (hS : ∀ x ∈ S, ∃ cs ty fr, W.heap[x]? = some (.cells cs ty fr)) : KeepsOthers W W' :=
  ⟨t.size, fun k o hk ho => (t.block k (lt_of_heap hk) (fun hs => by
    obtain ⟨cs, ty, fr, e⟩ := hS k hs
    rw [hk] at e
    cases e
    simp [Obj.isCells] at ho)).trans hk⟩

/-- One cell of its own. -/
abbrev One (W : World) (p : Nat) (v : Value) (t : TypeId) : Prop := W.heap[p]? = some (.cells #[v] t (0, 0))
theorem One.cell {W : World} {p : Nat} {v : Value} {t : TypeId} (h : One W p v t) : W.cell? ⟨p, 0, none⟩ = some v := by simp [World.cell?, h]
theorem One.frozen {W : World} {p : Nat} {v : Value} {t : TypeId} (h : One W p v t) : W.frozen? ⟨p, 0, none⟩ = false := by simp [World.frozen?, h]
theorem One.set {W : World} {p : Nat} {v : Value} {t : TypeId} (h : One W p v t) (u : Value) : One (W.setCell ⟨p, 0, none⟩ u) p u t := by
  unfold One at *
  simp [World.setCell, Array.getElem?_modify, h]
theorem one_new (w : World) (v : Value) (t : TypeId) : One (w.alloc (.cells #[v] t)) w.heap.size v t := heap_alloc_new w _
theorem One.alloc {W : World} {p : Nat} {v : Value} {t : TypeId} (h : One W p v t) (o : Obj) : One (W.alloc o) p v t := (heap_alloc_old _ _ (lt_of_heap h)).trans h
theorem One.touch {W W' : World} {p : Nat} {v : Value} {t : TypeId} {S : List Nat} (h : One W p v t) (T : Touch W W' S) (hS : p ∉ S) : One W' p v t := (T.block _ (lt_of_heap h) hS).trans h

theorem wpIn_name {F : Fence} {n : Nat} {P : Program} {c : Code} {Q : Exit → Act → World → Prop} {a : Act} {w : World} (h : ∀ W, W = w → c.wpIn F n P Q a W) : c.wpIn F n P Q a w := h w rfl

/-- The jump by which a body leaves: a return, or the loop's own end. -/
def jE : Option Nat → Exit | none => .ret | some i => .exit i
def jC : Option Nat → Code | none => .ret | some i => .exit i

/-- The record of the loop. -/
def recAt (fn : FuncId) (a : Act) (ps : Array Tmp) (assign body : Code) (D : Nat) (st : LoopState) (pd : Option Code) : Loop := { state := st, pending := pd, fn := fn, tmps := a.tmps, params := ps, assign := assign, body := body, defers := D }

/-- What is kept, and the loop's two blocks beside it. -/
def Kept (I : Nat → World → Prop) (r : Loop) (l D : Nat) (k : Nat) (W : World) : Prop := I k W ∧ W.heap[l]? = some (.loop r) ∧ W.heap[D]? = some (.deferred (some []))
/-- What is left. -/
def LeftX (X : World → Prop) (r : Loop) (l D : Nat) (W : World) : Prop := X W ∧ W.heap[l]? = some (.loop r) ∧ W.heap[D]? = some (.deferred (some []))

/-- Iterators over strings are as they were. -/
def KS (W W' : World) : Prop := ∀ (g : Nat) (s : ByteArray) (p : Nat), W.heap[g]? = some (Obj.stringIter s p) → W'.heap[g]? = some (Obj.stringIter s p)
theorem KS.refl (W : World) : KS W W := fun _ _ _ h => h
theorem KS.trans {W W1 W2 : World} (h : KS W W1) (k : KS W1 W2) : KS W W2 := fun g s p e => k g s p (h g s p e)
theorem KS.putObj {W : World} {l : Nat} {r : Loop} (h : W.heap[l]? = some (.loop r)) (o : Obj) : KS W (W.putObj l o) := fun g s p e => by
  have hne : g ≠ l := fun q => by rw [q, h] at e; cases e
  exact (World.putObj_heap_other hne).trans e
theorem KS.touch {W W' : World} {S : List Nat} (t : Touch W W' S) (hS : ∀ x ∈ S, ∃ cs ty fr, W.heap[x]? = some (.cells cs ty fr)) : KS W W' := fun g s p e => (t.block g (lt_of_heap e) (fun hs => by
  obtain ⟨cs, ty, fr, h⟩ := hS g hs
  rw [e] at h
  cases h)).trans e

def YPostS (J : Nat → World → Prop) (X : World → Prop) (k : Nat) (W : World) (e : Ending) (W' : World) : Prop := (e = .returned (.bool true) ∧ J (k + 1) W' ∧ KS W W') ∨ (e = .returned (.bool false) ∧ X W')
def BPostS (I : Nat → World → Prop) (X : World → Prop) (oid : Option Nat) (W : World) (k : Nat) (e : Exit) (_ : Act) (W' : World) : Prop := KeepsOthers W W' ∧ ((e = .normal ∧ I (k + 1) W' ∧ KS W W') ∨ (e = jE oid ∧ X W'))

/-- A loop over a function that yields, whose body writes; the function's own iterator over a string is kept. -/
theorem rangeFunc_str {P : Program} {n : Nat} {g : Operand} {ps : Array Tmp} {assign body : Code} {Q : Exit → Act → World → Prop} {a : Act} {w : World} (h1 : 1 ≤ n) {gf : Nat} {lb : Array Value}
    (hg : a.eval g = .func (.func gf) #[] lb) (eg : ∀ args w, (callFunc gf args).run P w = .ok (.enter gf args) w) (vals : Nat → Array Value) (hps : ∀ k, ps.size = (vals k).size) (oid : Option Nat) (ok : Nat → Prop)
    (I : Nat → World → Prop) (X : World → Prop) (len : Nat)
    (hput : ∀ k W l o o', I k W → (l = w.heap.size ∨ l = w.heap.size + 1) → W.heap[l]? = some o → o.isCells = false → I k (W.putObj l o'))
    (hputX : ∀ W l o o', X W → (l = w.heap.size ∨ l = w.heap.size + 1) → W.heap[l]? = some o → o.isCells = false → X (W.putObj l o')) (hnew : ∀ k W o, I k W → I k (W.alloc o))
    (h0 : I 0 w) (a₁ : Nat → Act)
    (hseq : ∀ (J : Nat → World → Prop) (Y : World → Prop) (W : World), (∀ k W, J k W → I k W) → (∀ k k' W W' S, J k W → I k' W' → Touch W W' S → w.heap.size ∉ S → w.heap.size + 1 ∉ S → J k' W') → W.heap.size = w.heap.size + 2 → J 0 W → (∀ k W, ok k → J k W → YieldAt Fence.wide (n - 1 - 1) P (w.heap.size + 1) (vals k) W (YPostS J Y k W)) →
      CallsIn Fence.wide (n - 1) P gf (#[.func (.yield (w.heap.size + 1)) #[] #[]] ++ lb) W fun e W' => (∃ v, e = .returned v) ∧ (J len W' ∨ Y W'))
    (hassign : ∀ (l k : Nat) (W : World) (K : Act → World → Prop), K (a₁ k) W →
      assign.wpIn (Fence.wide.inRound l) (n - 1 - 1) P (Exit.then K (fun _ _ _ => False)) { tmps := (ps.zip (vals k)).foldl (fun t (p, v) => t.setIfInBounds p v) a.tmps, defers := [] } W)
    (hbody : ∀ (l k : Nat) (W : World), ok k → I k W → body.wpIn (Fence.wide.inRound l) (n - 1 - 1) P (BPostS I X oid W k) (a₁ k) W)
    (hdone : ∀ (W : World), I len W → W.heap[w.heap.size]? = some (.deferred (some [])) → Q .normal { a with defers := { target := .collected w.heap.size, args := #[] } :: a.defers } W)
    (hleft : ∀ (W : World), X W → W.heap[w.heap.size]? = some (.deferred (some [])) → (jC oid).wpIn Fence.wide n P Q { a with defers := { target := .collected w.heap.size, args := #[] } :: a.defers } W) :
    (Code.rangeFunc g ps assign body).wpIn Fence.wide n P Q a w := by
  refine wpIn_rangeFunc fun fn hfn => ?_
  obtain ⟨r0, hr0⟩ : ∃ r0, recAt fn a ps assign body w.heap.size .ready none = r0 := ⟨_, rfl⟩
  obtain ⟨rx, hrx⟩ : ∃ rx, recAt fn a ps assign body w.heap.size .done (some (jC oid)) = rx := ⟨_, rfl⟩
  have hk0 : ((w.alloc (.deferred (some []))).alloc (.loop r0)).heap[w.heap.size]? = some (.deferred (some [])) := (Below.heap_alloc _ _ _ (by simp)).trans (World.alloc_heap_new w _)
  have hl0 : ((w.alloc (.deferred (some []))).alloc (.loop r0)).heap[w.heap.size + 1]? = some (.loop r0) := by
    have := World.alloc_heap_new (w.alloc (.deferred (some []))) (.loop r0)
    rwa [World.size_alloc] at this
  have hs := hseq (Kept I r0 (w.heap.size + 1) w.heap.size) (LeftX X rx (w.heap.size + 1) w.heap.size) ((w.alloc (.deferred (some []))).alloc (.loop r0))
    (fun k W h => h.1) (fun k k' W W' S h hi t hs1 hs2 => ⟨hi, (t.block _ (lt_of_heap h.2.1) hs2).trans h.2.1, (t.block _ (lt_of_heap h.2.2) hs1).trans h.2.2⟩) (by simp) ⟨hnew _ _ _ (hnew _ _ _ h0), hl0, hk0⟩ ?_
  · refine ⟨w.heap.size + 1, [{ target := .collected w.heap.size, args := #[] }], (w.alloc (.deferred (some []))).alloc (.loop r0), { target := .fn (.func gf) lb, args := #[.func (.yield (w.heap.size + 1)) #[] #[]] }, (w.alloc (.deferred (some []))).alloc (.loop r0), gf,
      #[.func (.yield (w.heap.size + 1)) #[] #[]] ++ lb, (w.alloc (.deferred (some []))).alloc (.loop r0), ?_, ?_, ?_, ?_, fun _ => h1, ?_⟩
    · rw [← hr0]; exact run_enterLoop_outer _ _ _ _ _
    · simp only [resolve, hg]
      simp [go_sem]
    · intro f' hf'; trivial
    · simp [invoke, go_sem, eg]
    · refine hs.mono ?_
      rintro e W2 ⟨⟨v, rfl⟩, (⟨hi, hl, hd⟩ | ⟨hx, hl, hd⟩)⟩
      · have hen := run_endLoop (P := P) hl (by rw [← hr0]; simp [recAt])
        have hp : r0.pending = none := by rw [← hr0]; rfl
        rw [hp] at hen
        exact ⟨none, _, hen, hdone _ (hput _ _ _ _ _ hi (.inr rfl) hl rfl) ((World.putObj_heap_other (by omega)).trans hd)⟩
      · have hen := run_endLoop (P := P) hl (by rw [← hrx]; simp [recAt])
        have hp : rx.pending = some (jC oid) := by rw [← hrx]; rfl
        rw [hp] at hen
        exact ⟨some (jC oid), _, hen, hleft _ (hputX _ _ _ _ hx (.inr rfl) hl rfl) ((World.putObj_heap_other (by omega)).trans hd)⟩
  · rintro k W hk ⟨hi, hl, hd⟩
    have hlt : w.heap.size + 1 < W.heap.size := (Array.getElem?_eq_some_iff.1 hl).1
    have hy := run_yield (P := P) (args := (vals k)) hl (by rw [← hr0]; simp [recAt, hps k])
    refine ⟨_, _, _, _, hy, roundIn_of_wpIn (by trivial) ?_⟩
    have hla : W.heap[w.heap.size + 1]? = some (.loop r0) := hl
    have hda : W.heap[w.heap.size]? = some (.deferred (some [])) := hd
    have hbe := run_beginRound (P := P) hla (by rw [← hr0]; rfl)
    subst hr0
    subst hrx
    refine hassign _ k W _ ⟨_, hbe, ?_⟩
    have hl2 : (W.putObj (w.heap.size + 1) (.loop { recAt fn a ps assign body w.heap.size .ready none with state := .busy })).heap[w.heap.size + 1]? = some (.loop { recAt fn a ps assign body w.heap.size .ready none with state := .busy }) := World.putObj_heap_same (by omega)
    have hd2 : (W.putObj (w.heap.size + 1) (.loop { recAt fn a ps assign body w.heap.size .ready none with state := .busy })).heap[w.heap.size]? = some (.deferred (some [])) := (World.putObj_heap_other (by omega)).trans hda
    refine wpIn_mono (hbody _ k _ hk (hput _ _ _ _ _ hi (.inr rfl) hla rfl)) ?_
    have hke : KS W (W.putObj (w.heap.size + 1) (.loop { recAt fn a ps assign body w.heap.size .ready none with state := .busy })) := KS.putObj hla _
    rintro e a3 W3 ⟨hko, (⟨rfl, hi3, hk3⟩ | ⟨rfl, hx3⟩)⟩
    · have hl3 := hko.same _ _ hl2 rfl
      have hd3 := hko.same _ _ hd2 rfl
      have hen := run_endRound (P := P) none hl3
      exact ⟨_, _, hen, .inl ⟨rfl, ⟨hput _ _ _ _ _ hi3 (.inr rfl) hl3 rfl, World.putObj_heap_same (Array.getElem?_eq_some_iff.1 hl3).1, (World.putObj_heap_other (by omega)).trans hd3⟩, (hke.trans hk3).trans (KS.putObj hl3 _)⟩⟩
    · have hl3 := hko.same _ _ hl2 rfl
      have hd3 := hko.same _ _ hd2 rfl
      cases oid with
      | none =>
        have hen := run_endRound (P := P) (some .ret) hl3
        exact ⟨_, _, hen, .inr ⟨rfl, hputX _ _ _ _ hx3 (.inr rfl) hl3 rfl, World.putObj_heap_same (Array.getElem?_eq_some_iff.1 hl3).1, (World.putObj_heap_other (by omega)).trans hd3⟩⟩
      | some i =>
        have hen := run_endRound (P := P) (some (.exit i)) hl3
        exact ⟨_, _, hen, .inr ⟨rfl, hputX _ _ _ _ hx3 (.inr rfl) hl3 rfl, World.putObj_heap_same (Array.getElem?_eq_some_iff.1 hl3).1, (World.putObj_heap_other (by omega)).trans hd3⟩⟩


end Go.Proofs.YtkpgfchglaemgaaDoor
/-
  package flows: the words of a line, yielded one by one.
-/
namespace Go.Proofs.YtkpgfchglaemgaaDoor
set_option linter.unusedVariables false
set_option linter.unusedSimpArgs false
open Go.RowKit Go.Shelf
attribute [local go_sem] Oper.semAt_some

theorem Touch.iterAt {a w : World} {S : List Nat} (h : Touch a w S) {k : Nat} (hk : k ∈ S ∨ a.heap.size ≤ k) (s : ByteArray) (p : Nat) : Touch a (w.iterAt k s p) S := h.putObj hk (.stringIter s p)
def pieceS (s : ByteArray) (p k : Nat) : ByteArray := if k = 0 then s.extract 0 p else s.extract (p + 1) s.size

set_option maxRecDepth 100000 in
set_option maxHeartbeats 4000000 in
theorem words1_in (n : Nat) (hn : 1 ≤ n) (yl q S0 p : Nat) (s : ByteArray) (hs : s.size ≤ 40) (hasc : ∀ i (h : i < s.size), (s[i]'h).toNat < 128) (hp : p ≤ s.size) (hb : ∀ i (h : i < s.size), (s[i]'h).toNat = 32 ↔ i = p) (J : Nat → World → Prop) (X : World → Prop)
    (hq : ∀ k W, J k W → W.cell? ⟨q, 0, none⟩ = some (.string s))
    (hA : ∀ k W W' S, J k W → Touch W W' S → (∀ x ∈ S, S0 + 2 ≤ x ∧ ∃ i j, W.heap[x]? = some (.stringIter i j)) → J k W')
    (hY : ∀ k W, (k = 0 ∨ (k = 1 ∧ p < s.size)) → J k W → YieldAt Fence.wide (n - 1) Tryd.prog yl #[.int .i64 k, .string (pieceS s p k)] W (YPostS J X k W))
    (W : World) (hW : W.heap.size = S0 + 2) (hJ : J 0 W) :
    CallsIn Fence.wide n Tryd.prog 63 #[.func (.yield yl) #[] #[], .pointer (some ⟨q, 0, none⟩)] W fun e W' => (∃ v, e = .returned v) ∧ (J (if p < s.size then 2 else 1) W' ∨ X W') := by
  have c0 := hq 0 W hJ
  have HQ : Hid _ := hq
  have HA : Hid _ := hA
  have HY : Hid _ := hY
  have HB : Hid _ := hb
  have HASC : Hid _ := hasc
  have HJ0 : Hid (J 0 (W.iter s 0)) := hA 0 W _ [] hJ ((Touch.refl W []).alloc _) (by simp)
  have HI0 : Hid ((W.iter s 0).heap[W.heap.size]? = some (.stringIter s 0)) := World.iter_heap W s 0
  have HW : Hid (S0 + 2 ≤ W.heap.size) := by show _ ≤ _; omega
  clear hq hA hY hb hJ hW hasc
  refine callsIn_of_wp Tryd.func63 rfl trivial ?_ rfl
  simp only [Tryd.ntmps63, List.size_toArray, List.length_cons, List.length_nil, Nat.reduceAdd, Nat.reduceSub, Array.replicate_succ, Array.replicate_zero, List.push_toArray, List.append_toArray, List.nil_append, List.cons_append]
  gi_wp2_with fail
  generalize W.heap.size = it at *
  generalize W.iter s 0 = W1 at *
  gi_loopw [3, 4] (fun c b wr => ∃ pos : Nat, pos ≤ s.size ∧ wr.heap[it]? = some (.stringIter s pos) ∧ c = .int .i64 (if p < pos then 1 else 0) ∧ b = .int .i64 (if p < pos then (p : Int) + 1 else 0) ∧ J (if p < pos then 1 else 0) wr) (fun _ _ wr => s.size + 1 - wr.iterPos it)
  case atStart => exact ⟨0, Nat.zero_le _, HI0.out, by simp, by simp, by simpa using HJ0.out⟩
  case round =>
    obtain ⟨pos, hpos, hit, rfl, rfl, hJ⟩ := hrel
    have HIT0 : Hid _ := hit
    have hIN : ∀ x ∈ [it], S0 + 2 ≤ x ∧ ∃ i j, wr.heap[x]? = some (.stringIter i j) := fun x hx => by rw [List.mem_singleton.1 hx]; exact ⟨HW.out, _, _, hit⟩
    by_cases hlt : pos < s.size
    · have ha := HASC.out pos hlt
      have hbb := HB.out pos hlt
      have nx := fun ty => Lib.run_next_ascii_at (P := Tryd.prog) wr it s pos ty hit hlt ha
      have hJ1 := HA.out _ wr (wr.iterAt it s (pos + 1)) [it] hJ ((Touch.refl wr [it]).iterAt (.inl (by simp)) s (pos + 1)) hIN
      have hit1 := Lib.iterAt_heap wr it s pos (pos + 1) hit
      obtain ⟨ch, hch⟩ : ∃ ch, ch = (s[pos]'hlt).toNat := ⟨_, rfl⟩
      rw [← hch] at hbb ha
      simp only [← hch] at nx
      have HIT1 : Hid _ := hit1
      have HIP : Hid _ := iterPos_of hit
      have c1 := HQ.out _ _ hJ1
      have HJ1 : Hid _ := hJ1
      clear hch hit hit1 hIN hJ hJ1 c0
      generalize (wr.iterAt it s (pos + 1)) = wr1 at *
      by_cases hpp : pos = p
      · have h32 : (ch : Int) = 32 := by have := hbb.2 hpp; omega
        have hyy := HY.out 0 wr1 (.inl rfl) (by have := HJ1.out; rwa [if_neg (by omega)] at this)
        rw [show pieceS s p 0 = s.extract 0 p from rfl, show ((0 : Nat) : Int) = 0 from rfl] at hyy
        have hnp : ¬ p < pos := by omega
        obtain ⟨fn, tmps, assign, body, hy, hR⟩ := hyy
        simp only [if_neg hnp]
        subst hpp
        have hp0 : (0 : Int) ≤ pos := by omega
        have hp1 : (pos : Int) < s.size := by omega
        clear hbb
        gi_wp2
        refine hR.mono ?_
        rintro x W3 (⟨rfl, hJ3, hks⟩ | ⟨rfl, hX⟩)
        · have HJ3 : Hid _ := hJ3
          have HIT3 : Hid _ := hks _ _ _ HIT1.out
          clear hJ3 hks hy hR
          gi_wp2
          refine ⟨⟨pos + 1, by omega, HIT3.out, by rw [if_pos (by omega)], by rw [if_pos (by omega)], by rw [if_pos (by omega)]; exact HJ3.out⟩, ?_⟩
          rw [iterPos_of HIT3.out, HIP.out]; omega
        · have HX : Hid _ := hX
          clear hX hy hR
          gi_wp2
          refine bodyPost_ret (v := .tuple #[]) ?_ rfl ⟨⟨_, rfl⟩, .inr HX.out⟩
          simp [results, Tryd.results63, go_sem]
      · have h32 : (ch : Int) ≠ 32 := by intro h; exact hpp (hbb.1 (by omega))
        clear hbb
        gi_wp2
        refine ⟨⟨pos + 1, by omega, HIT1.out, ?_, ?_, ?_⟩, ?_⟩
        · by_cases h : p < pos
          · rw [if_pos h, if_pos (by omega)]
          · rw [if_neg h, if_neg (by omega)]
        · by_cases h : p < pos
          · rw [if_pos h, if_pos (by omega)]
          · rw [if_neg h, if_neg (by omega)]
        · have := HJ1.out
          by_cases h : p < pos
          · rw [if_pos h] at this; rw [if_pos (by omega)]; exact this
          · rw [if_neg h] at this; rw [if_neg (by omega)]; exact this
        · rw [iterPos_of HIT1.out, HIP.out]; omega
    · have nx := fun ty => Lib.run_next_end_at (P := Tryd.prog) wr it s pos ty hit hlt
      obtain rfl : pos = s.size := by omega
      have c1 := HQ.out _ _ hJ
      clear hit hIN c0 HIT0
      by_cases hps : p < s.size
      · simp only [if_pos hps] at hJ ⊢
        have hyy := HY.out 1 wr (.inr ⟨rfl, hps⟩) hJ
        rw [show pieceS s p 1 = s.extract (p + 1) s.size from rfl, show ((1 : Nat) : Int) = 1 from rfl] at hyy
        obtain ⟨fn, tmps, assign, body, hy, hR⟩ := hyy
        have hp0 : (0 : Int) ≤ (p : Int) + 1 := by omega
        have hp1 : (p : Int) + 1 ≤ s.size := by omega
        clear hJ
        gi_wp2
        refine hR.mono ?_
        rintro x W3 (⟨rfl, hJ3, hks⟩ | ⟨rfl, hX⟩)
        · have HJ3 : Hid _ := hJ3
          clear hJ3 hks hy hR
          gi_wp2
          refine bodyPost_end (v := .tuple #[]) ?_ rfl ⟨⟨_, rfl⟩, .inl HJ3.out⟩
          simp [results, Tryd.results63, go_sem]
        · have HX : Hid _ := hX
          clear hX hy hR
          gi_wp2
          refine bodyPost_end (v := .tuple #[]) ?_ rfl ⟨⟨_, rfl⟩, .inr HX.out⟩
          simp [results, Tryd.results63, go_sem]
      · simp only [if_neg hps] at hJ ⊢
        have hyy := HY.out 0 wr (.inl rfl) hJ
        obtain rfl : p = s.size := by omega
        rw [show pieceS s s.size 0 = s from by simp [pieceS], show ((0 : Nat) : Int) = 0 from rfl] at hyy
        obtain ⟨fn, tmps, assign, body, hy, hR⟩ := hyy
        clear hJ
        gi_wp2
        refine hR.mono ?_
        rintro x W3 (⟨rfl, hJ3, hks⟩ | ⟨rfl, hX⟩)
        · have HJ3 : Hid _ := hJ3
          clear hJ3 hks hy hR
          gi_wp2
          refine bodyPost_end (v := .tuple #[]) ?_ rfl ⟨⟨_, rfl⟩, .inl HJ3.out⟩
          simp [results, Tryd.results63, go_sem]
        · have HX : Hid _ := hX
          clear hX hy hR
          gi_wp2
          refine bodyPost_end (v := .tuple #[]) ?_ rfl ⟨⟨_, rfl⟩, .inr HX.out⟩
          simp [results, Tryd.results63, go_sem]

end Go.Proofs.YtkpgfchglaemgaaDoor
/-
  package flows: the instruction that a line tells.
-/
namespace Go.Proofs.YtkpgfchglaemgaaDoor
set_option linter.unusedVariables false
set_option linter.unusedSimpArgs false
open Go.RowKit Go.Shelf
attribute [local go_sem] Oper.semAt_some

def opW (s : List UInt8) : Int := match byK 29 s with | some (.int _ k) => k | _ => 0
theorem byK_val (s : List UInt8) : (byK 29 s).getD (.int .u8 0) = .int .u8 (opW s) := by
  unfold opW
  cases h : byK 29 s with
  | none => rfl
  | some v =>
    unfold byK at h
    obtain ⟨i, _, hi⟩ := List.exists_of_findSome?_eq_some h
    split at hi
    · cases hi; rfl
    · cases hi
def headS (s : ByteArray) (p : Nat) : List UInt8 := (s.extract 0 p).data.toList
def tailS (s : ByteArray) (p : Nat) : List UInt8 := (s.extract (p + 1) s.size).data.toList
def stR (N : Nm) (s : ByteArray) (p : Nat) : Nat → InsD
  | 0 => ⟨0, 0, 0⟩
  | 1 => ⟨opW (headS s p), 0, 0⟩
  | _ => withP N (opW (headS s p)) (tailS s p)

theorem flwords_any (s : ByteArray) (w : World) : Calls Tryd.prog 58 #[.string s] w fun e w' => e = .returned (.func (.func 63) #[] #[.pointer (some ⟨w.heap.size, 0, none⟩)]) ∧ w' = w.alloc (.cells #[.string s] 9) := by
  have hmf : ∀ (fn : Fn) (first cap : Array Value) (w : World), (Instr.makeFunc fn first cap).run Tryd.prog w = .ok (.func fn first cap) w := fun _ _ _ _ => rfl
  go_enter Tryd.func58, Tryd.ntmps58
  go_wp2
  go_ret
  exact ⟨rfl, rfl⟩

/-- How far a line is read. -/
structure RdS (w : World) (N : Nm) (s : ByteArray) (p k : Nat) (W : World) : Prop where
  box : W.heap[w.heap.size]? = some (.cells #[.int .i64 N.a, .int .i64 N.t, .int .i64 N.s, .int .i64 N.l, .int .u64 N.v] 88 (0, 0))
  res : BoxI W (w.heap.size + 1) 0 0 0
  cur : BoxI W (w.heap.size + 2) (stR N s p k).op (stR N s p k).arg (stR N s p k).val
  line : One W (w.heap.size + 3) (.string s) 9
  t : Touch w W []
theorem RdS.go {w : World} {N : Nm} {s : ByteArray} {p k k' : Nat} {W W' : World} {S : List Nat} (h : RdS w N s p k W) (t : Touch W W' S) (hS : ∀ x ∈ S, w.heap.size ≤ x ∧ x ≠ w.heap.size ∧ x ≠ w.heap.size + 1 ∧ x ≠ w.heap.size + 3) (hc : BoxI W' (w.heap.size + 2) (stR N s p k').op (stR N s p k').arg (stR N s p k').val) : RdS w N s p k' W' :=
  ⟨(t.block _ (lt_of_heap h.box) (fun e => (hS _ e).2.1 rfl)).trans h.box, h.res.touch t (fun e => (hS _ e).2.2.1 rfl), hc, One.touch h.line t (fun e => (hS _ e).2.2.2 rfl), h.t.trans t (fun x hx => .inr (hS x hx).1)⟩
theorem RdS.same {w : World} {N : Nm} {s : ByteArray} {p k : Nat} {W W' : World} {S : List Nat} (h : RdS w N s p k W) (t : Touch W W' S) (hS : ∀ x ∈ S, w.heap.size + 4 ≤ x) : RdS w N s p k W' :=
  h.go t (fun x hx => by have := hS x hx; exact ⟨by omega, by omega, by omega, by omega⟩) (h.cur.touch t (fun e => by have := hS _ e; omega))

set_option maxRecDepth 100000 in
set_option maxHeartbeats 4000000 in
theorem flread_any {w : World} (hw : Wds w) (N : Nm) (hN : N.Ok) (s : ByteArray) (p : Nat) (hs : s.size ≤ 18) (hasc : ∀ i (h : i < s.size), (s[i]'h).toNat < 128) (hp : p ≤ s.size) (hb : ∀ i (h : i < s.size), (s[i]'h).toNat = 32 ↔ i = p) (hok : p < s.size → okA (opW (headS s p)) (tailS s p) = true) :
    Calls Tryd.prog 47 #[N.val, .string s] w fun e w' => e = .returned (stR N s p (if p < s.size then 2 else 1)).v ∧ Touch w w' [] := by
  obtain ⟨RR, hRR⟩ : ∃ R, R = stR N s p (if p < s.size then 2 else 1) := ⟨_, rfl⟩
  rw [← hRR]
  have HRES : Hid _ := hRR
  clear hRR
  refine (callsIn_wide (n := 5)).1 ?_
  refine callsIn_of_wp_marks Tryd.func47 rfl trivial ?_ rfl
  simp only [Tryd.ntmps47, List.size_toArray, List.length_cons, List.length_nil, Nat.reduceAdd, Nat.reduceSub, Array.replicate_succ, Array.replicate_zero, List.push_toArray, List.append_toArray, List.nil_append, List.cons_append]
  have HW : Hid _ := hw
  have HN : Hid _ := hN
  have HASC : Hid _ := hasc
  have HB : Hid _ := hb
  have HOK : Hid _ := hok
  have HS : Hid _ := hs
  have HP : Hid _ := hp
  clear hw hN hasc hb hok hs hp
  gi_wp2_with fail
  refine ⟨trivial, ?_⟩
  refine (callsIn_wide.2 (flwords_any s _)).mono ?_
  rintro x w1 ⟨rfl, hw1⟩
  gi_wp2_with fail
  refine wpIn_name fun W1 hW1 => ?_
  have hsz : W1.heap.size = w.heap.size + 4 := by rw [hW1]; simp
  have HI0 : Hid (RdS w N s p 0 W1) := by
    have h0 := heap_alloc_new w (.cells #[.int .i64 N.a, .int .i64 N.t, .int .i64 N.s, .int .i64 N.l, .int .u64 N.v] 88)
    have h1 := BoxI.new (w.alloc (.cells #[.int .i64 N.a, .int .i64 N.t, .int .i64 N.s, .int .i64 N.l, .int .u64 N.v] 88)) 0 0 0
    have h2 := BoxI.new ((w.alloc (.cells #[.int .i64 N.a, .int .i64 N.t, .int .i64 N.s, .int .i64 N.l, .int .u64 N.v] 88)).alloc (.cells #[.int .u8 0, .int .i64 0, .int .u64 0] 62)) 0 0 0
    have h3 := one_new (((w.alloc (.cells #[.int .i64 N.a, .int .i64 N.t, .int .i64 N.s, .int .i64 N.l, .int .u64 N.v] 88)).alloc (.cells #[.int .u8 0, .int .i64 0, .int .u64 0] 62)).alloc (.cells #[.int .u8 0, .int .i64 0, .int .u64 0] 62)) (.string s) 9
    rw [hW1]
    simp only [World.size_alloc] at h1 h2 h3
    refine ⟨?_, (h1.touch ((Touch.refl _ []).alloc _) (by simp)).touch ((Touch.refl _ []).alloc _) (by simp), h2.touch ((Touch.refl _ []).alloc _) (by simp), h3, ((((Touch.refl w []).alloc _).alloc _).alloc _).alloc _⟩
    rw [heap_alloc_old _ _ (by simp; omega), heap_alloc_old _ _ (by simp; omega), heap_alloc_old _ _ (by simp)]
    exact h0
  clear hW1 hw1
  refine rangeFunc_str (by omega) (gf := 63) (lb := #[.pointer (some ⟨w.heap.size + 3, 0, none⟩)]) rfl (enters_of Tryd.func63 (by kernel_rfl) rfl)
    (fun k => #[.int .i64 (k : Nat), .string (pieceS s p k)]) (fun _ => rfl) none (fun k => k = 0 ∨ (k = 1 ∧ p < s.size)) (RdS w N s p) (fun _ => False) (if p < s.size then 2 else 1) ?put (fun _ _ _ _ h => h.elim) ?new HI0.out
    (fun k => { tmps := #[N.val, .string s, .pointer (some ⟨w.heap.size, 0, none⟩), undef, .pointer (some ⟨w.heap.size + 1, 0, none⟩), .pointer (some ⟨w.heap.size + 2, 0, none⟩), .int .i64 (k : Nat), .string (pieceS s p k), .string s, .func (.func 63) #[] #[.pointer (some ⟨w.heap.size + 3, 0, none⟩)], .int .i64 (k : Nat), .string (pieceS s p k), undef, undef, undef, undef, undef, undef, undef, undef, undef, undef, undef, undef, undef, undef], defers := [] }) ?seq ?assign ?body ?done (fun _ h => h.elim)
  case put =>
    rintro k W l1 o1 o' hI hl1 ho hc1
    exact hI.same ((Touch.refl W [l1]).putObj (.inl (by simp)) o') (fun x hx => by simp at hx; omega)
  case new => exact fun k W o' h => h.same ((Touch.refl W []).alloc o') (by simp)
  case seq =>
    intro J Y W hJI hJT hWs hJ0 hJY
    rw [hsz] at hWs hJT hJY
    rw [hsz]
    exact words1_in 4 (by omega) (w.heap.size + 4 + 1) (w.heap.size + 3) (w.heap.size + 4) p s (by have := HS.out; omega) HASC.out HP.out HB.out J Y (fun k W hJ => One.cell (hJI k W hJ).line)
      (fun k W W' S hJ t hS => hJT k k W W' S hJ ((hJI k W hJ).same t (fun x hx => by have := (hS x hx).1; omega)) t (fun h => by have := (hS _ h).1; omega) (fun h => by have := (hS _ h).1; omega)) (fun k W hk hJ => hJY k W hk hJ) W hWs hJ0
  case assign =>
    intro l k W K hK
    gi_wp2
    exact hK
  case body =>
    rintro l1 k W hk hI
    rcases hk with rfl | ⟨rfl, hlt⟩
    · have HI : Hid _ := hI
      have hpz : (pieceS s p 0).size ≤ maxLen := by
        have : (s.extract 0 p).size ≤ s.size := by rw [ByteArray.size_extract]; omega
        have h18 := HS.out
        show (s.extract 0 p).size ≤ maxLen
        unfold maxLen; omega
      have hrw := readWord_any (HW.out.touch hI.t (by simp)) (pieceS s p 0) hpz
      rw [byK_val] at hrw
      have hcur := hI.cur
      obtain ⟨z0, z1, z2⟩ := hcur.cells
      have f0 := hcur.fr 0
      rw [show opW (pieceS s p 0).data.toList = opW (headS s p) from rfl] at hrw
      have HC : Hid _ := hcur
      have HRW : Hid (HidC _ _ _ _ _) := ⟨hrw⟩
      clear hI hpz hrw hcur z0 z1 z2 f0
      gi_wp2_with fail
      refine ⟨trivial, ?_⟩
      refine (callsIn_wide.2 HRW.out.out).mono ?_
      rintro x w2 ⟨rfl, t2⟩
      have hc2 := HC.out.touch t2 (by simp)
      obtain ⟨z0, z1, z2⟩ := hc2.cells
      have f0 := hc2.fr 0
      have HC2 : Hid _ := hc2
      have HT2 : Hid _ := t2
      clear HC HRW hc2 t2
      gi_wp2
      have tt : Touch W (w2.setCell ⟨w.heap.size + 2, 0, none⟩ (.int .u8 (opW (headS s p)))) [w.heap.size + 2] := (HT2.out.mono (by simp)).setCell (.inl (by simp)) _
      have hcs : ∀ x ∈ [w.heap.size + 2], ∃ cs ty fr, W.heap[x]? = some (Obj.cells cs ty fr) := fun x hx => by rw [List.mem_singleton.1 hx]; exact ⟨_, _, _, HI.out.cur.st⟩
      exact ⟨keeps_of_touch tt hcs, .inl ⟨rfl, HI.out.go (k' := 1) tt (fun x hx => by rw [List.mem_singleton.1 hx]; exact ⟨by omega, by omega, by omega, by omega⟩) (HC2.out.set0 _), KS.touch tt hcs⟩⟩
    · have HI : Hid _ := hI
      have hpz : (pieceS s p 1).size ≤ 18 := by
        have : (s.extract (p + 1) s.size).size ≤ s.size := by rw [ByteArray.size_extract]; omega
        have h18 := HS.out
        show (s.extract (p + 1) s.size).size ≤ 18
        omega
      have hwi := fun W' => flwith_any N HN.out (opW (headS s p)) (pieceS s p 1) hpz (HOK.out hlt) W'
      rw [show (pieceS s p 1).data.toList = tailS s p from rfl] at hwi
      obtain ⟨R, hR⟩ : ∃ R, R = withP N (opW (headS s p)) (tailS s p) := ⟨_, rfl⟩
      rw [← hR] at hwi
      have HRR : Hid (stR N s p 2 = R) := by show stR N s p 2 = R; rw [hR]; rfl
      have hcur := hI.cur
      have HC : Hid (BoxI W (w.heap.size + 2) (opW (headS s p)) 0 0) := hcur
      obtain ⟨y0, y1, y2⟩ := HC.out.cells
      have e0 : W.cell? ⟨w.heap.size, 0, none⟩ = some (.int .i64 N.a) := by unfold World.cell?; rw [hI.box]; rfl
      have e1 : W.cell? ⟨w.heap.size, 1, none⟩ = some (.int .i64 N.t) := by unfold World.cell?; rw [hI.box]; rfl
      have e2 : W.cell? ⟨w.heap.size, 2, none⟩ = some (.int .i64 N.s) := by unfold World.cell?; rw [hI.box]; rfl
      have e3 : W.cell? ⟨w.heap.size, 3, none⟩ = some (.int .i64 N.l) := by unfold World.cell?; rw [hI.box]; rfl
      have e4 : W.cell? ⟨w.heap.size, 4, none⟩ = some (.int .u64 N.v) := by unfold World.cell?; rw [hI.box]; rfl
      have HRW : Hid (∀ W', HidC _ _ _ _ _) := fun W' => ⟨hwi W'⟩
      clear hI hpz hwi hcur hR
      gi_wp2_with fail
      refine ⟨trivial, ?_⟩
      refine (callsIn_wide.2 (HRW.out _).out).mono ?_
      rintro x w2 ⟨rfl, t2⟩
      have hc2 := HC.out.touch t2 (by simp)
      obtain ⟨z0, z1, z2⟩ := hc2.cells
      have f0 := hc2.fr 0
      have f1 := hc2.fr 1
      have f2 := hc2.fr 2
      have HC2 : Hid _ := hc2
      have HT2 : Hid _ := t2
      clear HC HRW hc2 t2 e0 e1 e2 e3 e4 y0 y1 y2
      gi_wp2
      have tt : Touch W (((w2.setCell ⟨w.heap.size + 2, 0, none⟩ (.int .u8 R.op)).setCell ⟨w.heap.size + 2, 1, none⟩ (.int .i64 R.arg)).setCell ⟨w.heap.size + 2, 2, none⟩ (.int .u64 R.val)) [w.heap.size + 2] := (((HT2.out.mono (by simp)).setCell (.inl (by simp)) _).setCell (.inl (by simp)) _).setCell (.inl (by simp)) _
      have hcs : ∀ x ∈ [w.heap.size + 2], ∃ cs ty fr, W.heap[x]? = some (Obj.cells cs ty fr) := fun x hx => by rw [List.mem_singleton.1 hx]; exact ⟨_, _, _, HI.out.cur.st⟩
      exact ⟨keeps_of_touch tt hcs, .inl ⟨rfl, HI.out.go (k' := 2) tt (fun x hx => by rw [List.mem_singleton.1 hx]; exact ⟨by omega, by omega, by omega, by omega⟩) (by rw [HRR.out]; exact ((HC2.out.set0 _).set1 _).set2 _), KS.touch tt hcs⟩⟩
  case done =>
    rintro W hI hd
    have hcur := hI.cur
    rw [← HRES.out] at hcur
    obtain ⟨y0, y1, y2⟩ := hcur.cells
    obtain ⟨z0, z1, z2⟩ := hI.res.cells
    have f0 := hI.res.fr 0
    have f1 := hI.res.fr 1
    have f2 := hI.res.fr 2
    have HR0 : Hid _ := hI.res
    have HT : Hid _ := hI.t
    have HSZ : Hid _ := hsz
    have HD : Hid _ := hd
    clear hcur hI hsz hd
    gi_wp2
    have tt : Touch W (((W.setCell ⟨w.heap.size + 1, 0, none⟩ (.int .u8 RR.op)).setCell ⟨w.heap.size + 1, 1, none⟩ (.int .i64 RR.arg)).setCell ⟨w.heap.size + 1, 2, none⟩ (.int .u64 RR.val)) [w.heap.size + 1] := (((Touch.refl W _).setCell (.inl (by simp)) _).setCell (.inl (by simp)) _).setCell (.inl (by simp)) _
    have hd3 := (tt.block _ (lt_of_heap HD.out) (by have := HSZ.out; simp; omega)).trans HD.out
    have hb3 := ((HR0.out.set0 RR.op).set1 RR.arg).set2 RR.val
    generalize (((W.setCell ⟨w.heap.size + 1, 0, none⟩ (.int .u8 RR.op)).setCell ⟨w.heap.size + 1, 1, none⟩ (.int .i64 RR.arg)).setCell ⟨w.heap.size + 1, 2, none⟩ (.int .u64 RR.val)) = W3 at *
    have t1 : Touch W3 (W3.putObj W1.heap.size (.deferred none)) [W1.heap.size] := (Touch.refl W3 [W1.heap.size]).putObj (.inl (by simp)) _
    have hb4 := hb3.touch t1 (by have := HSZ.out; simp; omega)
    obtain ⟨k0, k1, k2⟩ := hb4.cells
    refine ⟨by simp, .inl ⟨_, _, rfl, run_takeDeferred hd3, ?_⟩⟩
    refine ⟨.agg #[.int .u8 RR.op, .int .i64 RR.arg, .int .u64 RR.val], ?_, rfl, (HT.out.trans tt (fun x hx => .inr (by simp at hx; omega))).trans t1 (fun x hx => .inr (by have := HSZ.out; simp at hx; omega))⟩
    rw [res_cellC rfl]
    simp [go_sem, k0, k1, k2]

end Go.Proofs.YtkpgfchglaemgaaDoor
/-
  package flows: the block that a text tells.
-/
namespace Go.Proofs.YtkpgfchglaemgaaDoor
set_option linter.unusedVariables false
set_option linter.unusedSimpArgs false
open Go.RowKit
attribute [local go_sem] Oper.semAt_some

theorem step_append_runF {P : Program} (w : World) {ops : Array Oper} {o : Oper} {a : Act} {K : Act → World → Prop} {Q : Exit → Act → World → Prop} {E : Prop} (hgd : o.guard = none) (s x : Operand) (t tn : TypeId)
    (ho : o.op = .call { callee := .builtin .append, args := #[s, x], argTypes := #[t, tn] }) (vs vx : Value) (hs : a.eval s = vs) (hx : a.eval x = vx)
    (v' : Value) (w' : World) (hr : (Builtin.append_ #[t, tn] o.type #[vs, vx]).run P w = .ok v' w') (h : K (a.put o.dst v') w') : if Region.wanted o (yielded ops a.tmps) = true then Oper.wp P o a w K Q else E := by
  have hw : Region.wanted o (yielded ops a.tmps) = true := by simp [Region.wanted, hgd]
  rw [if_pos hw]
  exact Lib.wp_append_run w s x t tn ho vs vx hs hx v' w' hr h

def pS (s : ByteArray) : Nat := s.data.toList.findIdx (· == 32)
def lineI (N : Nm) (s : ByteArray) : InsD := stR N s (pS s) (if pS s < s.size then 2 else 1)
def okL (s : ByteArray) : Bool := decide (s.size ≤ 18) && decide (pS s ≤ s.size) && (List.range s.size).all (fun i => decide ((s.data.toList.getD i 0).toNat < 128) && (decide ((s.data.toList.getD i 0).toNat = 32) == decide (i = pS s))) && (decide (s.size ≤ pS s) || okA (opW (headS s (pS s))) (tailS s (pS s)))
theorem byte_at (s : ByteArray) (i : Nat) (h : i < s.size) : s.data.toList.getD i 0 = s[i]'h := by
  have h' : i < s.data.toList.length := by simpa using h
  rw [List.getD_eq_getElem?_getD, List.getElem?_eq_getElem h']
  simp
  rfl
theorem flline_any {w : World} (hw : Wds w) (N : Nm) (hN : N.Ok) (s : ByteArray) (h : okL s = true) : Calls Tryd.prog 47 #[N.val, .string s] w fun e w' => e = .returned (lineI N s).v ∧ Touch w w' [] := by
  unfold okL at h
  simp only [Bool.and_eq_true, decide_eq_true_eq, List.all_eq_true, List.mem_range, beq_iff_eq, Bool.or_eq_true] at h
  obtain ⟨⟨⟨h1, h2⟩, h3⟩, h4⟩ := h
  refine flread_any hw N hN s (pS s) h1 (fun i hi => ?_) h2 (fun i hi => ?_) (fun hlt => ?_)
  · rw [← byte_at s i hi]; exact (h3 i hi).1
  · rw [← byte_at s i hi]; exact decide_eq_decide.1 (h3 i hi).2
  · rcases h4 with h | h
    · omega
    · exact h
/-- Where the line begins in which a place lies; the lines ahead of it. -/
def chT (T : ByteArray) (k : Nat) : Nat := (T.data.toList.getD k 0).toNat
def bgT (T : ByteArray) : Nat → Nat
  | 0 => 0
  | k + 1 => if chT T k = 10 then k + 1 else bgT T k
def rwT (N : Nm) (T : ByteArray) : Nat → List InsD
  | 0 => []
  | k + 1 => if chT T k = 10 then rwT N T k ++ [lineI N (T.extract (bgT T k) k)] else rwT N T k
theorem bgT_le (T : ByteArray) : ∀ k, bgT T k ≤ k
  | 0 => Nat.le_refl _
  | k + 1 => by
    unfold bgT
    have := bgT_le T k
    split <;> omega
theorem rwT_le (N : Nm) (T : ByteArray) : ∀ k, (rwT N T k).length ≤ k
  | 0 => Nat.le_refl _
  | k + 1 => by
    unfold rwT
    have := rwT_le N T k
    split
    · rw [List.length_append]; simp; omega
    · omega
def okT (T : ByteArray) : Bool := decide (T.size ≤ 400) && (List.range T.size).all (fun k => decide (chT T k < 128) && (decide (chT T k ≠ 10) || okL (T.extract (bgT T k) k)))

theorem flins_app {w : World} {B : Nat} {v : Value} {xs : List InsD} (h : insOwn w B v xs) (hl : xs.length ≤ 1000) (hB : B ≤ w.heap.size) (i : InsD) :
    ∃ ao' cap' w', (Builtin.append_ #[27, 27] 27 #[v, .slice (some ⟨w.heap.size, 0, none⟩) 1 1]).run Tryd.prog (w.alloc (.cells #[.int .u8 i.op, .int .i64 i.arg, .int .u64 i.val] 62)) = .ok (.slice ao' (xs.length + 1) cap') w' ∧ insOwn w' B (.slice ao' (xs.length + 1) cap') (xs ++ [i]) ∧ Touch w w' v.ownBlock.toList := by
  obtain ⟨i0, hi, hz0, hz1, hz2⟩ := info_parts' Tryd.info_ins
  have ta : Touch w (w.alloc (.cells #[.int .u8 i.op, .int .i64 i.arg, .int .u64 i.val] 62)) [] := (Touch.refl w []).alloc _
  have ho : insOwn (w.alloc (.cells #[.int .u8 i.op, .int .i64 i.arg, .int .u64 i.val] 62)) w.heap.size (.slice (some ⟨w.heap.size, 0, none⟩) 1 1) [i] :=
    ⟨rfl, .inr ⟨w.heap.size, 1, #[.int .u8 i.op, .int .i64 i.arg, .int .u64 i.val], rfl, Nat.le_refl _, heap_alloc_new w _, Nat.le_refl _, by decide, rfl, rfl⟩⟩
  obtain ⟨v', w', h1, h2, h3, h4⟩ := run_app (P := Tryd.prog) (cells := InsD.cells) 27 27 62 i0 _ 3 24 Tryd.underlying27 hi hz0 hz1 hz2 rfl (by decide) (fun _ => rfl) ins_one (ownsRow_touch h ta (by simp)) (l := [i]) (srow_of (cells := InsD.cells) (n := 3) (fun _ => rfl) ho) (by simp; omega) (by decide) (Nat.le_trans hB ta.size)
  have h2' : insOwn w' B v' (xs ++ [i]) := by
    show w'.ownsRow _ _ _ _ _ _
    rw [List.length_append, List.flatMap_append]
    exact h2
  obtain ⟨ao', cap', rfl⟩ := owns_slice h2
  exact ⟨ao', cap', w', h1, h2', (ta.mono (by simp)).grown h3 (fun k hk => .inl (by simp [hk]))⟩

/-- How far a text is read. -/
structure BkS (w : World) (N : Nm) (T : ByteArray) (k : Nat) (v : Value) (W : World) : Prop where
  box : W.heap[w.heap.size]? = some (.cells #[.int .i64 N.a, .int .i64 N.t, .int .i64 N.s, .int .i64 N.l, .int .u64 N.v] 88 (0, 0))
  it : W.heap[w.heap.size + 1]? = some (.stringIter T k)
  own : insOwn W (w.heap.size + 2) v (rwT N T k)
  t : Touch w W []
theorem BkS.five {w : World} {N : Nm} {T : ByteArray} {k : Nat} {v : Value} {W : World} (h : BkS w N T k v W) {W' : World} {S : List Nat} (t : Touch W W' S) (hS : w.heap.size ∉ S) : W'.cell? ⟨w.heap.size, 0, none⟩ = some (.int .i64 N.a) ∧ W'.cell? ⟨w.heap.size, 1, none⟩ = some (.int .i64 N.t) ∧ W'.cell? ⟨w.heap.size, 2, none⟩ = some (.int .i64 N.s) ∧ W'.cell? ⟨w.heap.size, 3, none⟩ = some (.int .i64 N.l) ∧ W'.cell? ⟨w.heap.size, 4, none⟩ = some (.int .u64 N.v) := by
  have h2 : W'.heap[w.heap.size]? = _ := (t.block _ (lt_of_heap h.box) hS).trans h.box
  unfold World.cell?
  rw [h2]
  exact ⟨rfl, rfl, rfl, rfl, rfl⟩
theorem BkS.skip {w : World} {N : Nm} {T : ByteArray} {k : Nat} {v : Value} {W : World} (h : BkS w N T k v W) (hr : rwT N T (k + 1) = rwT N T k) : BkS w N T (k + 1) v (W.iterAt (w.heap.size + 1) T (k + 1)) := by
  have t : Touch W (W.iterAt (w.heap.size + 1) T (k + 1)) [w.heap.size + 1] := (Touch.refl W _).iterAt (.inl (by simp)) _ _
  refine ⟨(t.block _ (lt_of_heap h.box) (by simp)).trans h.box, Lib.iterAt_heap _ _ _ _ _ h.it, ?_, h.t.trans t (fun x hx => .inr (by simp at hx; omega))⟩
  rw [hr]
  exact ownsRow_touch h.own t (fun x hx hs => by have := (World.ownsRow.lt h.own x hx).1; simp at hs; omega)
theorem BkS.more {w : World} {N : Nm} {T : ByteArray} {k : Nat} {v v' : Value} {W W' : World} (h : BkS w N T k v W) (t : Touch (W.iterAt (w.heap.size + 1) T (k + 1)) W' v.ownBlock.toList) (ho : insOwn W' (w.heap.size + 2) v' (rwT N T (k + 1))) : BkS w N T (k + 1) v' W' := by
  have t1 : Touch W (W.iterAt (w.heap.size + 1) T (k + 1)) [w.heap.size + 1] := (Touch.refl W _).iterAt (.inl (by simp)) _ _
  have hlt : ∀ x ∈ v.ownBlock.toList, w.heap.size + 2 ≤ x := fun x hx => (World.ownsRow.lt h.own x (by simpa using hx)).1
  have i1 := Lib.iterAt_heap _ _ _ _ (k + 1) h.it
  have b1 := (t1.block _ (lt_of_heap h.box) (by simp)).trans h.box
  refine ⟨(t.block _ (lt_of_heap b1) (fun e => by have := hlt _ e; omega)).trans b1, (t.block _ (lt_of_heap i1) (fun e => by have := hlt _ e; omega)).trans i1, ho, (h.t.trans t1 (fun x hx => .inr (by simp at hx; omega))).trans t (fun x hx => .inr (by have := hlt _ hx; omega))⟩

set_option maxRecDepth 100000 in
set_option maxHeartbeats 4000000 in
theorem flblock_any {w : World} (hw : Wds w) (N : Nm) (hN : N.Ok) (T : ByteArray) (hT : okT T = true) (hwf : ∀ i ∈ rwT N T T.size, i.Wf) :
    Calls Tryd.prog 32 #[.string T, N.val] w (LkP w (if N.a + ((rwT N T T.size).length : Nat) > 64 then 4 else 0) (rwT N T T.size)) := by
  unfold okT at hT
  simp only [Bool.and_eq_true, decide_eq_true_eq, List.all_eq_true, List.mem_range, Bool.or_eq_true] at hT
  obtain ⟨hsz, hch⟩ := hT
  obtain ⟨E, hE⟩ : ∃ E : Int, E = if N.a + ((rwT N T T.size).length : Nat) > 64 then 4 else 0 := ⟨_, rfl⟩
  obtain ⟨RL, hRL⟩ : ∃ RL, RL = rwT N T T.size := ⟨_, rfl⟩
  rw [← hE, ← hRL]
  have HE : Hid _ := hE
  have HRL : Hid _ := hRL
  have HW : Hid _ := hw
  have HWF : Hid _ := hwf
  have HCH : Hid _ := hch
  have HN : Hid _ := hN
  have HI0 : Hid (BkS w N T 0 (.slice none 0 0) ((w.alloc (.cells #[.int .i64 N.a, .int .i64 N.t, .int .i64 N.s, .int .i64 N.l, .int .u64 N.v] 88)).iter T 0)) := by
    refine ⟨(heap_alloc_old _ _ (by simp)).trans (heap_alloc_new w _), ?_, World.ownsRow_nil _ _ _ _, ((Touch.refl w []).alloc _).alloc _⟩
    have := World.iter_heap (w.alloc (.cells #[.int .i64 N.a, .int .i64 N.t, .int .i64 N.s, .int .i64 N.l, .int .u64 N.v] 88)) T 0
    rwa [World.size_alloc] at this
  clear hE hRL hw hwf hch hN
  go_enter Tryd.func32, Tryd.ntmps32
  go_wp2_with fail
  generalize (w.alloc (.cells #[.int .i64 N.a, .int .i64 N.t, .int .i64 N.s, .int .i64 N.l, .int .u64 N.v] 88)).iter T 0 = W1 at *
  go_loopw [6, 7] (fun v b wr => ∃ k : Nat, k ≤ T.size ∧ b = .int .i64 (bgT T k) ∧ BkS w N T k v wr) (fun _ _ wr => T.size + 1 - wr.iterPos (w.heap.size + 1))
  case atStart => exact ⟨0, Nat.zero_le _, rfl, HI0.out⟩
  case round =>
    obtain ⟨k, hk, rfl, hI⟩ := hrel
    obtain ⟨ao, cap, rfl⟩ := owns_slice hI.own
    have HI : Hid _ := hI
    have HIP : Hid _ := iterPos_of hI.it
    by_cases hlt : k < T.size
    · obtain ⟨hasc, hln⟩ := HCH.out k hlt
      have ec : (T[k]'hlt).toNat = chT T k := by unfold chT; rw [byte_at T k hlt]
      have nx := fun ty => Lib.run_next_ascii_at (P := Tryd.prog) wr (w.heap.size + 1) T k ty hI.it hlt (by rw [ec]; exact hasc)
      simp only [ec] at nx
      by_cases h10 : chT T k = 10
      · have hc : (chT T k : Int) = 10 := by omega
        have hok : okL (T.extract (bgT T k) k) = true := by rcases hln with h | h; exact absurd h10 h; exact h
        have hrw : rwT N T (k + 1) = rwT N T k ++ [lineI N (T.extract (bgT T k) k)] := by rw [rwT, if_pos h10]
        have hbg : bgT T (k + 1) = k + 1 := by rw [bgT, if_pos h10]
        have hbl := bgT_le T k
        have hb0 : (0 : Int) ≤ (bgT T k : Nat) := by omega
        have hb1 : ((bgT T k : Nat) : Int) ≤ k := by omega
        have hb2 : (k : Int) ≤ T.size := by omega
        have hwk : IntKind.i64.wrap ((k : Int) + 1) = (k : Int) + 1 := by rw [IntKind.wrap_i64]; omega
        have t1 : Touch w (wr.iterAt (w.heap.size + 1) T (k + 1)) [] := hI.t.trans ((Touch.refl wr [w.heap.size + 1]).iterAt (.inl (by simp)) _ _) (fun x hx => .inr (by simp at hx; omega))
        have HLN : Hid (∀ W, Touch w W [] → HidC Tryd.prog 47 #[N.val, .string (T.extract (bgT T k) k)] W fun e w' => e = .returned (lineI N (T.extract (bgT T k) k)).v ∧ Touch W w' []) := fun W t => ⟨flline_any (HW.out.touch t (by simp)) N HN.out _ hok⟩
        have hown1 : insOwn (wr.iterAt (w.heap.size + 1) T (k + 1)) (w.heap.size + 2) (.slice ao (rwT N T k).length cap) (rwT N T k) := ownsRow_touch hI.own ((Touch.refl wr [w.heap.size + 1]).iterAt (.inl (by simp)) _ _) (fun x hx hs => by have := (World.ownsRow.lt hI.own x hx).1; simp at hs; omega)
        have hlen := rwT_le N T k
        have hszI := hI.t.size
        have hit := lt_of_heap hI.it
        obtain ⟨I, hI2⟩ : ∃ I, I = lineI N (T.extract (bgT T k) k) := ⟨_, rfl⟩
        rw [← hI2] at hrw HLN
        have HAPP : Hid (∀ W, Touch (wr.iterAt (w.heap.size + 1) T (k + 1)) W [] → ∃ ao' cap' w', (Builtin.append_ #[27, 27] 27 #[.slice ao (rwT N T k).length cap, .slice (some ⟨W.heap.size, 0, none⟩) 1 1]).run Tryd.prog (W.alloc (.cells #[.int .u8 I.op, .int .i64 I.arg, .int .u64 I.val] 62)) = .ok (.slice ao' ((rwT N T k).length + 1) cap') w' ∧ insOwn w' (w.heap.size + 2) (.slice ao' ((rwT N T k).length + 1) cap') (rwT N T (k + 1)) ∧ Touch (wr.iterAt (w.heap.size + 1) T (k + 1)) w' (Value.slice ao (rwT N T k).length cap).ownBlock.toList) := by
          intro W t
          obtain ⟨a, c, w', h1, h2, h3⟩ := flins_app (ownsRow_touch hown1 t (by simp)) (by omega) (by have := t.size; rw [Lib.iterAt_size] at this; omega) I
          refine ⟨a, c, w', h1, ?_, (t.mono (by simp)).trans h3 (fun x hx => .inl hx)⟩
          rw [hrw]
          exact h2
        have HS : Hid (∀ (W' : World) (S : List Nat), Touch (wr.iterAt (w.heap.size + 1) T (k + 1)) W' S → w.heap.size ∉ S → W'.cell? ⟨w.heap.size, 0, none⟩ = some (.int .i64 N.a) ∧ W'.cell? ⟨w.heap.size, 1, none⟩ = some (.int .i64 N.t) ∧ W'.cell? ⟨w.heap.size, 2, none⟩ = some (.int .i64 N.s) ∧ W'.cell? ⟨w.heap.size, 3, none⟩ = some (.int .i64 N.l) ∧ W'.cell? ⟨w.heap.size, 4, none⟩ = some (.int .u64 N.v)) := fun W' S t hS => hI.five (S := (w.heap.size + 1) :: S) (((Touch.refl wr _).iterAt (.inl (by simp)) _ _).trans t (fun x hx => .inl (by simp [hx]))) (by simp [hS])
        have HOB : Hid (w.heap.size ∉ (Value.slice ao (rwT N T k).length cap).ownBlock.toList) := fun h => by have := (World.ownsRow.lt hI.own w.heap.size (by simpa using h)).1; omega
        have HMORE : Hid (∀ v' W', Touch (wr.iterAt (w.heap.size + 1) T (k + 1)) W' (Value.slice ao (rwT N T k).length cap).ownBlock.toList → insOwn W' (w.heap.size + 2) v' (rwT N T (k + 1)) → BkS w N T (k + 1) v' W') := fun v' W' t o => hI.more t o
        have HT1 : Hid _ := t1
        have HBG : Hid _ := hbg
        have HDR : Hid (Touch (wr.iterAt (w.heap.size + 1) T (k + 1)) (wr.iterAt (w.heap.size + 1) T (k + 1)).drew []) := (Touch.refl _ []).drew
        clear hasc hln ec hok hrw hbg hown1 hszI hit hI2 hI t1 h10
        generalize (wr.iterAt (w.heap.size + 1) T (k + 1)) = Q at *
        generalize (Value.slice ao (rwT N T k).length cap).ownBlock.toList = OB at *
        generalize (rwT N T k).length = m at *
        generalize bgT T k = b at *
        generalize chT T k = c at *
        go_wp2_with fail
        have hd := HDR.out
        go_region_held3 (fun W' => W'.cell? ⟨w.heap.size, 0, none⟩ = some (.int .i64 N.a) ∧ W'.cell? ⟨w.heap.size, 1, none⟩ = some (.int .i64 N.t) ∧ W'.cell? ⟨w.heap.size, 2, none⟩ = some (.int .i64 N.s) ∧ W'.cell? ⟨w.heap.size, 3, none⟩ = some (.int .i64 N.l) ∧ W'.cell? ⟨w.heap.size, 4, none⟩ = some (.int .u64 N.v)) ((first | exact HS.out _ [] hd (by simp) | exact HS.out _ [] t2 (by simp) | exact HS.out _ [] (t2.alloc _) (by simp) | exact HS.out _ _ t3 HOB.out)) ((first
          | (go_at_call 47; refine (HLN.out _ (HT1.out.trans hd (by simp))).out.mono ?_; rintro e w2 ⟨rfl, t2'⟩; have t2 : Touch Q w2 [] := hd.trans t2' (by simp); obtain ⟨ao', cap', w3, h3, o3, t3⟩ := HAPP.out w2 t2)
          | (refine step_append_runF _ (by rfl) _ _ _ _ (by rfl) _ _ (by rfl) (by rfl) _ _ h3 ?_)))
        rename_i hHeld
        have HB3 : Hid _ := HMORE.out _ _ t3 o3
        clear hHeld h3 o3 t3 t2 t2' hd HAPP HS HOB HMORE HLN
        go_wp2
        go_roundw
        case rel => exact ⟨k + 1, by omega, by rw [HBG.out]; go_num, HB3.out⟩
        case measure => rw [iterPos_of HB3.out.it, HIP.out]; omega
      · have hc : (chT T k : Int) ≠ 10 := by omega
        have hrw : rwT N T (k + 1) = rwT N T k := by rw [rwT, if_neg h10]
        have hbg : bgT T (k + 1) = bgT T k := by rw [bgT, if_neg h10]
        have HSK : Hid _ := hI.skip hrw
        have HBG : Hid _ := hbg
        clear hasc hln ec hrw hbg hI h10
        generalize (wr.iterAt (w.heap.size + 1) T (k + 1)) = Q at *
        generalize (rwT N T k).length = m at *
        generalize chT T k = c at *
        go_wp2
        go_roundw
        case rel => exact ⟨k + 1, by omega, by rw [HBG.out], HSK.out⟩
        case measure => rw [iterPos_of HSK.out.it, HIP.out]; omega
    · obtain rfl : k = T.size := by omega
      have nx := fun ty => Lib.run_next_end_at (P := Tryd.prog) wr (w.heap.size + 1) T T.size ty hI.it hlt
      obtain ⟨c0, _⟩ := hI.five (Touch.refl wr []) (by simp)
      have hle := rwT_le N T T.size
      obtain ⟨ao2, cap2, e2, hin⟩ := insIn_of hI.own HWF.out
      simp only [Value.slice.injEq, true_and] at e2
      obtain ⟨rfl, rfl⟩ := e2
      have HIN : Hid _ := hin
      have HTT : Hid _ := hI.t
      have ha := HN.out.a
      have HE2 : Hid (E = if N.a + ((rwT N T T.size).length : Nat) > 64 then 4 else 0) := HE.out
      have HM : Hid (RL.length = (rwT N T T.size).length) := by show _ = _; rw [HRL.out]
      generalize (rwT N T T.size).length = m at *
      have hwr : IntKind.i64.wrap (N.a + (m : Int)) = N.a + (m : Int) := by rw [IntKind.wrap_i64]; omega
      clear hI hin HE HI HIP HI0
      by_cases h64 : N.a + (m : Int) > 64
      · have HE3 : Hid (E = 4) := by show _ = _; rw [HE2.out, if_pos h64]
        have h64' : (64 : Int) < N.a + m := h64
        clear HE2 h64
        go_wp2
        refine bodyPost_ret (v := .tuple #[.slice none 0 0, .int .i64 4]) (by simp [results, Tryd.results32, go_sem]) rfl ?_
        exact .inr ⟨by rw [HE3.out]; omega, by rw [HE3.out], HTT.out⟩
      · have HE3 : Hid (E = 0) := by show _ = _; rw [HE2.out, if_neg h64]
        have h64' : ¬ (64 : Int) < N.a + m := h64
        clear HE2 h64
        go_wp2
        refine bodyPost_ret (v := .tuple #[.slice ao m cap, .int .i64 0]) (by simp [results, Tryd.results32, go_sem]) rfl ?_
        refine .inl ⟨HE3.out, ao, cap, by rw [HM.out], ?_, HTT.out⟩
        rw [HM.out, HRL.out]
        exact HIN.out

end Go.Proofs.YtkpgfchglaemgaaDoor
/-
  package flows: the texts, and what they tell. Written by mkfl.py.
-/
namespace Go.Proofs.YtkpgfchglaemgaaDoor
set_option linter.unusedVariables false
set_option linter.unusedSimpArgs false
open Go.RowKit

def enterT : ByteArray := ⟨#[97, 116, 111, 109, 105, 99, 32, 50, 50, 10, 103, 101, 116, 32, 110, 10, 112, 117, 115, 104, 32, 115, 105, 122, 101, 10, 115, 97, 109, 101, 10, 122, 101, 114, 111, 32, 54, 10, 114, 101, 116, 114, 121, 10, 112, 117, 115, 104, 32, 118, 10, 103, 101, 116, 32, 102, 10, 103, 101, 116, 32, 110, 10, 97, 100, 100, 10, 100, 117, 112, 10, 112, 117, 115, 104, 32, 115, 105, 122, 101, 10, 108, 101, 115, 115, 10, 122, 101, 114, 111, 32, 49, 53, 10, 106, 117, 109, 112, 32, 49, 55, 10, 112, 117, 115, 104, 32, 115, 105, 122, 101, 10, 115, 117, 98, 10, 112, 117, 116, 97, 116, 32, 115, 10, 103, 101, 116, 32, 110, 10, 112, 117, 115, 104, 32, 49, 10, 97, 100, 100, 10, 112, 117, 116, 32, 110, 10, 101, 110, 100, 10]⟩

theorem enterT_ok : okT enterT = true := by decide +kernel

def enterI (a t s l v : Int) : List InsD := [insO 21 (a + 22), insO 4 t, insP s, insO 14 0, insO 20 (a + 6), insO 26 0, ⟨1, 0, v⟩, insO 4 (t + 1), insO 4 t, insO 8 0, insO 16 0, insP s, insO 13 0, insO 20 (a + 15), insO 19 (a + 17), insP s, insO 9 0, insO 7 (t + 2), insO 4 t, insP 1, insO 8 0, insO 5 t, insO 22 0]

def enterM (t s l v : Int) : List InsD := [insO 21 22, insO 4 t, insP s, insO 14 0, insO 20 6, insO 26 0, ⟨1, 0, v⟩, insO 4 (t + 1), insO 4 t, insO 8 0, insO 16 0, insP s, insO 13 0, insO 20 15, insO 19 17, insP s, insO 9 0, insO 7 (t + 2), insO 4 t, insP 1, insO 8 0, insO 5 t, insO 22 0]

theorem enterT_rows (a t s l v : Int) : rwT ⟨a, t, s, l, v⟩ enterT enterT.size = enterI a t s l v := by kernel_rfl

theorem enterI_map (a t s l v : Int) : (enterM t s l v).map (shI a) = enterI a t s l v := by
  simp [enterM, enterI, shI, goesP, insO, insP, Int.add_comm]

def takeT : ByteArray := ⟨#[97, 116, 111, 109, 105, 99, 32, 50, 51, 10, 103, 101, 116, 32, 110, 10, 122, 101, 114, 111, 32, 50, 50, 10, 103, 101, 116, 32, 102, 10, 103, 101, 116, 97, 116, 32, 115, 10, 103, 101, 116, 32, 110, 10, 112, 117, 115, 104, 32, 49, 10, 115, 117, 98, 10, 112, 117, 116, 32, 110, 10, 103, 101, 116, 32, 102, 10, 112, 117, 115, 104, 32, 49, 10, 97, 100, 100, 10, 100, 117, 112, 10, 112, 117, 115, 104, 32, 115, 105, 122, 101, 10, 108, 101, 115, 115, 10, 122, 101, 114, 111, 32, 49, 56, 10, 112, 117, 116, 32, 102, 10, 106, 117, 109, 112, 32, 50, 51, 10, 112, 111, 112, 10, 112, 117, 115, 104, 32, 48, 10, 112, 117, 116, 32, 102, 10, 106, 117, 109, 112, 32, 50, 51, 10, 114, 101, 116, 114, 121, 10, 101, 110, 100, 10]⟩

theorem takeT_ok : okT takeT = true := by decide +kernel

def takeI (a t s l v : Int) : List InsD := [insO 21 (a + 23), insO 4 t, insO 20 (a + 22), insO 4 (t + 1), insO 6 (t + 2), insO 4 t, insP 1, insO 9 0, insO 5 t, insO 4 (t + 1), insP 1, insO 8 0, insO 16 0, insP s, insO 13 0, insO 20 (a + 18), insO 5 (t + 1), insO 19 (a + 23), insO 17 0, insP 0, insO 5 (t + 1), insO 19 (a + 23), insO 26 0, insO 22 0]

def takeM (t s l v : Int) : List InsD := [insO 21 23, insO 4 t, insO 20 22, insO 4 (t + 1), insO 6 (t + 2), insO 4 t, insP 1, insO 9 0, insO 5 t, insO 4 (t + 1), insP 1, insO 8 0, insO 16 0, insP s, insO 13 0, insO 20 18, insO 5 (t + 1), insO 19 23, insO 17 0, insP 0, insO 5 (t + 1), insO 19 23, insO 26 0, insO 22 0]

theorem takeT_rows (a t s l v : Int) : rwT ⟨a, t, s, l, v⟩ takeT takeT.size = takeI a t s l v := by kernel_rfl

theorem takeI_map (a t s l v : Int) : (takeM t s l v).map (shI a) = takeI a t s l v := by
  simp [takeM, takeI, shI, goesP, insO, insP, Int.add_comm]

def arriveT : ByteArray := ⟨#[97, 116, 111, 109, 105, 99, 32, 49, 56, 10, 103, 101, 116, 32, 102, 10, 103, 101, 116, 32, 110, 10, 112, 117, 115, 104, 32, 49, 10, 97, 100, 100, 10, 100, 117, 112, 10, 112, 117, 115, 104, 32, 115, 105, 122, 101, 10, 115, 97, 109, 101, 10, 122, 101, 114, 111, 32, 49, 55, 10, 112, 111, 112, 10, 112, 117, 115, 104, 32, 48, 10, 112, 117, 116, 32, 110, 10, 103, 101, 116, 32, 102, 10, 112, 117, 115, 104, 32, 49, 10, 97, 100, 100, 10, 112, 117, 116, 32, 102, 10, 106, 117, 109, 112, 32, 49, 56, 10, 112, 117, 116, 32, 110, 10, 101, 110, 100, 10]⟩

theorem arriveT_ok : okT arriveT = true := by decide +kernel

def arriveI (a t s l v : Int) : List InsD := [insO 21 (a + 18), insO 4 (t + 1), insO 4 t, insP 1, insO 8 0, insO 16 0, insP s, insO 14 0, insO 20 (a + 17), insO 17 0, insP 0, insO 5 t, insO 4 (t + 1), insP 1, insO 8 0, insO 5 (t + 1), insO 19 (a + 18), insO 5 t, insO 22 0]

def arriveM (t s l v : Int) : List InsD := [insO 21 18, insO 4 (t + 1), insO 4 t, insP 1, insO 8 0, insO 16 0, insP s, insO 14 0, insO 20 17, insO 17 0, insP 0, insO 5 t, insO 4 (t + 1), insP 1, insO 8 0, insO 5 (t + 1), insO 19 18, insO 5 t, insO 22 0]

theorem arriveT_rows (a t s l v : Int) : rwT ⟨a, t, s, l, v⟩ arriveT arriveT.size = arriveI a t s l v := by kernel_rfl

theorem arriveI_map (a t s l v : Int) : (arriveM t s l v).map (shI a) = arriveI a t s l v := by
  simp [arriveM, arriveI, shI, goesP, insO, insP, Int.add_comm]

def leaveT : ByteArray := ⟨#[97, 116, 111, 109, 105, 99, 32, 55, 10, 108, 111, 99, 97, 108, 32, 108, 111, 99, 97, 108, 10, 103, 101, 116, 32, 102, 10, 108, 101, 115, 115, 10, 122, 101, 114, 111, 32, 54, 10, 106, 117, 109, 112, 32, 55, 10, 114, 101, 116, 114, 121, 10, 101, 110, 100, 10]⟩

theorem leaveT_ok : okT leaveT = true := by decide +kernel

def leaveI (a t s l v : Int) : List InsD := [insO 21 (a + 7), insO 2 l, insO 4 (t + 1), insO 13 0, insO 20 (a + 6), insO 19 (a + 7), insO 26 0, insO 22 0]

def leaveM (t s l v : Int) : List InsD := [insO 21 7, insO 2 l, insO 4 (t + 1), insO 13 0, insO 20 6, insO 19 7, insO 26 0, insO 22 0]

theorem leaveT_rows (a t s l v : Int) : rwT ⟨a, t, s, l, v⟩ leaveT leaveT.size = leaveI a t s l v := by kernel_rfl

theorem leaveI_map (a t s l v : Int) : (leaveM t s l v).map (shI a) = leaveI a t s l v := by
  simp [leaveM, leaveI, shI, goesP, insO, insP, Int.add_comm]


end Go.Proofs.YtkpgfchglaemgaaDoor
/-
  package flows: its four functions BY THEIR CONTRACTS. Written by mkfl.py.
-/
namespace Go.Proofs.YtkpgfchglaemgaaDoor
set_option linter.unusedVariables false
set_option linter.unusedSimpArgs false
open Go.RowKit
attribute [local go_sem] Oper.semAt_some

theorem flbet_any (a b c : Int) (w : World) : Calls Tryd.prog 33 #[.int .i64 a, .int .i64 b, .int .i64 c] w fun e w' => e = .returned (.bool (decide (a ≤ b) && decide (b ≤ c))) ∧ w = w' := by
  by_cases h1 : a ≤ b <;> by_cases h2 : b ≤ c
  all_goals
    go_enter Tryd.func33, Tryd.ntmps33
    go_wp2
    go_ret
    refine ⟨?_, rfl⟩
    congr 2
    simp_all
theorem flbet_is {a b c : Int} {x : Bool} (h : (decide (a ≤ b) && decide (b ≤ c)) = x) (w : World) : Calls Tryd.prog 33 #[.int .i64 a, .int .i64 b, .int .i64 c] w fun e w' => e = .returned (.bool x) ∧ w = w' := by subst h; exact flbet_any a b c w
theorem flplace_is {a : Int} {x : Bool} (h : (decide (0 ≤ a) && decide (a ≤ 64)) = x) (w : World) : Calls Tryd.prog 29 #[.int .i64 a] w fun e w' => e = .returned (.bool x) ∧ w = w' := by
  have H : Hid _ := h
  clear h
  go_enter Tryd.func29, Tryd.ntmps29
  go_wp2_with fail
  refine (flbet_is H.out _).mono ?_
  rintro e w' ⟨rfl, rfl⟩
  go_wp2
  go_ret
  exact ⟨rfl, rfl⟩
theorem flbar_is {a : Int} {x : Bool} (h : (decide (0 ≤ a) && decide (a ≤ 10)) = x) (w : World) : Calls Tryd.prog 34 #[.int .i64 a] w fun e w' => e = .returned (.bool x) ∧ w = w' := by
  have H : Hid _ := h
  clear h
  go_enter Tryd.func34, Tryd.ntmps34
  go_wp2_with fail
  refine (flbet_is H.out _).mono ?_
  rintro e w' ⟨rfl, rfl⟩
  go_wp2
  go_ret
  exact ⟨rfl, rfl⟩
theorem flque_is {t s : Int} {x : Bool} (h : ((decide (1 ≤ s) && decide (s ≤ 4)) && (decide (0 ≤ t) && decide (t ≤ 10 - s))) = x) (w : World) : Calls Tryd.prog 30 #[.int .i64 t, .int .i64 s] w fun e w' => e = .returned (.bool x) ∧ w = w' := by
  cases h1 : (decide (1 ≤ s) && decide (s ≤ 4)) with
  | false =>
    rw [h1] at h
    have H : Hid _ := h1
    clear h1
    simp only [Bool.false_and] at h
    subst h
    go_enter Tryd.func30, Tryd.ntmps30
    go_wp2_with fail
    refine (flbet_is H.out _).mono ?_
    rintro e w' ⟨rfl, rfl⟩
    go_wp2
    go_ret
    exact ⟨rfl, rfl⟩
  | true =>
    rw [h1] at h
    have H : Hid _ := h1
    have hb : 1 ≤ s ∧ s ≤ 4 := by simpa using h1
    have hw : IntKind.i64.wrap (10 - s) = 10 - s := by rw [IntKind.wrap_i64]; omega
    clear h1
    simp only [Bool.true_and] at h
    have H2 : Hid _ := h
    clear h
    go_enter Tryd.func30, Tryd.ntmps30
    go_wp2_with fail
    refine (flbet_is H.out _).mono ?_
    rintro e w' ⟨rfl, rfl⟩
    go_wp2_with fail
    refine (flbet_is H2.out _).mono ?_
    rintro e w' ⟨rfl, rfl⟩
    go_wp2
    go_ret
    exact ⟨rfl, rfl⟩

theorem arriveM_wf (t s l v : Int) (h : 0 ≤ t ∧ t ≤ 10 ∧ 0 ≤ s ∧ s ≤ 15) : ∀ i ∈ arriveM t s l v, i.Wf ∧ (0 ≤ i.arg ∧ i.arg ≤ 1000) ∧ i.op ≠ 23 ∧ i.op ≠ 24 := by
  intro i hi
  simp only [arriveM, List.mem_cons, List.not_mem_nil, or_false] at hi
  rcases hi with rfl | rfl | rfl | rfl | rfl | rfl | rfl | rfl | rfl | rfl | rfl | rfl | rfl | rfl | rfl | rfl | rfl | rfl | rfl
  · exact ⟨insO_wf (by omega) (by omega) (by omega) (by omega), by unfold insO; simp <;> omega, by unfold insO; simp, by unfold insO; simp⟩
  · exact ⟨insO_wf (by omega) (by omega) (by omega) (by omega), by unfold insO; simp <;> omega, by unfold insO; simp, by unfold insO; simp⟩
  · exact ⟨insO_wf (by omega) (by omega) (by omega) (by omega), by unfold insO; simp <;> omega, by unfold insO; simp, by unfold insO; simp⟩
  · exact ⟨insP_wf (by omega), by unfold insP; simp <;> omega, by unfold insP; simp, by unfold insP; simp⟩
  · exact ⟨insO_wf (by omega) (by omega) (by omega) (by omega), by unfold insO; simp <;> omega, by unfold insO; simp, by unfold insO; simp⟩
  · exact ⟨insO_wf (by omega) (by omega) (by omega) (by omega), by unfold insO; simp <;> omega, by unfold insO; simp, by unfold insO; simp⟩
  · exact ⟨insP_wf (by omega), by unfold insP; simp <;> omega, by unfold insP; simp, by unfold insP; simp⟩
  · exact ⟨insO_wf (by omega) (by omega) (by omega) (by omega), by unfold insO; simp <;> omega, by unfold insO; simp, by unfold insO; simp⟩
  · exact ⟨insO_wf (by omega) (by omega) (by omega) (by omega), by unfold insO; simp <;> omega, by unfold insO; simp, by unfold insO; simp⟩
  · exact ⟨insO_wf (by omega) (by omega) (by omega) (by omega), by unfold insO; simp <;> omega, by unfold insO; simp, by unfold insO; simp⟩
  · exact ⟨insP_wf (by omega), by unfold insP; simp <;> omega, by unfold insP; simp, by unfold insP; simp⟩
  · exact ⟨insO_wf (by omega) (by omega) (by omega) (by omega), by unfold insO; simp <;> omega, by unfold insO; simp, by unfold insO; simp⟩
  · exact ⟨insO_wf (by omega) (by omega) (by omega) (by omega), by unfold insO; simp <;> omega, by unfold insO; simp, by unfold insO; simp⟩
  · exact ⟨insP_wf (by omega), by unfold insP; simp <;> omega, by unfold insP; simp, by unfold insP; simp⟩
  · exact ⟨insO_wf (by omega) (by omega) (by omega) (by omega), by unfold insO; simp <;> omega, by unfold insO; simp, by unfold insO; simp⟩
  · exact ⟨insO_wf (by omega) (by omega) (by omega) (by omega), by unfold insO; simp <;> omega, by unfold insO; simp, by unfold insO; simp⟩
  · exact ⟨insO_wf (by omega) (by omega) (by omega) (by omega), by unfold insO; simp <;> omega, by unfold insO; simp, by unfold insO; simp⟩
  · exact ⟨insO_wf (by omega) (by omega) (by omega) (by omega), by unfold insO; simp <;> omega, by unfold insO; simp, by unfold insO; simp⟩
  · exact ⟨insO_wf (by omega) (by omega) (by omega) (by omega), by unfold insO; simp <;> omega, by unfold insO; simp, by unfold insO; simp⟩
theorem arriveI_wf (a t s l v : Int) (ha : 0 ≤ a ∧ a ≤ 64) (h : 0 ≤ t ∧ t ≤ 10 ∧ 0 ≤ s ∧ s ≤ 15) : ∀ i ∈ arriveI a t s l v, i.Wf := by
  intro i hi
  rw [← arriveI_map] at hi
  obtain ⟨j, hj, rfl⟩ := List.mem_map.1 hi
  have := arriveM_wf t s l v h j hj
  exact shI_wf ha.1 ha.2 this.1 this.2.1
def arriveMay (a t s : Int) : Bool := (decide (0 ≤ a) && decide (a ≤ 64)) && (decide (1 ≤ s) && decide (s ≤ 4)) && (decide (0 ≤ t) && decide (t ≤ 10))
def arriveE (a t s : Int) : Int := if arriveMay a t s then (if a + 19 > 64 then 4 else 0) else 2
set_option maxRecDepth 100000 in
set_option maxHeartbeats 2000000 in
theorem flarrive_any {w : World} (hw : Wds w) (a t s : Int) : Calls Tryd.prog 15 #[.int .i64 a, .int .i64 t, .int .i64 s] w (LkP w (arriveE a t s) (arriveI a t s 0 0)) := by
  obtain ⟨E, hE⟩ : ∃ E, E = arriveE a t s := ⟨_, rfl⟩
  obtain ⟨RL, hRL⟩ : ∃ RL, RL = arriveI a t s 0 0 := ⟨_, rfl⟩
  rw [← hE, ← hRL]
  unfold arriveE arriveMay at hE
  have HE : Hid _ := hE
  have HRL : Hid _ := hRL
  have HW : Hid _ := hw
  clear hE hRL hw
  cases c0 : (decide (0 ≤ a) && decide (a ≤ 64)) with
  | false =>
    have HE2 : Hid (E = 2) := by show _ = _; rw [HE.out, if_neg (by simp only [c0]; simp)]
    have HC0 : Hid _ := c0
    clear c0 HE HRL HW
    go_enter Tryd.func15, Tryd.ntmps15
    go_wp2_with fail
    refine (flplace_is HC0.out _).mono ?_
    rintro e w' ⟨rfl, rfl⟩
    go_wp2
    refine bodyPost_ret (v := .tuple #[.slice none 0 0, .int .i64 2]) (by simp [results, Tryd.results15, go_sem]) rfl ?_
    exact .inr ⟨by rw [HE2.out]; omega, by rw [HE2.out], Touch.refl _ _⟩
  | true =>
  cases c1 : (decide (1 ≤ s) && decide (s ≤ 4)) with
  | false =>
    have HE2 : Hid (E = 2) := by show _ = _; rw [HE.out, if_neg (by simp only [c0, c1]; simp)]
    have HC0 : Hid _ := c0
    have HC1 : Hid _ := c1
    clear c0 c1 HE HRL HW
    go_enter Tryd.func15, Tryd.ntmps15
    go_wp2_with fail
    refine (flplace_is HC0.out _).mono ?_
    rintro e w' ⟨rfl, rfl⟩
    go_wp2_with fail
    refine (flbet_is HC1.out _).mono ?_
    rintro e w' ⟨rfl, rfl⟩
    go_wp2
    refine bodyPost_ret (v := .tuple #[.slice none 0 0, .int .i64 2]) (by simp [results, Tryd.results15, go_sem]) rfl ?_
    exact .inr ⟨by rw [HE2.out]; omega, by rw [HE2.out], Touch.refl _ _⟩
  | true =>
  cases c2 : (decide (0 ≤ t) && decide (t ≤ 10)) with
  | false =>
    have HE2 : Hid (E = 2) := by show _ = _; rw [HE.out, if_neg (by simp only [c0, c1, c2]; simp)]
    have HC0 : Hid _ := c0
    have HC1 : Hid _ := c1
    have HC2 : Hid _ := c2
    clear c0 c1 c2 HE HRL HW
    go_enter Tryd.func15, Tryd.ntmps15
    go_wp2_with fail
    refine (flplace_is HC0.out _).mono ?_
    rintro e w' ⟨rfl, rfl⟩
    go_wp2_with fail
    refine (flbet_is HC1.out _).mono ?_
    rintro e w' ⟨rfl, rfl⟩
    go_wp2_with fail
    refine (flbar_is HC2.out _).mono ?_
    rintro e w' ⟨rfl, rfl⟩
    go_wp2
    refine bodyPost_ret (v := .tuple #[.slice none 0 0, .int .i64 2]) (by simp [results, Tryd.results15, go_sem]) rfl ?_
    exact .inr ⟨by rw [HE2.out]; omega, by rw [HE2.out], Touch.refl _ _⟩
  | true =>
  have hb : 0 ≤ a ∧ a ≤ 64 ∧ 1 ≤ s ∧ s ≤ 4 ∧ 0 ≤ t ∧ t ≤ 10 := by simp only [Bool.and_eq_true, decide_eq_true_eq] at c0 c1 c2; omega
  have HC0 : Hid _ := c0
  have HC1 : Hid _ := c1
  have HC2 : Hid _ := c2
  have HE2 : Hid (E = if a + 19 > 64 then 4 else 0) := by show _ = _; rw [HE.out, if_pos (by simp only [c0, c1, c2]; simp)]
  have HB : Hid (HidC Tryd.prog 32 #[.string arriveT, (⟨a, t, s, 0, 0⟩ : Nm).val] w (LkP w E RL)) := ⟨by
    have h := flblock_any (w := w) HW.out ⟨a, t, s, 0, 0⟩ ⟨by simp only; omega, by simp only; omega, by simp only; omega, by simp only; omega⟩ arriveT arriveT_ok (by rw [arriveT_rows]; exact arriveI_wf _ _ _ _ _ (by omega) (by omega))
    rw [arriveT_rows, ← HRL.out] at h
    have hl : RL.length = 19 := by rw [HRL.out]; rfl
    rw [hl] at h
    rw [HE2.out]
    exact h⟩
  clear hb c0 c1 c2 HE HW
  go_enter Tryd.func15, Tryd.ntmps15
  go_wp2_with fail
  refine (flplace_is HC0.out _).mono ?_
  rintro e w' ⟨rfl, rfl⟩
  go_wp2_with fail
  refine (flbet_is HC1.out _).mono ?_
  rintro e w' ⟨rfl, rfl⟩
  go_wp2_with fail
  refine (flbar_is HC2.out _).mono ?_
  rintro e w' ⟨rfl, rfl⟩
  go_wp2_with fail
  refine HB.out.out.mono ?_
  intro e w9 h9
  clear HB
  rcases h9 with ⟨he, ao, cap, rfl, hin, t9⟩ | ⟨he, rfl, t9⟩
  · have HIn : Hid _ := hin
    have HT9 : Hid _ := t9
    have HE9 : Hid _ := he
    obtain ⟨n9, hn9⟩ : ∃ n9, n9 = RL.length := ⟨_, rfl⟩
    have HN9 : Hid _ := hn9
    rw [← hn9]
    clear hin t9 he hn9
    go_wp2
    refine bodyPost_ret (v := .tuple #[.slice ao n9 cap, .int .i64 0]) (by simp [results, Tryd.results15, go_sem]) rfl ?_
    exact .inl ⟨HE9.out, ao, cap, by rw [HN9.out], HIn.out, HT9.out⟩
  · have HT9 : Hid _ := t9
    have HE9 : Hid _ := he
    clear t9 he
    go_wp2
    refine bodyPost_ret (v := .tuple #[.slice none 0 0, .int .i64 E]) (by simp [results, Tryd.results15, go_sem]) rfl ?_
    exact .inr ⟨HE9.out, rfl, HT9.out⟩
theorem leaveM_wf (t s l v : Int) (h : 0 ≤ t ∧ t ≤ 10 ∧ 0 ≤ l ∧ l ≤ 15) : ∀ i ∈ leaveM t s l v, i.Wf ∧ (0 ≤ i.arg ∧ i.arg ≤ 1000) ∧ i.op ≠ 23 ∧ i.op ≠ 24 := by
  intro i hi
  simp only [leaveM, List.mem_cons, List.not_mem_nil, or_false] at hi
  rcases hi with rfl | rfl | rfl | rfl | rfl | rfl | rfl | rfl
  · exact ⟨insO_wf (by omega) (by omega) (by omega) (by omega), by unfold insO; simp <;> omega, by unfold insO; simp, by unfold insO; simp⟩
  · exact ⟨insO_wf (by omega) (by omega) (by omega) (by omega), by unfold insO; simp <;> omega, by unfold insO; simp, by unfold insO; simp⟩
  · exact ⟨insO_wf (by omega) (by omega) (by omega) (by omega), by unfold insO; simp <;> omega, by unfold insO; simp, by unfold insO; simp⟩
  · exact ⟨insO_wf (by omega) (by omega) (by omega) (by omega), by unfold insO; simp <;> omega, by unfold insO; simp, by unfold insO; simp⟩
  · exact ⟨insO_wf (by omega) (by omega) (by omega) (by omega), by unfold insO; simp <;> omega, by unfold insO; simp, by unfold insO; simp⟩
  · exact ⟨insO_wf (by omega) (by omega) (by omega) (by omega), by unfold insO; simp <;> omega, by unfold insO; simp, by unfold insO; simp⟩
  · exact ⟨insO_wf (by omega) (by omega) (by omega) (by omega), by unfold insO; simp <;> omega, by unfold insO; simp, by unfold insO; simp⟩
  · exact ⟨insO_wf (by omega) (by omega) (by omega) (by omega), by unfold insO; simp <;> omega, by unfold insO; simp, by unfold insO; simp⟩
theorem leaveI_wf (a t s l v : Int) (ha : 0 ≤ a ∧ a ≤ 64) (h : 0 ≤ t ∧ t ≤ 10 ∧ 0 ≤ l ∧ l ≤ 15) : ∀ i ∈ leaveI a t s l v, i.Wf := by
  intro i hi
  rw [← leaveI_map] at hi
  obtain ⟨j, hj, rfl⟩ := List.mem_map.1 hi
  have := leaveM_wf t s l v h j hj
  exact shI_wf ha.1 ha.2 this.1 this.2.1
def leaveMay (a t l : Int) : Bool := (decide (0 ≤ a) && decide (a ≤ 64)) && (decide (0 ≤ t) && decide (t ≤ 10)) && (decide (0 ≤ l) && decide (l ≤ 3))
def leaveE (a t l : Int) : Int := if leaveMay a t l then (if a + 8 > 64 then 4 else 0) else 2
set_option maxRecDepth 100000 in
set_option maxHeartbeats 2000000 in
theorem flleave_any {w : World} (hw : Wds w) (a t l : Int) : Calls Tryd.prog 16 #[.int .i64 a, .int .i64 t, .int .i64 l] w (LkP w (leaveE a t l) (leaveI a t 0 l 0)) := by
  obtain ⟨E, hE⟩ : ∃ E, E = leaveE a t l := ⟨_, rfl⟩
  obtain ⟨RL, hRL⟩ : ∃ RL, RL = leaveI a t 0 l 0 := ⟨_, rfl⟩
  rw [← hE, ← hRL]
  unfold leaveE leaveMay at hE
  have HE : Hid _ := hE
  have HRL : Hid _ := hRL
  have HW : Hid _ := hw
  clear hE hRL hw
  cases c0 : (decide (0 ≤ a) && decide (a ≤ 64)) with
  | false =>
    have HE2 : Hid (E = 2) := by show _ = _; rw [HE.out, if_neg (by simp only [c0]; simp)]
    have HC0 : Hid _ := c0
    clear c0 HE HRL HW
    go_enter Tryd.func16, Tryd.ntmps16
    go_wp2_with fail
    refine (flplace_is HC0.out _).mono ?_
    rintro e w' ⟨rfl, rfl⟩
    go_wp2
    refine bodyPost_ret (v := .tuple #[.slice none 0 0, .int .i64 2]) (by simp [results, Tryd.results16, go_sem]) rfl ?_
    exact .inr ⟨by rw [HE2.out]; omega, by rw [HE2.out], Touch.refl _ _⟩
  | true =>
  cases c1 : (decide (0 ≤ t) && decide (t ≤ 10)) with
  | false =>
    have HE2 : Hid (E = 2) := by show _ = _; rw [HE.out, if_neg (by simp only [c0, c1]; simp)]
    have HC0 : Hid _ := c0
    have HC1 : Hid _ := c1
    clear c0 c1 HE HRL HW
    go_enter Tryd.func16, Tryd.ntmps16
    go_wp2_with fail
    refine (flplace_is HC0.out _).mono ?_
    rintro e w' ⟨rfl, rfl⟩
    go_wp2_with fail
    refine (flbar_is HC1.out _).mono ?_
    rintro e w' ⟨rfl, rfl⟩
    go_wp2
    refine bodyPost_ret (v := .tuple #[.slice none 0 0, .int .i64 2]) (by simp [results, Tryd.results16, go_sem]) rfl ?_
    exact .inr ⟨by rw [HE2.out]; omega, by rw [HE2.out], Touch.refl _ _⟩
  | true =>
  cases c2 : (decide (0 ≤ l) && decide (l ≤ 3)) with
  | false =>
    have HE2 : Hid (E = 2) := by show _ = _; rw [HE.out, if_neg (by simp only [c0, c1, c2]; simp)]
    have HC0 : Hid _ := c0
    have HC1 : Hid _ := c1
    have HC2 : Hid _ := c2
    clear c0 c1 c2 HE HRL HW
    go_enter Tryd.func16, Tryd.ntmps16
    go_wp2_with fail
    refine (flplace_is HC0.out _).mono ?_
    rintro e w' ⟨rfl, rfl⟩
    go_wp2_with fail
    refine (flbar_is HC1.out _).mono ?_
    rintro e w' ⟨rfl, rfl⟩
    go_wp2_with fail
    refine (flbet_is HC2.out _).mono ?_
    rintro e w' ⟨rfl, rfl⟩
    go_wp2
    refine bodyPost_ret (v := .tuple #[.slice none 0 0, .int .i64 2]) (by simp [results, Tryd.results16, go_sem]) rfl ?_
    exact .inr ⟨by rw [HE2.out]; omega, by rw [HE2.out], Touch.refl _ _⟩
  | true =>
  have hb : 0 ≤ a ∧ a ≤ 64 ∧ 0 ≤ t ∧ t ≤ 10 ∧ 0 ≤ l ∧ l ≤ 3 := by simp only [Bool.and_eq_true, decide_eq_true_eq] at c0 c1 c2; omega
  have HC0 : Hid _ := c0
  have HC1 : Hid _ := c1
  have HC2 : Hid _ := c2
  have HE2 : Hid (E = if a + 8 > 64 then 4 else 0) := by show _ = _; rw [HE.out, if_pos (by simp only [c0, c1, c2]; simp)]
  have HB : Hid (HidC Tryd.prog 32 #[.string leaveT, (⟨a, t, 0, l, 0⟩ : Nm).val] w (LkP w E RL)) := ⟨by
    have h := flblock_any (w := w) HW.out ⟨a, t, 0, l, 0⟩ ⟨by simp only; omega, by simp only; omega, by simp only; omega, by simp only; omega⟩ leaveT leaveT_ok (by rw [leaveT_rows]; exact leaveI_wf _ _ _ _ _ (by omega) (by omega))
    rw [leaveT_rows, ← HRL.out] at h
    have hl : RL.length = 8 := by rw [HRL.out]; rfl
    rw [hl] at h
    rw [HE2.out]
    exact h⟩
  clear hb c0 c1 c2 HE HW
  go_enter Tryd.func16, Tryd.ntmps16
  go_wp2_with fail
  refine (flplace_is HC0.out _).mono ?_
  rintro e w' ⟨rfl, rfl⟩
  go_wp2_with fail
  refine (flbar_is HC1.out _).mono ?_
  rintro e w' ⟨rfl, rfl⟩
  go_wp2_with fail
  refine (flbet_is HC2.out _).mono ?_
  rintro e w' ⟨rfl, rfl⟩
  go_wp2_with fail
  refine HB.out.out.mono ?_
  intro e w9 h9
  clear HB
  rcases h9 with ⟨he, ao, cap, rfl, hin, t9⟩ | ⟨he, rfl, t9⟩
  · have HIn : Hid _ := hin
    have HT9 : Hid _ := t9
    have HE9 : Hid _ := he
    obtain ⟨n9, hn9⟩ : ∃ n9, n9 = RL.length := ⟨_, rfl⟩
    have HN9 : Hid _ := hn9
    rw [← hn9]
    clear hin t9 he hn9
    go_wp2
    refine bodyPost_ret (v := .tuple #[.slice ao n9 cap, .int .i64 0]) (by simp [results, Tryd.results16, go_sem]) rfl ?_
    exact .inl ⟨HE9.out, ao, cap, by rw [HN9.out], HIn.out, HT9.out⟩
  · have HT9 : Hid _ := t9
    have HE9 : Hid _ := he
    clear t9 he
    go_wp2
    refine bodyPost_ret (v := .tuple #[.slice none 0 0, .int .i64 E]) (by simp [results, Tryd.results16, go_sem]) rfl ?_
    exact .inr ⟨HE9.out, rfl, HT9.out⟩
theorem takeM_wf (t s l v : Int) (h : 0 ≤ t ∧ t ≤ 10 ∧ 0 ≤ s ∧ s ≤ 15) : ∀ i ∈ takeM t s l v, i.Wf ∧ (0 ≤ i.arg ∧ i.arg ≤ 1000) ∧ i.op ≠ 23 ∧ i.op ≠ 24 := by
  intro i hi
  simp only [takeM, List.mem_cons, List.not_mem_nil, or_false] at hi
  rcases hi with rfl | rfl | rfl | rfl | rfl | rfl | rfl | rfl | rfl | rfl | rfl | rfl | rfl | rfl | rfl | rfl | rfl | rfl | rfl | rfl | rfl | rfl | rfl | rfl
  · exact ⟨insO_wf (by omega) (by omega) (by omega) (by omega), by unfold insO; simp <;> omega, by unfold insO; simp, by unfold insO; simp⟩
  · exact ⟨insO_wf (by omega) (by omega) (by omega) (by omega), by unfold insO; simp <;> omega, by unfold insO; simp, by unfold insO; simp⟩
  · exact ⟨insO_wf (by omega) (by omega) (by omega) (by omega), by unfold insO; simp <;> omega, by unfold insO; simp, by unfold insO; simp⟩
  · exact ⟨insO_wf (by omega) (by omega) (by omega) (by omega), by unfold insO; simp <;> omega, by unfold insO; simp, by unfold insO; simp⟩
  · exact ⟨insO_wf (by omega) (by omega) (by omega) (by omega), by unfold insO; simp <;> omega, by unfold insO; simp, by unfold insO; simp⟩
  · exact ⟨insO_wf (by omega) (by omega) (by omega) (by omega), by unfold insO; simp <;> omega, by unfold insO; simp, by unfold insO; simp⟩
  · exact ⟨insP_wf (by omega), by unfold insP; simp <;> omega, by unfold insP; simp, by unfold insP; simp⟩
  · exact ⟨insO_wf (by omega) (by omega) (by omega) (by omega), by unfold insO; simp <;> omega, by unfold insO; simp, by unfold insO; simp⟩
  · exact ⟨insO_wf (by omega) (by omega) (by omega) (by omega), by unfold insO; simp <;> omega, by unfold insO; simp, by unfold insO; simp⟩
  · exact ⟨insO_wf (by omega) (by omega) (by omega) (by omega), by unfold insO; simp <;> omega, by unfold insO; simp, by unfold insO; simp⟩
  · exact ⟨insP_wf (by omega), by unfold insP; simp <;> omega, by unfold insP; simp, by unfold insP; simp⟩
  · exact ⟨insO_wf (by omega) (by omega) (by omega) (by omega), by unfold insO; simp <;> omega, by unfold insO; simp, by unfold insO; simp⟩
  · exact ⟨insO_wf (by omega) (by omega) (by omega) (by omega), by unfold insO; simp <;> omega, by unfold insO; simp, by unfold insO; simp⟩
  · exact ⟨insP_wf (by omega), by unfold insP; simp <;> omega, by unfold insP; simp, by unfold insP; simp⟩
  · exact ⟨insO_wf (by omega) (by omega) (by omega) (by omega), by unfold insO; simp <;> omega, by unfold insO; simp, by unfold insO; simp⟩
  · exact ⟨insO_wf (by omega) (by omega) (by omega) (by omega), by unfold insO; simp <;> omega, by unfold insO; simp, by unfold insO; simp⟩
  · exact ⟨insO_wf (by omega) (by omega) (by omega) (by omega), by unfold insO; simp <;> omega, by unfold insO; simp, by unfold insO; simp⟩
  · exact ⟨insO_wf (by omega) (by omega) (by omega) (by omega), by unfold insO; simp <;> omega, by unfold insO; simp, by unfold insO; simp⟩
  · exact ⟨insO_wf (by omega) (by omega) (by omega) (by omega), by unfold insO; simp <;> omega, by unfold insO; simp, by unfold insO; simp⟩
  · exact ⟨insP_wf (by omega), by unfold insP; simp <;> omega, by unfold insP; simp, by unfold insP; simp⟩
  · exact ⟨insO_wf (by omega) (by omega) (by omega) (by omega), by unfold insO; simp <;> omega, by unfold insO; simp, by unfold insO; simp⟩
  · exact ⟨insO_wf (by omega) (by omega) (by omega) (by omega), by unfold insO; simp <;> omega, by unfold insO; simp, by unfold insO; simp⟩
  · exact ⟨insO_wf (by omega) (by omega) (by omega) (by omega), by unfold insO; simp <;> omega, by unfold insO; simp, by unfold insO; simp⟩
  · exact ⟨insO_wf (by omega) (by omega) (by omega) (by omega), by unfold insO; simp <;> omega, by unfold insO; simp, by unfold insO; simp⟩
theorem takeI_wf (a t s l v : Int) (ha : 0 ≤ a ∧ a ≤ 64) (h : 0 ≤ t ∧ t ≤ 10 ∧ 0 ≤ s ∧ s ≤ 15) : ∀ i ∈ takeI a t s l v, i.Wf := by
  intro i hi
  rw [← takeI_map] at hi
  obtain ⟨j, hj, rfl⟩ := List.mem_map.1 hi
  have := takeM_wf t s l v h j hj
  exact shI_wf ha.1 ha.2 this.1 this.2.1
def takeMay (a t s : Int) : Bool := (decide (0 ≤ a) && decide (a ≤ 64)) && ((decide (1 ≤ s) && decide (s ≤ 4)) && (decide (0 ≤ t) && decide (t ≤ 10 - s)))
def takeE (a t s : Int) : Int := if takeMay a t s then (if a + 24 > 64 then 4 else 0) else 2
set_option maxRecDepth 100000 in
set_option maxHeartbeats 2000000 in
theorem fltake_any {w : World} (hw : Wds w) (a t s : Int) : Calls Tryd.prog 14 #[.int .i64 a, .int .i64 t, .int .i64 s] w (LkP w (takeE a t s) (takeI a t s 0 0)) := by
  obtain ⟨E, hE⟩ : ∃ E, E = takeE a t s := ⟨_, rfl⟩
  obtain ⟨RL, hRL⟩ : ∃ RL, RL = takeI a t s 0 0 := ⟨_, rfl⟩
  rw [← hE, ← hRL]
  unfold takeE takeMay at hE
  have HE : Hid _ := hE
  have HRL : Hid _ := hRL
  have HW : Hid _ := hw
  clear hE hRL hw
  cases c0 : (decide (0 ≤ a) && decide (a ≤ 64)) with
  | false =>
    have HE2 : Hid (E = 2) := by show _ = _; rw [HE.out, if_neg (by simp only [c0]; simp)]
    have HC0 : Hid _ := c0
    clear c0 HE HRL HW
    go_enter Tryd.func14, Tryd.ntmps14
    go_wp2_with fail
    refine (flplace_is HC0.out _).mono ?_
    rintro e w' ⟨rfl, rfl⟩
    go_wp2
    refine bodyPost_ret (v := .tuple #[.slice none 0 0, .int .i64 2]) (by simp [results, Tryd.results14, go_sem]) rfl ?_
    exact .inr ⟨by rw [HE2.out]; omega, by rw [HE2.out], Touch.refl _ _⟩
  | true =>
  cases c1 : ((decide (1 ≤ s) && decide (s ≤ 4)) && (decide (0 ≤ t) && decide (t ≤ 10 - s))) with
  | false =>
    have HE2 : Hid (E = 2) := by show _ = _; rw [HE.out, if_neg (by simp only [c0, c1]; simp)]
    have HC0 : Hid _ := c0
    have HC1 : Hid _ := c1
    clear c0 c1 HE HRL HW
    go_enter Tryd.func14, Tryd.ntmps14
    go_wp2_with fail
    refine (flplace_is HC0.out _).mono ?_
    rintro e w' ⟨rfl, rfl⟩
    go_wp2_with fail
    refine (flque_is HC1.out _).mono ?_
    rintro e w' ⟨rfl, rfl⟩
    go_wp2
    refine bodyPost_ret (v := .tuple #[.slice none 0 0, .int .i64 2]) (by simp [results, Tryd.results14, go_sem]) rfl ?_
    exact .inr ⟨by rw [HE2.out]; omega, by rw [HE2.out], Touch.refl _ _⟩
  | true =>
  have hb : 0 ≤ a ∧ a ≤ 64 ∧ 1 ≤ s ∧ s ≤ 4 ∧ 0 ≤ t ∧ t ≤ 10 := by simp only [Bool.and_eq_true, decide_eq_true_eq] at c0 c1; omega
  have HC0 : Hid _ := c0
  have HC1 : Hid _ := c1
  have HE2 : Hid (E = if a + 24 > 64 then 4 else 0) := by show _ = _; rw [HE.out, if_pos (by simp only [c0, c1]; simp)]
  have HB : Hid (HidC Tryd.prog 32 #[.string takeT, (⟨a, t, s, 0, 0⟩ : Nm).val] w (LkP w E RL)) := ⟨by
    have h := flblock_any (w := w) HW.out ⟨a, t, s, 0, 0⟩ ⟨by simp only; omega, by simp only; omega, by simp only; omega, by simp only; omega⟩ takeT takeT_ok (by rw [takeT_rows]; exact takeI_wf _ _ _ _ _ (by omega) (by omega))
    rw [takeT_rows, ← HRL.out] at h
    have hl : RL.length = 24 := by rw [HRL.out]; rfl
    rw [hl] at h
    rw [HE2.out]
    exact h⟩
  clear hb c0 c1 HE HW
  go_enter Tryd.func14, Tryd.ntmps14
  go_wp2_with fail
  refine (flplace_is HC0.out _).mono ?_
  rintro e w' ⟨rfl, rfl⟩
  go_wp2_with fail
  refine (flque_is HC1.out _).mono ?_
  rintro e w' ⟨rfl, rfl⟩
  go_wp2_with fail
  refine HB.out.out.mono ?_
  intro e w9 h9
  clear HB
  rcases h9 with ⟨he, ao, cap, rfl, hin, t9⟩ | ⟨he, rfl, t9⟩
  · have HIn : Hid _ := hin
    have HT9 : Hid _ := t9
    have HE9 : Hid _ := he
    obtain ⟨n9, hn9⟩ : ∃ n9, n9 = RL.length := ⟨_, rfl⟩
    have HN9 : Hid _ := hn9
    rw [← hn9]
    clear hin t9 he hn9
    go_wp2
    refine bodyPost_ret (v := .tuple #[.slice ao n9 cap, .int .i64 0]) (by simp [results, Tryd.results14, go_sem]) rfl ?_
    exact .inl ⟨HE9.out, ao, cap, by rw [HN9.out], HIn.out, HT9.out⟩
  · have HT9 : Hid _ := t9
    have HE9 : Hid _ := he
    clear t9 he
    go_wp2
    refine bodyPost_ret (v := .tuple #[.slice none 0 0, .int .i64 E]) (by simp [results, Tryd.results14, go_sem]) rfl ?_
    exact .inr ⟨HE9.out, rfl, HT9.out⟩
theorem enterM_wf (t s l v : Int) (h : 0 ≤ t ∧ t ≤ 10 ∧ 0 ≤ s ∧ s ≤ 15) (hv : Wf64 v) : ∀ i ∈ enterM t s l v, i.Wf ∧ (0 ≤ i.arg ∧ i.arg ≤ 1000) ∧ i.op ≠ 23 ∧ i.op ≠ 24 := by
  intro i hi
  simp only [enterM, List.mem_cons, List.not_mem_nil, or_false] at hi
  rcases hi with rfl | rfl | rfl | rfl | rfl | rfl | rfl | rfl | rfl | rfl | rfl | rfl | rfl | rfl | rfl | rfl | rfl | rfl | rfl | rfl | rfl | rfl | rfl
  · exact ⟨insO_wf (by omega) (by omega) (by omega) (by omega), by unfold insO; simp <;> omega, by unfold insO; simp, by unfold insO; simp⟩
  · exact ⟨insO_wf (by omega) (by omega) (by omega) (by omega), by unfold insO; simp <;> omega, by unfold insO; simp, by unfold insO; simp⟩
  · exact ⟨insP_wf (by omega), by unfold insP; simp <;> omega, by unfold insP; simp, by unfold insP; simp⟩
  · exact ⟨insO_wf (by omega) (by omega) (by omega) (by omega), by unfold insO; simp <;> omega, by unfold insO; simp, by unfold insO; simp⟩
  · exact ⟨insO_wf (by omega) (by omega) (by omega) (by omega), by unfold insO; simp <;> omega, by unfold insO; simp, by unfold insO; simp⟩
  · exact ⟨insO_wf (by omega) (by omega) (by omega) (by omega), by unfold insO; simp <;> omega, by unfold insO; simp, by unfold insO; simp⟩
  · exact ⟨⟨by simp, by simp, hv⟩, by simp, by simp, by simp⟩
  · exact ⟨insO_wf (by omega) (by omega) (by omega) (by omega), by unfold insO; simp <;> omega, by unfold insO; simp, by unfold insO; simp⟩
  · exact ⟨insO_wf (by omega) (by omega) (by omega) (by omega), by unfold insO; simp <;> omega, by unfold insO; simp, by unfold insO; simp⟩
  · exact ⟨insO_wf (by omega) (by omega) (by omega) (by omega), by unfold insO; simp <;> omega, by unfold insO; simp, by unfold insO; simp⟩
  · exact ⟨insO_wf (by omega) (by omega) (by omega) (by omega), by unfold insO; simp <;> omega, by unfold insO; simp, by unfold insO; simp⟩
  · exact ⟨insP_wf (by omega), by unfold insP; simp <;> omega, by unfold insP; simp, by unfold insP; simp⟩
  · exact ⟨insO_wf (by omega) (by omega) (by omega) (by omega), by unfold insO; simp <;> omega, by unfold insO; simp, by unfold insO; simp⟩
  · exact ⟨insO_wf (by omega) (by omega) (by omega) (by omega), by unfold insO; simp <;> omega, by unfold insO; simp, by unfold insO; simp⟩
  · exact ⟨insO_wf (by omega) (by omega) (by omega) (by omega), by unfold insO; simp <;> omega, by unfold insO; simp, by unfold insO; simp⟩
  · exact ⟨insP_wf (by omega), by unfold insP; simp <;> omega, by unfold insP; simp, by unfold insP; simp⟩
  · exact ⟨insO_wf (by omega) (by omega) (by omega) (by omega), by unfold insO; simp <;> omega, by unfold insO; simp, by unfold insO; simp⟩
  · exact ⟨insO_wf (by omega) (by omega) (by omega) (by omega), by unfold insO; simp <;> omega, by unfold insO; simp, by unfold insO; simp⟩
  · exact ⟨insO_wf (by omega) (by omega) (by omega) (by omega), by unfold insO; simp <;> omega, by unfold insO; simp, by unfold insO; simp⟩
  · exact ⟨insP_wf (by omega), by unfold insP; simp <;> omega, by unfold insP; simp, by unfold insP; simp⟩
  · exact ⟨insO_wf (by omega) (by omega) (by omega) (by omega), by unfold insO; simp <;> omega, by unfold insO; simp, by unfold insO; simp⟩
  · exact ⟨insO_wf (by omega) (by omega) (by omega) (by omega), by unfold insO; simp <;> omega, by unfold insO; simp, by unfold insO; simp⟩
  · exact ⟨insO_wf (by omega) (by omega) (by omega) (by omega), by unfold insO; simp <;> omega, by unfold insO; simp, by unfold insO; simp⟩
theorem enterI_wf (a t s l v : Int) (ha : 0 ≤ a ∧ a ≤ 64) (h : 0 ≤ t ∧ t ≤ 10 ∧ 0 ≤ s ∧ s ≤ 15) (hv : Wf64 v) : ∀ i ∈ enterI a t s l v, i.Wf := by
  intro i hi
  rw [← enterI_map] at hi
  obtain ⟨j, hj, rfl⟩ := List.mem_map.1 hi
  have := enterM_wf t s l v h hv j hj
  exact shI_wf ha.1 ha.2 this.1 this.2.1
def enterMay (a t s : Int) : Bool := (decide (0 ≤ a) && decide (a ≤ 64)) && ((decide (1 ≤ s) && decide (s ≤ 4)) && (decide (0 ≤ t) && decide (t ≤ 10 - s)))
def enterE (a t s v : Int) : Int := if enterMay a t s then (if rightB v then if a + 23 > 64 then 4 else 0 else 3) else 2
set_option maxRecDepth 100000 in
set_option maxHeartbeats 2000000 in
theorem flenter_any {w : World} (hw : Wds w) (a t s v : Int) (hv : Wf64 v) : Calls Tryd.prog 13 #[.int .i64 a, .int .i64 t, .int .i64 s, .int .u64 v] w (LkP w (enterE a t s v) (enterI a t s 0 v)) := by
  obtain ⟨E, hE⟩ : ∃ E, E = enterE a t s v := ⟨_, rfl⟩
  obtain ⟨RL, hRL⟩ : ∃ RL, RL = enterI a t s 0 v := ⟨_, rfl⟩
  rw [← hE, ← hRL]
  unfold enterE enterMay at hE
  have HE : Hid _ := hE
  have HRL : Hid _ := hRL
  have HW : Hid _ := hw
  clear hE hRL hw
  have HV : Hid _ := hv
  clear hv
  cases c0 : (decide (0 ≤ a) && decide (a ≤ 64)) with
  | false =>
    have HE2 : Hid (E = 2) := by show _ = _; rw [HE.out, if_neg (by simp only [c0]; simp)]
    have HC0 : Hid _ := c0
    clear c0 HE HRL HW
    go_enter Tryd.func13, Tryd.ntmps13
    go_wp2_with fail
    refine (flplace_is HC0.out _).mono ?_
    rintro e w' ⟨rfl, rfl⟩
    go_wp2
    refine bodyPost_ret (v := .tuple #[.slice none 0 0, .int .i64 2]) (by simp [results, Tryd.results13, go_sem]) rfl ?_
    exact .inr ⟨by rw [HE2.out]; omega, by rw [HE2.out], Touch.refl _ _⟩
  | true =>
  cases c1 : ((decide (1 ≤ s) && decide (s ≤ 4)) && (decide (0 ≤ t) && decide (t ≤ 10 - s))) with
  | false =>
    have HE2 : Hid (E = 2) := by show _ = _; rw [HE.out, if_neg (by simp only [c0, c1]; simp)]
    have HC0 : Hid _ := c0
    have HC1 : Hid _ := c1
    clear c0 c1 HE HRL HW
    go_enter Tryd.func13, Tryd.ntmps13
    go_wp2_with fail
    refine (flplace_is HC0.out _).mono ?_
    rintro e w' ⟨rfl, rfl⟩
    go_wp2_with fail
    refine (flque_is HC1.out _).mono ?_
    rintro e w' ⟨rfl, rfl⟩
    go_wp2
    refine bodyPost_ret (v := .tuple #[.slice none 0 0, .int .i64 2]) (by simp [results, Tryd.results13, go_sem]) rfl ?_
    exact .inr ⟨by rw [HE2.out]; omega, by rw [HE2.out], Touch.refl _ _⟩
  | true =>
  have hb : 0 ≤ a ∧ a ≤ 64 ∧ 1 ≤ s ∧ s ≤ 4 ∧ 0 ≤ t ∧ t ≤ 10 := by simp only [Bool.and_eq_true, decide_eq_true_eq] at c0 c1; omega
  have HC0 : Hid _ := c0
  have HC1 : Hid _ := c1
  have HE1 : Hid (E = if rightB v then (if a + 23 > 64 then 4 else 0) else 3) := by show _ = _; rw [HE.out, if_pos (by simp only [c0, c1]; simp)]
  have HRT : Hid (HidC Tryd.prog 31 #[.int .u64 v] w fun e w' => e = .returned (.bool (rightB v)) ∧ Touch w w' []) := ⟨(right_any v w).mono (by rintro e w' ⟨rfl, rfl⟩; exact ⟨rfl, Touch.refl _ _⟩)⟩
  have HBD : Hid _ := hb
  clear hb c0 c1 HE
  cases hr : rightB v with
  | false =>
    have HE2 : Hid (E = 3) := by show _ = _; rw [HE1.out, hr]; rfl
    rw [hr] at HRT
    clear hr HE1 HW HV HRL
    go_enter Tryd.func13, Tryd.ntmps13
    go_wp2_with fail
    refine (flplace_is HC0.out _).mono ?_
    rintro e w' ⟨rfl, rfl⟩
    go_wp2_with fail
    refine (flque_is HC1.out _).mono ?_
    rintro e w' ⟨rfl, rfl⟩
    go_wp2_with fail
    refine HRT.out.out.mono ?_
    rintro e w2 ⟨rfl, t2⟩
    have HT2 : Hid _ := t2
    clear t2
    go_wp2
    refine bodyPost_ret (v := .tuple #[.slice none 0 0, .int .i64 3]) (by simp [results, Tryd.results13, go_sem]) rfl ?_
    exact .inr ⟨by rw [HE2.out]; omega, by rw [HE2.out], HT2.out⟩
  | true =>
    have HE2 : Hid (E = if a + 23 > 64 then 4 else 0) := by show _ = _; rw [HE1.out, hr]; rfl
    rw [hr] at HRT
    clear hr HE1
    go_enter Tryd.func13, Tryd.ntmps13
    go_wp2_with fail
    refine (flplace_is HC0.out _).mono ?_
    rintro e w' ⟨rfl, rfl⟩
    go_wp2_with fail
    refine (flque_is HC1.out _).mono ?_
    rintro e w' ⟨rfl, rfl⟩
    go_wp2_with fail
    refine HRT.out.out.mono ?_
    rintro e w2 ⟨rfl, t2⟩
    have HT2 : Hid _ := t2
    have HW1 : Hid _ := HW.out.touch t2 (by simp)
    have hb := HBD.out
    have HB : Hid (HidC Tryd.prog 32 #[.string enterT, (⟨a, t, s, 0, v⟩ : Nm).val] w2 (LkP w2 E RL)) := ⟨by
      have h := flblock_any (w := w2) HW1.out ⟨a, t, s, 0, v⟩ ⟨by simp only; omega, by simp only; omega, by simp only; omega, by simp only; omega⟩ enterT enterT_ok (by rw [enterT_rows]; exact enterI_wf _ _ _ _ _ (by omega) (by omega) HV.out)
      rw [enterT_rows, ← HRL.out] at h
      have hl : RL.length = 23 := by rw [HRL.out]; rfl
      rw [hl] at h
      rw [HE2.out]
      exact h⟩
    clear hb t2 HRT
    go_wp2_with fail
    refine HB.out.out.mono ?_
    intro e w9 h9
    clear HB
    rcases h9 with ⟨he, ao, cap, rfl, hin, t9⟩ | ⟨he, rfl, t9⟩
    · have HIn : Hid _ := hin
      have HT9 : Hid _ := t9
      have HE9 : Hid _ := he
      obtain ⟨n9, hn9⟩ : ∃ n9, n9 = RL.length := ⟨_, rfl⟩
      have HN9 : Hid _ := hn9
      rw [← hn9]
      clear hin t9 he hn9
      go_wp2
      refine bodyPost_ret (v := .tuple #[.slice ao n9 cap, .int .i64 0]) (by simp [results, Tryd.results13, go_sem]) rfl ?_
      exact .inl ⟨HE9.out, ao, cap, by rw [HN9.out], HIn.out, HT2.out.trans HT9.out (by simp)⟩
    · have HT9 : Hid _ := t9
      have HE9 : Hid _ := he
      clear t9 he
      go_wp2
      refine bodyPost_ret (v := .tuple #[.slice none 0 0, .int .i64 E]) (by simp [results, Tryd.results13, go_sem]) rfl ?_
      exact .inr ⟨HE9.out, rfl, HT2.out.trans HT9.out (by simp)⟩

end Go.Proofs.YtkpgfchglaemgaaDoor
/-
  THE DOCUMENT's Enter, Take, Arrive, Leave BY THEIR CONTRACTS. Written by mkfl.py.
-/
namespace Go.Proofs.YtkpgfchglaemgaaDoor
set_option linter.unusedVariables false
set_option linter.unusedSimpArgs false
open Go.RowKit
attribute [local go_sem] Oper.semAt_some

theorem own_low {w : World} {B B' : Nat} {v : Value} {xs : List InsD} (h : insOwn w B v xs) (hb : B' ≤ B) : insOwn w B' v xs := by
  refine ⟨h.1, ?_⟩
  rcases h.2 with h | ⟨g, cap, cur, a, b, c⟩
  · exact .inl h
  · exact .inr ⟨g, cap, cur, a, Nat.le_trans hb b, c⟩
theorem fllit {w0 w : World} (t : Touch w0 w []) (l : List InsD) (cs : Array Value) (n : Nat) (hn : l.length = n) (hcs : cs.toList = l.flatMap InsD.cells) (h100 : n ≤ 100) : insOwn (w.alloc (.cells cs 62)) w0.heap.size (.slice (some ⟨w.heap.size, 0, none⟩) n n) l := by
  subst hn
  have hsz : cs.size = l.length * 3 := by rw [← Array.length_toList, hcs, flat_len (n := 3) (fun _ => rfl)]
  exact own_low (B := w.heap.size) ⟨flat_len (n := 3) (fun _ => rfl) l, .inr ⟨w.heap.size, l.length, cs, rfl, Nat.le_refl _, heap_alloc_new w _, Nat.le_refl _, by unfold maxLen; omega, hsz, by rw [← hsz, ← hcs, ← Array.length_toList, List.take_length]⟩⟩ t.size
theorem flstep {w0 w : World} {v : Value} {xs : List InsD} (ob : insOwn w w0.heap.size v xs) (t : Touch w0 w []) (l : List InsD) (cs : Array Value) (n m k : Nat) (hn : xs.length = n) (hm : l.length = m) (hk : n + m = k) (h100 : k ≤ 100) (hcs : cs.toList = l.flatMap InsD.cells) :
    ∃ ao cap w', (Builtin.append_ #[27, 27] 27 #[v, .slice (some ⟨w.heap.size, 0, none⟩) m m]).run Tryd.prog (w.alloc (.cells cs 62)) = .ok (.slice ao k cap) w' ∧ insOwn w' w0.heap.size (.slice ao k cap) (xs ++ l) ∧ Touch w0 w' [] := by
  have ta : Touch w (w.alloc (.cells cs 62)) [] := (Touch.refl w []).alloc _
  have hlit := fllit (Touch.refl w []) l cs m hm hcs (by omega)
  obtain ⟨i0, hi, hz0, hz1, hz2⟩ := info_parts' Tryd.info_ins
  subst hn hm hk
  obtain ⟨v', w', h1, h2, h3, h4⟩ := run_app (P := Tryd.prog) (cells := InsD.cells) 27 27 62 i0 _ 3 24 Tryd.underlying27 hi hz0 hz1 hz2 rfl (by decide) (fun _ => rfl) ins_one (ownsRow_touch ob ta (by simp)) (l := l) (srow_of (cells := InsD.cells) (n := 3) (fun _ => rfl) hlit) (by omega) (by decide) (Nat.le_trans t.size ta.size)
  have h2' : insOwn w' w0.heap.size v' (xs ++ l) := by
    show w'.ownsRow _ _ _ _ _ _
    rw [List.length_append, List.flatMap_append]
    exact h2
  obtain ⟨ao', cap', rfl⟩ := owns_slice h2
  refine ⟨ao', cap', w', h1, h2', (t.trans ta (by simp)).trans ((Touch.refl _ v.ownBlock.toList).grown h3 (fun k hk => .inl (by simp [hk]))) (fun x hx => .inr ?_)⟩
  exact (World.ownsRow.lt ob x (by simpa using hx)).1

def fmayP (a t u s m : Int) : Bool := decide (0 ≤ a) && (decide (a ≤ 64) && (decide (1 ≤ s) && (decide (s ≤ m) && (decide (0 ≤ t) && decide (t ≤ 12 - u)))))
end Go.Proofs.YtkpgfchglaemgaaDoor
/-
  THE STATEMENTS ON package flows, WALKED: FlowsBarriers, FlowsQueues. Written by mkfl.py.
-/
namespace Go.Proofs.YtkpgfchglaemgaaDoor
set_option linter.unusedVariables false
set_option linter.unusedSimpArgs false
open Go.RowKit
attribute [local go_sem] Oper.semAt_some

set_option maxRecDepth 100000 in
set_option maxHeartbeats 1000000 in
theorem fllive_any {w : World} (hw : Wds w) : Calls Tryd.prog 6 #[] w fun e w' => e = .returned (.bool true) ∧ Touch w w' [] := by
  have hE : leaveE 0 3 1 = 0 := by decide
  have HC : Hid (HidC Tryd.prog 16 #[.int .i64 0, .int .i64 3, .int .i64 1] w (fun e w' => ∃ g off cap, e = .returned (.tuple #[.slice (some ⟨g, off, none⟩) 8 cap, .int .i64 0]) ∧ (w'.cell? ⟨g, off + 6, none⟩ = some (.int .u8 4) ∧ w'.cell? ⟨g, off + 7, none⟩ = some (.int .i64 4) ∧ w'.cell? ⟨g, off + 8, none⟩ = some (.int .u64 0) ∧ w'.cell? ⟨g, off + 21, none⟩ = some (.int .u8 22)) ∧ Touch w w' [])) := by
    refine ⟨(flleave_any hw 0 3 1).mono ?_⟩
    intro e w' h
    rw [hE] at h
    rcases h with ⟨_, ao, cap, rfl, hin, t⟩ | ⟨h, _⟩
    · obtain ⟨g, off, rfl, d0, d1, d2⟩ := ins_at hin.row (Touch.refl w' []) (by simp) 2 (by show 2 < 8; omega)
      obtain ⟨g', off', e', f0, f1, f2⟩ := ins_at hin.row (Touch.refl w' []) (by simp) 7 (by show 7 < 8; omega)
      simp only [Option.some.injEq, Addr.mk.injEq, and_true] at e'
      obtain ⟨rfl, rfl⟩ := e'
      exact ⟨g, off, cap, rfl, ⟨d0, d1, d2, f0⟩, t⟩
    · exact absurd rfl h
  clear hE hw
  go_enter Tryd.func6, Tryd.ntmps6
  go_wp2_with fail
  refine (HC.out).out.mono ?_
  rintro e w1 ⟨g, off, cap, rfl, ⟨d0, d1, d2, d5⟩, t1⟩
  have HT : Hid _ := t1
  clear t1 HC
  go_wp2
  go_ret
  exact ⟨rfl, HT.out⟩




end Go.Proofs.YtkpgfchglaemgaaDoor
/-
  rowlocklaw23.one BY ITS CONTRACT. Written by mkfl.py.
-/
namespace Go.Proofs.YtkpgfchglaemgaaDoor
set_option linter.unusedVariables false
set_option linter.unusedSimpArgs false
open Go.RowKit
attribute [local go_sem] Oper.semAt_some

def foneL (j n v : Int) : List InsD := if j = 0 then enterI 0 0 n 0 v else if j = 1 then takeI 0 0 n 0 0 else if j = 2 then arriveI 0 0 n 0 0 else leaveI 0 0 0 2 0
def foneV (j v : Int) : Int := if j = 0 then v else if j = 1 then 0 else if j = 2 then 0 else v
def FOneP (w : World) (j n v : Int) (e : Ending) (w' : World) : Prop :=
  ∃ ao cap, e = .returned (.tuple #[.slice ao (foneL j n v).length cap, .agg #[.int .u8 (j + 5), .int .i64 0, .int .u64 (foneV j v)], .int .i64 0]) ∧ InsIn w' ao (foneL j n v).length cap (foneL j n v) ∧ Touch w w' []
theorem fone_first (j n v : Int) : 0 < (foneL j n v).length ∧ ∀ h : 0 < (foneL j n v).length, (foneL j n v)[0].op = 21 := by
  unfold foneL
  split
  · exact ⟨by show 0 < _; simp [enterI, takeI, arriveI, leaveI], fun _ => rfl⟩
  · split
    · exact ⟨by show 0 < _; simp [enterI, takeI, arriveI, leaveI], fun _ => rfl⟩
    · split
      · exact ⟨by show 0 < _; simp [enterI, takeI, arriveI, leaveI], fun _ => rfl⟩
      · exact ⟨by show 0 < _; simp [enterI, takeI, arriveI, leaveI], fun _ => rfl⟩
set_option maxRecDepth 100000 in
set_option maxHeartbeats 4000000 in
theorem flone_any {w : World} (hw : Wds w) (k n v : Int) (k0 : 0 ≤ k) (k1 : k ≤ 255) (n0 : 1 ≤ n) (n1 : n ≤ 4) (hv : Wf64 v) (hr : rightB v = true) :
    Calls Tryd.prog 5 #[.int .u8 k, .int .i64 n, .int .u64 v] w (FOneP w (k % 4) n v) := by
  have C0 : Hid (∀ W, Touch w W [] → HidC Tryd.prog 13 #[.int .i64 0, .int .i64 0, .int .i64 n, .int .u64 v] W (fun e w' => ∃ ao cap, e = .returned (.tuple #[.slice ao (enterI 0 0 n 0 v).length cap, .int .i64 0]) ∧ InsIn w' ao (enterI 0 0 n 0 v).length cap (enterI 0 0 n 0 v) ∧ Touch W w' [])) := fun W tw => ⟨(flenter_any (hw.touch tw (by simp)) 0 0 n v hv).mono fun e w' h => lk_ok (by unfold enterE enterMay; simp [n0, n1, hr]; omega) h⟩
  have C1 : Hid (∀ W, Touch w W [] → HidC Tryd.prog 14 #[.int .i64 0, .int .i64 0, .int .i64 n] W (fun e w' => ∃ ao cap, e = .returned (.tuple #[.slice ao (takeI 0 0 n 0 0).length cap, .int .i64 0]) ∧ InsIn w' ao (takeI 0 0 n 0 0).length cap (takeI 0 0 n 0 0) ∧ Touch W w' [])) := fun W tw => ⟨(fltake_any (hw.touch tw (by simp)) 0 0 n).mono fun e w' h => lk_ok (by unfold takeE takeMay; simp [n0, n1]; try omega) h⟩
  have C2 : Hid (∀ W, Touch w W [] → HidC Tryd.prog 15 #[.int .i64 0, .int .i64 0, .int .i64 n] W (fun e w' => ∃ ao cap, e = .returned (.tuple #[.slice ao (arriveI 0 0 n 0 0).length cap, .int .i64 0]) ∧ InsIn w' ao (arriveI 0 0 n 0 0).length cap (arriveI 0 0 n 0 0) ∧ Touch W w' [])) := fun W tw => ⟨(flarrive_any (hw.touch tw (by simp)) 0 0 n).mono fun e w' h => lk_ok (by unfold arriveE arriveMay; simp [n0, n1]; try omega) h⟩
  have C3 : Hid (∀ W, Touch w W [] → HidC Tryd.prog 16 #[.int .i64 0, .int .i64 0, .int .i64 2] W (fun e w' => ∃ ao cap, e = .returned (.tuple #[.slice ao (leaveI 0 0 0 2 0).length cap, .int .i64 0]) ∧ InsIn w' ao (leaveI 0 0 0 2 0).length cap (leaveI 0 0 0 2 0) ∧ Touch W w' [])) := fun W tw => ⟨(flleave_any (hw.touch tw (by simp)) 0 0 2).mono fun e w' h => lk_ok (by decide) h⟩
  obtain ⟨j, hj⟩ : ∃ j, j = k % 4 := ⟨_, rfl⟩
  have hj4 : j = 0 ∨ j = 1 ∨ j = 2 ∨ j = 3 := by omega
  have hrem : k.tmod 4 = j := by rw [hj, Int.tmod_eq_emod_of_nonneg k0]
  have hwj : IntKind.u8.wrap j = j := by rw [IntKind.wrap_u8]; omega
  rw [← hj]
  have HTA : Hid (∀ q vv, Touch w ((w.alloc (.cells #[.int .u8 0, .int .i64 0, .int .u64 0] 30)).alloc (.cells #[.int .u8 q, .int .i64 0, .int .u64 vv] 30)) []) := fun q vv => ((Touch.refl w []).alloc _).alloc _
  have HA : Hid (∀ q vv, BoxC ((w.alloc (.cells #[.int .u8 0, .int .i64 0, .int .u64 0] 30)).alloc (.cells #[.int .u8 q, .int .i64 0, .int .u64 vv] 30)) w.heap.size 0 0 0) := fun q vv => (BoxC.new w 0 0 0).touch ((Touch.refl _ []).alloc _) (by simp)
  have HB : Hid (∀ q vv, BoxC ((w.alloc (.cells #[.int .u8 0, .int .i64 0, .int .u64 0] 30)).alloc (.cells #[.int .u8 q, .int .i64 0, .int .u64 vv] 30)) (w.heap.size + 1) q 0 vv) := fun q vv => by
    have := BoxC.new (w.alloc (.cells #[.int .u8 0, .int .i64 0, .int .u64 0] 30)) q 0 vv
    simpa using this
  clear hj hw hr hv
  go_enter Tryd.func5, Tryd.ntmps5
  rcases hj4 with rfl | rfl | rfl | rfl
  · go_wp2_with fail
    have ta := HTA.out 5 v
    have ba := HA.out 5 v
    have bb := HB.out 5 v
    generalize ((w.alloc (.cells #[.int .u8 0, .int .i64 0, .int .u64 0] 30)).alloc (.cells #[.int .u8 5, .int .i64 0, .int .u64 v] 30)) = Q at *
    have HTA' : Hid _ := ta
    have HA' : Hid _ := ba
    have HB' : Hid _ := bb
    clear ta ba bb HTA HA HB
    refine (C0.out _ HTA'.out).out.mono ?_
    rintro e w1 ⟨ao, cap, rfl, hin, s1⟩
    have HT1 : Hid (Touch w w1 []) := HTA'.out.trans s1 (by simp)
    obtain ⟨a0, a1, a2⟩ := (HA'.out.touch s1 (by simp)).cells
    obtain ⟨b0, b1, b2⟩ := (HB'.out.touch s1 (by simp)).cells
    have f0 := (HA'.out.touch s1 (by simp)).fr 0
    have f1 := (HA'.out.touch s1 (by simp)).fr 1
    have f2 := (HA'.out.touch s1 (by simp)).fr 2
    have HA1 : Hid _ := HA'.out.touch s1 (by simp)
    have HL : Hid (foneL 0 n v = enterI 0 0 n 0 v) := by show _ = _; unfold foneL; simp
    have HV : Hid (foneV 0 v = v) := by show _ = _; unfold foneV; simp
    have HIN : Hid (∀ W', Touch w1 W' [w.heap.size] → InsIn W' ao (enterI 0 0 n 0 v).length cap (enterI 0 0 n 0 v)) := by
      have h1 := fone_first 0 n v
      rw [HL.out] at h1
      exact fun W' t => box_apart HA1.out hin h1.1 (h1.2 h1.1) t
    clear hin s1 C0 C1 C2 C3
    generalize enterI 0 0 n 0 v = L at *
    obtain ⟨n9, hn9⟩ : ∃ n9, n9 = L.length := ⟨_, rfl⟩
    have HN9 : Hid _ := hn9
    rw [← hn9]
    clear hn9
    go_wp2_with fail
    go_region
    all_goals
      go_wp2
      have hb2 := ((HA1.out.set0 5).set1 0).set2 v
      obtain ⟨k0', k1', k2'⟩ := hb2.cells
      refine bodyPost_ret (v := .tuple #[.slice ao n9 cap, .agg #[.int .u8 5, .int .i64 0, .int .u64 v], .int .i64 0]) (by simp [results, Tryd.results5, go_sem, k0', k1', k2']) rfl ?_
      have ht : Touch w1 (((w1.setCell ⟨w.heap.size, 0, none⟩ (.int .u8 5)).setCell ⟨w.heap.size, 1, none⟩ (.int .i64 0)).setCell ⟨w.heap.size, 2, none⟩ (.int .u64 v)) [w.heap.size] := (((Touch.refl _ _).setCell (.inl (by simp)) _).setCell (.inl (by simp)) _).setCell (.inl (by simp)) _
      unfold FOneP
      rw [HL.out, HV.out]
      exact ⟨ao, cap, by rw [HN9.out]; rfl, HIN.out _ ht.drew, (HT1.out.trans ht (fun x hx => .inr (by simp at hx; omega))).drew⟩
  · go_wp2_with fail
    have ta := HTA.out 6 0
    have ba := HA.out 6 0
    have bb := HB.out 6 0
    generalize ((w.alloc (.cells #[.int .u8 0, .int .i64 0, .int .u64 0] 30)).alloc (.cells #[.int .u8 6, .int .i64 0, .int .u64 0] 30)) = Q at *
    have HTA' : Hid _ := ta
    have HA' : Hid _ := ba
    have HB' : Hid _ := bb
    clear ta ba bb HTA HA HB
    refine (C1.out _ HTA'.out).out.mono ?_
    rintro e w1 ⟨ao, cap, rfl, hin, s1⟩
    have HT1 : Hid (Touch w w1 []) := HTA'.out.trans s1 (by simp)
    obtain ⟨a0, a1, a2⟩ := (HA'.out.touch s1 (by simp)).cells
    obtain ⟨b0, b1, b2⟩ := (HB'.out.touch s1 (by simp)).cells
    have f0 := (HA'.out.touch s1 (by simp)).fr 0
    have f1 := (HA'.out.touch s1 (by simp)).fr 1
    have f2 := (HA'.out.touch s1 (by simp)).fr 2
    have HA1 : Hid _ := HA'.out.touch s1 (by simp)
    have HL : Hid (foneL 1 n v = takeI 0 0 n 0 0) := by show _ = _; unfold foneL; simp
    have HV : Hid (foneV 1 v = 0) := by show _ = _; unfold foneV; simp
    have HIN : Hid (∀ W', Touch w1 W' [w.heap.size] → InsIn W' ao (takeI 0 0 n 0 0).length cap (takeI 0 0 n 0 0)) := by
      have h1 := fone_first 1 n v
      rw [HL.out] at h1
      exact fun W' t => box_apart HA1.out hin h1.1 (h1.2 h1.1) t
    clear hin s1 C0 C1 C2 C3
    generalize takeI 0 0 n 0 0 = L at *
    obtain ⟨n9, hn9⟩ : ∃ n9, n9 = L.length := ⟨_, rfl⟩
    have HN9 : Hid _ := hn9
    rw [← hn9]
    clear hn9
    go_wp2_with fail
    go_region
    all_goals
      go_wp2
      have hb2 := ((HA1.out.set0 6).set1 0).set2 0
      obtain ⟨k0', k1', k2'⟩ := hb2.cells
      refine bodyPost_ret (v := .tuple #[.slice ao n9 cap, .agg #[.int .u8 6, .int .i64 0, .int .u64 0], .int .i64 0]) (by simp [results, Tryd.results5, go_sem, k0', k1', k2']) rfl ?_
      have ht : Touch w1 (((w1.setCell ⟨w.heap.size, 0, none⟩ (.int .u8 6)).setCell ⟨w.heap.size, 1, none⟩ (.int .i64 0)).setCell ⟨w.heap.size, 2, none⟩ (.int .u64 0)) [w.heap.size] := (((Touch.refl _ _).setCell (.inl (by simp)) _).setCell (.inl (by simp)) _).setCell (.inl (by simp)) _
      unfold FOneP
      rw [HL.out, HV.out]
      exact ⟨ao, cap, by rw [HN9.out]; rfl, HIN.out _ ht.drew, (HT1.out.trans ht (fun x hx => .inr (by simp at hx; omega))).drew⟩
  · go_wp2_with fail
    have ta := HTA.out 7 0
    have ba := HA.out 7 0
    have bb := HB.out 7 0
    generalize ((w.alloc (.cells #[.int .u8 0, .int .i64 0, .int .u64 0] 30)).alloc (.cells #[.int .u8 7, .int .i64 0, .int .u64 0] 30)) = Q at *
    have HTA' : Hid _ := ta
    have HA' : Hid _ := ba
    have HB' : Hid _ := bb
    clear ta ba bb HTA HA HB
    refine (C2.out _ HTA'.out).out.mono ?_
    rintro e w1 ⟨ao, cap, rfl, hin, s1⟩
    have HT1 : Hid (Touch w w1 []) := HTA'.out.trans s1 (by simp)
    obtain ⟨a0, a1, a2⟩ := (HA'.out.touch s1 (by simp)).cells
    obtain ⟨b0, b1, b2⟩ := (HB'.out.touch s1 (by simp)).cells
    have f0 := (HA'.out.touch s1 (by simp)).fr 0
    have f1 := (HA'.out.touch s1 (by simp)).fr 1
    have f2 := (HA'.out.touch s1 (by simp)).fr 2
    have HA1 : Hid _ := HA'.out.touch s1 (by simp)
    have HL : Hid (foneL 2 n v = arriveI 0 0 n 0 0) := by show _ = _; unfold foneL; simp
    have HV : Hid (foneV 2 v = 0) := by show _ = _; unfold foneV; simp
    have HIN : Hid (∀ W', Touch w1 W' [w.heap.size] → InsIn W' ao (arriveI 0 0 n 0 0).length cap (arriveI 0 0 n 0 0)) := by
      have h1 := fone_first 2 n v
      rw [HL.out] at h1
      exact fun W' t => box_apart HA1.out hin h1.1 (h1.2 h1.1) t
    clear hin s1 C0 C1 C2 C3
    generalize arriveI 0 0 n 0 0 = L at *
    obtain ⟨n9, hn9⟩ : ∃ n9, n9 = L.length := ⟨_, rfl⟩
    have HN9 : Hid _ := hn9
    rw [← hn9]
    clear hn9
    go_wp2_with fail
    go_region
    all_goals
      go_wp2
      have hb2 := ((HA1.out.set0 7).set1 0).set2 0
      obtain ⟨k0', k1', k2'⟩ := hb2.cells
      refine bodyPost_ret (v := .tuple #[.slice ao n9 cap, .agg #[.int .u8 7, .int .i64 0, .int .u64 0], .int .i64 0]) (by simp [results, Tryd.results5, go_sem, k0', k1', k2']) rfl ?_
      have ht : Touch w1 (((w1.setCell ⟨w.heap.size, 0, none⟩ (.int .u8 7)).setCell ⟨w.heap.size, 1, none⟩ (.int .i64 0)).setCell ⟨w.heap.size, 2, none⟩ (.int .u64 0)) [w.heap.size] := (((Touch.refl _ _).setCell (.inl (by simp)) _).setCell (.inl (by simp)) _).setCell (.inl (by simp)) _
      unfold FOneP
      rw [HL.out, HV.out]
      exact ⟨ao, cap, by rw [HN9.out]; rfl, HIN.out _ ht.drew, (HT1.out.trans ht (fun x hx => .inr (by simp at hx; omega))).drew⟩
  · go_wp2_with fail
    have ta := HTA.out 8 v
    have ba := HA.out 8 v
    have bb := HB.out 8 v
    generalize ((w.alloc (.cells #[.int .u8 0, .int .i64 0, .int .u64 0] 30)).alloc (.cells #[.int .u8 8, .int .i64 0, .int .u64 v] 30)) = Q at *
    have HTA' : Hid _ := ta
    have HA' : Hid _ := ba
    have HB' : Hid _ := bb
    clear ta ba bb HTA HA HB
    refine (C3.out _ HTA'.out).out.mono ?_
    rintro e w1 ⟨ao, cap, rfl, hin, s1⟩
    have HT1 : Hid (Touch w w1 []) := HTA'.out.trans s1 (by simp)
    obtain ⟨a0, a1, a2⟩ := (HA'.out.touch s1 (by simp)).cells
    obtain ⟨b0, b1, b2⟩ := (HB'.out.touch s1 (by simp)).cells
    have f0 := (HA'.out.touch s1 (by simp)).fr 0
    have f1 := (HA'.out.touch s1 (by simp)).fr 1
    have f2 := (HA'.out.touch s1 (by simp)).fr 2
    have HA1 : Hid _ := HA'.out.touch s1 (by simp)
    have HL : Hid (foneL 3 n v = leaveI 0 0 0 2 0) := by show _ = _; unfold foneL; simp
    have HV : Hid (foneV 3 v = v) := by show _ = _; unfold foneV; simp
    have HIN : Hid (∀ W', Touch w1 W' [w.heap.size] → InsIn W' ao (leaveI 0 0 0 2 0).length cap (leaveI 0 0 0 2 0)) := by
      have h1 := fone_first 3 n v
      rw [HL.out] at h1
      exact fun W' t => box_apart HA1.out hin h1.1 (h1.2 h1.1) t
    clear hin s1 C0 C1 C2 C3
    generalize leaveI 0 0 0 2 0 = L at *
    obtain ⟨n9, hn9⟩ : ∃ n9, n9 = L.length := ⟨_, rfl⟩
    have HN9 : Hid _ := hn9
    rw [← hn9]
    clear hn9
    go_wp2_with fail
    go_region
    all_goals
      go_wp2
      have hb2 := ((HA1.out.set0 8).set1 0).set2 v
      obtain ⟨k0', k1', k2'⟩ := hb2.cells
      refine bodyPost_ret (v := .tuple #[.slice ao n9 cap, .agg #[.int .u8 8, .int .i64 0, .int .u64 v], .int .i64 0]) (by simp [results, Tryd.results5, go_sem, k0', k1', k2']) rfl ?_
      have ht : Touch w1 (((w1.setCell ⟨w.heap.size, 0, none⟩ (.int .u8 8)).setCell ⟨w.heap.size, 1, none⟩ (.int .i64 0)).setCell ⟨w.heap.size, 2, none⟩ (.int .u64 v)) [w.heap.size] := (((Touch.refl _ _).setCell (.inl (by simp)) _).setCell (.inl (by simp)) _).setCell (.inl (by simp)) _
      unfold FOneP
      rw [HL.out, HV.out]
      exact ⟨ao, cap, by rw [HN9.out]; rfl, HIN.out _ ht.drew, (HT1.out.trans ht (fun x hx => .inr (by simp at hx; omega))).drew⟩

end Go.Proofs.YtkpgfchglaemgaaDoor

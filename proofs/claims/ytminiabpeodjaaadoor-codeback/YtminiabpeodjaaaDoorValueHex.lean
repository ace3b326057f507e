/-
  strconv.FormatUint at base 16: the digits of a number.
-/
import Derived.Test.YtminiabpeodjaaaDoorValueParse
import Derived.Laws.IdiomStrings
namespace Go.Proofs.YtminiabpeodjaaaDoor
set_option linter.unusedVariables false
set_option linter.unusedSimpArgs false
open Go.RowKit

/-- The one place of math/bits' table that is read. -/
structure Tz (w : World) : Prop where
  lt : 5 < w.heap.size
  c : w.cell? ⟨5, 15, none⟩ = some (.int .u8 4)
theorem Tz.touch {w w' : World} (h : Tz w) (t : Touch w w' []) : Tz w' := ⟨Nat.lt_of_lt_of_le h.lt t.size, (t.cell (p := ⟨_, 15, none⟩) h.lt (by simp)).trans h.c⟩

theorem tz64 (w : World) (h : Tz w) : Calls Tryd.prog 90 #[.int .u64 16] w fun e w' => e = .returned (.int .i64 4) ∧ Touch w w' [] := by
  have hc := h.c
  clear h
  have hw : IntKind.u64.wrap (-16) = 18446744073709551600 := by decide +kernel
  have ha : bits .and .u64 16 18446744073709551600 = 16 := by decide +kernel
  have hm : IntKind.u64.wrap 4573923408821661840 = 4573923408821661840 := by decide +kernel
  go_enter Tryd.func90, Tryd.ntmps90
  go_wp2
  go_ret
  exact ⟨rfl, Touch.refl _ _⟩

theorem tz16 (w : World) (h : Tz w) : Calls Tryd.prog 84 #[.int .u64 16] w fun e w' => e = .returned (.int .i64 4) ∧ Touch w w' [] := by
  have hc := tz64 w h
  clear h
  go_enter Tryd.func84, Tryd.ntmps84
  go_wp2_with fail
  refine hc.mono ?_
  rintro e w1 ⟨rfl, t1⟩
  clear hc
  go_wp2
  go_ret
  exact ⟨rfl, t1⟩

theorem pow2_16 (w : World) : Calls Tryd.prog 83 #[.int .i64 16] w fun e w' => e = .returned (.bool true) ∧ w = w' := by
  have ha : bits .and .i64 16 15 = 0 := by decide +kernel
  go_enter Tryd.func83, Tryd.ntmps83
  go_wp2
  go_ret
  exact ⟨rfl, rfl⟩

/-- The small hex digit of a number below 16. -/
def dig (n : Nat) : UInt8 := if n < 10 then UInt8.ofNat (48 + n) else UInt8.ofNat (87 + n)
/-- The last j digits of a number. -/
def digs (x : Nat) : Nat → List UInt8
  | 0 => []
  | j + 1 => digs (x / 16) j ++ [dig (x % 16)]

/-- The array that is filled from behind. -/
structure ABuf (w : World) (A x j : Nat) : Prop where
  ex : ∃ arr : Array Value, w.heap[A]? = some (.cells arr 116 (0, 0)) ∧ arr.size = 65 ∧ ∀ q, q < j → arr[64 - q]? = some (.int .u8 (dig (x / 16 ^ q % 16)).toNat)

theorem ABuf.step {w : World} {A x j : Nat} (h : ABuf w A x j) (hj : j < 65) (v : Int) (hv : v = (dig (x / 16 ^ j % 16)).toNat) : ABuf (w.setCell ⟨A, 64 - j, none⟩ (.int .u8 v)) A x (j + 1) := by
  obtain ⟨arr, h1, h2, h3⟩ := h.ex
  refine ⟨⟨arr.set (64 - j) (.int .u8 v) (by omega), ?_, by simpa using h2, fun q hq => ?_⟩⟩
  · simp only [World.setCell, Array.getElem?_modify, h1]
    simp [Array.setIfInBounds, show 64 - j < arr.size by omega]
  · by_cases e : q = j
    · subst e
      rw [hv]
      simp
    · have hne : 64 - j ≠ 64 - q := by omega
      rw [Array.getElem?_set, if_neg hne]
      exact h3 q (by omega)

theorem digit_at (e : Nat) (he : e < 16) (h : e < (ByteArray.mk #[48, 49, 50, 51, 52, 53, 54, 55, 56, 57, 97, 98, 99, 100, 101, 102, 103, 104, 105, 106, 107, 108, 109, 110, 111, 112, 113, 114, 115, 116, 117, 118, 119, 120, 121, 122]).size) :
    ((ByteArray.mk #[48, 49, 50, 51, 52, 53, 54, 55, 56, 57, 97, 98, 99, 100, 101, 102, 103, 104, 105, 106, 107, 108, 109, 110, 111, 112, 113, 114, 115, 116, 117, 118, 119, 120, 121, 122])[e]'h).toNat = (dig e).toNat := by
  have : e = 0 ∨ e = 1 ∨ e = 2 ∨ e = 3 ∨ e = 4 ∨ e = 5 ∨ e = 6 ∨ e = 7 ∨ e = 8 ∨ e = 9 ∨ e = 10 ∨ e = 11 ∨ e = 12 ∨ e = 13 ∨ e = 14 ∨ e = 15 := by omega
  rcases this with rfl | rfl | rfl | rfl | rfl | rfl | rfl | rfl | rfl | rfl | rfl | rfl | rfl | rfl | rfl | rfl <;> rfl

theorem slice65 (A j : Nat) (hj : j ≤ 15) (W : World) : (Instr.sliceAt 116 (.pointer (some ⟨A, 0, none⟩)) (some (.int .i64 (65 - (j : Int) - 1))) none none).run Tryd.prog W = .ok (.slice (some ⟨A, 64 - j, none⟩) (j + 1) (j + 1)) W := by
  have e1 : Tryd.prog.arrayLen 116 = 65 := by kernel_rfl
  have e2 : Tryd.prog.elem 116 = 5 := by kernel_rfl
  rw [run_sliceAt_array_l W 116 ⟨A, 0, none⟩ (by kernel_rfl) .i64 _ (by omega) (by rw [e1]; omega), e1, e2]
  have ei : ((65 : Int) - j - 1).toNat = 64 - j := by omega
  rw [ei, Tryd.sizeOf5]
  have e3 : 65 - (64 - j) = j + 1 := by omega
  have e4 : 64 - j ≠ 0 := by omega
  have e5 : ¬ 65 = 64 - j := by omega
  simp [slicedAt, Addr.add, e3, e4, e5]

/-- The m digits of a number. -/
def hexS (x m : Nat) : List UInt8 := (List.range m).map fun t => dig (x / 16 ^ (m - 1 - t) % 16)
theorem hexS_len (x m : Nat) : (hexS x m).length = m := by simp [hexS]

/-- What FormatUint tells at base 16. -/
def FmtP (x : Nat) (w : World) (two : Bool) (e : Ending) (w' : World) : Prop := ∃ m, 1 ≤ m ∧ m ≤ 16 ∧ x < 16 ^ m ∧ (m = 1 ∨ 16 ^ (m - 1) ≤ x) ∧ e = .returned (if two then .tuple #[.slice none 0 0, .string ⟨(hexS x m).toArray⟩] else .string ⟨(hexS x m).toArray⟩) ∧ Touch w w' []

theorem ABuf.text {w : World} {A x j : Nat} (h : ABuf w A x (j + 1)) (hj : j ≤ 15) : (convert 39 9 (.slice (some ⟨A, 64 - j, none⟩) (j + 1) (j + 1))).run Tryd.prog w = .ok (.string ⟨(hexS x (j + 1)).toArray⟩) w := by
  have hc := run_convert_bytes_back (P := Tryd.prog) w 39 9 5 ⟨A, 64 - j, none⟩ (j + 1) (hexS x (j + 1)) Tryd.underlying39 Tryd.underlying5 Tryd.underlying9 (fun q hq => by
    rw [hexS_len] at hq
    obtain ⟨arr, h1, h2, h3⟩ := h.ex
    have := h3 (j - q) (by omega)
    rw [Addr.add_lit]
    have e1 : 64 - (j - q) = 64 - j + q := by omega
    rw [e1] at this
    simp only [World.cell?, h1, this]
    simp [hexS])
  rw [hexS_len] at hc
  exact hc

set_option maxRecDepth 100000 in
set_option maxHeartbeats 2000000 in
theorem formatBits16 (x : Nat) (hx : x < 18446744073709551616) (w : World) (h : Tz w) :
    Calls Tryd.prog 71 #[.slice none 0 0, .int .u64 x, .int .i64 16, .bool false, .bool false] w (FmtP x w true) := by
  have HZ : Hid _ := h
  clear h
  go_enter Tryd.func71, Tryd.ntmps71
  go_wp2_with fail
  refine (pow2_16 _).mono ?_
  rintro e w1 ⟨rfl, rfl⟩
  have t0 : Touch w (w.alloc (.cells Tryd.zeroCells116 116)) [] := (Touch.refl w []).alloc _
  have a0 : ABuf (w.alloc (.cells Tryd.zeroCells116 116)) w.heap.size x 0 := ⟨⟨_, heap_alloc_new w _, by kernel_rfl, fun q hq => by omega⟩⟩
  have hz := HZ.out.touch t0
  have HA : Hid _ := a0
  go_wp2_with fail
  refine (tz16 _ hz).mono ?_
  rintro e w1 ⟨rfl, t1⟩
  have HT1 : Hid (Touch w w1 []) := t0.trans t1 (by simp)
  have HA1 : Hid (ABuf w1 w.heap.size x 0) := by
    obtain ⟨arr, h1, h2, h3⟩ := HA.out.ex
    exact ⟨⟨arr, (t1.block _ (by simp) (by simp)).trans h1, h2, h3⟩⟩
  clear t0 a0 hz HA t1
  go_wp2_with fail
  have hA : ∀ {W : World} {j : Nat}, ABuf W w.heap.size x j → ∀ i, i < 65 → (∃ v, W.cell? ⟨w.heap.size, i, none⟩ = some v) ∧ W.frozen? ⟨w.heap.size, i, none⟩ = false := by
    intro W j h i hi
    obtain ⟨arr, h1, h2, h3⟩ := h.ex
    exact ⟨⟨arr[i]'(by omega), by simp [World.cell?, h1, h2, hi]⟩, by simp [World.frozen?, h1]⟩
  have HAA : Hid _ := @hA
  clear hA
  go_loopw [1, 13] (fun u i wr => ∃ (j : Nat) (a : Int), u = .int .u64 a ∧ i = .int .i64 (65 - (j : Int)) ∧ j ≤ 15 ∧ Hid (a = (x / 16 ^ j : Nat) ∧ (j = 0 ∨ 16 ^ j ≤ x)) ∧ ABuf wr w.heap.size x j ∧ Touch w wr []) (fun _ i _ => (intOf i).toNat)
  case atStart => exact ⟨0, x, rfl, rfl, by omega, (⟨by simp, .inl rfl⟩ : (x : Int) = (x / 16 ^ 0 : Nat) ∧ ((0 : Nat) = 0 ∨ 16 ^ 0 ≤ x)), HA1.out, HT1.out⟩
  case round =>
    clear HA1 HT1
    obtain ⟨j, a, rfl, rfl, hj, ha, hb, ht⟩ := hrel
    obtain ⟨y, hy⟩ : ∃ y, y = x / 16 ^ j := ⟨_, rfl⟩
    have hyx : y ≤ x := by rw [hy]; exact Nat.div_le_self _ _
    have hya : a = (y : Int) := by rw [hy]; exact ha.out.1
    have a0 : 0 ≤ a := by omega
    have a1 : a < 18446744073709551616 := by omega
    obtain ⟨⟨v0, hc0⟩, hf0⟩ := HAA.out hb (64 - j) (by omega)
    have ei : ((65 : Int) - j - 1).toNat = 64 - j := by omega
    have hand : bits .and .u64 a 15 = a % 16 := by
      rw [u64_and a 15 a0 a1 (by omega) (by omega)]
      have : (15 : Int).toNat = 2 ^ 4 - 1 := rfl
      rw [this, Nat.and_two_pow_sub_one_eq_mod]
      omega
    have d0 : 0 ≤ a % 16 := by omega
    have d1 : a % 16 < 16 := by omega
    have HB : Hid _ := hb
    have HT : Hid _ := ht
    by_cases h16 : 16 ≤ a
    · have hx16 : 16 ^ (j + 1) ≤ x := by
        have e : 16 ^ (j + 1) = 16 * 16 ^ j := by rw [Nat.pow_succ, Nat.mul_comm]
        rw [e]
        have : 16 ≤ x / 16 ^ j := by omega
        exact (Nat.le_div_iff_mul_le (Nat.pow_pos (by omega))).1 this
      have hj14 : j ≤ 14 := by
        rcases Nat.lt_or_ge j 15 with h | h
        · omega
        · have : (16 : Nat) ^ 16 ≤ 16 ^ (j + 1) := Nat.pow_le_pow_right (by omega) (by omega)
          omega
      have HN : Hid (a / 16 = (x / 16 ^ (j + 1) : Nat) ∧ (j + 1 = 0 ∨ 16 ^ (j + 1) ≤ x)) := by
        refine (⟨?_, .inr hx16⟩ : a / 16 = (x / 16 ^ (j + 1) : Nat) ∧ (j + 1 = 0 ∨ 16 ^ (j + 1) ≤ x))
        rw [Nat.pow_succ, ← Nat.div_div_eq_div_mul, ← hy, hya]
        omega
      have HD : Hid (a % 16 = (x / 16 ^ j % 16 : Nat)) := by
        show a % 16 = (x / 16 ^ j % 16 : Nat)
        rw [← hy, hya]
        omega
      generalize a % 16 = d at *
      clear hy hya hyx hx16 ha hb ht
      go_wp2
      refine ⟨⟨j + 1, a / 16, rfl, by go_num, by omega, HN, HB.out.step (by omega) _ ?_, HT.out.setCell (.inr (Nat.le_refl _)) _⟩, by simp [intOf]; omega⟩
      refine (congrArg (fun n : Nat => (n : Int)) (digit_at d.toNat (by omega) _)).trans ?_
      rw [HD.out, Int.toNat_natCast]
    · have HD : Hid (a = (x / 16 ^ j % 16 : Nat)) := by
        show a = (x / 16 ^ j % 16 : Nat)
        rw [← hy, hya]
        omega
      have HM : Hid (j = 0 ∨ 16 ^ j ≤ x) := ha.out.2
      have hlt : x < 16 ^ (j + 1) := by
        rw [Nat.pow_succ, Nat.mul_comm]
        exact (Nat.div_lt_iff_lt_mul (Nat.pow_pos (by omega))).1 (by omega)
      have HL : Hid _ := hlt
      have hsl : ∀ W : World, (Instr.sliceAt 116 (.pointer (some ⟨w.heap.size, 0, none⟩)) (some (.int .i64 (65 - (j : Int) - 1))) none none).run Tryd.prog W = .ok (.slice (some ⟨w.heap.size, 64 - j, none⟩) (j + 1) (j + 1)) W := fun W => slice65 w.heap.size j hj W
      have hdn : a.toNat = x / 16 ^ j % 16 := by rw [HD.out, Int.toNat_natCast]
      obtain ⟨dg, hdg⟩ : ∃ dg, dg = (dig (x / 16 ^ j % 16)).toNat := ⟨_, rfl⟩
      have hdi : ∀ h, ((ByteArray.mk #[48, 49, 50, 51, 52, 53, 54, 55, 56, 57, 97, 98, 99, 100, 101, 102, 103, 104, 105, 106, 107, 108, 109, 110, 111, 112, 113, 114, 115, 116, 117, 118, 119, 120, 121, 122])[a.toNat]'h).toNat = dg := fun h => by rw [digit_at a.toNat (by omega) h, hdn, hdg]
      have hstep := hb.step (by omega) (dg : Int) (by rw [hdg])
      have hcv := hstep.text hj
      have HF : Hid (FmtP x w true (.returned (.tuple #[.slice none 0 0, .string ⟨(hexS x (j + 1)).toArray⟩])) (wr.setCell ⟨w.heap.size, 64 - j, none⟩ (.int .u8 dg))) := ⟨j + 1, by omega, by omega, HL.out, by have := HM.out; simpa using this, rfl, ht.setCell (.inr (Nat.le_refl _)) _⟩
      generalize hexS x (j + 1) = S at *
      clear hy hya hyx ha hb ht hand d0 d1 hlt hdn hdg hstep HB HT HAA
      go_wp2
      go_ret2
      exact HF.out

set_option maxRecDepth 100000 in
theorem ifmt16 (x : Nat) (hx : x < 18446744073709551616) (w : World) (h : Tz w) : Calls Tryd.prog 56 #[.int .u64 x, .int .i64 16] w (FmtP x w false) := by
  have hc := formatBits16 x hx w h
  clear h
  go_enter Tryd.func56, Tryd.ntmps56
  go_wp2_with fail
  refine hc.mono ?_
  rintro e w1 ⟨m, h1, h2, h3, h4, rfl, t1⟩
  have HF : Hid (FmtP x w false (.returned (.string ⟨(hexS x m).toArray⟩)) w1) := ⟨m, h1, h2, h3, h4, rfl, t1⟩
  generalize hexS x m = S at *
  clear hc h1 h2 h3 h4 t1
  simp only [if_true]
  go_wp2
  go_ret
  exact HF.out

theorem fmt16 (x : Nat) (hx : x < 18446744073709551616) (w : World) (h : Tz w) : Calls Tryd.prog 49 #[.int .u64 x, .int .i64 16] w (FmtP x w false) := by
  have hc := ifmt16 x hx w h
  clear h
  go_enter Tryd.func49, Tryd.ntmps49
  go_wp2_with fail
  refine hc.mono ?_
  rintro e w1 ⟨m, h1, h2, h3, h4, rfl, t1⟩
  have HF : Hid (FmtP x w false (.returned (.string ⟨(hexS x m).toArray⟩)) w1) := ⟨m, h1, h2, h3, h4, rfl, t1⟩
  generalize hexS x m = S at *
  clear hc h1 h2 h3 h4 t1
  simp only [Bool.false_eq_true, if_false]
  go_wp2
  go_ret
  exact HF.out

set_option maxRecDepth 100000 in
theorem repeat0 (s : ByteArray) (w : World) : Calls Tryd.prog 50 #[.string s, .int .i64 0] w fun e w' => e = .returned (.string ⟨#[]⟩) ∧ w = w' := by
  go_enter Tryd.func50, Tryd.ntmps50
  go_wp2
  go_ret
  exact ⟨rfl, rfl⟩

/-- Hex, of a value with sixteen digits. -/
theorem hex16 (v : Int) (hx : ofB v.toNat < 18446744073709551616) (h16 : 1152921504606846976 ≤ ofB v.toNat) (w : World) (h : Tz w) : Calls Tryd.prog 40 #[.int .u64 v] w fun e w' => e = .returned (.string ⟨(hexS (ofB v.toNat) 16).toArray⟩) ∧ Touch w w' [] := by
  have hc := canon_any v w
  have hf := fmt16 (ofB v.toNat) hx w h
  generalize ofB v.toNat = x at *
  clear h
  go_enter Tryd.func40, Tryd.ntmps40
  go_wp2_with fail
  refine hc.mono ?_
  rintro e w1 ⟨rfl, rfl⟩
  clear hc
  go_wp2_with fail
  refine hf.mono ?_
  rintro e w1 ⟨m, h1, h2, h3, h4, rfl, t1⟩
  obtain rfl : m = 16 := by
    rcases Nat.lt_or_ge m 16 with h | h
    · have : (16 : Nat) ^ m ≤ 16 ^ 15 := Nat.pow_le_pow_right (by omega) (by omega)
      omega
    · omega
  have hl := hexS_len x 16
  have hsz : (ByteArray.mk (hexS x 16).toArray).size = 16 := by
    show (hexS x 16).toArray.size = 16
    simpa using hl
  obtain ⟨S, hS⟩ : ∃ S, S = hexS x 16 := ⟨_, rfl⟩
  rw [← hS] at hl hsz ⊢
  have HS : Hid (S = hexS x 16) := hS
  simp only [Bool.false_eq_true, if_false]
  clear hf h1 h2 h3 h4 hS
  go_wp2_with fail
  refine (repeat0 _ w1).mono ?_
  rintro e w2 ⟨rfl, rfl⟩
  go_wp2
  go_ret
  refine ⟨?_, t1⟩
  rw [← HS.out]
  have e : (ByteArray.mk #[] ++ ByteArray.mk S.toArray) = ByteArray.mk S.toArray := by
    apply ByteArray.ext
    simp
  simp [e]

end Go.Proofs.YtminiabpeodjaaaDoor

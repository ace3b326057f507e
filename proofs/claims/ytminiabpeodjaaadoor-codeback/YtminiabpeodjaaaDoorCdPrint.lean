/-
  package code: Print BY ITS CONTRACT.
-/
import Derived.Test.YtminiabpeodjaaaDoorCdParseG
import Derived.Test.YtminiabpeodjaaaDoorTextLays
import Derived.Laws.Concat
namespace Go.Proofs.YtminiabpeodjaaaDoor
set_option linter.unusedVariables false
set_option linter.unusedSimpArgs false
open Go.RowKit Go.Shelf
attribute [local go_sem] Oper.semAt_some

/-- A number in digits; a value in digits; an instruction as text. -/
def argT (n : Int) : ByteArray := ⟨(Lib.decDigits n.toNat).toArray⟩
def hexT (v : Int) : ByteArray := ⟨(hexS (ofB v.toNat) 16).toArray⟩
def printP (i : InsD) : ByteArray := if argP i.op then wordP i.op ++ ⟨#[32]⟩ ++ argT i.arg else if valP i.op then wordP i.op ++ ⟨#[32]⟩ ++ hexT i.val else wordP i.op
def printA (i : InsD) : Value := if rightI i then .tuple #[.string (printP i), .int .i64 0] else .tuple #[.string ⟨#[]⟩, .int .i64 3]

theorem itoa_any (n : Int) (h0 : 0 ≤ n) (h1 : n ≤ 63) (w : World) : Calls Tryd.prog 39 #[.int .i64 n] w fun e w' => e = .returned (.string (argT n)) ∧ Touch w w' [] := by
  obtain ⟨k, rfl⟩ := Int.eq_ofNat_of_zero_le h0
  refine Calls.mono (Any.strconv_Itoa_small Tryd.Lays_n171 k (by omega) w) fun e w' h => ⟨?_, by rw [h.2]; exact Touch.refl _ _⟩
  rw [h.1]
  rfl
theorem wordP_size (o : Int) (h0 : 0 ≤ o) : (wordP o).size ≤ 6 := by
  unfold wordP
  split
  · show 0 ≤ 6; omega
  · rename_i h
    have hk : ∀ k < 29, (wordB k).size ≤ 6 := by decide +kernel
    exact hk o.toNat (by omega)
theorem argT_size (n : Int) (h0 : 0 ≤ n) (h1 : n ≤ 63) : (argT n).size ≤ 2 := by
  have hk : ∀ k < 64, (argT (k : Nat)).size ≤ 2 := by decide +kernel
  obtain ⟨k, rfl⟩ := Int.eq_ofNat_of_zero_le h0
  exact hk k (by omega)
theorem hexT_size (v : Int) : (hexT v).size = 16 := by
  show (hexS (ofB v.toNat) 16).toArray.size = 16
  simp [hexS]

theorem right_arg' {i : InsD} (h : rightI i = true) (hp : argP i.op = true) : 0 ≤ i.arg ∧ i.arg ≤ 63 := by
  simp only [rightI, Bool.and_eq_true, decide_eq_true_eq, Bool.or_eq_true] at h
  obtain ⟨⟨⟨⟨⟨h1, h2⟩, h3⟩, h4⟩, h5⟩, h6⟩ := h
  have : highP i.op ≤ 63 := by unfold highP; split <;> (try split) <;> omega
  exact ⟨h4, by omega⟩

set_option maxRecDepth 100000 in
set_option maxHeartbeats 1000000 in
theorem print_any {w : World} (h : Wds w) (Z : Tz w) (i : InsD) (hw : i.Wf) :
    Calls Tryd.prog 27 #[i.v] w fun e w' => e = .returned (printA i) ∧ Touch w w' [] := by
  have tB : Touch w (w.alloc (.cells #[.int .u8 i.op, .int .i64 i.arg, .int .u64 i.val] 26)) [] := (Touch.refl w []).alloc _
  have HBX : Hid (∀ W, Touch (w.alloc (.cells #[.int .u8 i.op, .int .i64 i.arg, .int .u64 i.val] 26)) W [] → BoxI W w.heap.size i.op i.arg i.val) := fun W t => (BoxI.new w i.op i.arg i.val).touch t (by simp)
  have HTB : Hid _ := tB
  have hrt : HidC _ _ _ _ _ := ⟨cright_any i (w.alloc (.cells #[.int .u8 i.op, .int .i64 i.arg, .int .u64 i.val] 26))⟩
  have HWD : Hid (∀ W, Touch w W [] → HidC Tryd.prog 19 #[.int .u8 i.op] W fun e w' => e = .returned (.string (wordP i.op)) ∧ W = w') := fun W t => ⟨word_any (h.touch t (by simp)) i.op hw.op.1 hw.op.2⟩
  have HUS : Hid (∀ W, HidC Tryd.prog 9 #[.int .u8 i.op] W fun e w' => e = .returned (.tuple #[.bool (argP i.op), .bool (valP i.op)]) ∧ W = w') := fun W => ⟨uses_any i.op W⟩
  have HIT : Hid (rightI i = true → argP i.op = true → ∀ W, HidC Tryd.prog 39 #[.int .i64 i.arg] W fun e w' => e = .returned (.string (argT i.arg)) ∧ Touch W w' []) := fun hr ha W => ⟨itoa_any i.arg (right_arg' hr ha).1 (right_arg' hr ha).2 W⟩
  have HHX : Hid (∀ W, Touch w W [] → HidC Tryd.prog 40 #[.int .u64 i.val] W fun e w' => e = .returned (.string (hexT i.val)) ∧ Touch W w' []) := fun W t => ⟨hex_any i.val hw.val W (Z.touch t)⟩
  have hws := wordP_size i.op hw.op.1
  have has : rightI i = true → argP i.op = true → (argT i.arg).size ≤ 2 := fun hr ha => argT_size _ (right_arg' hr ha).1 (right_arg' hr ha).2
  have hxs := hexT_size i.val
  have hex := arg_not_val (o := i.op)
  unfold printA printP
  generalize rightI i = ri at *
  generalize argP i.op = ap at *
  generalize valP i.op = vp at *
  generalize wordP i.op = wd at *
  generalize argT i.arg = at' at *
  generalize hexT i.val = hx at *
  have bx := HBX.out _ (Touch.refl _ _)
  obtain ⟨o, a, v⟩ := i
  simp only [InsD.v] at *
  obtain ⟨b0, b1, b2⟩ := bx.cells
  clear h Z hw tB bx
  go_enter Tryd.func27, Tryd.ntmps27
  go_wp2_with fail
  refine hrt.out.mono ?_
  rintro e w1 ⟨rfl, t1⟩
  have T1 : Touch w w1 [] := HTB.out.trans t1 (by simp)
  have HB1 : Hid _ := HBX.out w1 t1
  have HT1 : Hid _ := T1
  clear hrt b0 b1 b2
  have bx := HB1.out.cells
  obtain ⟨b0, b1, b2⟩ := bx
  cases ri with
  | false =>
    clear t1 T1
    go_wp2
    refine bodyPost_ret (v := .tuple #[.string ⟨#[]⟩, .int .i64 3]) (by simp [results, Tryd.results27, go_sem]) rfl ?_
    exact ⟨rfl, HT1.out⟩
  | true =>
    have hwd := HWD.out w1 T1
    clear t1 T1
    go_wp2_with fail
    refine hwd.out.mono ?_
    rintro e _ ⟨rfl, rfl⟩
    clear hwd
    go_wp2_with fail
    refine (HUS.out _).out.mono ?_
    rintro e _ ⟨rfl, rfl⟩
    clear HUS
    cases ap with
    | true =>
      obtain rfl : vp = false := hex rfl
      have hit := HIT.out (by simp) (by simp) w1
      have hs2 := has (by simp) (by simp)
      have hsm1 := fun W : World => run_string_add_sum (P := Tryd.prog) (w := W) wd ⟨#[32]⟩ (by show wd.size + 1 ≤ _; omega)
      have hsm2 := fun W : World => run_string_add_sum (P := Tryd.prog) (w := W) (wd ++ ⟨#[32]⟩) at' (by rw [ByteArray.size_append]; show wd.size + 1 + at'.size ≤ _; omega)
      generalize hc1 : wd ++ ⟨#[32]⟩ = c1 at hsm1 hsm2
      generalize hc2 : c1 ++ at' = c2 at hsm2
      have HC : Hid (c2 = wd ++ ⟨#[32]⟩ ++ at') := by show _ = _; rw [hc1, hc2]
      clear hc1 hc2 has HIT hex
      go_wp2_with fail
      refine hit.out.mono ?_
      rintro e w3 ⟨rfl, t3⟩
      have HT3 : Hid _ := HT1.out.trans t3 (by simp)
      clear hit t3
      go_wp2
      refine bodyPost_ret (v := .tuple #[.string c2, .int .i64 0]) (by simp [results, Tryd.results27, go_sem]) rfl ?_
      rw [HC.out]
      exact ⟨rfl, HT3.out⟩
    | false =>
      cases vp with
      | true =>
        have hhx := HHX.out w1 HT1.out
        have hsm1 := fun W : World => run_string_add_sum (P := Tryd.prog) (w := W) wd ⟨#[32]⟩ (by show wd.size + 1 ≤ _; omega)
        have hsm2 := fun W : World => run_string_add_sum (P := Tryd.prog) (w := W) (wd ++ ⟨#[32]⟩) hx (by rw [ByteArray.size_append]; show wd.size + 1 + hx.size ≤ _; omega)
        generalize hc1 : wd ++ ⟨#[32]⟩ = c1 at hsm1 hsm2
        generalize hc2 : c1 ++ hx = c2 at hsm2
        have HC : Hid (c2 = wd ++ ⟨#[32]⟩ ++ hx) := by show _ = _; rw [hc1, hc2]
        clear hc1 hc2 has HIT hex HHX
        go_wp2_with fail
        refine hhx.out.mono ?_
        rintro e w3 ⟨rfl, t3⟩
        have HT3 : Hid _ := HT1.out.trans t3 (by simp)
        clear hhx t3
        go_wp2
        refine bodyPost_ret (v := .tuple #[.string c2, .int .i64 0]) (by simp [results, Tryd.results27, go_sem]) rfl ?_
        rw [HC.out]
        exact ⟨rfl, HT3.out⟩
      | false =>
        clear has HIT hex HHX
        go_wp2
        refine bodyPost_ret (v := .tuple #[.string wd, .int .i64 0]) (by simp [results, Tryd.results27, go_sem]) rfl ?_
        exact ⟨rfl, HT1.out⟩

end Go.Proofs.YtminiabpeodjaaaDoor

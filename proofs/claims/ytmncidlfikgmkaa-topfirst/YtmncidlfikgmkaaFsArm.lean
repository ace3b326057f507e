/-
  TopFirst: arm, thread.New BY THEIR CONTRACTS.
-/
import Derived.Test.YtmncidlfikgmkaaFsPlain
namespace Go.Proofs.Ytmncidlfikgmkaa
set_option linter.unusedVariables false
set_option linter.unusedSimpArgs false
open Go.RowKit
attribute [local go_sem] Oper.semAt_some

abbrev finsOwn (w : World) (B : Nat) (v : Value) (l : List InsD) : Prop := w.ownsRow B 50 3 v l.length (l.flatMap InsD.cells)
theorem fins_one (x : InsD) : ∀ u ∈ x.cells, u.oneCell' = true := by
  intro u hu
  simp [InsD.cells] at hu
  rcases hu with rfl | rfl | rfl <;> rfl
theorem Try.finfo_ins : (Try.prog.info? 50).map (fun i => (i.zero, i.size, i.bytes)) = some (some (.agg #[.int .u8 0, .int .i64 0, .int .u64 0]), 3, 24) := by kernel_rfl
theorem fins_lit (w : World) (l : List InsD) (hl : l.length ≤ 1000) : finsOwn (w.alloc (.cells (l.flatMap InsD.cells).toArray 50)) w.heap.size (.slice (some ⟨w.heap.size, 0, none⟩) l.length l.length) l := by
  have hc : (l.flatMap InsD.cells).length = l.length * 3 := flat_len (cells := InsD.cells) (fun _ => rfl) l
  exact ⟨hc, .inr ⟨w.heap.size, l.length, (l.flatMap InsD.cells).toArray, rfl, Nat.le_refl _, heap_alloc_new w _, Nat.le_refl _, by unfold maxLen; omega, by simpa using hc, by first | exact List.take_of_length_le (by simp only [List.toList_toArray]; omega) | (simp only [List.toList_toArray]; exact (List.take_of_length_le (by omega)).symm) | (simp only [List.toList_toArray]; rw [List.take_of_length_le (by omega)])⟩⟩
theorem fins_app {w : World} {B : Nat} {v : Value} {xs : List InsD} (h : finsOwn w B v xs) (hl : xs.length ≤ 1000) (hB : B ≤ w.heap.size) {ao : Option Addr} {cap : Nat} {l : List InsD} (hr : InsRow w (.slice ao l.length cap) l) (hn : l.length ≤ 1000) (ty : TypeId) :
    ∃ ao' cap' w', (Builtin.append_ #[22, 22] ty #[v, .slice ao l.length cap]).run Try.prog w = .ok (.slice ao' (xs.length + l.length) cap') w' ∧ finsOwn w' B (.slice ao' (xs.length + l.length) cap') (xs ++ l) ∧ Touch w w' v.ownBlock.toList := by
  obtain ⟨i0, hi, hz0, hz1, hz2⟩ := info_partsV Try.finfo_ins
  obtain ⟨v', w', h1, h2, h3, h4⟩ := run_app (P := Try.prog) (cells := InsD.cells) 22 ty 50 i0 _ 3 24 Try.underlying22 hi hz0 hz1 hz2 rfl (by decide) (fun _ => rfl) fins_one h (l := l) hr (by omega) (by decide) hB
  have h2' : finsOwn w' B v' (xs ++ l) := by
    show w'.ownsRow _ _ _ _ _ _
    rw [List.length_append, List.flatMap_append]
    exact h2
  obtain ⟨ao', cap', rfl⟩ := owns_slice h2
  exact ⟨ao', cap', w', h1, h2', (Touch.refl w _).grown h3 (fun k hk => .inl (by simp [hk]))⟩
def ArmP (w : World) (l : List InsD) (e : Ending) (w' : World) : Prop := ∃ ao, e = .returned (.slice ao l.length l.length) ∧ finsOwn w' w.heap.size (.slice ao l.length l.length) l ∧ Touch w w' []
set_option maxRecDepth 100000 in
set_option maxHeartbeats 1000000 in
theorem arm_zero (w : World) :
    Calls Try.prog 19 #[.int .i64 0, .int .i64 2] w (ArmP w (armL 0 2)) := by
  go_enter Try.func19, Try.ntmps19
  go_wp2
  go_ret
  exact ⟨_, rfl, fins_lit w (armL 0 2) (by decide), (Touch.refl w []).alloc _⟩
set_option maxRecDepth 100000 in
set_option maxHeartbeats 1000000 in
theorem arm_one (w : World) :
    Calls Try.prog 19 #[.int .i64 1, .int .i64 11] w (ArmP w (armL 1 11)) := by
  go_enter Try.func19, Try.ntmps19
  go_wp2
  go_ret
  exact ⟨_, rfl, fins_lit w (armL 1 11) (by decide), (Touch.refl w []).alloc _⟩

theorem eqNilI (w : World) (a : Option Addr) (n c : Nat) : (binOp .eql 22 (.slice a n c) (.slice none 0 0)).run Try.prog w = .ok (.bool a.isNone) w := Lib.run_eql_slice_nil w _ _ a n c 0 0 Try.underlying22
attribute [local go_sem] eqNilI
set_option maxRecDepth 100000 in
set_option maxHeartbeats 1000000 in
theorem iclone_some {w : World} {a : Addr} {cap : Nat} {l : List InsD} (hr : InsRow w (.slice (some a) l.length cap) l) (hl : l.length ≤ 1000) :
    Calls Try.prog 43 #[.slice (some a) l.length cap] w fun e w' => (∃ ao n c, e = .returned (.slice ao n c)) ∧ Touch w w' [] := by
    have t0 := (Touch.refl w []).alloc (.cells #[] 50)
    obtain ⟨ao', cap', w2, h1, h2, h3⟩ := fins_app (xs := []) (empty_row w 50 3) (by simp) (by simp) (SRow.keep hr t0 (by simp)) hl 22
    have HT : Hid (Touch w w2 []) := t0.trans h3 (by intro k hk; simp [Value.ownBlock] at hk; subst hk; exact .inr (Nat.le_refl _))
    clear hr h2 h3 t0
    generalize hn : l.length = n at h1 ⊢
    clear hn hl
    simp only [List.length_nil, Nat.zero_add] at h1
    go_enter Try.func43, Try.ntmps43
    go_wp2_with (at_builtin; refine Lib.wpList_append_run _ rfl _ _ _ _ rfl _ _ rfl rfl _ _ h1 ?_)
    go_ret
    exact ⟨⟨_, _, _, rfl⟩, HT.out⟩
set_option maxRecDepth 100000 in
set_option maxHeartbeats 1000000 in
theorem tnew_any {w : World} {a : Addr} {cap : Nat} (hr : InsRow w (.slice (some a) 22 cap) firstL) :
    Calls Try.prog 21 #[.slice (some a) 22 cap] w fun e w' => (∃ b, e = .returned (.pointer (some b))) ∧ Touch w w' [] := by
  have HC : Hid (HidC _ _ _ _ _) := ⟨iclone_some (l := firstL) hr (by decide)⟩
  clear hr
  go_enter Try.func21, Try.ntmps21
  go_wp2_with fail
  refine (HC.out).out.mono ?_
  rintro e w1 ⟨⟨ao, n, c, rfl⟩, t⟩
  have HT : Hid _ := t
  clear t
  go_wp2
  go_ret
  exact ⟨⟨_, rfl⟩, HT.out.alloc _⟩

end Go.Proofs.Ytmncidlfikgmkaa

/-
  play AND ManagerStamps, ManagerPatience, ManagerNone, WALKED.
-/
import Derived.Test.YtgnfonimnlejbaaMgrPlay
import Derived.Test.YtgnfonimnlejbaaMgrLive
namespace Go.Proofs.Ytgnfonimnlejbaa
set_option linter.unusedVariables false
set_option linter.unusedSimpArgs false
open Go.RowKit

def DeedM.cells (d : DeedM) : List Value := [.int .i64 d.kind, .int .i64 d.th, .int .i64 d.other, .bool d.again]
abbrev DeedMRow := SRow 4 DeedM.cells

theorem DeedMRow.four {w : World} {ao : Option Addr} {cap : Nat} {l : List DeedM} (h : DeedMRow w (.slice ao l.length cap) l) (k : Nat) (hk : k < l.length) :
    ∃ g off, ao = some ⟨g, off, none⟩ ∧ g < w.heap.size ∧ w.cell? ⟨g, off + k * 4, none⟩ = some (.int .i64 l[k].kind) ∧ w.cell? ⟨g, off + k * 4 + 1, none⟩ = some (.int .i64 l[k].th) ∧ w.cell? ⟨g, off + k * 4 + 2, none⟩ = some (.int .i64 l[k].other) ∧ w.cell? ⟨g, off + k * 4 + 3, none⟩ = some (.bool l[k].again) := by
  obtain ⟨g, off, e, hlt, hc⟩ := h.at k hk
  exact ⟨g, off, e, hlt, hc 0 (by omega), hc 1 (by omega), hc 2 (by omega), hc 3 (by omega)⟩

def kindK (k : Int) : Int := 1 + k % 3
theorem kindK_ok {k : Int} (h : 0 ≤ k) : kindK k = 1 ∨ kindK k = 2 ∨ kindK k = 3 := by unfold kindK; omega

theorem kind_any (k : Int) (h0 : 0 ≤ k) (h1 : k ≤ 255) (w : World) : Calls Try.prog 23 #[.int .u8 k] w fun x w' => x = .returned (.int .u8 (kindK k)) ∧ w = w' := by
  have h3 : 0 ≤ k % 3 ∧ k % 3 < 3 := by omega
  go_enter Try.func23, Try.ntmps23
  go_wp2
  go_ret
  refine ⟨?_, rfl⟩
  unfold kindK
  first | rfl | (simp only [Ending.returned.injEq, Value.int.injEq, true_and]; omega) | go_num

/-- What play leaves. -/
def MPlayed (w : World) (k : Int) (l : List DeedM) (e : Ending) (w' : World) : Prop :=
  ∃ bl br, e = .returned (.tuple #[.pointer (some ⟨bl, 0, none⟩), .pointer (some ⟨br, 0, none⟩), .bool true]) ∧ w.heap.size ≤ bl ∧ w.heap.size ≤ br ∧ MObj w' bl (runM (newM k) (l.take 60)) ∧ Touch w w' []

set_option maxRecDepth 100000 in
set_option maxHeartbeats 1600000 in
theorem mplay_any (k : Int) (h0 : 0 ≤ k) (h1 : k ≤ 255) (ao : Option Addr) (cap : Nat) (l : List DeedM) (w : World) (hr : DeedMRow w (.slice ao l.length cap) l) (hl : l.length ≤ maxLen) :
    Calls Try.prog 8 #[.int .u8 k, .slice ao l.length cap] w (MPlayed w (kindK k) l) := by
  unfold maxLen at hl
  obtain ⟨N, hN⟩ : ∃ N, N = l.length := ⟨_, rfl⟩
  rw [← hN] at hl
  have HN : Hid (N = l.length) := hN
  have KA := fun W => HidC.mk (kind_any k h0 h1 W)
  have hkk := kindK_ok h0
  clear h0 h1
  generalize kindK k = q at *
  have HK : Hid (q = 1 ∨ q = 2 ∨ q = 3) := hkk
  go_enter Try.func8, Try.ntmps8
  rw [← hN]
  clear hN hkk
  go_wp2_with fail
  refine (KA _).out.mono ?_
  rintro e w0 ⟨rfl, rfl⟩
  go_wp2_with fail
  refine (mnew_ok q HK.out w).mono ?_
  rintro e w1 ⟨rfl, l1, t01⟩
  go_wp2_with fail
  refine (KA _).out.mono ?_
  rintro e w0 ⟨rfl, rfl⟩
  clear KA
  go_wp2_with fail
  refine (rmnew_ok q HK.out _).mono ?_
  rintro e w2 ⟨rfl, r2, t12⟩
  have hlt1 := lt_of_heap l1.st
  have t02 : Touch w w2 [] := t01.trans t12 (by simp)
  have hb0 : MPair 0 w2 w.heap.size w1.heap.size (newM q) := ⟨l1.touch t12 (by simp), r2.same (fun _ => rfl) rfl, by omega, (MInv.new q HK.out).wf⟩
  have hbr : w.heap.size ≤ w1.heap.size := t01.size
  obtain ⟨bl, hbl⟩ : ∃ bl, bl = w.heap.size := ⟨_, rfl⟩
  generalize w1.heap.size = br at *
  rw [← hbl] at hb0
  simp only [← hbl]
  have hbl' : w.heap.size ≤ bl := by omega
  clear l1 r2 t12 t01 hbl hlt1
  go_wp2_with fail
  go_loopw [9] (fun i wr => ∃ (k : Nat), i = .int .i64 k ∧ k ≤ N ∧ k ≤ 60 ∧ MPair k wr bl br (runM (newM q) (l.take k)) ∧ Touch w wr []) (fun i _ => 60 - (intOf i).toNat)
  case atStart => exact ⟨0, rfl, Nat.zero_le _, by omega, hb0, t02⟩
  case round =>
    obtain ⟨k, rfl, hk, hk60, hb, t⟩ := hrel
    by_cases hlt : k < N ∧ k < 60
    · obtain ⟨hlt, hlt6⟩ := hlt
      have hlt' : (k : Int) < N := by omega
      have hlt6' : (k : Int) < 60 := by omega
      have hkl : k < l.length := by rw [← HN.out]; exact hlt
      obtain ⟨g, off, rfl, hg, M0, M1, M2, M3⟩ := hr.four k hkl
      have m0 := (t.cell (p := ⟨g, off + k * 4, none⟩) hg (by simp)).trans M0
      have m1 := (t.cell (p := ⟨g, off + k * 4 + 1, none⟩) hg (by simp)).trans M1
      have m2 := (t.cell (p := ⟨g, off + k * 4 + 2, none⟩) hg (by simp)).trans M2
      have m3 := (t.cell (p := ⟨g, off + k * 4 + 3, none⟩) hg (by simp)).trans M3
      have hn := runM_snoc hkl (newM q)
      have hinv : MInv k (runM (newM q) (l.take k)) := by
        have := runM_inv q HK.out (l.take k) (by simp; omega)
        rwa [List.length_take, Nat.min_eq_left (by omega)] at this
      have hdo := HidC.mk (mdo_any k bl br _ l[k] (by omega) wr hinv hb)
      obtain ⟨o, ho⟩ : ∃ o, o = l[k] := ⟨_, rfl⟩
      rw [← ho] at m0 m1 m2 m3 hn hdo
      generalize runM (newM q) (l.take k) = s at *
      obtain ⟨a0, a1, a2, a3⟩ := o
      simp only [DeedM.val] at hdo m0 m1 m2 m3
      have HNX : Hid _ := hn
      have HT : Hid _ := t
      clear ho hn hb t hr M0 M1 M2 M3 hinv
      go_wp2_with fail
      refine hdo.out.mono ?_
      rintro e w3 ⟨rfl, hP3, t3⟩
      clear hdo
      have HP : Hid _ := hP3
      have HT3 : Hid (Touch w w3 []) := HT.out.trans t3 (by intro x hx; simp at hx; omega)
      clear hP3 t3 HT m0 m1 m2 m3
      go_wp2
      go_roundw
      case rel => exact ⟨k + 1, by go_num, by omega, by omega, by rw [HNX.out]; exact HP.out, HT3.out⟩
      case measure => simp [intOf]; omega
    · have he : l.take k = l.take 60 := by
        have := HN.out
        by_cases h6 : k = 60
        · rw [h6]
        · rw [List.take_of_length_le (by omega), List.take_of_length_le (by omega)]
      have HB : Hid (MObj wr bl (runM (newM q) (l.take 60))) := by rw [← he]; exact hb.l
      have HT : Hid _ := t
      clear he hb hr t
      by_cases hlt1 : (k : Int) < N
      · have hlt2 : ¬ (k : Int) < 60 := by omega
        clear hlt
        go_wp2
        go_ret3
        exact ⟨bl, br, rfl, hbl', hbr, HB.out, HT.out⟩
      · clear hlt
        go_wp2
        go_ret3
        exact ⟨bl, br, rfl, hbl', hbr, HB.out, HT.out⟩

end Go.Proofs.Ytgnfonimnlejbaa

/-
  package trace, the document's: meet BY ITS CONTRACT.
-/
import Derived.Test.YtmiaibpdeofokaaGreatDoorTrBusy
namespace Go.Proofs.YtmiaibpdeofokaaGreatDoor
set_option linter.unusedVariables false
set_option linter.unusedSimpArgs false
open Go.RowKit Go.Maps
attribute [local go_sem] Oper.semAt_some

/-- An event of a and one of b that meet. -/
def mtB (a b : Int) (x y : EvD) : Bool := decide (x.a = a) && (decide (y.a = b) && (decide (x.t = y.t) && ((decide (x.k = 3) && (decide (y.k = 3) || decide (y.k = 2))) || (decide (x.k = 2) && decide (y.k = 3)))))
def meetS (l : List EvD) (a b : Int) : Bool := l.any fun x => l.any fun y => mtB a b x y
theorem any_at {p : EvD → Bool} {l : List EvD} {i : Nat} (hi : i < l.length) (h : p l[i] = true) : l.any p = true := List.any_eq_true.2 ⟨_, List.getElem_mem hi, h⟩
theorem any_snoc {p : EvD → Bool} {l : List EvD} {i : Nat} (hi : i < l.length) (h : (l.take i).any p = false) (h2 : p l[i] = false) : (l.take (i + 1)).any p = false := by
  rw [List.take_succ_eq_append_getElem hi, List.any_append, h]
  simp [h2]

set_option maxRecDepth 100000 in
set_option maxHeartbeats 4000000 in
theorem rmeet_any {w : World} {ao : Option Addr} {cap : Nat} {l : List EvD} (hr : EvRow w (.slice ao l.length cap) l) (hl : l.length ≤ 1000) (a b : Int) :
    Calls Tryz.prog 39 #[.slice ao l.length cap, .int .i64 a, .int .i64 b] w fun e w' => e = .returned (.bool (meetS l a b)) ∧ Touch w w' [] := by
  obtain ⟨N, hN⟩ : ∃ N, N = l.length := ⟨_, rfl⟩
  have HN : Hid (N = l.length) := hN
  have HR : Hid (EvRow w (.slice ao l.length cap) l) := hr
  obtain ⟨r, hrr⟩ : ∃ r, r = meetS l a b := ⟨_, rfl⟩
  have HRR : Hid (r = meetS l a b) := hrr
  rw [← hrr]
  rw [← hN] at hl ⊢
  clear hN hr hrr
  go_enter Tryz.func39, Tryz.ntmps39
  go_wp2_with fail
  go_loopw [7] (fun i wr => ∃ k : Nat, i = .int .i64 k ∧ k ≤ N ∧ ((l.take k).any fun x => l.any fun y => mtB a b x y) = false ∧ Touch w wr []) (fun i _ => N - (intOf i).toNat)
  case atStart => exact ⟨0, rfl, Nat.zero_le _, rfl, Touch.refl _ _⟩
  case round =>
    obtain ⟨k, rfl, hk, hno, hT⟩ := hrel
    have HNO : Hid _ := hno
    have HT0 : Hid _ := hT
    clear hno
    by_cases hlt : k < N
    · have h1 : (k : Int) < N := by omega
      have h0 : (0 : Int) ≤ k := by omega
      have hkl : k < l.length := by rw [← HN.out]; exact hlt
      clear hT
      go_wp2_with fail
      go_loopw [8] (fun i wv => ∃ j : Nat, i = .int .i64 j ∧ j ≤ N ∧ ((l.take j).any fun y => mtB a b l[k] y) = false ∧ Touch w wv []) (fun i _ => N - (intOf i).toNat)
      case atStart => exact ⟨0, rfl, Nat.zero_le _, rfl, HT0.out⟩
      case round =>
        obtain ⟨j, rfl, hj, hno, hT⟩ := hrel
        by_cases hjt : j < N
        · have h1j : (j : Int) < N := by omega
          have h0j : (0 : Int) ≤ j := by omega
          have hjl : j < l.length := by rw [← HN.out]; exact hjt
          obtain ⟨g, off, hao, hg, m0, m1, m2, m3⟩ := HR.out.one k hkl
          obtain ⟨g', off', hao', hg', n0, n1, n2, n3⟩ := HR.out.one j hjl
          rw [hao] at hao'
          obtain ⟨rfl, rfl⟩ : g' = g ∧ off' = off := by simpa [eq_comm] using hao'
          subst hao
          have d0 := (hT.cell (p := ⟨g', off' + k * 4, none⟩) hg (by simp)).trans m0
          have d1 := (hT.cell (p := ⟨g', off' + k * 4 + 1, none⟩) hg (by simp)).trans m1
          have d2 := (hT.cell (p := ⟨g', off' + k * 4 + 2, none⟩) hg (by simp)).trans m2
          have d3 := (hT.cell (p := ⟨g', off' + k * 4 + 3, none⟩) hg (by simp)).trans m3
          have f0 := (hT.cell (p := ⟨g', off' + j * 4, none⟩) hg (by simp)).trans n0
          have f1 := (hT.cell (p := ⟨g', off' + j * 4 + 1, none⟩) hg (by simp)).trans n1
          have f2 := (hT.cell (p := ⟨g', off' + j * 4 + 2, none⟩) hg (by simp)).trans n2
          have f3 := (hT.cell (p := ⟨g', off' + j * 4 + 3, none⟩) hg (by simp)).trans n3
          obtain ⟨x, hx⟩ : ∃ x, x = l[k] := ⟨_, rfl⟩
          obtain ⟨y, hy⟩ : ∃ y, y = l[j] := ⟨_, rfl⟩
          have HS : Hid (mtB a b x y = false → ((l.take (j + 1)).any fun y => mtB a b l[k] y) = false) := fun h => any_snoc hjl hno (by rw [← hx, ← hy]; exact h)
          have HY : Hid (mtB a b x y = true → r = true) := fun h => by rw [HRR.out]; exact any_at hkl (any_at hjl (by rw [← hx, ← hy]; exact h))
          rw [← hx] at d0 d1 d2 d3
          rw [← hy] at f0 f1 f2 f3
          have HT : Hid _ := hT
          have hgl : g' < wr.heap.size := Nat.lt_of_lt_of_le hg hT.size
          have hgn : g' ≠ wr.heap.size := by omega
          have hgn1 : g' ≠ wr.heap.size + 1 := by omega
          clear hT m0 m1 m2 m3 n0 n1 n2 n3 hao' hx hy hno
          go_wp2_with fail
          go_region
          all_goals clear d0 d1 d2 d3 f0 f1 f2 f3 hgn hgn1
          all_goals
            by_cases hA : x.a = a
            · have pA : (x.a == a) = true := by simpa using hA
              have qA : (x.a != a) = false := by simpa using hA
              by_cases hB : y.a = b
              · have pB : (y.a == b) = true := by simpa using hB
                have qB : (y.a != b) = false := by simpa using hB
                by_cases hU : x.t = y.t
                · have pU : (x.t == y.t) = true := by simpa using hU
                  have qU : (x.t != y.t) = false := by simpa using hU
                  by_cases hX : x.k = 3
                  · have pX : (x.k == 3) = true := by simpa using hX
                    have qX : (x.k != 3) = false := by simpa using hX
                    have pV : (x.k == 2) = false := by rw [hX]; rfl
                    by_cases hY : y.k = 3
                    · have pY : (y.k == 3) = true := by simpa using hY
                      have qY : (y.k != 3) = false := by simpa using hY
                      have HF : Hid (mtB a b x y = true) := by show _ = _; unfold mtB; simp [*]
                      go_wp2
                      go_ret
                      exact ⟨by rw [HY.out HF.out]; rfl, ((HT.out.alloc _).alloc _).drew⟩
                    · have pY : (y.k == 3) = false := by simpa using hY
                      have qY : (y.k != 3) = true := by simpa using hY
                      by_cases hZ : y.k = 2
                      · have pZ : (y.k == 2) = true := by simpa using hZ
                        have qZ : (y.k != 2) = false := by simpa using hZ
                        have HF : Hid (mtB a b x y = true) := by show _ = _; unfold mtB; simp [*]
                        go_wp2
                        go_ret
                        exact ⟨by rw [HY.out HF.out]; rfl, ((HT.out.alloc _).alloc _).drew⟩
                      · have pZ : (y.k == 2) = false := by simpa using hZ
                        have qZ : (y.k != 2) = true := by simpa using hZ
                        have HF : Hid (mtB a b x y = false) := by show _ = _; unfold mtB; simp [*]
                        go_wp2
                        go_roundw
                        case rel => exact ⟨j + 1, by go_num, by omega, HS.out HF.out, ((HT.out.alloc _).alloc _).drew⟩
                        case measure => simp [intOf]; omega
                  · have pX : (x.k == 3) = false := by simpa using hX
                    have qX : (x.k != 3) = true := by simpa using hX
                    by_cases hV : x.k = 2
                    · have pV : (x.k == 2) = true := by simpa using hV
                      have qV : (x.k != 2) = false := by simpa using hV
                      by_cases hY : y.k = 3
                      · have pY : (y.k == 3) = true := by simpa using hY
                        have qY : (y.k != 3) = false := by simpa using hY
                        have HF : Hid (mtB a b x y = true) := by show _ = _; unfold mtB; simp [*]
                        go_wp2
                        go_ret
                        exact ⟨by rw [HY.out HF.out]; rfl, ((HT.out.alloc _).alloc _).drew⟩
                      · have pY : (y.k == 3) = false := by simpa using hY
                        have qY : (y.k != 3) = true := by simpa using hY
                        have HF : Hid (mtB a b x y = false) := by show _ = _; unfold mtB; simp [*]
                        go_wp2
                        go_roundw
                        case rel => exact ⟨j + 1, by go_num, by omega, HS.out HF.out, ((HT.out.alloc _).alloc _).drew⟩
                        case measure => simp [intOf]; omega
                    · have pV : (x.k == 2) = false := by simpa using hV
                      have qV : (x.k != 2) = true := by simpa using hV
                      have HF : Hid (mtB a b x y = false) := by show _ = _; unfold mtB; simp [*]
                      go_wp2
                      go_roundw
                      case rel => exact ⟨j + 1, by go_num, by omega, HS.out HF.out, ((HT.out.alloc _).alloc _).drew⟩
                      case measure => simp [intOf]; omega
                · have pU : (x.t == y.t) = false := by simpa using hU
                  have qU : (x.t != y.t) = true := by simpa using hU
                  have HF : Hid (mtB a b x y = false) := by show _ = _; unfold mtB; simp [*]
                  go_wp2
                  go_roundw
                  case rel => exact ⟨j + 1, by go_num, by omega, HS.out HF.out, ((HT.out.alloc _).alloc _).drew⟩
                  case measure => simp [intOf]; omega
              · have pB : (y.a == b) = false := by simpa using hB
                have qB : (y.a != b) = true := by simpa using hB
                have HF : Hid (mtB a b x y = false) := by show _ = _; unfold mtB; simp [*]
                go_wp2
                go_roundw
                case rel => exact ⟨j + 1, by go_num, by omega, HS.out HF.out, ((HT.out.alloc _).alloc _).drew⟩
                case measure => simp [intOf]; omega
            · have pA : (x.a == a) = false := by simpa using hA
              have qA : (x.a != a) = true := by simpa using hA
              have HF : Hid (mtB a b x y = false) := by show _ = _; unfold mtB; simp [*]
              go_wp2
              go_roundw
              case rel => exact ⟨j + 1, by go_num, by omega, HS.out HF.out, ((HT.out.alloc _).alloc _).drew⟩
              case measure => simp [intOf]; omega
        · obtain rfl : j = N := by omega
          have hall : l.take j = l := by rw [HN.out, List.take_length]
          rw [hall] at hno
          have HX : Hid (((l.take (k + 1)).any fun x => l.any fun y => mtB a b x y) = false) := any_snoc hkl HNO.out hno
          have HT : Hid _ := hT
          clear hno hT hall
          go_wp2
          go_roundw
          case rel => exact ⟨k + 1, by go_num, by omega, HX.out, HT.out⟩
          case measure => simp [intOf]; omega
    · obtain rfl : k = N := by omega
      have hall : l.take k = l := by rw [HN.out, List.take_length]
      have HX : Hid (r = false) := by have := HNO.out; rw [hall] at this; exact HRR.out.trans this
      clear hall hT
      go_wp2
      go_ret
      exact ⟨by rw [HX.out]; rfl, HT0.out⟩

end Go.Proofs.YtmiaibpdeofokaaGreatDoor

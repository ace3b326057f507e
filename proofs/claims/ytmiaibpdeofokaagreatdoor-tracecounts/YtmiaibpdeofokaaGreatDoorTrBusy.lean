/-
  package trace: touches, Busiest BY THEIR CONTRACTS.
-/
import Derived.Test.YtmiaibpdeofokaaGreatDoorTrBase
import Derived.Deep.QuietTactic
import Derived.BigQuiet
namespace Go.Proofs.YtmiaibpdeofokaaGreatDoor
set_option linter.unusedVariables false
set_option linter.unusedSimpArgs false
open Go.RowKit Go.Maps
attribute [local go_sem] Oper.semAt_some

/-- Whether an event is of a variable. -/
def tchB (e : EvD) : Bool := decide (e.k = 2) || decide (e.k = 3)
set_option maxRecDepth 100000 in
theorem touches_any (e : EvD) (w : World) : Calls Tryz.prog 33 #[e.val] w fun x w' => x = .returned (.bool (tchB e)) ∧ Touch w w' [] := by
  obtain ⟨k, a, t, v⟩ := e
  unfold tchB EvD.val
  simp only
  by_cases h2 : k = 2
  · subst h2
    go_enter Tryz.func33, Tryz.ntmps33
    go_wp2
    go_ret
    exact ⟨rfl, (Touch.refl _ _).alloc _⟩
  · have p2 : (k == 2) = false := by simpa using h2
    by_cases h3 : k = 3
    · subst h3
      go_enter Tryz.func33, Tryz.ntmps33
      go_wp2
      go_ret
      exact ⟨rfl, (Touch.refl _ _).alloc _⟩
    · have p3 : (k == 3) = false := by simpa using h3
      rw [decide_eq_false h2, decide_eq_false h3]
      go_enter Tryz.func33, Tryz.ntmps33
      go_wp2
      go_ret
      exact ⟨rfl, (Touch.refl _ _).alloc _⟩

abbrev arr12 (F : Nat → Int) : Array Value := #[.int .i64 (F 0), .int .i64 (F 1), .int .i64 (F 2), .int .i64 (F 3), .int .i64 (F 4), .int .i64 (F 5), .int .i64 (F 6), .int .i64 (F 7), .int .i64 (F 8), .int .i64 (F 9), .int .i64 (F 10), .int .i64 (F 11)]
/-- Twelve numbers in a block of their own. -/
structure TmB (w : World) (p : Nat) (F : Nat → Int) : Prop where
  st : w.heap[p]? = some (.cells (arr12 F) 68 (0, 0))
theorem TmB.touch {w w' : World} {p : Nat} {F : Nat → Int} {S : List Nat} (h : TmB w p F) (t : Touch w w' S) (hS : p ∉ S) : TmB w' p F := ⟨(t.block p (lt_of_heap h.st) hS).trans h.st⟩
theorem arr12_at (F : Nat → Int) (k : Nat) (hk : k < 12) : (arr12 F)[k]? = some (.int .i64 (F k)) := by
  match k, hk with
    | 0, _ => rfl
    | 1, _ => rfl
    | 2, _ => rfl
    | 3, _ => rfl
    | 4, _ => rfl
    | 5, _ => rfl
    | 6, _ => rfl
    | 7, _ => rfl
    | 8, _ => rfl
    | 9, _ => rfl
    | 10, _ => rfl
    | 11, _ => rfl
theorem TmB.cell {w : World} {p : Nat} {F : Nat → Int} (h : TmB w p F) (k : Nat) (hk : k < 12) : w.cell? ⟨p, k, none⟩ = some (.int .i64 (F k)) := by unfold World.cell?; rw [h.st]; exact arr12_at F k hk
theorem TmB.fr {w : World} {p : Nat} {F : Nat → Int} (h : TmB w p F) (j : Nat) : w.frozen? ⟨p, j, none⟩ = false := by unfold World.frozen?; rw [h.st]; simp
def updN (F : Nat → Int) (t : Nat) (x : Int) : Nat → Int := fun i => if i = t then x else F i
theorem arr12_set (F : Nat → Int) (k : Nat) (hk : k < 12) (x : Int) : (arr12 F).set! k (.int .i64 x) = arr12 (updN F k x) := by
  match k, hk with
    | 0, _ => rfl
    | 1, _ => rfl
    | 2, _ => rfl
    | 3, _ => rfl
    | 4, _ => rfl
    | 5, _ => rfl
    | 6, _ => rfl
    | 7, _ => rfl
    | 8, _ => rfl
    | 9, _ => rfl
    | 10, _ => rfl
    | 11, _ => rfl
theorem TmB.set {w : World} {p : Nat} {F : Nat → Int} (h : TmB w p F) (k : Nat) (hk : k < 12) (x : Int) : TmB (w.setCell ⟨p, k, none⟩ (.int .i64 x)) p (updN F k x) := ⟨by rw [heap_setCell_same _ _ _ _ _ _ h.st, ← arr12_set F k hk x]; rfl⟩
set_option maxRecDepth 100000 in
theorem arr12_index (F : Nat → Int) (k : Nat) (hk : k < 12) (w : World) : (Instr.index 68 (.agg (arr12 F)) (.int .i64 (k : Int))).run Tryz.prog w = .ok (.int .i64 (F k)) w := by
  simp only [Instr.index, Sem.run_bind, run_underlying Tryz.underlying68, Result.andThen_ok]
  match k, hk with
  | 0, _ => go_simp
  | 1, _ => go_simp
  | 2, _ => go_simp
  | 3, _ => go_simp
  | 4, _ => go_simp
  | 5, _ => go_simp
  | 6, _ => go_simp
  | 7, _ => go_simp
  | 8, _ => go_simp
  | 9, _ => go_simp
  | 10, _ => go_simp
  | 11, _ => go_simp

/-- How often a variable was touched. -/
def tmN (l : List EvD) (t : Nat) : Int := ((l.filter fun e => tchB e && decide (e.t = t)).length : Nat)
theorem tmN_snoc {l : List EvD} {i : Nat} (hi : i < l.length) (t : Nat) : tmN (l.take (i + 1)) t = tmN (l.take i) t + (if tchB l[i] = true ∧ l[i].t = t then 1 else 0) := by
  unfold tmN
  rw [List.take_succ_eq_append_getElem hi, List.filter_append, List.length_append]
  by_cases h : tchB l[i] = true ∧ l[i].t = t
  · simp [h.1, h.2]
  · rw [if_neg h]
    have : (tchB l[i] && decide (l[i].t = t)) = false := by
      cases hq : tchB l[i] with
      | false => rfl
      | true => simp; exact fun e => h ⟨hq, e⟩
    simp [this]
theorem tmN_le (l : List EvD) (t : Nat) : 0 ≤ tmN l t ∧ tmN l t ≤ l.length := ⟨by unfold tmN; omega, by unfold tmN; have := List.length_filter_le (fun e => tchB e && decide (e.t = t)) l; omega⟩
/-- The variable with the most, of the first ones. -/
def bsN (F : Nat → Int) : Nat → Nat
  | 0 => 0
  | j + 1 => if F j > F (bsN F j) then j else bsN F j
theorem bsN_lt (F : Nat → Int) : ∀ j, j ≤ 12 → bsN F j < 12
  | 0, _ => by unfold bsN; omega
  | j + 1, h => by unfold bsN; have := bsN_lt F j (by omega); split <;> omega
def busyS (l : List EvD) : Int × Bool := (bsN (tmN l) 12, decide (tmN l (bsN (tmN l) 12) > 0))

set_option maxRecDepth 100000 in
set_option maxHeartbeats 2000000 in
theorem busiest_any {w : World} {ao : Option Addr} {cap : Nat} {l : List EvD} (hr : EvRow w (.slice ao l.length cap) l) (hl : l.length ≤ 1000) :
    Calls Tryz.prog 13 #[.slice ao l.length cap] w fun e w' => e = .returned (.tuple #[.int .i64 (busyS l).1, .bool (busyS l).2]) ∧ Touch w w' [] := by
  obtain ⟨N, hN⟩ : ∃ N, N = l.length := ⟨_, rfl⟩
  have HN : Hid (N = l.length) := hN
  have HR : Hid (EvRow w (.slice ao l.length cap) l) := hr
  obtain ⟨r, hrr⟩ : ∃ r, r = busyS l := ⟨_, rfl⟩
  have HRR : Hid (r = busyS l) := hrr
  rw [← hrr]
  rw [← hN] at hl ⊢
  clear hN hr hrr
  have T0 : Hid (Touch w (w.alloc (.cells (arr12 fun _ => 0) 68)) []) := (Touch.refl w []).alloc _
  have Z0 : Hid (TmB (w.alloc (.cells (arr12 fun _ => 0) 68)) w.heap.size (fun _ => 0)) := ⟨heap_alloc_new w _⟩
  go_enter Tryz.func13, Tryz.ntmps13
  go_wp2_with fail
  go_loopw [12] (fun i wr => ∃ k : Nat, i = .int .i64 k ∧ k ≤ N ∧ TmB wr w.heap.size (tmN (l.take k)) ∧ Touch w wr []) (fun i _ => N - (intOf i).toNat)
  case atStart => exact ⟨0, rfl, Nat.zero_le _, Z0.out, T0.out⟩
  case round =>
    obtain ⟨k, rfl, hk, htb, hT⟩ := hrel
    have HT : Hid _ := hT
    have HTB : Hid _ := htb
    by_cases hlt : k < N
    ·
      have h1 : (k : Int) < N := by omega
      have h0 : (0 : Int) ≤ k := by omega
      have hkl : k < l.length := by rw [← HN.out]; exact hlt
      obtain ⟨g, off, rfl, hg, m0, m1, m2, m3⟩ := HR.out.one k hkl
      have d0 := (hT.cell (p := ⟨g, off + k * 4, none⟩) hg (by simp)).trans m0
      have d1 := (hT.cell (p := ⟨g, off + k * 4 + 1, none⟩) hg (by simp)).trans m1
      have d2 := (hT.cell (p := ⟨g, off + k * 4 + 2, none⟩) hg (by simp)).trans m2
      have d3 := (hT.cell (p := ⟨g, off + k * 4 + 3, none⟩) hg (by simp)).trans m3
      have hsn := fun t => tmN_snoc hkl t
      have hbd := fun t => tmN_le (l.take k) t
      have hb1 : (l.take k).length ≤ 1000 := by rw [List.length_take]; omega
      obtain ⟨e, he⟩ : ∃ e, e = l[k] := ⟨_, rfl⟩
      rw [← he] at d0 d1 d2 d3
      have HSN : Hid (∀ t, tmN (l.take (k + 1)) t = tmN (l.take k) t + (if tchB e = true ∧ e.t = t then 1 else 0)) := fun t => by rw [he]; exact hsn t
      clear m0 m1 m2 m3 he hT hsn htb
      have HBD : Hid (∀ t, 0 ≤ tmN (l.take k) t ∧ tmN (l.take k) t ≤ 1000) := fun t => by have := hbd t; omega
      clear hbd hb1
      generalize tmN (l.take k) = F at *
      have HTC : Hid (∀ W, HidC Tryz.prog 33 #[e.val] W fun x w' => x = .returned (.bool (tchB e)) ∧ Touch W w' []) := fun W => ⟨touches_any e W⟩
      have HTA : Hid (Touch w (wr.alloc e.obj) []) := HT.out.alloc _
      have HB1 : Hid (TmB (wr.alloc e.obj) w.heap.size F) := HTB.out.touch ((Touch.refl wr []).alloc _) (by simp)
      obtain ⟨ek, ea, et, ev⟩ := e
      unfold EvD.val at HTC
      unfold EvD.obj at HTA HB1
      simp only at d0 d1 d2 d3 HTC HTA HB1
      have y2 : (wr.alloc (.cells #[.int .u8 ek, .int .i64 ea, .int .i64 et, .int .u64 ev] 50)).cell? ⟨wr.heap.size, 2, none⟩ = some (.int .i64 et) := by simp [go_sem]
      go_wp2_with fail
      refine (HTC.out _).out.mono ?_
      rintro x w1 ⟨rfl, t1⟩
      have c2 : w1.cell? ⟨wr.heap.size, 2, none⟩ = some (.int .i64 et) := (t1.cell (by simp) (by simp)).trans y2
      have B1 : Hid (TmB w1 w.heap.size F) := HB1.out.touch t1 (by simp)
      have T1 : Hid (Touch w w1 []) := HTA.out.trans t1 (by simp)
      clear d0 d1 d2 d3 y2 t1 HTC HTA HB1
      have HNO : Hid (¬ (tchB ⟨ek, ea, et, ev⟩ = true ∧ 0 ≤ et ∧ et < 12) → TmB w1 w.heap.size (tmN (l.take (k + 1)))) := fun hno => by
        have hb := B1.out
        have he : ∀ j : Nat, j < 12 → tmN (l.take (k + 1)) j = F j := fun j hj => by
          rw [HSN.out j, if_neg (fun h => hno ⟨h.1, by have := h.2; omega, by have := h.2; omega⟩)]; omega
        refine ⟨hb.st.trans ?_⟩
        unfold arr12
        simp only [he 0 (by omega), he 1 (by omega), he 2 (by omega), he 3 (by omega), he 4 (by omega), he 5 (by omega), he 6 (by omega), he 7 (by omega), he 8 (by omega), he 9 (by omega), he 10 (by omega), he 11 (by omega)]
      cases hq : tchB ⟨ek, ea, et, ev⟩ with
      | false =>
        have HR2 : Hid _ := HNO.out (fun h => by rw [hq] at h; exact absurd h.1 (by simp))
        clear hq HNO
        go_wp2
        go_roundw
        case rel => exact ⟨k + 1, by go_num, by omega, HR2.out, T1.out⟩
        case measure => simp [intOf]; omega
      | true =>
        by_cases h0' : 0 ≤ et
        · by_cases h12 : et < 12
          · obtain ⟨n, rfl⟩ : ∃ n : Nat, et = n := ⟨et.toNat, by omega⟩
            have hn : n < 12 := by omega
            have cF := B1.out.cell n hn
            have fF := B1.out.fr n
            have hbF := HBD.out n
            have hwF : IntKind.i64.wrap (F n + 1) = F n + 1 := by rw [IntKind.wrap_i64]; omega
            have HR2 : Hid (TmB (w1.setCell ⟨w.heap.size, n, none⟩ (.int .i64 (F n + 1))) w.heap.size (tmN (l.take (k + 1)))) := by
              have hb := B1.out.set n hn (F n + 1)
              have he : ∀ j : Nat, tmN (l.take (k + 1)) j = updN F n (F n + 1) j := fun j => by
                rw [HSN.out j]
                unfold updN
                by_cases hj : j = n
                · subst hj; rw [if_pos rfl, if_pos ⟨hq, rfl⟩]
                · rw [if_neg hj, if_neg (fun h => hj (by have := h.2; omega))]; omega
              have he2 : tmN (l.take (k + 1)) = updN F n (F n + 1) := funext he
              rw [he2]
              exact hb
            have HT2 : Hid (Touch w (w1.setCell ⟨w.heap.size, n, none⟩ (.int .i64 (F n + 1))) []) := T1.out.setCell (.inr (Nat.le_refl _)) _
            clear hq HNO hbF
            go_wp2
            go_roundw
            case rel => exact ⟨k + 1, by go_num, by omega, HR2.out, HT2.out⟩
            case measure => simp [intOf]; omega
          · have HR2 : Hid _ := HNO.out (fun h => h12 h.2.2)
            clear hq HNO
            go_wp2
            go_roundw
            case rel => exact ⟨k + 1, by go_num, by omega, HR2.out, T1.out⟩
            case measure => simp [intOf]; omega
        · have HR2 : Hid _ := HNO.out (fun h => h0' h.2.1)
          clear hq HNO
          go_wp2
          go_roundw
          case rel => exact ⟨k + 1, by go_num, by omega, HR2.out, T1.out⟩
          case measure => simp [intOf]; omega
    · obtain rfl : k = N := by omega
      have hall : l.take k = l := by rw [HN.out, List.take_length]
      rw [hall] at htb
      have HB : Hid (TmB wr w.heap.size (tmN l)) := htb
      have HRF : Hid (r = (((bsN (tmN l) 12 : Nat) : Int), decide (tmN l (bsN (tmN l) 12) > 0))) := HRR.out
      clear hT hall HTB HRR
      generalize tmN l = F at *
      have c0 := HB.out.cell 0 (by omega)
      have c1 := HB.out.cell 1 (by omega)
      have c2 := HB.out.cell 2 (by omega)
      have c3 := HB.out.cell 3 (by omega)
      have c4 := HB.out.cell 4 (by omega)
      have c5 := HB.out.cell 5 (by omega)
      have c6 := HB.out.cell 6 (by omega)
      have c7 := HB.out.cell 7 (by omega)
      have c8 := HB.out.cell 8 (by omega)
      have c9 := HB.out.cell 9 (by omega)
      have c10 := HB.out.cell 10 (by omega)
      have c11 := HB.out.cell 11 (by omega)
      clear htb
      go_wp2_with fail
      clear c0 c1 c2 c3 c4 c5 c6 c7 c8 c9 c10 c11
      go_loopw [7, 36] (fun b i wv => ∃ j : Nat, i = .int .i64 j ∧ j ≤ 12 ∧ b = .int .i64 (bsN F j : Nat) ∧ wv = wr) (fun _ i _ => 12 - (intOf i).toNat)
      case atStart => exact ⟨0, rfl, Nat.zero_le _, rfl, rfl⟩
      case round =>
        obtain ⟨j, rfl, hj, rfl, hww⟩ := hrel
        subst hww
        have hbl := bsN_lt F j hj
        have cb := HB.out.cell _ hbl
        by_cases hj12 : j < 12
        · have h1j : (j : Int) < 12 := by omega
          have hix := fun W => arr12_index F j hj12 W
          have hst : Hid (bsN F (j + 1) = if F j > F (bsN F j) then j else bsN F j) := rfl
          obtain ⟨b0, hb0⟩ : ∃ b0, b0 = bsN F j := ⟨_, rfl⟩
          rw [← hb0] at hbl cb hst ⊢
          clear hb0
          unfold arr12 at hix
          by_cases hgt : F b0 < F j
          · have hst2 : Hid (bsN F (j + 1) = j) := hst.out.trans (if_pos hgt)
            go_wp2
            go_roundw
            case rel => exact ⟨j + 1, by go_num, by omega, by rw [hst2.out], trivial⟩
            case measure => simp [intOf]; omega
          · have hst2 : Hid (bsN F (j + 1) = b0) := hst.out.trans (if_neg hgt)
            go_wp2
            go_roundw
            case rel => exact ⟨j + 1, by go_num, by omega, by rw [hst2.out], trivial⟩
            case measure => simp [intOf]; omega
        · obtain rfl : j = 12 := by omega
          obtain ⟨b0, hb0⟩ : ∃ b0, b0 = bsN F 12 := ⟨_, rfl⟩
          have HB0 : Hid (r = (((b0 : Nat) : Int), decide (F b0 > 0))) := by rw [hb0]; exact HRF.out
          rw [← hb0] at hbl cb ⊢
          clear hb0
          go_wp2_with fail
          go_quiet (fail)
          go_wp2
          go_ret2
          rw [HB0.out]
          exact ⟨rfl, HT.out.drewN _⟩

end Go.Proofs.YtmiaibpdeofokaaGreatDoor

/-
  THE DOCUMENT's package rowlockref08: seen, StateOf, Before, Cut, Same, Attempts, In BY THEIR CONTRACTS.
-/
import Derived.Test.YtjacclbifeoclaaHistWrites
import Derived.Test.YtjacclbifeoclaaHistEnds
namespace Go.Proofs.Ytjacclbifeoclaa
set_option linter.unusedVariables false
set_option linter.unusedSimpArgs false
open Go.RowKit Go.Maps Go.Shelf
attribute [local go_sem] Oper.semAt_some

def seenS (l : List EvD) (n : Nat) (a k : Int) : Bool := (l.take n).any fun e => e.a == a && e.k == k
theorem seenS_snoc {l : List EvD} {n : Nat} (hn : n < l.length) (a k : Int) : seenS l (n + 1) a k = (seenS l n a k || (l[n].a == a && l[n].k == k)) := by
  unfold seenS
  rw [List.take_succ_eq_append_getElem hn, List.any_append]
  simp
theorem seenS_mono {l : List EvD} {n m : Nat} (h : n ≤ m) {a k : Int} (hs : seenS l n a k = true) : seenS l m a k = true := by
  unfold seenS at hs ⊢
  rw [List.any_eq_true] at hs ⊢
  obtain ⟨e, he, h1⟩ := hs
  exact ⟨e, List.mem_of_mem_take (i := n) (by rw [List.take_take, Nat.min_eq_left h]; exact he), h1⟩

set_option maxRecDepth 100000 in
set_option maxHeartbeats 2000000 in
theorem seen_any {w : World} {ao : Option Addr} {cap : Nat} {l : List EvD} (hr : EvRow w (.slice ao l.length cap) l) (hl : l.length ≤ 1000) (n : Nat) (hn : n ≤ l.length) (a k : Int) :
    Calls Try.prog 51 #[.slice ao l.length cap, .int .i64 n, .int .i64 a, .int .u8 k] w fun x w' => x = .returned (.bool (seenS l n a k)) ∧ w = w' := by
  obtain ⟨N, hN⟩ : ∃ N, N = l.length := ⟨_, rfl⟩
  have HN : Hid (N = l.length) := hN
  have HR : Hid (EvRow w (.slice ao l.length cap) l) := hr
  rw [← hN] at hl hn ⊢
  clear hN hr
  obtain ⟨res, hres⟩ : ∃ r, r = seenS l n a k := ⟨_, rfl⟩
  rw [← hres]
  have HRES : Hid _ := hres
  clear hres
  go_enter Try.func51, Try.ntmps51
  go_wp2_with fail
  go_loopw [9] (fun i wr => ∃ j : Nat, i = .int .i64 j ∧ j ≤ n ∧ seenS l j a k = false ∧ wr = w) (fun i _ => n - (intOf i).toNat)
  case atStart => exact ⟨0, rfl, Nat.zero_le _, rfl, rfl⟩
  case round =>
    obtain ⟨j, rfl, hj, hno, rfl⟩ := hrel
    by_cases hlt : j < n
    · have h1 : (j : Int) < n := by omega
      have h1' : (j : Int) < N := by omega
      have h0 : (0 : Int) ≤ j := by omega
      have hjl : j < l.length := by rw [← HN.out]; omega
      obtain ⟨g, off, rfl, hg, m0, m1, m2, m3⟩ := HR.out.one j hjl
      have hsn := seenS_snoc hjl a k
      rw [hno, Bool.false_or] at hsn
      have hmo := fun h => seenS_mono (l := l) (n := j + 1) (m := n) (by omega) (a := a) (k := k) h
      rw [hsn] at hmo
      obtain ⟨e, he⟩ : ∃ e, e = l[j] := ⟨_, rfl⟩
      rw [← he] at m0 m1 m2 m3 hsn hmo
      have HSN : Hid _ := hsn
      have HMO : Hid _ := hmo
      clear he hsn hmo hno
      cases p1 : (e.a == a) with
      | false =>
        have HF : Hid (seenS l (j + 1) a k = false) := by show _ = _; rw [HSN.out, p1]; rfl
        clear HMO HSN
        go_wp2
        go_roundw
        case rel => exact ⟨j + 1, by go_num, by omega, HF.out, by simp⟩
        case measure => simp [intOf]; omega
      | true =>
        cases p2 : (e.k == k) with
        | false =>
          have HF : Hid (seenS l (j + 1) a k = false) := by show _ = _; rw [HSN.out, p1, p2]; rfl
          clear HMO HSN
          go_wp2
          go_roundw
          case rel => exact ⟨j + 1, by go_num, by omega, HF.out, by simp⟩
          case measure => simp [intOf]; omega
        | true =>
          have HT : Hid (res = true) := by show _ = _; rw [HRES.out]; exact HMO.out (by rw [p1, p2]; rfl)
          clear HMO HSN HRES
          go_wp2
          go_ret
          exact ⟨by rw [HT.out]; rfl, rfl⟩
    · obtain rfl : j = n := by omega
      have HF : Hid (res = false) := by show _ = _; rw [HRES.out]; exact hno
      clear HRES hno
      go_wp2
      go_ret
      exact ⟨by rw [HF.out]; rfl, rfl⟩

/-! ### StateOf -/
theorem told_two (l : List EvD) (x : Int) : ∀ s0 s1 : Int, (s0 = 0 ∧ s1 = 1) ∨ (s0 = s1 ∧ 2 ≤ s0) → (l.foldl (toldStep x) s0 = 0 ∧ l.foldl (toldStep x) s1 = 1) ∨ (l.foldl (toldStep x) s0 = l.foldl (toldStep x) s1 ∧ 2 ≤ l.foldl (toldStep x) s0) := by
  induction l with
  | nil => intro s0 s1 h; exact h
  | cons e l ih =>
    intro s0 s1 h
    rw [List.foldl_cons, List.foldl_cons]
    refine ih _ _ ?_
    unfold toldStep reachS
    by_cases he : e.a = x
    · simp only [if_pos he]
      repeat' split
      all_goals first | (right; exact ⟨rfl, by omega⟩) | exact h
    · simp only [if_neg he]; exact h
theorem told_one (l : List EvD) (x : Int) : l.foldl (toldStep x) 1 = max (toldS l x) 1 := by
  have h := told_two l x 0 1 (.inl ⟨rfl, rfl⟩)
  unfold toldS
  omega
theorem seen_att (l : List EvD) (n : Nat) (x : Int) : seenS l n x 1 = true ↔ x ∈ attS (l.take n) := by
  unfold seenS
  rw [attSm, List.any_eq_true]
  constructor
  · rintro ⟨e, he, h⟩; simp at h; exact ⟨e, he, h.2, h.1⟩
  · rintro ⟨e, he, h1, h2⟩; exact ⟨e, he, by simp [h1, h2]⟩

set_option maxRecDepth 100000 in
set_option maxHeartbeats 2000000 in
theorem rstateOf_any {w : World} {ao : Option Addr} {cap : Nat} {l : List EvD} (hr : EvRow w (.slice ao l.length cap) l) (hl : l.length ≤ 1000) (a : Int) :
    Calls Try.prog 49 #[.slice ao l.length cap, .int .i64 a] w fun x w' => x = .returned (.int .u8 (stateS l a)) ∧ w = w' := by
  have hse := seen_any hr hl l.length (Nat.le_refl _) a 1
  have hsa := seen_att l l.length a
  rw [List.take_length] at hsa
  obtain ⟨N, hN⟩ : ∃ N, N = l.length := ⟨_, rfl⟩
  have HN : Hid (N = l.length) := hN
  have HR : Hid (EvRow w (.slice ao l.length cap) l) := hr
  rw [← hN] at hl hse hsa ⊢
  clear hN hr
  cases hq : seenS l N a 1 with
  | false =>
    rw [hq] at hse hsa
    have hst : stateS l a = 0 := by unfold stateS; rw [if_neg (fun h => by have := hsa.2 h; cases this)]
    rw [hst]
    clear hsa hq hst
    go_enter Try.func49, Try.ntmps49
    go_wp2_with fail
    refine hse.mono ?_
    rintro e w1 ⟨rfl, rfl⟩
    clear hse
    go_wp2
    go_ret
    exact ⟨rfl, rfl⟩
  | true =>
    rw [hq] at hse hsa
    have hst : stateS l a = l.foldl (toldStep a) 1 := by unfold stateS; rw [if_pos (hsa.1 rfl), told_one]
    obtain ⟨res, hres⟩ : ∃ r, r = stateS l a := ⟨_, rfl⟩
    rw [← hres]
    have HRES : Hid (res = l.foldl (toldStep a) 1) := by show _ = _; rw [hres, hst]
    clear hsa hq hst hres
    go_enter Try.func49, Try.ntmps49
    go_wp2_with fail
    refine hse.mono ?_
    rintro e w1 ⟨rfl, rfl⟩
    clear hse
    go_wp2_with fail
    go_loopw [5, 6] (fun s i wr => ∃ (j : Nat) (s0 : Int), s = .int .u8 s0 ∧ i = .int .i64 j ∧ j ≤ N ∧ res = (l.drop j).foldl (toldStep a) s0 ∧ wr = w) (fun _ i _ => N - (intOf i).toNat)
    case atStart => exact ⟨0, 1, rfl, rfl, Nat.zero_le _, HRES.out, rfl⟩
    case round =>
      obtain ⟨j, s0, rfl, rfl, hj, hrs, rfl⟩ := hrel
      clear HRES
      by_cases hlt : j < N
      · have h1 : (j : Int) < N := by omega
        have h0 : (0 : Int) ≤ j := by omega
        have hjl : j < l.length := by rw [← HN.out]; exact hlt
        obtain ⟨g, off, rfl, hg, m0, m1, m2, m3⟩ := HR.out.one j hjl
        rw [List.drop_eq_getElem_cons hjl, List.foldl_cons] at hrs
        obtain ⟨e, he⟩ : ∃ e, e = l[j] := ⟨_, rfl⟩
        rw [← he] at m0 m1 m2 m3 hrs
        clear he
        cases p1 : (e.a == a) with
        | false =>
          have ha : ¬ e.a = a := by simpa using p1
          rw [toldStep, if_neg ha] at hrs
          have HF : Hid _ := hrs
          clear hrs ha
          go_wp2
          go_roundw
          case rel => exact ⟨j + 1, s0, rfl, by go_num, by omega, HF.out, by simp⟩
          case measure => simp [intOf]; omega
        | true =>
          have ha : e.a = a := by simpa using p1
          rw [toldStep, if_pos ha, reachS] at hrs
          clear ha
          by_cases h7 : e.k = 7
          · rw [if_pos h7] at hrs
            have p7 : (e.k == 7) = true := by simpa using h7
            have HF : Hid _ := hrs
            clear hrs h7
            go_wp2
            go_roundw
            case rel => exact ⟨j + 1, 2, rfl, by go_num, by omega, HF.out, by simp⟩
            case measure => simp [intOf]; omega
          · rw [if_neg h7] at hrs
            have p7 : (e.k == 7) = false := by simpa using h7
            by_cases h8 : e.k = 8
            · rw [if_pos h8] at hrs
              have p8 : (e.k == 8) = true := by simpa using h8
              have HF : Hid _ := hrs
              clear hrs h7 h8
              go_wp2
              go_roundw
              case rel => exact ⟨j + 1, 3, rfl, by go_num, by omega, HF.out, by simp⟩
              case measure => simp [intOf]; omega
            · rw [if_neg h8] at hrs
              have p8 : (e.k == 8) = false := by simpa using h8
              by_cases h9 : e.k = 9
              · rw [if_pos h9] at hrs
                have p9 : (e.k == 9) = true := by simpa using h9
                have HF : Hid _ := hrs
                clear hrs h7 h8 h9
                go_wp2
                go_roundw
                case rel => exact ⟨j + 1, 4, rfl, by go_num, by omega, HF.out, by simp⟩
                case measure => simp [intOf]; omega
              · rw [if_neg h9] at hrs
                have p9 : (e.k == 9) = false := by simpa using h9
                have HF : Hid _ := hrs
                clear hrs h7 h8 h9
                go_wp2
                go_roundw
                case rel => exact ⟨j + 1, s0, rfl, by go_num, by omega, HF.out, by simp⟩
                case measure => simp [intOf]; omega
      · obtain rfl : j = N := by omega
        rw [HN.out, List.drop_length] at hrs
        have HF : Hid _ := hrs
        clear hrs
        go_wp2
        go_ret
        exact ⟨by rw [HF.out]; rfl, rfl⟩

/-! ### Before, Cut, Same -/
def endS (l : List EvD) (n : Nat) (a : Int) : Bool := seenS l n a 8 || seenS l n a 9
theorem endS_snoc {l : List EvD} {n : Nat} (hn : n < l.length) (a : Int) : endS l (n + 1) a = (endS l n a || (decide (l[n].a = a) && (decide (l[n].k = 8) || decide (l[n].k = 9)))) := by
  unfold endS
  rw [seenS_snoc hn, seenS_snoc hn]
  simp only [beq_eq_decide]
  cases seenS l n a 8 <;> cases seenS l n a 9 <;> cases decide (l[n].a = a) <;> cases decide (l[n].k = 8) <;> cases decide (l[n].k = 9) <;> rfl

set_option maxRecDepth 100000 in
set_option maxHeartbeats 2000000 in
theorem rbefore_any {w : World} {ao : Option Addr} {cap : Nat} {l : List EvD} (hr : EvRow w (.slice ao l.length cap) l) (hl : l.length ≤ 1000) (a b : Int) :
    Calls Try.prog 52 #[.slice ao l.length cap, .int .i64 a, .int .i64 b] w fun x w' => x = .returned (.bool (befS a b false l)) ∧ w = w' := by
  have hse := fun n (hn : n ≤ l.length) k => seen_any hr hl n hn a k
  obtain ⟨N, hN⟩ : ∃ N, N = l.length := ⟨_, rfl⟩
  have HN : Hid (N = l.length) := hN
  have HR : Hid (EvRow w (.slice ao l.length cap) l) := hr
  rw [← hN] at hl hse ⊢
  have HSE : Hid _ := hse
  clear hN hr hse
  obtain ⟨res, hres⟩ : ∃ r, r = befS a b false l := ⟨_, rfl⟩
  rw [← hres]
  have HRES : Hid _ := hres
  clear hres
  go_enter Try.func52, Try.ntmps52
  go_wp2_with fail
  go_loopw [7] (fun i wr => ∃ j : Nat, i = .int .i64 j ∧ j ≤ N ∧ res = befS a b (endS l j a) (l.drop j) ∧ wr = w) (fun i _ => N - (intOf i).toNat)
  case atStart => exact ⟨0, rfl, Nat.zero_le _, HRES.out, rfl⟩
  case round =>
    obtain ⟨j, rfl, hj, hbf, rfl⟩ := hrel
    clear HRES
    by_cases hlt : j < N
    · have h1 : (j : Int) < N := by omega
      have h0 : (0 : Int) ≤ j := by omega
      have hjl : j < l.length := by rw [← HN.out]; exact hlt
      obtain ⟨g, off, rfl, hg, m0, m1, m2, m3⟩ := HR.out.one j hjl
      rw [List.drop_eq_getElem_cons hjl, befS, ← endS_snoc hjl] at hbf
      have s8 := HSE.out j (by omega) 8
      have s9 := HSE.out j (by omega) 9
      obtain ⟨e, he⟩ : ∃ e, e = l[j] := ⟨_, rfl⟩
      rw [← he] at m0 m1 m2 m3 hbf
      clear he
      by_cases hkb : e.k = 1 ∧ e.a = b
      · rw [if_pos hkb] at hbf
        have p1 : (e.k == 1) = true := by simpa using hkb.1
        have p2 : (e.a == b) = true := by simpa using hkb.2
        unfold endS at hbf
        have HB : Hid _ := hbf
        clear hkb hbf
        cases q8 : seenS l j a 8 with
        | true =>
          rw [q8] at s8
          have HB2 : Hid (res = true) := by show _ = _; rw [HB.out, q8]; rfl
          clear q8 s9 HB
          go_wp2_with fail
          refine s8.mono ?_
          rintro x w1 ⟨rfl, rfl⟩
          clear s8
          go_wp2
          go_ret
          exact ⟨by rw [HB2.out]; rfl, rfl⟩
        | false =>
          rw [q8] at s8
          have HB2 : Hid (res = seenS l j a 9) := by show _ = _; rw [HB.out, q8]; rfl
          clear q8 HB
          generalize seenS l j a 9 = q9 at *
          go_wp2_with fail
          refine s8.mono ?_
          rintro x w1 ⟨rfl, rfl⟩
          clear s8
          go_wp2_with fail
          refine s9.mono ?_
          rintro x w1 ⟨rfl, rfl⟩
          clear s9
          go_wp2
          go_ret
          exact ⟨by rw [HB2.out]; simp, rfl⟩
      · rw [if_neg hkb] at hbf
        have HB : Hid _ := hbf
        clear hbf s8 s9
        cases p1 : (e.k == 1) with
        | true =>
          have p2 : (e.a == b) = false := by simp; exact fun h => hkb ⟨by simpa using p1, h⟩
          clear hkb
          go_wp2
          go_roundw
          case rel => exact ⟨j + 1, by go_num, by omega, HB.out, by simp⟩
          case measure => simp [intOf]; omega
        | false =>
          clear hkb
          go_wp2
          go_roundw
          case rel => exact ⟨j + 1, by go_num, by omega, HB.out, by simp⟩
          case measure => simp [intOf]; omega
    · obtain rfl : j = N := by omega
      rw [HN.out, List.drop_length] at hbf
      have HB : Hid _ := hbf
      clear hbf
      go_wp2
      go_ret
      exact ⟨by rw [HB.out]; rfl, rfl⟩

set_option maxRecDepth 100000 in
set_option maxHeartbeats 2000000 in
theorem rcut_any {w : World} {ao : Option Addr} {cap : Nat} {l : List EvD} (hr : EvRow w (.slice ao l.length cap) l) (hl : l.length ≤ 1000) (a : Int) :
    Calls Try.prog 33 #[.slice ao l.length cap, .int .i64 a] w fun x w' => ∃ v, x = .returned v ∧ evOwn w' w.heap.size v (cutS a l) ∧ Touch w w' [] := by
  obtain ⟨N, hN⟩ : ∃ N, N = l.length := ⟨_, rfl⟩
  have HN : Hid (N = l.length) := hN
  have HR : Hid (EvRow w (.slice ao l.length cap) l) := hr
  obtain ⟨i0, hi, hz0, hz1, hz2⟩ := info_parts Try.info_ev
  rw [← hN] at hl ⊢
  clear hN hr
  go_enter Try.func33, Try.ntmps33
  go_wp2_with fail
  go_loopw [5, 6] (fun v i wr => ∃ k : Nat, i = .int .i64 k ∧ k ≤ N ∧ evOwn wr w.heap.size v (cutS a (l.take k)) ∧ Touch w wr []) (fun _ i _ => N - (intOf i).toNat)
  case atStart => exact ⟨0, rfl, Nat.zero_le _, World.ownsRow_nil _ _ _ _, Touch.refl _ _⟩
  case round =>
    obtain ⟨k, rfl, hk, hrow, hT⟩ := hrel
    have HT : Hid _ := hT
    have hts := hT.size
    by_cases hlt : k < N
    ·
      have h1 : (k : Int) < N := by omega
      have h0 : (0 : Int) ≤ k := by omega
      have hkl : k < l.length := by rw [← HN.out]; exact hlt
      obtain ⟨g, off, rfl, hg, m0, m1, m2, m3⟩ := HR.out.one k hkl
      have d0 := (hT.cell (p := ⟨g, off + k * 4, none⟩) hg (by simp)).trans m0
      have d1 := (hT.cell (p := ⟨g, off + k * 4 + 1, none⟩) hg (by simp)).trans m1
      have d2 := (hT.cell (p := ⟨g, off + k * 4 + 2, none⟩) hg (by simp)).trans m2
      have d3 := (hT.cell (p := ⟨g, off + k * 4 + 3, none⟩) hg (by simp)).trans m3
      have hsn := cutS_snoc (a := a) hkl
      have hle := Nat.le_trans (cutS_le a (l.take k)) (take_le' l k)
      obtain ⟨e, he⟩ : ∃ e, e = l[k] := ⟨_, rfl⟩
      rw [← he] at d0 d1 d2 d3 hsn
      have HSN : Hid _ := hsn
      clear m0 m1 m2 m3 he hT hsn
      by_cases ha : e.a = a
      · have ha' : (e.a == a) = true := by simpa using ha
        have HA : Hid _ := ha
        clear ha
        generalize hcs : cutS a (l.take k) = cs at *
        unfold evOwn at hrow
        have hnew : ∀ j u, e.cells[j]? = some u → (wr.alloc e.obj).cell? (Addr.add ⟨wr.heap.size, 0, none⟩ j) = some u := by
          have := World.news_of_block (cs := #[.int .u8 e.k, .int .i64 e.a, .int .i64 e.t, .int .u64 e.v]) (t := 51) (fr := (0, 0)) (heap_alloc_new wr e.obj)
          simpa [EvD.cells] using this
        go_wp2_with (at_builtin; refine wpList_append_own _ rfl _ _ 22 rfl w.heap.size 51 i0 _ 4 32 Try.underlying22 hi hz0 hz1 hz2 rfl (by decide) _ _ _ rfl (hrow.alloc _) ⟨wr.heap.size, 0, none⟩ 1 1 e.cells rfl rfl hnew (by simp [EvD.cells, Value.oneCell']) (by unfold maxLen; omega) (by omega) (by simp; omega) ?_)
        intro v' w2 hown' hgrow _
        have t2 : Touch w w2 [] := (HT.out.alloc _).grown hgrow (fun q hq => .inr (by
          rcases hrow.2 with ⟨e, _⟩ | ⟨g, cap, cur, e, hbg, _⟩
          · rw [e] at hq; simp [Value.ownBlock] at hq
          · rw [e] at hq; simp [Value.ownBlock] at hq; omega))
        have HR2 : Hid (evOwn w2 w.heap.size v' (cutS a (l.take (k + 1)))) := by
          show w2.ownsRow _ _ _ _ _ _
          rw [HSN.out, if_pos HA.out, List.length_append, List.flatMap_append]
          simpa using hown'
        clear hown' hgrow hrow hnew d0 d1 d2 d3
        go_wp2
        go_roundw
        case rel => exact ⟨k + 1, by go_num, by omega, HR2.out, t2⟩
        case measure => simp [intOf]; omega
      · have ha' : (e.a == a) = false := by simpa using ha
        have HR2 : Hid (evOwn wr w.heap.size u5 (cutS a (l.take (k + 1)))) := by
          rw [HSN.out, if_neg ha]
          exact hrow
        clear ha hrow
        go_wp2
        go_roundw
        case rel => exact ⟨k + 1, by go_num, by omega, HR2.out, HT.out⟩
        case measure => simp [intOf]; omega
    · obtain rfl : k = N := by omega
      have hall : l.take k = l := by rw [HN.out, List.take_length]
      rw [hall] at hrow
      have HR2 : Hid _ := hrow
      clear hrow hT hall
      go_wp2
      go_ret
      exact ⟨_, rfl, HR2.out, HT.out⟩
set_option maxRecDepth 100000 in
set_option maxHeartbeats 2000000 in
theorem sameEv (va vb : Value) (L : List EvD) (w : World) (hn : L.length ≤ 1000) (ha : EvRow w va L) (hb : EvRow w vb L) :
    Calls Try.prog 17 #[va, vb] w fun e w' => e = .returned (.bool true) ∧ Touch w w' [] := by
  have ra := ha
  have rb := hb
  obtain ⟨ao, ca, rfl, _⟩ := ha
  obtain ⟨bo, cb, rfl, _⟩ := hb
  obtain ⟨n, hlen⟩ : ∃ n, n = L.length := ⟨_, rfl⟩
  have HL : Hid (n = L.length) := hlen
  have RA : Hid (EvRow w (.slice ao L.length ca) L) := ra
  have RB : Hid (EvRow w (.slice bo L.length cb) L) := rb
  rw [← hlen] at hn ⊢
  clear hlen ra rb
  go_enter Try.func17, Try.ntmps17
  go_wp2_with fail
  go_loopw [5] (fun i wr => ∃ k : Nat, i = .int .i64 k ∧ k ≤ n ∧ Touch w wr []) (fun i _ => n - (intOf i).toNat)
  case atStart => exact ⟨0, rfl, Nat.zero_le _, Touch.refl _ _⟩
  case round =>
    obtain ⟨k, rfl, hk, t⟩ := hrel
    by_cases hlt : k < n
    · have h1 : (k : Int) < n := by omega
      have hkl : k < L.length := by rw [← HL.out]; exact hlt
      obtain ⟨ga, oa, rfl, hga, a0, a1, a2, a3⟩ := RA.out.one k hkl
      obtain ⟨gb, ob, rfl, hgb, b0, b1, b2, b3⟩ := RB.out.one k hkl
      obtain ⟨e, he⟩ : ∃ e, e = L[k] := ⟨_, rfl⟩
      rw [← he] at a0 a1 a2 a3 b0 b1 b2 b3
      obtain ⟨z0, z1, z2, z3⟩ := e
      simp only at a0 a1 a2 a3 b0 b1 b2 b3
      have x0 := (t.cell (p := ⟨ga, oa + k * 4, none⟩) hga (by simp)).trans a0
      have x1 := (t.cell (p := ⟨ga, oa + k * 4 + 1, none⟩) hga (by simp)).trans a1
      have x2 := (t.cell (p := ⟨ga, oa + k * 4 + 2, none⟩) hga (by simp)).trans a2
      have x3 := (t.cell (p := ⟨ga, oa + k * 4 + 3, none⟩) hga (by simp)).trans a3
      have y0 := (t.cell (p := ⟨gb, ob + k * 4, none⟩) hgb (by simp)).trans b0
      have y1 := (t.cell (p := ⟨gb, ob + k * 4 + 1, none⟩) hgb (by simp)).trans b1
      have y2 := (t.cell (p := ⟨gb, ob + k * 4 + 2, none⟩) hgb (by simp)).trans b2
      have y3 := (t.cell (p := ⟨gb, ob + k * 4 + 3, none⟩) hgb (by simp)).trans b3
      clear he a0 a1 a2 a3 b0 b1 b2 b3
      go_wp2_with fail
      go_quiet (fail)
      go_wp2
      go_roundw
      case rel => exact ⟨k + 1, by go_num, by omega, t.drewN _⟩
      case measure => simp [intOf]; omega
    · go_wp2
      go_ret
      exact ⟨rfl, t⟩
end Go.Proofs.Ytjacclbifeoclaa

/-
  package history: Cut, Before, Attempts, StateOf, Writes BY THEIR CONTRACTS.
-/
import Derived.Test.YtmiaibpdeofokaaDoorAllA
import Derived.Test.YtmiaibpdeofokaaDoorWritesAll
import Derived.Test.YtmiaibpdeofokaaDoorAppendSrc
namespace Go.Proofs.YtmiaibpdeofokaaDoor
set_option linter.unusedVariables false
set_option linter.unusedSimpArgs false
open Go.RowKit Go.Maps
attribute [local go_sem] Oper.semAt_some

/-! ### Plain data -/
def cutS (a : Int) (l : List EvD) : List EvD := l.filter fun e => decide (e.a = a)
def befS (a b : Int) : Bool → List EvD → Bool
  | _, [] => false
  | en, e :: l => if e.k = 1 ∧ e.a = b then en else befS a b (en || (decide (e.a = a) && (decide (e.k = 8) || decide (e.k = 9)))) l
theorem cutS_snoc {a : Int} {l : List EvD} {k : Nat} (hk : k < l.length) : cutS a (l.take (k + 1)) = if l[k].a = a then cutS a (l.take k) ++ [l[k]] else cutS a (l.take k) := by
  unfold cutS
  rw [List.take_succ_eq_append_getElem hk, List.filter_append]
  by_cases h : l[k].a = a
  · simp [h]
  · simp [h]
theorem cutS_le (a : Int) (l : List EvD) : (cutS a l).length ≤ l.length := List.length_filter_le _ _
theorem take_le' {α : Type} (l : List α) (k : Nat) : (l.take k).length ≤ k := by simp; omega

theorem Tryd.info_ev : (Tryd.prog.info? 43).map (fun i => (i.zero, i.size, i.bytes)) = some (some (.agg #[.int .u8 0, .int .i64 0, .int .i64 0, .int .u64 0]), 4, 32) := by kernel_rfl
theorem Tryd.info_int : (Tryd.prog.info? 3).map (fun i => (i.zero, i.size, i.bytes)) = some (some (.int .i64 0), 1, 8) := by kernel_rfl

/-- A row of events of one's own. -/
abbrev evOwn (w : World) (B : Nat) (v : Value) (l : List EvD) : Prop := w.ownsRow B 43 4 v l.length (l.flatMap EvD.cells)

set_option maxRecDepth 100000 in
set_option maxHeartbeats 2000000 in
theorem cut_any {w : World} {ao : Option Addr} {cap : Nat} {l : List EvD} (hr : EvRow w (.slice ao l.length cap) l) (hl : l.length ≤ 1000) (a : Int) :
    Calls Tryd.prog 16 #[.slice ao l.length cap, .int .i64 a] w fun x w' => ∃ v, x = .returned v ∧ evOwn w' w.heap.size v (cutS a l) ∧ Touch w w' [] := by
  obtain ⟨N, hN⟩ : ∃ N, N = l.length := ⟨_, rfl⟩
  have HN : Hid (N = l.length) := hN
  have HR : Hid (EvRow w (.slice ao l.length cap) l) := hr
  obtain ⟨i0, hi, hz0, hz1, hz2⟩ := info_parts Tryd.info_ev
  rw [← hN] at hl ⊢
  clear hN hr
  go_enter Tryd.func16, Tryd.ntmps16
  go_wp2_with fail
  go_loopw [5, 10] (fun v i wr => ∃ k : Nat, i = .int .i64 k ∧ k ≤ N ∧ evOwn wr w.heap.size v (cutS a (l.take k)) ∧ Touch w wr []) (fun _ i _ => N - (intOf i).toNat)
  case atStart => exact ⟨0, rfl, Nat.zero_le _, World.ownsRow_nil _ _ _ _, Touch.refl _ _⟩
  case round =>
    obtain ⟨k, rfl, hk, hrow, hT⟩ := hrel
    have HT : Hid _ := hT
    have hts := hT.size
    by_cases hlt : k < N
    · have h1 : (k : Int) < N := by omega
      have h0 : (0 : Int) ≤ k := by omega
      have hkl : k < l.length := by rw [← HN.out]; exact hlt
      obtain ⟨g, off, rfl, hg, m0, m1, m2, m3⟩ := HR.out.one k hkl
      have d0 := (hT.cell (p := ⟨g, off + k * 4, none⟩) hg (by simp)).trans m0
      have d1 := (hT.cell (p := ⟨g, off + k * 4 + 1, none⟩) hg (by simp)).trans m1
      have d2 := (hT.cell (p := ⟨g, off + k * 4 + 2, none⟩) hg (by simp)).trans m2
      have d3 := (hT.cell (p := ⟨g, off + k * 4 + 3, none⟩) hg (by simp)).trans m3
      have hsn := cutS_snoc (a := a) hkl
      have hle := Nat.le_trans (cutS_le a (l.take k)) (take_le' l k)
      obtain ⟨e, he⟩ : ∃ e, e = l[k] := ⟨_, rfl⟩
      rw [← he] at d0 d1 d2 d3 hsn
      have HSN : Hid _ := hsn
      have TB : Hid (Touch wr (wr.alloc e.obj) []) := (Touch.refl wr []).alloc _
      clear m0 m1 m2 m3 he hT hsn
      by_cases ha : e.a = a
      · have ha' : (e.a == a) = true := by simpa using ha
        have HA : Hid _ := ha
        clear ha
        generalize hcs : cutS a (l.take k) = cs at *
        unfold evOwn at hrow
        have hnew : ∀ j u, e.cells[j]? = some u → ((wr.alloc e.obj).alloc e.obj).cell? (Addr.add ⟨wr.heap.size + 1, 0, none⟩ j) = some u := by
          have := World.news_of_block (cs := #[.int .u8 e.k, .int .i64 e.a, .int .i64 e.t, .int .u64 e.v]) (t := 43) (fr := (0, 0)) (heap_alloc_new (wr.alloc e.obj) e.obj)
          simpa [EvD.cells] using this
        go_wp2_with (at_builtin; refine wpList_append_own _ rfl _ _ 22 rfl w.heap.size 43 i0 _ 4 32 Tryd.underlying22 hi hz0 hz1 hz2 rfl (by decide) _ _ _ rfl ((hrow.alloc _).alloc _) ⟨wr.heap.size + 1, 0, none⟩ 1 1 e.cells rfl rfl hnew (by simp [EvD.cells, Value.oneCell']) (by unfold maxLen; omega) (by omega) (by simp; omega) ?_)
        intro v' w2 hown' hgrow _
        have t2 : Touch w w2 [] := ((HT.out.alloc _).alloc _).grown hgrow (fun q hq => .inr (by
          rcases hrow.2 with ⟨e, _⟩ | ⟨g, cap, cur, e, hbg, _⟩
          · rw [e] at hq; simp [Value.ownBlock] at hq
          · rw [e] at hq; simp [Value.ownBlock] at hq; omega))
        have HR2 : Hid (evOwn w2 w.heap.size v' (cutS a (l.take (k + 1)))) := by
          show w2.ownsRow _ _ _ _ _ _
          rw [HSN.out, if_pos HA.out, List.length_append, List.flatMap_append]
          simpa using hown'
        clear hown' hgrow hrow hnew d0 d1 d2 d3
        go_wp2
        go_roundw
        case rel => exact ⟨k + 1, by go_num, by omega, HR2.out, t2⟩
        case measure => simp [intOf]; omega
      · have ha' : (e.a == a) = false := by simpa using ha
        have HR2 : Hid (evOwn (wr.alloc e.obj) w.heap.size u5 (cutS a (l.take (k + 1)))) := by
          rw [HSN.out, if_neg ha]
          exact hrow.alloc _
        have t2 : Hid (Touch w (wr.alloc e.obj) []) := HT.out.alloc _
        clear ha hrow
        go_wp2
        go_roundw
        case rel => exact ⟨k + 1, by go_num, by omega, HR2.out, t2.out⟩
        case measure => simp [intOf]; omega
    · obtain rfl : k = N := by omega
      have hall : l.take k = l := by rw [HN.out, List.take_length]
      rw [hall] at hrow
      have HR2 : Hid _ := hrow
      clear hrow hT hall
      go_wp2
      go_ret
      exact ⟨_, rfl, HR2.out, HT.out⟩

theorem befS_drop {a b : Int} {en : Bool} {l : List EvD} {k : Nat} (hk : k < l.length) : befS a b en (l.drop k) = if l[k].k = 1 ∧ l[k].a = b then en else befS a b (en || (decide (l[k].a = a) && (decide (l[k].k = 8) || decide (l[k].k = 9)))) (l.drop (k + 1)) := by
  rw [List.drop_eq_getElem_cons hk]; rfl

set_option maxRecDepth 100000 in
set_option maxHeartbeats 2000000 in
theorem before_any {w : World} {ao : Option Addr} {cap : Nat} {l : List EvD} (hr : EvRow w (.slice ao l.length cap) l) (hl : l.length ≤ 1000) (a b : Int) :
    Calls Tryd.prog 14 #[.slice ao l.length cap, .int .i64 a, .int .i64 b] w fun x w' => x = .returned (.bool (befS a b false l)) ∧ Touch w w' [] := by
  obtain ⟨N, hN⟩ : ∃ N, N = l.length := ⟨_, rfl⟩
  have HN : Hid (N = l.length) := hN
  have HR : Hid (EvRow w (.slice ao l.length cap) l) := hr
  rw [← hN] at hl ⊢
  clear hN hr
  obtain ⟨res, hres⟩ : ∃ r, r = befS a b false l := ⟨_, rfl⟩
  rw [← hres]
  have HRES : Hid _ := hres
  clear hres
  go_enter Tryd.func14, Tryd.ntmps14
  go_wp2_with fail
  go_loopw [7, 12] (fun en i wr => ∃ (k : Nat) (b0 : Bool), en = .bool b0 ∧ i = .int .i64 k ∧ k ≤ N ∧ res = befS a b b0 (l.drop k) ∧ Touch w wr []) (fun _ i _ => N - (intOf i).toNat)
  case atStart => exact ⟨0, false, rfl, rfl, Nat.zero_le _, HRES.out, Touch.refl _ _⟩
  case round =>
    obtain ⟨k, b0, rfl, rfl, hk, hbf, hT⟩ := hrel
    have HT : Hid _ := hT
    by_cases hlt : k < N
    ·
      have h1 : (k : Int) < N := by omega
      have h0 : (0 : Int) ≤ k := by omega
      have hkl : k < l.length := by rw [← HN.out]; exact hlt
      obtain ⟨g, off, rfl, hg, m0, m1, m2, m3⟩ := HR.out.one k hkl
      have d0 := (hT.cell (p := ⟨g, off + k * 4, none⟩) hg (by simp)).trans m0
      have d1 := (hT.cell (p := ⟨g, off + k * 4 + 1, none⟩) hg (by simp)).trans m1
      have d2 := (hT.cell (p := ⟨g, off + k * 4 + 2, none⟩) hg (by simp)).trans m2
      have d3 := (hT.cell (p := ⟨g, off + k * 4 + 3, none⟩) hg (by simp)).trans m3
      rw [befS_drop hkl] at hbf
      obtain ⟨e, he⟩ : ∃ e, e = l[k] := ⟨_, rfl⟩
      rw [← he] at d0 d1 d2 d3 hbf
      have TB : Hid (Touch w (wr.alloc e.obj) []) := HT.out.alloc _
      clear m0 m1 m2 m3 he hT
      by_cases hkb : e.k = 1 ∧ e.a = b
      · rw [if_pos hkb] at hbf
        have p1 : (e.k == 1) = true := by simpa using hkb.1
        have p2 : (e.a == b) = true := by simpa using hkb.2
        have HB : Hid _ := hbf
        clear hkb hbf HRES
        go_wp2
        go_ret
        exact ⟨by rw [HB.out]; rfl, TB.out⟩
      · rw [if_neg hkb] at hbf
        have hnat : ∀ b1, b1 = (b0 || (decide (e.a = a) && (decide (e.k = 8) || decide (e.k = 9)))) → res = befS a b b1 (l.drop (k + 1)) := by rintro b1 rfl; exact hbf
        have HB : Hid _ := hnat
        clear hbf hnat HRES
        cases p1 : (e.k == 1) with
        | true =>
          have hk1 : e.k = 1 := by simpa using p1
          have p2 : (e.a == b) = false := by simp; exact fun h => hkb ⟨hk1, h⟩
          have p4 : (e.k == 8) = false := by rw [hk1]; rfl
          have p5 : (e.k == 9) = false := by rw [hk1]; rfl
          have HB2 : Hid (res = befS a b b0 (l.drop (k + 1))) := HB.out b0 (by rw [hk1]; simp)
          clear hkb hk1 HB
          cases p3 : (e.a == a)
          all_goals
            go_wp2
            go_roundw
            case rel => exact ⟨k + 1, b0, rfl, by go_num, by omega, HB2.out, TB.out⟩
            case measure => simp [intOf]; omega
        | false =>
          clear hkb
          cases p3 : (e.a == a) with
          | false =>
            have HB2 : Hid (res = befS a b b0 (l.drop (k + 1))) := HB.out b0 (by simp [show ¬ e.a = a from (by simpa using p3)])
            clear HB
            go_wp2
            go_roundw
            case rel => exact ⟨k + 1, b0, rfl, by go_num, by omega, HB2.out, TB.out⟩
            case measure => simp [intOf]; omega
          | true =>
            have ea : e.a = a := by simpa using p3
            cases p4 : (e.k == 8) with
            | true =>
              have HB2 : Hid (res = befS a b true (l.drop (k + 1))) := HB.out true (by simp [show e.k = 8 from (by simpa using p4), ea])
              clear HB ea
              go_wp2
              go_roundw
              case rel => exact ⟨k + 1, true, rfl, by go_num, by omega, HB2.out, TB.out⟩
              case measure => simp [intOf]; omega
            | false =>
              have e8 : ¬ e.k = 8 := by simpa using p4
              cases p5 : (e.k == 9) with
              | true =>
                have HB2 : Hid (res = befS a b true (l.drop (k + 1))) := HB.out true (by simp [show e.k = 9 from (by simpa using p5), ea])
                clear HB ea e8
                go_wp2
                go_roundw
                case rel => exact ⟨k + 1, true, rfl, by go_num, by omega, HB2.out, TB.out⟩
                case measure => simp [intOf]; omega
              | false =>
                have HB2 : Hid (res = befS a b b0 (l.drop (k + 1))) := HB.out b0 (by simp [show ¬ e.k = 9 from (by simpa using p5), e8])
                clear HB ea e8
                go_wp2
                go_roundw
                case rel => exact ⟨k + 1, b0, rfl, by go_num, by omega, HB2.out, TB.out⟩
                case measure => simp [intOf]; omega
    · obtain rfl : k = N := by omega
      have hall : l.drop k = [] := by rw [HN.out, List.drop_length]
      rw [hall] at hbf
      have HB : Hid _ := hbf
      clear hT hall hbf HRES
      go_wp2
      go_ret
      exact ⟨by rw [HB.out]; rfl, HT.out⟩

end Go.Proofs.YtmiaibpdeofokaaDoor

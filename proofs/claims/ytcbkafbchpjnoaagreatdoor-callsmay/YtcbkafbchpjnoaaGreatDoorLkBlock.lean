/-
  package locks: block BY ITS CONTRACT.
-/
import Derived.Test.YtcbkafbchpjnoaaGreatDoorLkJoin
namespace Go.Proofs.YtcbkafbchpjnoaaGreatDoor
set_option linter.unusedVariables false
set_option linter.unusedSimpArgs false
open Go.RowKit
attribute [local go_sem] Oper.semAt_some

/-- An instruction from a place on. -/
def shI (a : Int) (i : InsD) : InsD := if goesP i.op then ⟨i.op, i.arg + a, i.val⟩ else i
def mixL (a : Int) (M : List InsD) (k : Nat) : List InsD := (M.take k).map (shI a) ++ M.drop k
theorem mix_len (a : Int) (M : List InsD) (k : Nat) (hk : k ≤ M.length) : (mixL a M k).length = M.length := by
  unfold mixL; rw [List.length_append, List.length_map, List.length_take, List.length_drop]; omega
theorem mix_zero (a : Int) (M : List InsD) : mixL a M 0 = M := by unfold mixL; simp
theorem mix_all (a : Int) (M : List InsD) : mixL a M M.length = M.map (shI a) := by unfold mixL; simp
theorem mix_get (a : Int) (M : List InsD) (k : Nat) (hk : k < M.length) : (mixL a M k)[k]'(by rw [mix_len a M k (by omega)]; exact hk) = M[k] := by
  unfold mixL
  rw [List.getElem_append_right (by rw [List.length_map, List.length_take]; omega)]
  simp [List.length_take, Nat.min_eq_left (Nat.le_of_lt hk)]
theorem mix_succ (a : Int) (M : List InsD) (k : Nat) (hk : k < M.length) : mixL a M (k + 1) = (mixL a M k).set k (shI a M[k]) := by
  unfold mixL
  rw [List.take_succ_eq_append_getElem hk, List.map_append, List.append_assoc]
  have hl : ((M.take k).map (shI a)).length = k := by rw [List.length_map, List.length_take]; omega
  rw [List.set_append_right _ _ (by omega), hl, Nat.sub_self]
  congr 1
  rw [List.drop_eq_getElem_cons hk, List.set_cons_zero]
  rfl
theorem mix_same (a : Int) (M : List InsD) (k : Nat) (hk : k < M.length) (hg : goesP M[k].op = false) : mixL a M (k + 1) = mixL a M k := by
  rw [mix_succ a M k hk]
  have hs : shI a M[k] = M[k] := by unfold shI; rw [hg]; simp
  rw [hs]
  have := mix_get a M k hk
  conv => lhs; rw [← this]
  exact List.set_getElem_self _

theorem lk_set {w : World} {B g cap n m : Nat} {e : TypeId} {xs : List Value} (h : w.ownsRow B e m (.slice (some ⟨g, 0, none⟩) n cap) n xs) (i : Nat) (u : Value) :
    (w.setCell ⟨g, i, none⟩ u).ownsRow B e m (.slice (some ⟨g, 0, none⟩) n cap) n (xs.set i u) := by
  refine ⟨by have := h.1; simpa using this, .inr ?_⟩
  rcases h.2 with ⟨e, _⟩ | ⟨g', cap', cur, e, hB, hg, h1, h2, h3, h4⟩
  · simp at e
  · simp only [Value.slice.injEq, Option.some.injEq, Addr.mk.injEq] at e
    obtain ⟨⟨rfl, _⟩, _, rfl⟩ := e
    refine ⟨g, cap, _, rfl, hB, heap_setCell_same _ _ _ _ _ _ hg, h1, h2, by simpa using h3, ?_⟩
    rw [← h4]
    simp only [Array.toList_setIfInBounds]
    rw [List.take_set]
theorem flat_set (L : List InsD) : ∀ (k : Nat) (hk : k < L.length) (x : Int), (L.flatMap InsD.cells).set (k * 3 + 1) (.int .i64 x) = (L.set k ⟨L[k].op, x, L[k].val⟩).flatMap InsD.cells := by
  induction L with
  | nil => intro k hk; simp at hk
  | cons i L ih =>
    intro k hk x
    cases k with
    | zero => simp [InsD.cells]
    | succ k =>
      have h3 : (k + 1) * 3 + 1 = (k * 3 + 1) + 1 + 1 + 1 := by omega
      have := ih k (by simpa using hk) x
      rw [h3]
      simp [InsD.cells] at this ⊢
      exact this

/-- What the blocks come to: the error, or the instructions. -/
def LkP (w : World) (er : Int) (L : List InsD) (e : Ending) (w' : World) : Prop :=
  (er = 0 ∧ ∃ ao cap, e = .returned (.tuple #[.slice ao L.length cap, .int .i64 0]) ∧ InsIn w' ao L.length cap L ∧ Touch w w' []) ∨ (er ≠ 0 ∧ e = .returned (.tuple #[.slice none 0 0, .int .i64 er]) ∧ Touch w w' [])

/-- A block around a body. -/
def bodyL (b : List InsD) : List InsD := insO 21 (1 + b.length) :: (b ++ [insO 22 0])
def blkL (a : Int) (b : List InsD) : List InsD := (bodyL b).map (shI a)
def blkE (a : Int) (b : List InsD) : Int := if a + ((bodyL b).length : Nat) > 64 then 4 else 0

theorem ins_one_in (w : World) (x : InsD) (hx : x.Wf) : InsIn (w.alloc (.cells #[.int .u8 x.op, .int .i64 x.arg, .int .u64 x.val] 78)) (some ⟨w.heap.size, 0, none⟩) 1 1 [x] :=
  ⟨rfl, ins_new w x, Nat.le_refl _, by omega, fun i hi => by rw [List.mem_singleton.1 hi]; exact hx⟩
theorem three_rows {w1 W2 W3 : World} {a1 : Option Addr} {c1 : Nat} {b : List InsD} (hI : InsIn w1 a1 b.length c1 b) (hne : b ≠ []) (x y : InsD) (hx : x.Wf) (hy : y.Wf) (t2 : Touch w1 W2 []) (t3 : Touch (W2.alloc (.cells #[.int .u8 x.op, .int .i64 x.arg, .int .u64 x.val] 78)) W3 []) (ty : TypeId) :
    RowsAt ((W3.alloc (.cells #[.int .u8 y.op, .int .i64 y.arg, .int .u64 y.val] 78)).alloc (.cells #[.slice (some ⟨W2.heap.size, 0, none⟩) 1 1, .slice a1 b.length c1, .slice (some ⟨W3.heap.size, 0, none⟩) 1 1] ty)) (W3.heap.size + 1) [[x], b, [y]] := by
  have tA : Touch W2 (W2.alloc (.cells #[.int .u8 x.op, .int .i64 x.arg, .int .u64 x.val] 78)) [] := (Touch.refl _ _).alloc _
  have tB : Touch W3 (W3.alloc (.cells #[.int .u8 y.op, .int .i64 y.arg, .int .u64 y.val] 78)) [] := (Touch.refl _ _).alloc _
  have tC : ∀ o, Touch (W3.alloc (.cells #[.int .u8 y.op, .int .i64 y.arg, .int .u64 y.val] 78)) ((W3.alloc (.cells #[.int .u8 y.op, .int .i64 y.arg, .int .u64 y.val] 78)).alloc o) [] := fun o => (Touch.refl _ _).alloc _
  have hh : (W3.alloc (.cells #[.int .u8 y.op, .int .i64 y.arg, .int .u64 y.val] 78)).heap.size = W3.heap.size + 1 := by simp
  have hn := heap_alloc_new (W3.alloc (.cells #[.int .u8 y.op, .int .i64 y.arg, .int .u64 y.val] 78)) (.cells #[.slice (some ⟨W2.heap.size, 0, none⟩) 1 1, .slice a1 b.length c1, .slice (some ⟨W3.heap.size, 0, none⟩) 1 1] ty)
  rw [hh] at hn
  refine ⟨fun k hk => ?_, ?_⟩
  · match k, hk with
    | 0, _ => exact ⟨_, 1, by unfold World.cell?; rw [hn]; rfl, ((ins_one_in W2 x hx).keep (t3.trans tB (by simp))).keep (tC _)⟩
    | 1, _ => exact ⟨a1, c1, by unfold World.cell?; rw [hn]; rfl, (hI.keep ((t2.trans tA (by simp)).trans (t3.trans tB (by simp)) (by simp))).keep (tC _)⟩
    | 2, _ => exact ⟨_, 1, by unfold World.cell?; rw [hn]; rfl, (ins_one_in W3 y hy).keep (tC _)⟩
  · intro l hl
    simp only [List.mem_cons, List.not_mem_nil, or_false] at hl
    rcases hl with rfl | rfl | rfl
    · simp
    · exact hne
    · simp

theorem shI_wf {a : Int} (ha0 : 0 ≤ a) (ha1 : a ≤ 64) {i : InsD} (hi : i.Wf) (hb : 0 ≤ i.arg ∧ i.arg ≤ 1000) : (shI a i).Wf := by
  unfold shI
  split
  · exact ⟨hi.op, ⟨by show -9223372036854775808 ≤ i.arg + a; omega, by show i.arg + a ≤ 9223372036854775807; omega⟩, hi.val⟩
  · exact hi
theorem insO_wf {o a : Int} (h0 : 0 ≤ o) (h1 : o ≤ 255) (h2 : 0 ≤ a) (h3 : a ≤ 1000) : (insO o a).Wf := ⟨⟨h0, h1⟩, ⟨by show -9223372036854775808 ≤ a; omega, by show a ≤ 9223372036854775807; omega⟩, by unfold Wf64 insO; simp⟩

set_option maxRecDepth 100000 in
set_option maxHeartbeats 1000000 in
theorem lblock_any {w : World} {a : Int} (ha0 : 0 ≤ a) (ha1 : a ≤ 64) {g cap : Nat} {L : List (List InsD)} (h : RowsAt w g L) (hf : L.flatten.length ≤ 900) (hL : L.length ≤ 1000) (hb : ∀ i ∈ L.flatten, 0 ≤ i.arg ∧ i.arg ≤ 1000) (hw : ∀ i ∈ L.flatten, i.Wf) (hne : L.flatten ≠ []) :
    Calls Tryz.prog 118 #[.int .i64 a, .slice (some ⟨g, 0, none⟩) L.length cap] w (LkP w (blkE a L.flatten) (blkL a L.flatten)) := by
  have HJ : HidC _ _ _ _ _ := ⟨joined_any (cap := cap) h (by omega) hL⟩
  generalize L.flatten = b at *
  generalize L.length = nL at *
  clear h hL
  have hbl : (bodyL b).length = b.length + 2 := by unfold bodyL; simp
  have hx : (insO 21 (1 + b.length)).Wf := insO_wf (by omega) (by omega) (by omega) (by omega)
  have hy : (insO 22 0).Wf := insO_wf (by omega) (by omega) (by omega) (by omega)
  have HWB : Hid (∀ i ∈ bodyL b, i.Wf ∧ 0 ≤ i.arg ∧ i.arg ≤ 1000) := by
    intro i hi
    unfold bodyL at hi
    rcases List.mem_cons.1 hi with rfl | hi
    · exact ⟨hx, by show (0 : Int) ≤ 1 + b.length; omega, by show (1 + b.length : Int) ≤ 1000; omega⟩
    · rcases List.mem_append.1 hi with hi | hi
      · exact ⟨hw i hi, hb i hi⟩
      · rw [List.mem_singleton.1 hi]; exact ⟨hy, by show (0 : Int) ≤ 0; omega, by show (0 : Int) ≤ 1000; omega⟩
  have HE : Hid (blkE a b = if a + ((b.length + 2 : Nat) : Int) > 64 then 4 else 0) := by show _ = _; unfold blkE; rw [hbl]
  have HBL : Hid (blkL a b = (bodyL b).map (shI a)) := rfl
  generalize blkL a b = RL at *
  generalize blkE a b = E at *
  go_enter Tryz.func118, Tryz.ntmps118
  go_wp2_with fail
  refine HJ.out.mono ?_
  rintro e w1 ⟨v1, rfl, o1, t1⟩
  obtain ⟨a1, c1, rfl, i1⟩ := insIn_of o1 hw
  clear HJ
  have HT1 : Hid _ := t1
  have HJ2 : Hid (∀ W2 W3, Touch w1 W2 [] → Touch (W2.alloc (.cells #[.int .u8 21, .int .i64 (1 + b.length), .int .u64 0] 78)) W3 [] → HidC Tryz.prog 144 #[.slice (some ⟨W3.heap.size + 1, 0, none⟩) 3 3] ((W3.alloc (.cells #[.int .u8 22, .int .i64 0, .int .u64 0] 78)).alloc (.cells #[.slice (some ⟨W2.heap.size, 0, none⟩) 1 1, .slice a1 b.length c1, .slice (some ⟨W3.heap.size, 0, none⟩) 1 1] 25)) (fun e w' => ∃ v, e = .returned v ∧ insOwn w' w.heap.size v (bodyL b) ∧ Touch w w' [])) := by
    intro W2 W3 t2 t3
    refine ⟨(joined_any (cap := 3) (three_rows i1 hne (insO 21 (1 + b.length)) (insO 22 0) hx hy t2 t3 25) (by simp; omega) (by simp)).mono ?_⟩
    rintro e w' ⟨v, rfl, o, t⟩
    have tA : Touch w ((W3.alloc (.cells #[.int .u8 22, .int .i64 0, .int .u64 0] 78)).alloc (.cells #[.slice (some ⟨W2.heap.size, 0, none⟩) 1 1, .slice a1 b.length c1, .slice (some ⟨W3.heap.size, 0, none⟩) 1 1] 25)) [] := (((t1.trans t2 (by simp)).alloc _).trans t3 (by simp) |>.alloc _).alloc _
    refine ⟨v, rfl, ?_, tA.trans t (by simp)⟩
    have e2 : [[insO 21 (1 + b.length)], b, [insO 22 0]].flatten = bodyL b := by unfold bodyL; simp
    rw [e2] at o
    refine ⟨o.1, ?_⟩
    rcases o.2 with hn | ⟨g', cap', cur, e, hb, r⟩
    · exact .inl hn
    · exact .inr ⟨g', cap', cur, e, Nat.le_trans tA.size hb, r⟩
  have HM : Hid (∀ k (hk : k < (bodyL b).length), (bodyL b)[k].Wf ∧ 0 ≤ (bodyL b)[k].arg ∧ (bodyL b)[k].arg ≤ 1000) := fun k hk => HWB.out _ (List.getElem_mem hk)
  generalize bodyL b = M at *
  have hm : b.length + 2 = M.length := hbl.symm
  clear i1 t1 o1 hx hy hb hw HWB hbl
  generalize b.length = n at *
  clear hne
  go_wp2_with fail
  refine (lto_any _ _ _).mono ?_
  rintro e w2 ⟨rfl, t2⟩
  go_wp2_with fail
  refine (lrow_any _ _).mono ?_
  rintro e w3 ⟨rfl, rfl⟩
  go_wp2_with fail
  refine (lop_any _ _).mono ?_
  rintro e w3 ⟨rfl, t3⟩
  go_wp2_with fail
  refine (lrow_any _ _).mono ?_
  rintro e w4 ⟨rfl, rfl⟩
  have HJ3 := HJ2.out _ _ t2 t3
  go_wp2_with fail
  refine HJ3.out.mono ?_
  rintro e w5 ⟨v5, rfl, o5, t5⟩
  obtain ⟨g5, c5, rfl, hg5, _⟩ := World.ownsRow.form o5 (by omega)
  have hL5 : M.length ≤ c5 := by
    rcases o5.2 with ⟨e, _⟩ | ⟨g', cap', cur, e, _, _, hnc, _⟩
    · cases e
    · simp only [Value.slice.injEq, true_and] at e; rw [e.2]; exact hnc
  clear HJ2 HJ3 t2 t3
  have HO5 : Hid _ := o5
  have HT5 : Hid _ := t5
  clear o5 t5
  by_cases h64 : a + ((n + 2 : Nat) : Int) > 64
  · have HE4 : Hid (E = 4) := by show _ = _; rw [HE.out, if_pos h64]
    obtain ⟨N, hN⟩ : ∃ N, N = M.length := ⟨_, rfl⟩
    have h64' : (64 : Int) < a + N := by omega
    have hw6 : IntKind.i64.wrap (a + N) = a + N := by rw [IntKind.wrap_i64]; omega
    rw [← hN]
    clear hm h64 hL5 HE hN
    go_wp2
    refine bodyPost_ret (v := .tuple #[.slice none 0 0, .int .i64 4]) (by simp [results, Tryz.results118, go_sem]) rfl ?_
    exact .inr ⟨by rw [HE4.out]; omega, by rw [HE4.out], HT5.out⟩
  · have HE0 : Hid (E = 0) := by show _ = _; rw [HE.out, if_neg h64]
    obtain ⟨N, hN⟩ : ∃ N, N = M.length := ⟨_, rfl⟩
    have h64' : ¬ (64 : Int) < a + N := by omega
    have HN : Hid _ := hN
    have hN64 : N ≤ 64 := by omega
    have hw6 : IntKind.i64.wrap (a + N) = a + N := by rw [IntKind.wrap_i64]; omega
    rw [← hN]
    clear hm h64 hL5 hN
    go_wp2_with fail
    go_loopw [30] (fun i wr => ∃ k : Nat, i = .int .i64 k ∧ k ≤ N ∧ insOwn wr w.heap.size (.slice (some ⟨g5, 0, none⟩) N c5) (mixL a M k) ∧ Touch w wr []) (fun i _ => N - (intOf i).toNat)
    case atStart => exact ⟨0, rfl, Nat.zero_le _, by rw [mix_zero, HN.out]; exact HO5.out, HT5.out⟩
    case round =>
      obtain ⟨k, rfl, hk, hrow, hT⟩ := hrel
      by_cases hlt : k < N
      · have h1 : (k : Int) < N := by omega
        have h0 : (0 : Int) ≤ k := by omega
        have hkl : k < M.length := by rw [← HN.out]; exact hlt
        have hml : (mixL a M k).length = N := by rw [mix_len a M k (by omega)]; exact HN.out.symm
        have hr : InsRowC wr (.slice (some ⟨g5, 0, none⟩) (mixL a M k).length c5) (mixL a M k) := by
          have h2 := srow_of (cells := InsD.cells) (n := 3) (fun _ => rfl) (show wr.ownsRow w.heap.size 78 3 (.slice (some ⟨g5, 0, none⟩) N c5) (mixL a M k).length ((mixL a M k).flatMap InsD.cells) from hrow)
          rw [hml]
          exact h2
        have hrow2 : wr.ownsRow w.heap.size 78 3 (.slice (some ⟨g5, 0, none⟩) N c5) (mixL a M k).length ((mixL a M k).flatMap InsD.cells) := hrow
        rw [hml] at hrow2
        obtain ⟨g6, off, e6, d0, d1, d2⟩ := ins_at hr (Touch.refl wr []) (by simp) k (by omega)
        simp only [Option.some.injEq, Addr.mk.injEq, and_true] at e6
        obtain ⟨rfl, rfl⟩ := e6
        rw [mix_get a M k hkl] at d0 d1 d2
        obtain ⟨hwf, hb0, hb1⟩ := HM.out k hkl
        have hfz : wr.frozen? ⟨g5, 0 + k * 3 + 1, none⟩ = false := by
          rcases hrow.2 with ⟨e, _⟩ | ⟨g', cap', cur, e, _, hg', _⟩
          · cases e
          · simp only [Value.slice.injEq, Option.some.injEq, Addr.mk.injEq] at e
            obtain ⟨⟨rfl, _⟩, _⟩ := e
            unfold World.frozen?; rw [hg']; simp
        have HS1 : Hid (goesP M[k].op = true → insOwn (wr.setCell ⟨g5, 0 + k * 3 + 1, none⟩ (.int .i64 (M[k].arg + a))) w.heap.size (.slice (some ⟨g5, 0, none⟩) N c5) (mixL a M (k + 1))) := by
          intro hg
          have h2 := lk_set hrow2 (k * 3 + 1) (.int .i64 (M[k].arg + a))
          have e1 : (⟨M[k].op, M[k].arg + a, M[k].val⟩ : InsD) = shI a M[k] := by unfold shI; rw [if_pos hg]
          rw [flat_set (mixL a M k) k (by omega) (M[k].arg + a), mix_get a M k hkl, e1, ← mix_succ a M k hkl] at h2
          show World.ownsRow _ _ _ _ _ _ _
          have e2 : (mixL a M (k + 1)).length = N := by rw [mix_len a M (k + 1) (by omega)]; exact HN.out.symm
          rw [e2, Nat.zero_add]
          exact h2
        have HS0 : Hid (goesP M[k].op = false → insOwn wr w.heap.size (.slice (some ⟨g5, 0, none⟩) N c5) (mixL a M (k + 1))) := fun hg => by rw [mix_same a M k hkl hg]; exact hrow
        have HT : Hid _ := hT
        have HTS : Hid (∀ u, Touch w (wr.setCell ⟨g5, 0 + k * 3 + 1, none⟩ u) []) := fun u => hT.setCell (.inr hg5) _
        generalize M[k] = i at *
        obtain ⟨io, ia, iv⟩ := i
        simp only at d0 d1 d2 HS0 HS1 hb0 hb1
        have hwr : IntKind.i64.wrap (ia + a) = ia + a := by rw [IntKind.wrap_i64]; omega
        clear hT hrow hrow2 hr hwf hml d2
        simp only [Nat.zero_add] at d0 d1 hfz HS1 HTS
        go_wp2_with fail
        refine (lgoes_any _ _).mono ?_
        rintro e w6 ⟨rfl, rfl⟩
        cases hgo : goesP io with
        | true =>
          have hs1 := HS1.out hgo
          have HS1' : Hid _ := hs1
          clear hs1 HS0 HS1 hgo
          go_wp2
          go_roundw
          case rel => exact ⟨k + 1, by go_num, by omega, HS1'.out, HTS.out _⟩
          case measure => simp [intOf]; omega
        | false =>
          have hs1 := HS0.out hgo
          have HS1' : Hid _ := hs1
          clear hs1 HS0 HS1 hgo
          go_wp2
          go_roundw
          case rel => exact ⟨k + 1, by go_num, by omega, HS1'.out, HT.out⟩
          case measure => simp [intOf]; omega
      · have h1 : ¬ (k : Int) < N := by omega
        have hkN : k = M.length := by rw [← HN.out]; omega
        rw [hkN, mix_all, ← HBL.out] at hrow
        have hlen : RL.length = N := by rw [HBL.out, List.length_map]; exact HN.out.symm
        have HWF : ∀ i ∈ RL, i.Wf := by
          intro i hi
          rw [HBL.out] at hi
          obtain ⟨j, hj, rfl⟩ := List.mem_map.1 hi
          obtain ⟨k', hk', rfl⟩ := List.getElem_of_mem hj
          obtain ⟨hwf, hb⟩ := HM.out k' hk'
          exact shI_wf ha0 ha1 hwf hb
        obtain ⟨ao, c6, e6, hin⟩ := insIn_of hrow HWF
        have HIN : Hid _ := hin
        have HT : Hid _ := hT
        have HE6 : Hid _ := e6
        clear hrow hT hin hlen HWF e6
        go_wp2
        refine bodyPost_ret (v := .tuple #[.slice (some ⟨g5, 0, none⟩) N c5, .int .i64 0]) (by simp [results, Tryz.results118, go_sem]) rfl ?_
        exact .inl ⟨HE0.out, ao, c6, by rw [HE6.out], HIN.out, HT.out⟩

end Go.Proofs.YtcbkafbchpjnoaaGreatDoor

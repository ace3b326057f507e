/-
  THE DOCUMENT's Encode BY ITS CONTRACT.
-/
import Derived.Test.YtoaajheneojfjaaDoorCdFew
import Derived.Test.YtoaajheneojfjaaDoorVfRRight
namespace Go.Proofs.YtoaajheneojfjaaDoor
set_option linter.unusedVariables false
set_option linter.unusedSimpArgs false
open Go.RowKit
attribute [local go_sem] Oper.semAt_some

/-- Bytes of one's own that grow, where all else stays. -/
structure BGrow (w : World) (v : Value) (l : List Int) (wr : World) : Prop where
  own : bytOwn wr w.heap.size v l
  t : Touch w wr []
theorem BGrow.push {w wr : World} {v : Value} {l : List Int} (h : BGrow w v l wr) (hl : l.length ≤ 50000) (x : Int) :
    ∃ ao' cap' w', (Builtin.append_ #[39, 39] 39 #[v, .slice (some ⟨wr.heap.size, 0, none⟩) 1 1]).run Tryd.prog (wr.alloc (.cells #[.int .u8 x] 5)) = .ok (.slice ao' (l.length + 1) cap') w' ∧ BGrow w (.slice ao' (l.length + 1) cap') (l ++ [x]) w' := by
  obtain ⟨a, c, w', h1, h2, h3, h4⟩ := byt_push h.own (by omega) h.t.size x 39
  exact ⟨a, c, w', h1, h2, h.t.trans h3 (fun q hq => .inr (byt_lt h.own q (by simpa using hq)).1)⟩
theorem BGrow.keep {w wr w2 : World} {v : Value} {l : List Int} (h : BGrow w v l wr) (t : Touch wr w2 []) : BGrow w v l w2 := ⟨ownsRow_touch h.own t (by simp), h.t.trans t (by simp)⟩

set_option maxRecDepth 100000 in
set_option maxHeartbeats 2000000 in
theorem rencode_in {w : World} {ao : Option Addr} {n cap : Nat} {l : List InsD} (h : InsIn w ao n cap l) (hn : n ≤ 1000) : Calls Tryd.prog 23 #[.slice ao n cap] w (EncP w (l.all rightI) (encL l).length (encL l)) := by
  have HI : Hid _ := h
  have HN : Hid (n = l.length) := h.len
  clear h
  go_enter Tryd.func23, Tryd.ntmps23
  go_wp2_with fail
  go_loopw [4, 5] (fun v i wr => ∃ k : Nat, i = .int .i64 k ∧ k ≤ n ∧ (l.take k).all rightI = true ∧ BGrow w v (encL (l.take k)) wr) (fun _ i _ => n - (intOf i).toNat)
  case atStart => exact ⟨0, rfl, Nat.zero_le _, by simp, World.ownsRow_nil _ _ _ _, Touch.refl _ _⟩
  case round =>
    obtain ⟨k, rfl, hk, hall, hG⟩ := hrel
    have HALL : Hid _ := hall
    have hT := hG.t
    by_cases hlt : k < n
    · have h1 : (k : Int) < n := by omega
      have h0 : (0 : Int) ≤ k := by omega
      have hkl : k < l.length := by rw [← HN.out]; exact hlt
      have hrow : InsRow w (.slice ao l.length cap) l := HI.out.row
      obtain ⟨g, off, rfl, d0, d1, d2⟩ := ins_at hrow hT (by simp) k hkl
      have HAT : Hid (∀ W, Touch w W [] → W.cell? ⟨g, off + k * 3, none⟩ = some (.int .u8 l[k].op) ∧ W.cell? ⟨g, off + k * 3 + 1, none⟩ = some (.int .i64 l[k].arg) ∧ W.cell? ⟨g, off + k * 3 + 2, none⟩ = some (.int .u64 l[k].val)) := fun W T => by
        obtain ⟨g', off', eg, f0, f1, f2⟩ := ins_at hrow T (by simp) k hkl
        simp only [Option.some.injEq, Addr.mk.injEq] at eg
        obtain ⟨rfl, rfl, _⟩ := eg
        exact ⟨f0, f1, f2⟩
      have HSN : Hid _ := encL_snoc hkl
      have HA2 : Hid ((l.take (k + 1)).all rightI = rightI l[k]) := by show _ = _; rw [List.take_succ_eq_append_getElem hkl, List.all_append, HALL.out]; simp
      have HAF : Hid (rightI l[k] = false → l.all rightI = false) := fun hf => by
        rw [List.all_eq_false]
        exact ⟨l[k], List.getElem_mem hkl, by rw [hf]; simp⟩
      have hle := Nat.le_trans (encL_len (l.take k)) (show 10 * (l.take k).length ≤ 10000 by rw [List.length_take]; omega)
      have hw := HI.out.wf _ (List.getElem_mem hkl)
      generalize hB : encL (l.take k) = B at *
      generalize l[k] = i at *
      have hrt : Hid (∀ W, HidC _ _ _ W _) := fun W => ⟨rrightI_any i hw W⟩
      have hu : Hid (∀ W, HidC _ _ _ W _) := fun W => ⟨ruses_any i.op W⟩
      have hwv := hw.val
      have hopw := hw.op
      have hex := arg_val (o := i.op)
      have HEN : Hid (encI i = i.op :: ((if argP i.op then [i.arg % 256] else []) ++ (if valP i.op then valB i.val.toNat 8 else []))) := rfl
      generalize encI i = eI at *
      generalize rightI i = ri at *
      obtain ⟨io, ia, iv⟩ := i
      simp only [InsD.v] at hrt
      simp only at d0 d1 d2 hwv hopw hex HEN hu HAT
      obtain ⟨nv, rfl⟩ := Int.eq_ofNat_of_zero_le hwv.1
      have hn64 : nv < 18446744073709551616 := by have := hwv.2; omega
      simp only [Int.toNat_natCast] at HEN
      generalize argP io = ap at *
      generalize valP io = vp at *
      have HG : Hid _ := hG
      clear hB hw hwv hall hG
      go_wp2_with fail
      refine (hrt.out _).out.mono ?_
      rintro e w2 ⟨rfl, t2⟩
      clear hrt d0 d1 d2
      have G2 := HG.out.keep t2
      cases ri with
      | false =>
        have HF : Hid _ := HAF.out rfl
        have HT2 : Hid _ := G2.t
        clear t2 hT G2
        go_wp2
        refine bodyPost_ret (v := .tuple #[.slice none 0 0, .int .i64 3]) (by simp [results, Tryd.results23, go_sem]) rfl ?_
        exact .inr ⟨HF.out, rfl, HT2.out⟩
      | true =>
        obtain ⟨d0, d1, d2⟩ := HAT.out _ G2.t
        obtain ⟨a3, c3, w3, hr3, G3⟩ := G2.push (by omega) io
        obtain ⟨f0, f1, f2⟩ := HAT.out _ G3.t
        obtain ⟨av, cv, rfl⟩ := owns_slice G2.own
        have HG3 : Hid _ := G3
        have HA3 : Hid ((l.take (k + 1)).all rightI = true) := by show _ = _; rw [HA2.out]
        generalize hZ : B.length = Z at *
        have HZ : Hid _ := hZ
        clear t2 hT G2 G3 hZ HAF HA2 HG HI
        go_wp2_with fail
        refine (hu.out _).out.mono ?_
        rintro e w4 ⟨rfl, rfl⟩
        clear hu
        cases ap with
        | true =>
          obtain rfl : vp = false := hex rfl
          obtain ⟨a4, c4, w4, hr4, G4⟩ := HG3.out.push (by rw [List.length_append, HZ.out]; simp; omega) (ia % 256)
          have hw8 := byte_of ia
          have eL : (B ++ [io]).length = Z + 1 := by rw [List.length_append, HZ.out]; rfl
          rw [eL] at hr4 G4
          have HE2 : Hid (encL (l.take (k + 1)) = ((B ++ [io]) ++ [ia % 256]) ++ valB nv 0) := by show _ = _; rw [HSN.out, HEN.out]; simp [valB]
          have HG4 : Hid _ := G4
          have HCL : Hid (((B ++ [io]) ++ [ia % 256]).length = Z + 1 + 1) := by show _ = _; rw [List.length_append, eL]; rfl
          generalize (B ++ [io]) ++ [ia % 256] = C at *
          clear hex HEN HG3 G4 eL
          go_wp2_with (at_builtin; first | (refine Lib.wpList_append_run _ rfl (.tmp 32) (.tmp 38) _ _ rfl _ _ rfl rfl _ _ hr3 ?_) | (refine Lib.wpList_append_run _ rfl (.tmp 41) (.tmp 48) _ _ rfl _ _ rfl rfl _ _ hr4 ?_))
          clear hr3 hr4 d0 d1 d2 f0 f1 f2
          go_loopw [4, 8] (fun v vk wr => ∃ m : Nat, vk = .int .i64 (7 - (m : Int)) ∧ m = 0 ∧ BGrow w v (C ++ valB nv m) wr) (fun _ vk _ => (intOf vk + 1).toNat)
          case atStart => exact ⟨0, rfl, rfl, by have := HG4.out; simpa [valB] using this⟩
          case round =>
            obtain ⟨m, rfl, rfl, hG⟩ := hrel
            have HG5 : Hid _ := hG
            clear hG
            go_wp2
            go_roundw
            case rel => exact ⟨k + 1, by go_num, by omega, HA3.out, by rw [HE2.out]; exact HG5.out⟩
            case measure => simp [intOf]; omega
        | false =>
          have HG4 : Hid _ := HG3.out
          have HE2 : Hid (encL (l.take (k + 1)) = (B ++ [io]) ++ (if vp = true then valB nv 8 else [])) := by show _ = _; rw [HSN.out, HEN.out]; simp
          have HCL : Hid ((B ++ [io]).length = Z + 1) := by show _ = _; rw [List.length_append, HZ.out]; rfl
          generalize B ++ [io] = C at *
          clear hex HEN HG3
          go_wp2_with (at_builtin; refine Lib.wpList_append_run _ rfl (.tmp 32) (.tmp 38) _ _ rfl _ _ rfl rfl _ _ hr3 ?_)
          clear hr3 d0 d1 d2 f0 f1 f2
          go_loopw [4, 8] (fun v vk wr => ∃ m : Nat, vk = .int .i64 (7 - (m : Int)) ∧ m ≤ 8 ∧ (vp = false → m = 0) ∧ BGrow w v (C ++ valB nv m) wr) (fun _ vk _ => (intOf vk + 1).toNat)
          case atStart => exact ⟨0, rfl, by omega, fun _ => rfl, by have := HG4.out; simpa [valB] using this⟩
          case round =>
            obtain ⟨m, rfl, hm, hv0, hG⟩ := hrel
            have HG5 : Hid _ := hG
            cases vp with
            | false =>
              obtain rfl := hv0 rfl
              clear hG hv0
              go_wp2
              go_roundw
              case rel => exact ⟨k + 1, by go_num, by omega, HA3.out, by rw [HE2.out]; exact HG5.out⟩
              case measure => simp [intOf]; omega
            | true =>
              by_cases hm8 : m < 8
              · have hT5 := hG.t
                obtain ⟨f0, f1, f2⟩ := HAT.out _ hT5
                have hge : (0 : Int) ≤ 7 - (m : Int) := by omega
                have hge2 : decide ((0 : Int) ≤ 7 - (m : Int)) = true := decide_eq_true hge
                obtain ⟨q, hq⟩ : ∃ q : Nat, (q : Int) = 7 - (m : Int) := ⟨7 - m, by omega⟩
                have HQ7 : Hid (q = 7 - m) := by show _ = _; omega
                have HQ : Hid _ := hq
                have hq8 : (q : Int) ≤ 7 := by omega
                rw [← hq] at hge hge2 ⊢
                clear hG hv0 hT5 hq
                go_wp2_with fail
                go_loopw [9, 10] (fun vw vj W => ∃ (j : Nat) (a : Int), vw = .int .u64 a ∧ vj = .int .i64 j ∧ j ≤ q ∧ Hid (a = ((nv / 256 ^ j : Nat) : Int)) ∧ W = wr) (fun _ vj _ => q - (intOf vj).toNat)
                case atStart => exact ⟨0, nv, rfl, rfl, by omega, (by simp : (nv : Int) = ((nv / 256 ^ 0 : Nat) : Int)), rfl⟩
                case round =>
                  obtain ⟨j, a, rfl, rfl, hj, ha, rfl⟩ := hrel
                  have ha1 := ha.out
                  obtain ⟨y, hy⟩ : ∃ y, y = nv / 256 ^ j := ⟨_, rfl⟩
                  have hle1 : y ≤ nv := by rw [hy]; exact Nat.div_le_self _ _
                  rw [← hy] at ha1
                  have a0 : 0 ≤ a := by omega
                  have a1 : a < 18446744073709551616 := by omega
                  clear ha1 hle1 hy
                  by_cases hjq : j < q
                  · have hj1 : (j : Int) < q := by omega
                    have HN2 : Hid (a / 256 = ((nv / 256 ^ (j + 1) : Nat) : Int)) := by
                      show _ = _
                      rw [Nat.pow_succ, ← Nat.div_div_eq_div_mul, ha.out]
                      omega
                    clear ha
                    go_wp2
                    go_roundw
                    case rel => exact ⟨j + 1, _, rfl, by go_num, by omega, HN2.out, by simp⟩
                    case measure => simp [intOf]; omega
                  · have hj1 : ¬ (j : Int) < q := by omega
                    have hjn : j = q := by omega
                    have HY : Hid (a % 256 = ((nv / 2 ^ (8 * (7 - m)) % 256 : Nat) : Int)) := by
                      show _ = _
                      have e1 : 2 ^ (8 * (7 - m)) = 256 ^ q := by rw [show (256 : Nat) = 2 ^ 8 from rfl, ← Nat.pow_mul, HQ7.out]
                      rw [e1, ha.out, hjn]
                      omega
                    have hbl : (C ++ valB nv m).length = Z + 1 + m := by rw [List.length_append, HCL.out, valB_len]
                    obtain ⟨a6, c6, w6, hr6, G6⟩ := HG5.out.push (by omega) (a % 256)
                    rw [HY.out] at G6
                    have HG6 : Hid (BGrow w (.slice a6 ((C ++ valB nv m).length + 1) c6) (C ++ valB nv (m + 1)) w6) := ⟨by rw [valB_snoc, ← List.append_assoc]; exact G6.own, G6.t⟩
                    obtain ⟨av5, cv5, rfl⟩ := owns_slice HG5.out.own
                    have hw8 : IntKind.u8.wrap (a % 256) = a % 256 := by rw [byte_of]; omega
                    have hqm : IntKind.i64.wrap ((q : Int) - 1) = (q : Int) - 1 := by rw [IntKind.wrap_i64]; omega
                    have hbz : (C ++ valB nv m).length ≤ 60000 := by omega
                    clear ha G6 hbl
                    generalize (C ++ valB nv m).length = Y at *
                    go_wp2_with (at_builtin; refine Lib.wpList_append_run _ rfl _ _ _ _ rfl _ _ rfl rfl _ _ hr6 ?_)
                    go_wp2
                    go_roundw
                    case rel => exact ⟨m + 1, by rw [HQ.out]; congr 1; omega, by omega, fun h => by simp at h, HG6.out⟩
                    case measure => simp [intOf] <;> omega
              · obtain rfl : m = 8 := by omega
                clear hG hv0
                go_wp2
                go_roundw
                case rel => exact ⟨k + 1, by go_num, by omega, HA3.out, by rw [HE2.out]; exact HG5.out⟩
                case measure => simp [intOf]; omega
    · obtain rfl : k = n := by omega
      have hal : l.take k = l := by rw [HN.out, List.take_length]
      rw [hal] at hall hG
      have HA : Hid _ := hall
      have HG : Hid _ := hG
      obtain ⟨av, cv, rfl⟩ := owns_slice hG.own
      generalize hZ : (encL l).length = Z
      have HZ : Hid _ := hZ
      clear hZ hG hall hT hal
      go_wp2
      refine bodyPost_ret (v := .tuple #[.slice av Z cv, .int .i64 0]) (by simp [results, Tryd.results23, go_sem]) rfl ?_
      obtain ⟨a5, c5, e5, h5⟩ := byt_at HG.out.own
      rw [HZ.out] at e5
      simp only [Value.slice.injEq, true_and] at e5
      obtain ⟨rfl, rfl⟩ := e5
      rw [← HZ.out]
      exact .inl ⟨HA.out, av, cv, rfl, h5, HG.out.t⟩

end Go.Proofs.YtoaajheneojfjaaDoor

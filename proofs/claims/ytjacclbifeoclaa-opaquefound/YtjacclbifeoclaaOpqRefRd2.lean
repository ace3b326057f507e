/-
  package rowlockref08: Reads, Own BY THEIR CONTRACTS, the walks.
-/
import Derived.Test.YtjacclbifeoclaaOpqRefRd
namespace Go.Proofs.Ytjacclbifeoclaa
set_option linter.unusedVariables false
set_option linter.unusedSimpArgs false
open Go.RowKit Go.Maps Go.Shelf
attribute [local go_sem] Oper.semAt_some

theorem rd_len (l : List EvD) (a : Int) : (rdP l a).length ≤ l.length := Nat.le_trans (readsS_le _ _) (cutS_le a l)

set_option maxRecDepth 100000 in
set_option maxHeartbeats 4000000 in
theorem rreads_any {w : World} {ao : Option Addr} {cap : Nat} {l : List EvD} (hr : EvRow w (.slice ao l.length cap) l) (hl : l.length ≤ 1000) (hwf : ∀ e ∈ l, e.Wf) (a : Int) :
    Calls Try.prog 73 #[.slice ao l.length cap, .int .i64 a] w (PairsPost w (rdP l a)) := by
  have HEV : Hid (EvRow w (.slice ao l.length cap) l) := hr
  have HOW : Hid (∀ W, Touch w W [] → ∀ k, k ≤ l.length → Calls Try.prog 90 #[.slice ao l.length cap, .int .i64 k, .int .i64 a] W fun x w' => ∃ b vl, x = .returned (ptr b) ∧ RLog W.heap.size w' b vl (noteAll [f0] (cutS a (l.take k))).reverse ∧ Touch W w' []) := fun W t k hk => rown_any (SRow.keep hr t (by simp)) hl hwf k hk a
  have HSN : Hid (∀ k (hk : k < l.length), rdP (l.take (k + 1)) a = if l[k].a = a ∧ l[k].k = 2 ∧ getF (noteAll [f0] (cutS a (l.take k))) l[k].t = none then rdP (l.take k) a ++ [(l[k].t, l[k].v)] else rdP (l.take k) a) := fun k hk => rd_snoc hk
  have HLE : Hid (∀ k, (rdP (l.take k) a).length ≤ 1000) := fun k => Nat.le_trans (rd_len _ _) (by simp; omega)
  obtain ⟨i0, hi, hz0, hz1, hz2⟩ := info_partsO Try.info_pair
  have HI0 : Hid _ := And.intro hi (And.intro hz0 (And.intro hz1 hz2))
  obtain ⟨N, hN⟩ : ∃ N, N = l.length := ⟨_, rfl⟩
  have HN : Hid (N = l.length) := hN
  rw [← hN] at hl HOW ⊢
  clear hr hwf hN hi hz0 hz1 hz2
  go_enter Try.func73, Try.ntmps73
  go_wp2_with fail
  go_loopw [5, 6] (fun s i wr => ∃ k : Nat, i = .int .i64 k ∧ k ≤ N ∧ pairRow wr w.heap.size s (rdP (l.take k) a) ∧ Touch w wr []) (fun _ i _ => N - (intOf i).toNat)
  case atStart => exact ⟨0, rfl, Nat.zero_le _, World.ownsRow_nil _ _ _ _, Touch.refl _ _⟩
  case round =>
    obtain ⟨k, rfl, hk, hown, t⟩ := hrel
    have HT : Hid (Touch w wr []) := t
    by_cases hlt : k < N
    · have q1 : (k : Int) < N := by omega
      have q0 : (0 : Int) ≤ k := by omega
      have hkl : k < l.length := by rw [← HN.out]; exact hlt
      obtain ⟨g, off, hgo, hg, d0, d1, d2, d3⟩ := EvRow.one (SRow.keep HEV.out t (by simp)) k hkl
      subst hgo
      have hsn := HSN.out k hkl
      have hle := HLE.out k
      have HOWN : Hid (pairRow wr w.heap.size u5 (rdP (l.take k) a)) := hown
      generalize hF : noteAll [f0] (cutS a (l.take k)) = Fs at *
      have ho := HOW.out
      have HF : Hid _ := hF
      generalize l[k] = e at *
      obtain ⟨ek, ea, et, ev⟩ := e
      simp only at d0 d1 d2 d3 hsn
      have HSN1 : Hid _ := hsn
      have HLE1 : Hid _ := hle
      clear hown t hsn hle hF ho
      by_cases hea : ea = a
      · by_cases hek : ek = 2
        · subst hea hek
          have how := fun W (t : Touch w W []) => HOW.out W t k (by omega)
          simp only [HF.out] at how
          have hd : Touch wr wr.drew [] := (Touch.refl wr []).drew
          have HSC : Hid (∀ W, Touch wr W [] → W.cell? ⟨g, off + k * 4 + 2, none⟩ = some (.int .i64 et)) := fun W tt => (tt.cell (p := ⟨g, off + k * 4 + 2, none⟩) hg (by simp)).trans d2
          have HSD : Hid (∀ W, Touch wr W [] → W.cell? ⟨g, off + k * 4 + 3, none⟩ = some (.int .u64 ev)) := fun W tt => (tt.cell (p := ⟨g, off + k * 4 + 3, none⟩) hg (by simp)).trans d3
          have HWO : Hid (∀ W, Touch w W [] → Calls Try.prog 90 #[.slice (some ⟨g, off, none⟩) N cap, .int .i64 k, .int .i64 ea] W fun x w' => ∃ b vl, x = .returned (ptr b) ∧ RLog W.heap.size w' b vl Fs.reverse ∧ Touch W w' []) := how
          clear how d3
          go_wp2_with fail
          go_region_held3 (fun W => W.cell? ⟨g, off + k * 4 + 2, none⟩ = some (.int .i64 et)) ((first | exact HSC.out _ hd | exact HSC.out _ t3 | exact HSC.out _ t4)) ((first | (go_at_call 90; refine (HWO.out _ (HT.out.trans hd (by simp))).mono ?_; rintro e w3 ⟨b, vl, rfl, hlog, t3'⟩; have t3 : Touch wr w3 [] := hd.trans t3' (by simp)) | (go_at_call 93; refine (rget_any hlog et).mono ?_; rintro e w4 ⟨rfl, t4'⟩; have t4 : Touch wr w4 [] := t3.trans t4' (by simp))))
          all_goals (
            have HT4 : Hid (Touch w w4 []) := HT.out.trans t4 (by simp)
            have HO4 : Hid (pairRow w4 w.heap.size u5 (rdP (l.take k) ea)) := ownsRow_touch HOWN.out t4 (by simp)
            have c2 := HSC.out w4 t4
            have c3 := HSD.out w4 t4
            have hg4 : g < w4.heap.size := Nat.lt_of_lt_of_le hg t4.size
            clear hlog t3 t4 hd HSC HSD d0 d1 d2 HOWN
            cases hq : getF Fs et with
            | some u =>
              have HK1 : Hid (rdP (l.take (k + 1)) ea = rdP (l.take k) ea) := by
                show _ = _
                rw [HSN1.out, if_neg (by rw [hq]; simp)]
              simp only [Option.getD_some, Option.isSome_some]
              clear hq c2 c3
              go_wp2
              go_roundw
              case rel => exact ⟨k + 1, by go_num, by omega, by rw [HK1.out]; exact HO4.out, HT4.out⟩
              case measure => simp [intOf]; omega
            | none =>
              have HK1 : Hid (rdP (l.take (k + 1)) ea = rdP (l.take k) ea ++ [(et, ev)]) := by
                show _ = _
                rw [HSN1.out, if_pos (by simp [hq])]
              simp only [Option.getD_none, Option.isSome_none]
              clear hq
              obtain ⟨hi, hz0, hz1, hz2⟩ := HI0.out
              have TB : Touch w4.drew (w4.drew.alloc (.cells #[.int .i64 et, .int .u64 ev] 113)) [] := (Touch.refl _ []).alloc _
              have hnew : PRow (w4.drew.alloc (.cells #[.int .i64 et, .int .u64 ev] 113)) (.slice (some ⟨w4.heap.size, 0, none⟩) [(et, ev)].length 1) [(et, ev)] := srow_newP w4.drew et ev
              have o5 := ownsRow_touch (ownsRow_touch HO4.out ((Touch.refl w4 []).drew) (by simp)) TB (by simp)
              have hs4 := HT4.out.size
              obtain ⟨v', w7, hrun, o7, g7, b7⟩ := run_app (P := Try.prog) (cells := pairC) 110 110 113 i0 _ 2 16 Try.underlying110 hi hz0 hz1 hz2 rfl (by decide) (fun _ => rfl) (by intro x u hu; simp [pairC] at hu; rcases hu with rfl | rfl <;> rfl) o5 hnew (by have := HLE1.out; simp; omega) (by decide) (by simp; omega)
              have HT7 : Hid (Touch w w7 []) := ((HT4.out.drew).trans TB (by simp)).grown g7 (fun x hx => .inr (HO4.out.lt x hx).1)
              have HO7 : Hid (pairRow w7 w.heap.size v' (rdP (l.take (k + 1)) ea)) := by
                show World.ownsRow _ _ _ _ _ _ _
                rw [HK1.out]
                simpa using o7
              obtain ⟨a7, c7, hf7⟩ := owns_slice HO7.out
              obtain ⟨a9, c9, hf9⟩ := owns_slice HO4.out
              subst hf7
              rw [hf9] at hrun ⊢
              simp only [List.length_singleton] at hrun
              have HRUN : Hid _ := hrun
              clear hi hz0 hz1 hz2 TB hnew o5 o7 g7 b7 hf9 HO4 HK1 HSN1 hrun
              generalize (rdP (l.take k) ea).length = M0 at *
              generalize hM1 : (rdP (l.take (k + 1)) ea).length = M1 at *
              clear hM1
              go_wp2_with fail
              apply once
              case body =>
                intro hall
                go_region_law (refine step_append_run (by rfl) _ _ _ 110 (by rfl) (by rfl) _ _ _ w7 (by rfl) (by rfl) HRUN.out ?_)
                all_goals exact hall
              go_wp2
              go_roundw
              case rel => exact ⟨k + 1, by go_num, by omega, HO7.out, HT7.out⟩
              case measure => simp [intOf]; omega)
        · subst hea
          have hek' : (ek == 2) = false := by simpa using hek
          have HK1 : Hid (rdP (l.take (k + 1)) ea = rdP (l.take k) ea) := by show _ = _; rw [HSN1.out, if_neg (fun h => hek h.2.1)]
          clear HSN1
          go_wp2
          go_roundw
          case rel => exact ⟨k + 1, by go_num, by omega, by rw [HK1.out]; exact HOWN.out, HT.out⟩
          case measure => simp [intOf]; omega
      · have hea' : (ea == a) = false := by simpa using hea
        have HK1 : Hid (rdP (l.take (k + 1)) a = rdP (l.take k) a) := by show _ = _; rw [HSN1.out, if_neg (fun h => hea h.1)]
        clear HSN1
        go_wp2
        go_roundw
        case rel => exact ⟨k + 1, by go_num, by omega, by rw [HK1.out]; exact HOWN.out, HT.out⟩
        case measure => simp [intOf]; omega
    · obtain rfl : k = N := by omega
      have HO3 : Hid (pairRow wr w.heap.size u5 (rdP l a)) := by
        rw [HN.out, List.take_length] at hown
        exact hown
      obtain ⟨a9, c9, hf9⟩ := owns_slice HO3.out
      clear hown t
      subst hf9
      generalize (rdP l a).length = M at *
      go_wp2
      go_ret
      exact ⟨_, rfl, HO3.out, HT.out⟩

end Go.Proofs.Ytjacclbifeoclaa

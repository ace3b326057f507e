/-
  package rowlockref08: Own; package rowlockref09: in, asked BY THEIR CONTRACTS.
-/
import Derived.Test.YtjacclbifeoclaaOpqRefRd
import Derived.Test.YtjacclbifeoclaaOpqLegal
import Derived.Test.YtjacclbifeoclaaHistRefRt
import Derived.Test.YtjacclbifeoclaaHistRef
namespace Go.Proofs.Ytjacclbifeoclaa
set_option linter.unusedVariables false
set_option linter.unusedSimpArgs false
open Go.RowKit Go.Maps Go.Shelf
attribute [local go_sem] Oper.semAt_some

theorem ownL_is {l : List EvD} {a : Int} {k : Nat} (hk : k < l.length) : ownL l a k = if l[k].a = a ∧ l[k].k = 2 then (match getF (noteAll [f0] (cutS a (l.take k))) l[k].t with | some v => v == l[k].v | none => true) else true := by
  unfold ownL
  rw [List.getElem?_eq_getElem hk]
  rfl
theorem ownB_no {l : List EvD} {a : Int} {k : Nat} (hk : k < l.length) (h : ownL l a k = false) : ownB l a = false := by
  unfold ownB
  rw [List.all_eq_false]
  exact ⟨k, by simpa using hk, by rw [h]; simp⟩

set_option maxRecDepth 100000 in
set_option maxHeartbeats 4000000 in
theorem rownb_any {w : World} {ao : Option Addr} {cap : Nat} {l : List EvD} (hr : EvRow w (.slice ao l.length cap) l) (hl : l.length ≤ 1000) (hwf : ∀ e ∈ l, e.Wf) (a : Int) :
    Calls Try.prog 75 #[.slice ao l.length cap, .int .i64 a] w fun e w' => e = .returned (.bool (ownB l a)) ∧ Touch w w' [] := by
  have HEV : Hid (EvRow w (.slice ao l.length cap) l) := hr
  have HOW : Hid (∀ W, Touch w W [] → ∀ k, k ≤ l.length → Calls Try.prog 90 #[.slice ao l.length cap, .int .i64 k, .int .i64 a] W fun x w' => ∃ b vl, x = .returned (ptr b) ∧ RLog W.heap.size w' b vl (noteAll [f0] (cutS a (l.take k))).reverse ∧ Touch W w' []) := fun W t k hk => rown_any (SRow.keep hr t (by simp)) hl hwf k hk a
  have HSN : Hid (∀ k (hk : k < l.length), ownL l a k = if l[k].a = a ∧ l[k].k = 2 then (match getF (noteAll [f0] (cutS a (l.take k))) l[k].t with | some v => v == l[k].v | none => true) else true) := fun k hk => ownL_is hk
  have HNO : Hid (∀ k (hk : k < l.length), ownL l a k = false → ownB l a = false) := fun k hk h => ownB_no hk h
  have HYES : Hid ((∀ k, k < l.length → ownL l a k = true) → ownB l a = true) := fun h => by
    show ownB l a = true
    unfold ownB
    rw [List.all_eq_true]
    exact fun k hk => h k (by simpa using hk)
  generalize ownB l a = res at *
  obtain ⟨N, hN⟩ : ∃ N, N = l.length := ⟨_, rfl⟩
  have HN : Hid (N = l.length) := hN
  rw [← hN] at hl HOW ⊢
  clear hr hwf hN
  go_enter Try.func75, Try.ntmps75
  go_wp2_with fail
  go_loopw [5] (fun i wr => ∃ k : Nat, i = .int .i64 k ∧ k ≤ N ∧ (∀ j, j < k → ownL l a j = true) ∧ Touch w wr []) (fun i _ => N - (intOf i).toNat)
  case atStart => exact ⟨0, rfl, Nat.zero_le _, by intro j hj; omega, Touch.refl _ _⟩
  case round =>
    obtain ⟨k, rfl, hk, hall, t⟩ := hrel
    have HT : Hid (Touch w wr []) := t
    have HALL : Hid (∀ j, j < k → ownL l a j = true) := hall
    clear hall
    by_cases hlt : k < N
    · have q1 : (k : Int) < N := by omega
      have q0 : (0 : Int) ≤ k := by omega
      have hkl : k < l.length := by rw [← HN.out]; exact hlt
      obtain ⟨g, off, hgo, hg, d0, d1, d2, d3⟩ := EvRow.one (SRow.keep HEV.out t (by simp)) k hkl
      subst hgo
      have hsn := HSN.out k hkl
      have HNO1 : Hid (ownL l a k = false → res = false) := HNO.out k hkl
      have HNX : Hid (ownL l a k = true → ∀ j, j < k + 1 → ownL l a j = true) := fun h j hj => by
        by_cases hjk : j = k
        · rw [hjk]; exact h
        · exact HALL.out j (by omega)
      generalize hF : noteAll [f0] (cutS a (l.take k)) = Fs at *
      have HF : Hid _ := hF
      generalize l[k] = e at *
      obtain ⟨ek, ea, et, ev⟩ := e
      simp only at d0 d1 d2 d3 hsn
      have HSN1 : Hid _ := hsn
      clear t hsn hF HALL
      by_cases hea : ea = a
      · by_cases hek : ek = 2
        · subst hea hek
          have how := fun W (t : Touch w W []) => HOW.out W t k (by omega)
          simp only [HF.out] at how
          have hd : Touch wr wr.drew [] := (Touch.refl wr []).drew
          have HSC : Hid (∀ W, Touch wr W [] → W.cell? ⟨g, off + k * 4 + 2, none⟩ = some (.int .i64 et)) := fun W tt => (tt.cell (p := ⟨g, off + k * 4 + 2, none⟩) hg (by simp)).trans d2
          have HSD : Hid (∀ W, Touch wr W [] → W.cell? ⟨g, off + k * 4 + 3, none⟩ = some (.int .u64 ev)) := fun W tt => (tt.cell (p := ⟨g, off + k * 4 + 3, none⟩) hg (by simp)).trans d3
          have HWO : Hid (∀ W, Touch w W [] → Calls Try.prog 90 #[.slice (some ⟨g, off, none⟩) N cap, .int .i64 k, .int .i64 ea] W fun x w' => ∃ b vl, x = .returned (ptr b) ∧ RLog W.heap.size w' b vl Fs.reverse ∧ Touch W w' []) := how
          clear how d3
          go_wp2_with fail
          go_region_held3 (fun W => W.cell? ⟨g, off + k * 4 + 2, none⟩ = some (.int .i64 et)) ((first | exact HSC.out _ hd | exact HSC.out _ t3 | exact HSC.out _ t4)) ((first | (go_at_call 90; refine (HWO.out _ (HT.out.trans hd (by simp))).mono ?_; rintro e w3 ⟨b, vl, rfl, hlog, t3'⟩; have t3 : Touch wr w3 [] := hd.trans t3' (by simp)) | (go_at_call 93; refine (rget_any hlog et).mono ?_; rintro e w4 ⟨rfl, t4'⟩; have t4 : Touch wr w4 [] := t3.trans t4' (by simp))))
          all_goals (
            have HT4 : Hid (Touch w w4 []) := HT.out.trans t4 (by simp)
            have c3 := HSD.out w4 t4
            clear hlog t3 t4 hd HSC HSD d0 d1 d2
            cases hq : getF Fs et with
            | some u =>
              by_cases huv : u = ev
              · subst huv
                have HK1 : Hid (∀ j, j < k + 1 → ownL l ea j = true) := HNX.out (by rw [HSN1.out, if_pos (by simp), hq]; simp)
                simp only [Option.getD_some, Option.isSome_some]
                clear hq
                go_wp2
                go_roundw
                case rel => exact ⟨k + 1, by go_num, by omega, HK1.out, HT4.out⟩
                case measure => simp [intOf]; omega
              · have huv' : (u == ev) = false := by simpa using huv
                have HK1 : Hid (res = false) := HNO1.out (by rw [HSN1.out, if_pos (by simp), hq]; exact huv')
                simp only [Option.getD_some, Option.isSome_some]
                clear hq
                go_wp2
                go_ret
                exact ⟨by rw [HK1.out]; rfl, HT4.out⟩
            | none =>
              have HK1 : Hid (∀ j, j < k + 1 → ownL l ea j = true) := HNX.out (by rw [HSN1.out, if_pos (by simp), hq])
              simp only [Option.getD_none, Option.isSome_none]
              clear hq
              go_wp2
              go_roundw
              case rel => exact ⟨k + 1, by go_num, by omega, HK1.out, HT4.out⟩
              case measure => simp [intOf]; omega)
        · subst hea
          have hek' : (ek == 2) = false := by simpa using hek
          have HK1 : Hid (∀ j, j < k + 1 → ownL l ea j = true) := HNX.out (by rw [HSN1.out, if_neg (fun h => hek h.2)])
          clear HSN1
          go_wp2
          go_roundw
          case rel => exact ⟨k + 1, by go_num, by omega, HK1.out, HT.out⟩
          case measure => simp [intOf]; omega
      · have hea' : (ea == a) = false := by simpa using hea
        have HK1 : Hid (∀ j, j < k + 1 → ownL l a j = true) := HNX.out (by rw [HSN1.out, if_neg (fun h => hea h.1)])
        clear HSN1
        go_wp2
        go_roundw
        case rel => exact ⟨k + 1, by go_num, by omega, HK1.out, HT.out⟩
        case measure => simp [intOf]; omega
    · obtain rfl : k = N := by omega
      have HR : Hid (res = true) := HYES.out (fun j hj => HALL.out j (by rw [HN.out]; exact hj))
      clear t
      go_wp2
      go_ret
      exact ⟨by rw [HR.out]; rfl, HT.out⟩

set_option maxRecDepth 100000 in
set_option maxHeartbeats 2000000 in
theorem rin_of {w : World} {v : Value} {l : List Int} (hr : IRow w v l) (hl : l.length ≤ 9223372036854775807) (x : Int) :
    Calls Try.prog 50 #[v, .int .i64 x] w fun e w' => e = .returned (.bool (decide (x ∈ l))) ∧ w = w' := by
  obtain ⟨ao, cap, rfl⟩ := hr.form
  obtain ⟨N, hN⟩ : ∃ N, N = l.length := ⟨_, rfl⟩
  have HN : Hid (N = l.length) := hN
  have HC : Hid (IRow w (.slice ao l.length cap) l) := hr
  have HYES : Hid (∀ k (hk : k < l.length), l[k] = x → decide (x ∈ l) = true) := fun k hk e => by simp; exact e ▸ List.getElem_mem hk
  have HNO : Hid ((∀ y ∈ l, y ≠ x) → decide (x ∈ l) = false) := fun h => by simp; exact fun hm => h x hm rfl
  generalize decide (x ∈ l) = res at *
  rw [← hN] at hl ⊢
  clear hN hr
  go_enter Try.func50, Try.ntmps50
  go_wp2_with fail
  go_loopw [5] (fun i wr => ∃ k : Nat, i = .int .i64 k ∧ k ≤ N ∧ (∀ y ∈ l.take k, y ≠ x) ∧ wr = w) (fun i _ => N - (intOf i).toNat)
  case atStart => exact ⟨0, rfl, Nat.zero_le _, by simp, rfl⟩
  case round =>
    obtain ⟨k, rfl, hk, hrs, rfl⟩ := hrel
    have HRS : Hid (∀ y ∈ l.take k, y ≠ x) := hrs
    clear hrs
    by_cases hlt : k < N
    · have h1 : (k : Int) < N := by omega
      have h0 : (0 : Int) ≤ k := by omega
      have hkl : k < l.length := by rw [← HN.out]; exact hlt
      obtain ⟨g, off, rfl, hg, d0⟩ := IRow.one HC.out k hkl
      have HY1 : Hid (l[k] = x → res = true) := HYES.out k hkl
      have HX1 : Hid (l[k] ≠ x → ∀ y ∈ l.take (k + 1), y ≠ x) := fun h y hy => by
        rw [take_snoc hkl] at hy
        rcases List.mem_append.1 hy with hy | hy
        · exact HRS.out y hy
        · simp at hy; rw [hy]; exact h
      generalize l[k] = y at *
      by_cases hxy : y = x
      · subst hxy
        have HR : Hid (res = true) := HY1.out rfl
        go_wp2
        go_ret
        exact ⟨by rw [HR.out]; rfl, rfl⟩
      · have hb : (y == x) = false := by simpa using hxy
        have HX2 : Hid (∀ y ∈ l.take (k + 1), y ≠ x) := HX1.out hxy
        clear hxy
        go_wp2
        go_roundw
        case rel => exact ⟨k + 1, by go_num, by omega, HX2.out, by simp⟩
        case measure => simp [intOf]; omega
    · obtain rfl : k = N := by omega
      have HR : Hid (res = false) := HNO.out (fun y hy => HRS.out y (by rw [HN.out, List.take_length]; exact hy))
      go_wp2
      go_ret
      exact ⟨by rw [HR.out]; rfl, rfl⟩

end Go.Proofs.Ytjacclbifeoclaa

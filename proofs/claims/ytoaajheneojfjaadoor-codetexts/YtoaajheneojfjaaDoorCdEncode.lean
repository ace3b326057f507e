/-
  package code: Encode BY ITS CONTRACT.
-/
import Derived.Test.YtoaajheneojfjaaDoorCdApp
namespace Go.Proofs.YtoaajheneojfjaaDoor
set_option linter.unusedVariables false
set_option linter.unusedSimpArgs false
open Go.RowKit
attribute [local go_sem] Oper.semAt_some

abbrev InsRow := SRow 3 InsD.cells
theorem ins_at {w W : World} {ao : Option Addr} {cap : Nat} {l : List InsD} (h : InsRow w (.slice ao l.length cap) l) {S : List Nat} (t : Touch w W S) (hS : ∀ x ∈ S, w.heap.size ≤ x) (k : Nat) (hk : k < l.length) :
    ∃ g off, ao = some ⟨g, off, none⟩ ∧ W.cell? ⟨g, off + k * 3, none⟩ = some (.int .u8 l[k].op) ∧ W.cell? ⟨g, off + k * 3 + 1, none⟩ = some (.int .i64 l[k].arg) ∧ W.cell? ⟨g, off + k * 3 + 2, none⟩ = some (.int .u64 l[k].val) := by
  obtain ⟨g, off, e, hg, hc⟩ := h.at k hk
  have hgs : g ∉ S := fun hs => by have := hS g hs; omega
  exact ⟨g, off, e, (t.cell (p := ⟨g, off + k * 3, none⟩) hg hgs).trans (hc 0 (by omega)), (t.cell (p := ⟨g, off + k * 3 + 1, none⟩) hg hgs).trans (hc 1 (by omega)), (t.cell (p := ⟨g, off + k * 3 + 2, none⟩) hg hgs).trans (hc 2 (by omega))⟩

def encL (l : List InsD) : List Int := l.flatMap encI
theorem encL_snoc {l : List InsD} {k : Nat} (hk : k < l.length) : encL (l.take (k + 1)) = encL (l.take k) ++ encI l[k] := by
  unfold encL; rw [List.take_succ_eq_append_getElem hk, List.flatMap_append]; simp
theorem encI_len (i : InsD) : (encI i).length ≤ 10 := by
  unfold encI
  rw [List.length_cons, List.length_append]
  have h1 : (if argP i.op then [i.arg % 256] else ([] : List Int)).length ≤ 1 := by split <;> simp
  have h2 : (if valP i.op then valB i.val.toNat 8 else ([] : List Int)).length ≤ 8 := by split <;> simp [valB_len]
  omega
theorem encL_len (l : List InsD) : (encL l).length ≤ 10 * l.length := by
  unfold encL
  induction l with
  | nil => simp
  | cons x l ih => rw [List.flatMap_cons, List.length_append, List.length_cons]; have := encI_len x; omega

/-- What Encode comes to. -/
def EncPost (w : World) (l : List InsD) (e : Ending) (w' : World) : Prop :=
  (l.all rightI = true ∧ ∃ v, e = .returned (.tuple #[v, .int .i64 0]) ∧ bytOwn w' w.heap.size v (encL l) ∧ Touch w w' []) ∨ (l.all rightI = false ∧ e = .returned (.tuple #[.slice none 0 0, .int .i64 3]) ∧ Touch w w' [])

set_option maxRecDepth 100000 in
set_option maxHeartbeats 2000000 in
theorem encode_any {w : World} {ao : Option Addr} {cap : Nat} {l : List InsD} (hr : InsRow w (.slice ao l.length cap) l) (hl : l.length ≤ 1000) (hwf : ∀ i ∈ l, i.Wf) :
    Calls Tryd.prog 21 #[.slice ao l.length cap] w (EncPost w l) := by
  have HR : Hid _ := hr
  have HW : Hid _ := hwf
  obtain ⟨N, hN⟩ : ∃ N, N = l.length := ⟨_, rfl⟩
  have HN : Hid _ := hN
  rw [← hN] at hl ⊢
  clear hr hwf hN
  go_enter Tryd.func21, Tryd.ntmps21
  go_wp2_with fail
  go_loopw [4, 9] (fun v i wr => ∃ k : Nat, i = .int .i64 k ∧ k ≤ N ∧ (l.take k).all rightI = true ∧ bytOwn wr w.heap.size v (encL (l.take k)) ∧ Touch w wr []) (fun _ i _ => N - (intOf i).toNat)
  case atStart => exact ⟨0, rfl, Nat.zero_le _, by simp, World.ownsRow_nil _ _ _ _, Touch.refl _ _⟩
  case round =>
    obtain ⟨k, rfl, hk, hall, hrow, hT⟩ := hrel
    have HT : Hid _ := hT
    have HALL : Hid _ := hall
    have hsz := hT.size
    by_cases hlt : k < N
    · have h1 : (k : Int) < N := by omega
      have h0 : (0 : Int) ≤ k := by omega
      have hkl : k < l.length := by rw [← HN.out]; exact hlt
      obtain ⟨g, off, rfl, d0, d1, d2⟩ := ins_at HR.out hT (by simp) k hkl
      have HSN : Hid _ := encL_snoc hkl
      have HA2 : Hid ((l.take (k + 1)).all rightI = rightI l[k]) := by show _ = _; rw [List.take_succ_eq_append_getElem hkl, List.all_append, HALL.out]; simp
      have HAF : Hid (rightI l[k] = false → l.all rightI = false) := fun hf => by
        rw [List.all_eq_false]
        exact ⟨l[k], List.getElem_mem hkl, by rw [hf]; simp⟩
      have hle := Nat.le_trans (encL_len (l.take k)) (show 10 * (l.take k).length ≤ 10000 by rw [List.length_take]; omega)
      have hw := HW.out _ (List.getElem_mem hkl)
      generalize l[k] = i at *
      obtain ⟨io, ia, iv⟩ := i
      simp only at d0 d1 d2
      -- the box
      have T1 : Touch wr (wr.alloc (.cells #[.int .u8 io, .int .i64 ia, .int .u64 iv] 26)) [] := (Touch.refl wr []).alloc _
      have hrt : HidC _ _ _ _ _ := ⟨cright_any ⟨io, ia, iv⟩ (wr.alloc (.cells #[.int .u8 io, .int .i64 ia, .int .u64 iv] 26))⟩
      have hb0 : (wr.alloc (.cells #[.int .u8 io, .int .i64 ia, .int .u64 iv] 26)).heap[wr.heap.size]? = some (.cells #[.int .u8 io, .int .i64 ia, .int .u64 iv] 26 (0, 0)) := heap_alloc_new wr _
      have HB : Hid (∀ W, Touch (wr.alloc (.cells #[.int .u8 io, .int .i64 ia, .int .u64 iv] 26)) W [] → W.cell? ⟨wr.heap.size, 0, none⟩ = some (.int .u8 io) ∧ W.cell? ⟨wr.heap.size, 1, none⟩ = some (.int .i64 ia) ∧ W.cell? ⟨wr.heap.size, 2, none⟩ = some (.int .u64 iv)) := fun W T => by
        have hb := (T.block wr.heap.size (by simp) (by simp)).trans hb0
        exact ⟨by unfold World.cell?; rw [hb]; rfl, by unfold World.cell?; rw [hb]; rfl, by unfold World.cell?; rw [hb]; rfl⟩
      obtain ⟨b0, b1, b2⟩ := HB.out _ (Touch.refl _ [])
      have HT1 : Hid _ := T1
      have HROW : Hid _ := hrow
      simp only [InsD.v] at hrt
      clear hb0 T1 hall hT
      go_wp2_with fail
      refine hrt.out.mono ?_
      rintro e w2 ⟨rfl, t2⟩
      clear hrt
      obtain ⟨b3, b4, b5⟩ := HB.out _ t2
      have T2 : Touch wr w2 [] := HT1.out.trans t2 (by simp)
      have HT2 : Hid _ := HT.out.trans T2 (by simp)
      cases hri : rightI ⟨io, ia, iv⟩ with
      | false =>
        have HF : Hid _ := HAF.out hri
        clear hri t2 T2 hrow
        go_wp2
        refine bodyPost_ret (v := .tuple #[.slice none 0 0, .int .i64 3]) (by simp [results, Tryd.results21, go_sem]) rfl ?_
        exact .inr ⟨HF.out, rfl, HT2.out⟩
      | true =>
        have hrow2 : bytOwn w2 w.heap.size _ _ := ownsRow_touch HROW.out T2 (by simp)
        have hap : HidC _ _ _ _ _ := ⟨appended_any hrow2 HT2.out.size (by omega) ⟨io, ia, iv⟩ hw⟩
        rw [← HSN.out] at hap
        have HA3 : Hid ((l.take (k + 1)).all rightI = true) := by show _ = _; rw [HA2.out, hri]
        have HLT : Hid (∀ q, u4.ownBlock = some q → w.heap.size ≤ q) := fun q hq => (byt_lt hrow2 q hq).1
        simp only [InsD.v] at hap
        obtain ⟨av, cv, rfl⟩ := owns_slice hrow2
        clear hri t2 T2 hrow hrow2
        go_wp2_with fail
        refine hap.out.mono ?_
        rintro e w3 ⟨v3, rfl, hP3⟩
        have HO3 : Hid _ := hP3.1
        have HT3 : Hid _ := HT2.out.trans hP3.2.1 (fun q hq => .inr (HLT.out q (by simpa using hq)))
        obtain ⟨a3, c3, rfl⟩ := owns_slice hP3.1
        clear hap hP3
        go_wp2
        go_roundw
        case rel => exact ⟨k + 1, by go_num, by omega, HA3.out, HO3.out, HT3.out⟩
        case measure => simp [intOf]; omega
    · obtain rfl : k = N := by omega
      have hal : l.take k = l := by rw [HN.out, List.take_length]
      rw [hal] at hrow hall
      have HO : Hid _ := hrow
      have HA : Hid _ := hall
      obtain ⟨av, cv, rfl⟩ := owns_slice hrow
      clear hrow hall hT hal
      generalize hZ : (encL l).length = Z
      have HZ : Hid _ := hZ
      clear hZ
      go_wp2
      refine bodyPost_ret (v := .tuple #[.slice av Z cv, .int .i64 0]) (by simp [results, Tryd.results21, go_sem]) rfl ?_
      refine .inl ⟨HA.out, _, rfl, ?_, HT.out⟩
      rw [← HZ.out]
      exact HO.out

end Go.Proofs.YtoaajheneojfjaaDoor

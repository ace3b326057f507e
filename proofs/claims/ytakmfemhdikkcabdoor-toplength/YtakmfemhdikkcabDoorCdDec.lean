/-
  package code: Decode, OF THE BYTES OF RIGHT INSTRUCTIONS, WALKED.
-/
import Derived.Test.YtakmfemhdikkcabDoorCdDecode
namespace Go.Proofs.YtakmfemhdikkcabDoor
set_option linter.unusedVariables false
set_option linter.unusedSimpArgs false
open Go.RowKit
attribute [local go_sem] Oper.semAt_some

def sliceLen : Value → Nat
  | .slice _ n _ => n
  | _ => 0
theorem encL_drop {l : List InsD} {k : Nat} (hk : k < l.length) : encL (l.drop k) = encI l[k] ++ encL (l.drop (k + 1)) := by
  unfold encL; rw [List.drop_eq_getElem_cons hk, List.flatMap_cons]

set_option maxRecDepth 100000 in
set_option maxHeartbeats 2000000 in
theorem decode_any {w : World} {ao : Option Addr} {cap : Nat} {l : List InsD} (hr : BRow w (.slice ao (encL l).length cap) (encL l)) (hc : (encL l).length ≤ cap) (hcm : cap ≤ 9223372036854775807) (hl : l.length ≤ 1000) (hwf : ∀ i ∈ l, i.Wf) (hri : ∀ i ∈ l, rightI i = true) :
    Calls Tryd.prog 7 #[.slice ao (encL l).length cap] w fun e w' => ∃ v, e = .returned (.tuple #[v, .int .i64 0]) ∧ insOwn w' w.heap.size v l ∧ Touch w w' [] := by
  have HW : Hid _ := hwf
  have HRI : Hid _ := hri
  obtain ⟨N, hN⟩ : ∃ N, N = l.length := ⟨_, rfl⟩
  have HN : Hid _ := hN
  have HR0 : Hid (BRow w (.slice ao (encL l).length cap) (encL (l.drop 0))) := hr
  rw [← hN] at hl
  clear hwf hri hN hr
  generalize hZ : (encL l).length = Z at *
  go_enter Tryd.func7, Tryd.ntmps7
  go_wp2_with fail
  go_loopw [0, 4] (fun vb v wr => ∃ k : Nat, k ≤ N ∧ ∃ ab cb, vb = .slice ab (encL (l.drop k)).length cb ∧ BRow w (.slice ab (encL (l.drop k)).length cb) (encL (l.drop k)) ∧ (encL (l.drop k)).length ≤ cb ∧ cb ≤ 9223372036854775807 ∧ insOwn wr w.heap.size v (l.take k) ∧ Touch w wr []) (fun vb _ _ => sliceLen vb)
  case atStart => exact ⟨0, Nat.zero_le _, ao, cap, by rw [← hZ]; rfl, by have := HR0.out; rw [← hZ] at this; exact this, by rw [List.drop_zero, hZ]; exact hc, hcm, World.ownsRow_nil _ _ _ _, Touch.refl _ _⟩
  case round =>
    obtain ⟨k, hk, ab, cb, rfl, hb, hcb, hcm2, hrow, hT⟩ := hrel
    have HT : Hid _ := hT
    have hsz := hT.size
    by_cases hlt : k < N
    · have hkl : k < l.length := by rw [← HN.out]; exact hlt
      have hed := encL_drop hkl
      have hwd := encI_width l[k]
      have hw := HW.out _ (List.getElem_mem hkl)
      have hri := HRI.out _ (List.getElem_mem hkl)
      have HSN : Hid (l.take (k + 1) = l.take k ++ [l[k]]) := List.take_succ_eq_append_getElem hkl
      have htl : (l.take k).length ≤ 1000 := by rw [List.length_take]; omega
      rw [hed] at hb hcb ⊢
      generalize l[k] = i at *
      generalize hrest : encL (l.drop (k + 1)) = rest at *
      have hpos : 0 < (encI i).length := by simp [encI]
      obtain ⟨g, off, rfl, hg, d0⟩ := hb.one 0 (by simp; omega)
      have d0' : wr.cell? ⟨g, off, none⟩ = some (.int .u8 i.op) := by
        have h5 := (hT.cell (p := ⟨g, off, none⟩) hg (by simp)).trans (by simpa using d0)
        simpa [encI] using h5
      have hwdt : HidC _ _ _ _ _ := ⟨width_any i.op wr⟩
      rw [← hwd] at hwdt
      have htk : HidC _ _ _ _ _ := ⟨taken_any (cap := cb) i (SRow.keep (brow_take hb cb) hT (by simp)) hri hw (by simp at hcb; omega)⟩
      have hln : ((encI i ++ rest).length : Int) = (encI i).length + rest.length := by simp
      have hln' : (encI i ++ rest).length = (encI i).length + rest.length := by simp
      rw [hln'] at hb hcb ⊢
      obtain ⟨P, hP⟩ : ∃ P, P = (encI i).length := ⟨_, rfl⟩
      obtain ⟨Q, hQ⟩ : ∃ Q, Q = rest.length := ⟨_, rfl⟩
      rw [← hP] at hwdt htk hpos
      rw [← hP, ← hQ] at hcb ⊢
      have HP : Hid _ := hP
      have HQ : Hid _ := hQ
      have HB : Hid (BRow w (.slice (some ⟨g, off, none⟩) (encI i ++ rest).length cb) (encI i ++ rest)) := by rw [hln']; exact hb
      -- behind taken: the box, Right, the row
      have hrt : Hid (∀ W, HidC _ _ _ W _) := fun W => ⟨cright_any i W⟩
      rw [hri] at hrt
      have hp0 : (0 : Int) < (P : Int) + (Q : Int) := by omega
      have hp1 : ¬ ((P : Int) + (Q : Int) < (P : Int)) := by omega
      have hp2 : (P : Int) ≤ cb := by omega
      have hp3 : (P : Int) ≤ (P : Int) + (Q : Int) := by omega
      have hp4 : (0 : Int) ≤ P := by omega
      have hp5 : (0 : Int) < ((P + Q : Nat) : Int) := by omega
      have HROW : Hid _ := hrow
      have HREST : Hid _ := hrest
      obtain ⟨io, ia, iv⟩ := i
      simp only [InsD.v] at htk hrt
      clear hb hed hwd hw hri d0 hln hln' hP hQ hrest
      simp only at d0' hwdt
      go_wp2_with fail
      refine hwdt.out.mono ?_
      rintro e w1 ⟨rfl, rfl⟩
      clear hwdt
      go_wp2_with fail
      refine htk.out.mono ?_
      rintro e w2 ⟨rfl, t2⟩
      clear htk
      have T2 : Touch wr (w2.alloc (Obj.cells #[.int .u8 io, .int .i64 ia, .int .u64 iv] 28)) [] := t2.alloc _
      have hbx : (w2.alloc (Obj.cells #[.int .u8 io, .int .i64 ia, .int .u64 iv] 28)).heap[w2.heap.size]? = some (.cells #[.int .u8 io, .int .i64 ia, .int .u64 iv] 28 (0, 0)) := heap_alloc_new w2 _
      have HBX : Hid (∀ W, Touch (w2.alloc (Obj.cells #[.int .u8 io, .int .i64 ia, .int .u64 iv] 28)) W [] → W.cell? ⟨w2.heap.size, 0, none⟩ = some (.int .u8 io) ∧ W.cell? ⟨w2.heap.size, 1, none⟩ = some (.int .i64 ia) ∧ W.cell? ⟨w2.heap.size, 2, none⟩ = some (.int .u64 iv)) := fun W T => by
        have hb := (T.block w2.heap.size (by simp) (by simp)).trans hbx
        exact ⟨by unfold World.cell?; rw [hb]; rfl, by unfold World.cell?; rw [hb]; rfl, by unfold World.cell?; rw [hb]; rfl⟩
      have HT2 : Hid _ := T2
      clear t2 hbx T2
      go_wp2_with fail
      refine (hrt.out _).out.mono ?_
      rintro e w3 ⟨rfl, t3⟩
      obtain ⟨b3, b4, b5⟩ := HBX.out w3 t3
      have hT3 : Touch wr w3 [] := HT2.out.trans t3 (by simp)
      have hrow3 : insOwn w3 w.heap.size _ _ := ownsRow_touch HROW.out hT3 (by simp)
      obtain ⟨a4, c4, w4, hr4, ho4, t4⟩ := ins_push hrow3 htl (HT.out.trans hT3 (by simp)).size ⟨io, ia, iv⟩ 22
      have HO4 : Hid _ := ho4
      have HT4 : Hid (Touch w w4 []) := (HT.out.trans hT3 (by simp)).trans t4 (fun q hq => .inr (by
        rcases hrow3.2 with ⟨e5, _⟩ | ⟨g5, cap5, cur5, e5, hb5, _⟩
        · rw [e5] at hq; simp [Value.ownBlock] at hq
        · rw [e5] at hq; simp [Value.ownBlock] at hq; omega))
      obtain ⟨av, cv, rfl⟩ := owns_slice hrow3
      simp only at hr4
      generalize hTL : (l.take k).length = TL at hr4 ⊢
      have HTL : Hid _ := hTL
      clear hrow hrow3 t3 hT3 ho4 t4 hTL
      by_cases hcc : cb = P
      · have hQ0 : Q = 0 := by omega
        have HR0' : Hid (rest = []) := List.eq_nil_of_length_eq_zero (by rw [← HQ.out]; exact hQ0)
        subst hQ0
        subst hcc
        go_wp2_with (at_builtin; refine Lib.wpList_append_run _ rfl _ _ _ _ rfl _ _ rfl rfl _ _ hr4 ?_)
        go_wp2
        go_roundw
        case rel =>
          have e1 : encL (l.drop (k + 1)) = [] := by rw [HREST.out]; exact HR0'.out
          refine ⟨k + 1, by omega, some ⟨g, off, none⟩, 0, by rw [e1]; rfl, by rw [e1]; exact ⟨_, _, rfl, fun h => absurd rfl h⟩, by rw [e1]; simp, by omega, ?_, HT4.out⟩
          rw [HSN.out, ← HTL.out]
          exact HO4.out
        case measure => simp [sliceLen]; omega
      · have HD : Hid _ := brow_drop HB.out (cb - P) (off + P) (fun _ => by rw [HP.out])
        go_wp2_with (at_builtin; refine Lib.wpList_append_run _ rfl _ _ _ _ rfl _ _ rfl rfl _ _ hr4 ?_)
        go_wp2
        go_roundw
        case rel =>
          refine ⟨k + 1, by omega, some ⟨g, off + P, none⟩, cb - P, by rw [HREST.out, ← HQ.out], by rw [HREST.out]; exact HD.out, by rw [HREST.out, ← HQ.out]; omega, by omega, ?_, HT4.out⟩
          rw [HSN.out, ← HTL.out]
          exact HO4.out
        case measure => simp [sliceLen]; omega
    · obtain rfl : k = N := by omega
      have hal : l.drop k = [] := by rw [HN.out, List.drop_length]
      have hat : l.take k = l := by rw [HN.out, List.take_length]
      rw [hal] at hb hcb ⊢
      rw [hat] at hrow
      have HO : Hid _ := hrow
      obtain ⟨av, cv, rfl⟩ := owns_slice hrow
      clear hrow hT hb hal hat hcb
      simp only [encL, List.flatMap_nil, List.length_nil]
      generalize hLL : l.length = LL
      have HLL : Hid _ := hLL
      clear hLL
      go_wp2
      refine bodyPost_ret (v := .tuple #[.slice av LL cv, .int .i64 0]) (by simp [results, Tryd.results7, go_sem]) rfl ?_
      refine ⟨_, rfl, ?_, HT.out⟩
      rw [← HLL.out]
      exact HO.out

end Go.Proofs.YtakmfemhdikkcabDoor

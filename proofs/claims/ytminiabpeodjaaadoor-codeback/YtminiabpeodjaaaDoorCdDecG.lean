/-
  package code: Decode OF ANY BYTES BY ITS CONTRACT.
-/
import Derived.Test.YtminiabpeodjaaaDoorCdFit
import Derived.Test.YtminiabpeodjaaaDoorCdOne
namespace Go.Proofs.YtminiabpeodjaaaDoor
set_option linter.unusedVariables false
set_option linter.unusedSimpArgs false
open Go.RowKit
attribute [local go_sem] Oper.semAt_some

def sliceLen : Value → Nat
  | .slice _ n _ => n
  | _ => 0
theorem decF_nil (f : Nat) : decF f [] = some [] := by cases f <;> rfl
theorem decF_short {f : Nat} {o : Int} {r : List Int} (h : (o :: r).length < widthP o) : decF f (o :: r) = none := by
  cases f with
  | zero => simp [decF]
  | succ f => unfold decF; rw [if_neg (by simp), if_pos (by simpa using h)]
theorem decF_wrong {f : Nat} {o : Int} {r : List Int} (h : rightI (fitOf (o :: r)) = false) : decF f (o :: r) = none := by
  cases f with
  | zero => simp [decF]
  | succ f => unfold decF; rw [if_neg (by simp)]; split
              · rfl
              · rw [if_neg (by rw [h]; simp)]
theorem decF_on {f : Nat} {o : Int} {r : List Int} (h : ¬ (o :: r).length < widthP o) (hr : rightI (fitOf (o :: r)) = true) : decF (f + 1) (o :: r) = (decF f ((o :: r).drop (widthP o))).map (fitOf (o :: r) :: ·) := by
  unfold decF
  rw [if_neg (by simp), if_neg (by simpa using h), if_pos hr]
  cases f <;> rfl
theorem decF_is : ∀ (f : Nat) (b : List Int) (L : List InsD), ByteL b → decF f b = some L → (∀ i ∈ L, i.Wf ∧ rightI i = true) ∧ L.length ≤ b.length ∧ encL L = b
  | 0, b, L, hb, h => by
    unfold decF at h
    split at h
    · rename_i h0
      have : b = [] := List.eq_nil_of_length_eq_zero h0
      simp at h; subst h; subst this
      exact ⟨by simp, by simp, rfl⟩
    · cases h
  | f + 1, b, L, hb, h => by
    rcases b with _ | ⟨o, r⟩
    · rw [decF_nil] at h; simp at h; subst h; exact ⟨by simp, by simp, rfl⟩
    · by_cases hw : (o :: r).length < widthP o
      · rw [decF_short hw] at h; cases h
      · cases hr : rightI (fitOf (o :: r)) with
        | false => rw [decF_wrong hr] at h; cases h
        | true =>
          rw [decF_on hw hr] at h
          obtain ⟨M, hM, rfl⟩ := Option.map_eq_some_iff.1 h
          obtain ⟨h1, h2, h3⟩ := decF_is f _ M (fun x hx => hb x (List.mem_of_mem_drop hx)) hM
          obtain ⟨e1, e2, e3⟩ := fit_is hb (by omega)
          have hp := widthP_pos o
          refine ⟨?_, ?_, ?_⟩
          · intro i hi
            rcases List.mem_cons.1 hi with rfl | hi
            · exact ⟨e3, hr⟩
            · exact h1 i hi
          · rw [List.length_drop] at h2
            rw [List.length_cons]
            omega
          · unfold encL at h3 ⊢
            rw [List.flatMap_cons, h3, e1, List.take_append_drop]

/-- What Decode comes to. -/
def DecPost (w : World) (r : Option (List InsD)) (e : Ending) (w' : World) : Prop :=
  (∃ L, r = some L ∧ ∃ v, e = .returned (.tuple #[v, .int .i64 0]) ∧ insOwn w' w.heap.size v L ∧ Touch w w' []) ∨ (r = none ∧ e = .returned (.tuple #[.slice none 0 0, .int .i64 3]) ∧ Touch w w' [])

set_option maxRecDepth 100000 in
set_option maxHeartbeats 2000000 in
theorem decode_gen {w : World} {ao : Option Addr} {n cap : Nat} {l : List Int} (h : BytAt w ao n cap l) (hb : ByteL l) (hl : l.length ≤ 1000) :
    Calls Tryd.prog 24 #[.slice ao n cap] w (DecPost w (decP l)) := by
  have HA : Hid _ := h
  have HBL : Hid _ := hb
  have hn : n = l.length := h.len
  subst hn
  obtain ⟨R, hR⟩ : ∃ R, R = decP l := ⟨_, rfl⟩
  have HR : Hid _ := hR
  rw [← hR]
  clear h hb hR
  generalize hZ : l.length = Z at *
  have HZ : Hid _ := hZ
  clear hZ
  go_enter Tryd.func24, Tryd.ntmps24
  go_wp2_with fail
  go_loopw [0, 4] (fun vb v wr => ∃ (b : List Int) (f : Nat) (L : List InsD) (ab : Option Addr) (nb cb : Nat), vb = .slice ab nb cb ∧ BytAt w ab nb cb b ∧ ByteL b ∧ nb ≤ f ∧ L.length + nb ≤ 1000 ∧ R = (decF f b).map (L ++ ·) ∧ insOwn wr w.heap.size v L ∧ Touch w wr []) (fun vb _ _ => sliceLen vb)
  case atStart => exact ⟨l, l.length, [], ao, Z, cap, rfl, HA.out, HBL.out, by have := HZ.out; omega, by simp; omega, by rw [HR.out, decP]; cases decF l.length l <;> simp, World.ownsRow_nil _ _ _ _, Touch.refl _ _⟩
  case round =>
    obtain ⟨b, f, L, ab, nb, cb, rfl, hb, hby, hf, hlen, hdec, hrow, hT⟩ := hrel
    have HT : Hid _ := hT
    have hsz := hT.size
    have hle := hb.le
    have hmx := hb.max
    have hnb := hb.len
    have HDEC : Hid _ := hdec
    clear hdec
    rcases b with _ | ⟨o, r⟩
    · have hn0 : nb = 0 := hnb
      subst hn0
      have HE : Hid (R = some L) := by show _ = _; rw [HDEC.out, decF_nil]; simp
      have HO : Hid _ := hrow
      obtain ⟨av, cv, rfl⟩ := owns_slice hrow
      generalize hLL : L.length = LL
      have HLL : Hid _ := hLL
      clear hrow hT hb hnb hLL HDEC
      go_wp2
      refine bodyPost_ret (v := .tuple #[.slice av LL cv, .int .i64 0]) (by simp [results, Tryd.results24, go_sem]) rfl ?_
      refine .inl ⟨L, HE.out, _, rfl, ?_, HT.out⟩
      rw [← HLL.out]
      exact HO.out
    · have hpos : 0 < nb := by rw [hnb]; simp
      have ho := hby o (by simp)
      obtain ⟨g, off, rfl, hg, d0⟩ := hb.row.one 0 (by simp)
      have d0' : wr.cell? ⟨g, off, none⟩ = some (.int .u8 o) := (hT.cell (p := ⟨g, off, none⟩) hg (by simp)).trans (by simpa using d0)
      have hwdt : HidC _ _ _ _ _ := ⟨width_any o wr⟩
      have hwp := widthP_pos o
      have hp0 : (0 : Int) < nb := by omega
      obtain ⟨f', rfl⟩ : ∃ f', f = f' + 1 := ⟨f - 1, by omega⟩
      by_cases hw : nb < widthP o
      · have HN : Hid (R = none) := by show _ = _; rw [HDEC.out, decF_short (by rw [← hnb]; exact hw)]; rfl
        have h1 : (nb : Int) < (widthP o : Int) := by omega
        generalize widthP o = P at *
        clear hrow hT hb hnb HDEC d0 hby
        go_wp2_with fail
        refine hwdt.out.mono ?_
        rintro e w1 ⟨rfl, rfl⟩
        clear hwdt
        go_wp2
        refine bodyPost_ret (v := .tuple #[.slice none 0 0, .int .i64 3]) (by simp [results, Tryd.results24, go_sem]) rfl ?_
        exact .inr ⟨HN.out, rfl, HT.out⟩
      · have hwl : widthP o ≤ (o :: r).length := by rw [← hnb]; omega
        obtain ⟨eI, fI, wI⟩ := fit_is hby hwl
        have HON : Hid (rightI (fitOf (o :: r)) = true → R = (decF f' ((o :: r).drop (widthP o))).map ((L ++ [fitOf (o :: r)]) ++ ·)) := fun hr => by
          rw [HDEC.out, decF_on (by omega) hr]
          cases decF f' ((o :: r).drop (widthP o)) <;> simp
        have HOFF : Hid (rightI (fitOf (o :: r)) = false → R = none) := fun hr => by rw [HDEC.out, decF_wrong hr]; rfl
        have hBT := (hb.take (widthP o) (by omega)).keep hT
        have HDR : Hid (ByteL ((o :: r).drop (widthP o))) := fun x hx => hby x (List.mem_of_mem_drop hx)
        have HLR : Hid (((o :: r).drop (widthP o)).length = nb - widthP o) := by show _ = _; rw [List.length_drop, ← hnb]
        have HROW0 : Hid (BRow w (.slice (some ⟨g, off, none⟩) ((o :: r).take (widthP o) ++ (o :: r).drop (widthP o)).length cb) ((o :: r).take (widthP o) ++ (o :: r).drop (widthP o))) := by
          rw [List.take_append_drop]; exact hb.row
        have HTL : Hid (((o :: r).take (widthP o)).length = widthP o) := by show _ = _; rw [List.length_take]; omega
        rw [← eI] at hBT HROW0
        have htk : HidC _ _ _ _ _ := ⟨taken_fit (cap := cb) (fitOf (o :: r)) hBT.row fI wI (by rw [eI, HTL.out]; omega)⟩
        have eL : (encI (fitOf (o :: r))).length = widthP o := by rw [eI]; exact HTL.out
        rw [eL] at htk
        generalize hrest : (o :: r).drop (widthP o) = rest at *
        generalize hii : fitOf (o :: r) = i at *
        generalize hPP : widthP o = P at *
        have hrt : Hid (∀ W, HidC _ _ _ W _) := fun W => ⟨cright_any i W⟩
        generalize hri : rightI i = ri at *
        have hp1 : ¬ ((nb : Int) < (P : Int)) := by omega
        have hp2 : (P : Int) ≤ cb := by omega
        have hp3 : (P : Int) ≤ nb := by omega
        have hp4 : (0 : Int) ≤ P := by omega
        have hp6 : P ≤ cb := by omega
        have hp7 : P ≤ nb := by omega
        have HROW : Hid _ := hrow
        have HEL : Hid _ := eL
        have HWI : Hid _ := wI
        have hnbs : IntKind.i64.wrap ((nb : Int) - P) = (nb : Int) - P := by rw [IntKind.wrap_i64]; omega
        obtain ⟨io, ia, iv⟩ := i
        simp only [InsD.v] at htk hrt
        clear hb hnb d0 hby HDEC eI fI wI hBT eL hii hrest hPP hwl hri
        go_wp2_with fail
        refine hwdt.out.mono ?_
        rintro e w1 ⟨rfl, rfl⟩
        clear hwdt
        go_wp2_with fail
        refine htk.out.mono ?_
        rintro e w2 ⟨rfl, t2⟩
        clear htk
        have T2 : Touch wr (w2.alloc (Obj.cells #[.int .u8 io, .int .i64 ia, .int .u64 iv] 26)) [] := t2.alloc _
        have hbx : (w2.alloc (Obj.cells #[.int .u8 io, .int .i64 ia, .int .u64 iv] 26)).heap[w2.heap.size]? = some (.cells #[.int .u8 io, .int .i64 ia, .int .u64 iv] 26 (0, 0)) := heap_alloc_new w2 _
        have HBX : Hid (∀ W, Touch (w2.alloc (Obj.cells #[.int .u8 io, .int .i64 ia, .int .u64 iv] 26)) W [] → W.cell? ⟨w2.heap.size, 0, none⟩ = some (.int .u8 io) ∧ W.cell? ⟨w2.heap.size, 1, none⟩ = some (.int .i64 ia) ∧ W.cell? ⟨w2.heap.size, 2, none⟩ = some (.int .u64 iv)) := fun W T => by
          have hb := (T.block w2.heap.size (by simp) (by simp)).trans hbx
          exact ⟨by unfold World.cell?; rw [hb]; rfl, by unfold World.cell?; rw [hb]; rfl, by unfold World.cell?; rw [hb]; rfl⟩
        have HT2 : Hid _ := T2
        clear t2 hbx T2
        go_wp2_with fail
        refine (hrt.out _).out.mono ?_
        rintro e w3 ⟨rfl, t3⟩
        have hT3 : Touch wr w3 [] := HT2.out.trans t3 (by simp)
        cases ri with
        | false =>
          have HN : Hid (R = none) := HOFF.out rfl
          have HT3 : Hid _ := HT.out.trans hT3 (by simp)
          clear hrow t3 hT3 HON
          go_wp2
          refine bodyPost_ret (v := .tuple #[.slice none 0 0, .int .i64 3]) (by simp [results, Tryd.results24, go_sem]) rfl ?_
          exact .inr ⟨HN.out, rfl, HT3.out⟩
        | true =>
          have HN : Hid _ := HON.out rfl
          obtain ⟨b3, b4, b5⟩ := HBX.out w3 t3
          have hrow3 : insOwn w3 w.heap.size _ _ := ownsRow_touch HROW.out hT3 (by simp)
          obtain ⟨a4, c4, w4, hr4, ho4, t4⟩ := ins_push hrow3 (by omega) (HT.out.trans hT3 (by simp)).size ⟨io, ia, iv⟩ 38
          have HO4 : Hid _ := ho4
          have HT4 : Hid (Touch w w4 []) := (HT.out.trans hT3 (by simp)).trans t4 (fun q hq => .inr (by
            rcases hrow3.2 with ⟨e5, _⟩ | ⟨g5, cap5, cur5, e5, hb5, _⟩
            · rw [e5] at hq; simp [Value.ownBlock] at hq
            · rw [e5] at hq; simp [Value.ownBlock] at hq; omega))
          obtain ⟨av, cv, rfl⟩ := owns_slice hrow3
          simp only at hr4
          generalize hTL : L.length = TL at hr4 hlen ⊢
          have HTLn : Hid _ := hTL
          clear hrow hrow3 t3 hT3 ho4 t4 hTL HON HOFF
          by_cases hcc : cb = P
          · have hQ0 : nb = P := by omega
            have HR0 : Hid (rest = []) := List.eq_nil_of_length_eq_zero (by rw [HLR.out]; omega)
            subst hQ0
            subst hcc
            go_wp2_with (at_builtin; refine Lib.wpList_append_run _ rfl _ _ _ _ rfl _ _ rfl rfl _ _ hr4 ?_)
            go_wp2
            go_roundw
            case rel =>
              refine ⟨[], f', L ++ [⟨io, ia, iv⟩], some ⟨g, off, none⟩, 0, 0, by simp, ⟨rfl, ⟨_, _, rfl, fun h => absurd rfl h⟩, by omega, by omega⟩, by intro x hx; simp at hx, by omega, by rw [List.length_append, HTLn.out]; simp; omega, by rw [HN.out, HR0.out], ?_, HT4.out⟩
              have := HO4.out
              rw [← HTLn.out]
              exact this
            case measure => simp [sliceLen]; omega
          · have HD : Hid _ := brow_drop HROW0.out (cb - P) (off + P) (fun _ => by rw [HEL.out])
            go_wp2_with (at_builtin; refine Lib.wpList_append_run _ rfl _ _ _ _ rfl _ _ rfl rfl _ _ hr4 ?_)
            go_wp2
            go_roundw
            case rel =>
              refine ⟨rest, f', L ++ [⟨io, ia, iv⟩], some ⟨g, off + P, none⟩, nb - P, cb - P, by simp, ⟨HLR.out.symm, HD.out, by omega, by omega⟩, HDR.out, by omega, by rw [List.length_append, HTLn.out]; simp; omega, HN.out, ?_, HT4.out⟩
              have := HO4.out
              rw [← HTLn.out]
              exact this
            case measure => simp [sliceLen]; omega

end Go.Proofs.YtminiabpeodjaaaDoor

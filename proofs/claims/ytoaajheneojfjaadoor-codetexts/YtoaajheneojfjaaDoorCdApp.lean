/-
  package code: appended BY ITS CONTRACT.
-/
import Derived.Test.YtoaajheneojfjaaDoorAllA
namespace Go.Proofs.YtoaajheneojfjaaDoor
set_option linter.unusedVariables false
set_option linter.unusedSimpArgs false
open Go.RowKit
attribute [local go_sem] Oper.semAt_some

/-- A row that has become longer. -/
def BPost (w : World) (B : Nat) (v : Value) (l : List Int) (v' : Value) (w' : World) : Prop := bytOwn w' B v' l ∧ Touch w w' v.ownBlock.toList ∧ ∀ g, v'.ownBlock = some g → v.ownBlock = some g ∨ w.heap.size ≤ g
theorem BPost.trans {w w1 w2 : World} {B : Nat} {v v1 v2 : Value} {l1 l2 : List Int} (h1 : BPost w B v l1 v1 w1) (h2 : BPost w1 B v1 l2 v2 w2) : BPost w B v l2 v2 w2 := by
  refine ⟨h2.1, h1.2.1.trans h2.2.1 (fun x hx => ?_), fun g hg => ?_⟩
  · have := h1.2.2 x (by simpa using hx)
    rcases this with h | h
    · exact .inl (by simp [h])
    · exact .inr h
  · rcases h2.2.2 g hg with h | h
    · exact h1.2.2 g h
    · exact .inr (Nat.le_trans h1.2.1.size h)

theorem arg_val {o : Int} (h : argP o = true) : valP o = false := by
  simp [argP] at h
  simp [valP]
  omega
theorem byte_of (a : Int) : IntKind.u8.wrap a = a % 256 := by
  first
  | rfl
  | (rw [IntKind.wrap_u8])
  | (unfold IntKind.wrap; simp [IntKind.signed, IntKind.bits])

set_option maxRecDepth 100000 in
set_option maxHeartbeats 4000000 in
theorem appended_any {w : World} {B : Nat} {v : Value} {l : List Int} (h : bytOwn w B v l) (hB : B ≤ w.heap.size) (hl : l.length ≤ 50000) (i : InsD) (hw : i.Wf) :
    Calls Tryd.prog 36 #[v, i.v] w fun e w' => ∃ v', e = .returned v' ∧ BPost w B v (l ++ encI i) v' w' := by
  obtain ⟨ao, cap, rfl⟩ := owns_slice h
  obtain ⟨o, a, x⟩ := i
  have hwv := hw.val
  obtain ⟨n, hn⟩ := Int.eq_ofNat_of_zero_le hwv.1
  have hx : x = (n : Int) := hn
  subst hx
  have hn64 : n < 18446744073709551616 := by have := hwv.2; simp only at this; omega
  simp only [InsD.v, encI]
  simp only [Int.toNat_natCast]
  clear hw hwv hn
  have T0 : Touch w (w.alloc (.cells #[.int .u8 o, .int .i64 a, .int .u64 (n : Int)] 26)) [] := (Touch.refl w []).alloc _
  have hb0 : (w.alloc (.cells #[.int .u8 o, .int .i64 a, .int .u64 (n : Int)] 26)).heap[w.heap.size]? = some (.cells #[.int .u8 o, .int .i64 a, .int .u64 (n : Int)] 26 (0, 0)) := heap_alloc_new w _
  have hq : w.heap.size ∉ (Value.slice ao l.length cap).ownBlock.toList := fun hs => by have := (byt_lt h w.heap.size (by simpa using hs)).2; omega
  have h0 : bytOwn (w.alloc (.cells #[.int .u8 o, .int .i64 a, .int .u64 (n : Int)] 26)) B (.slice ao l.length cap) l := ownsRow_touch h T0 (by simp)
  obtain ⟨a1, c1, w1, hr1, ho1, t1, hb1⟩ := byt_push h0 (by omega) (by simp; omega) o 39
  have P1 : BPost w B (.slice ao l.length cap) (l ++ [o]) (.slice a1 (l.length + 1) c1) w1 := ⟨ho1, (T0.mono (by simp)).trans t1 (fun y hy => .inl hy), fun g hg => (hb1 g hg).imp id (fun h5 => by simp at h5; omega)⟩
  have HB1 : Hid ((Value.slice a1 (l.length + 1) c1).ownBlock ≠ some w.heap.size) := fun hs => by
    rcases hb1 _ hs with h5 | h5
    · have := (byt_lt h _ h5).2; omega
    · simp at h5; omega
  have HC : Hid (∀ W S, Touch (w.alloc (.cells #[.int .u8 o, .int .i64 a, .int .u64 (n : Int)] 26)) W S → w.heap.size ∉ S → W.cell? ⟨w.heap.size, 0, none⟩ = some (.int .u8 o) ∧ W.cell? ⟨w.heap.size, 1, none⟩ = some (.int .i64 a) ∧ W.cell? ⟨w.heap.size, 2, none⟩ = some (.int .u64 (n : Int))) := fun W S T hS => by
    have hb := (T.block w.heap.size (by simp) hS).trans hb0
    exact ⟨by unfold World.cell?; rw [hb]; rfl, by unfold World.cell?; rw [hb]; rfl, by unfold World.cell?; rw [hb]; rfl⟩
  obtain ⟨q0, q1, q2⟩ := HC.out _ [] (Touch.refl _ []) (by simp)
  obtain ⟨k0, k1, k2⟩ := HC.out w1 _ t1 hq
  have HQ : Hid _ := hq
  have HP1 : Hid _ := P1
  have HT1 : Hid _ := t1
  have hu : HidC _ _ _ _ _ := ⟨uses_any o w1⟩
  have hex := arg_val (o := o)
  generalize argP o = ap at *
  generalize valP o = vp at *
  clear h h0 T0 hb0 ho1 t1 hb1 P1 hq
  simp only [World.size_alloc] at hr1
  generalize hL : l.length = N at *
  have HL : Hid _ := hL
  generalize hVB : valB n 8 = vb at *
  have HVB : Hid _ := hVB
  clear hL hVB
  go_enter Tryd.func36, Tryd.ntmps36
  go_wp2_with (at_builtin; refine Lib.wpList_append_run _ rfl _ _ _ _ rfl _ _ rfl rfl _ _ hr1 ?_)
  refine hu.out.mono ?_
  rintro e w2 ⟨rfl, rfl⟩
  clear hu hr1 q0 q1 q2
  cases ap with
  | true =>
    obtain rfl : vp = false := hex rfl
    obtain ⟨a2, c2, w2, hr2, ho2, t2, hb2⟩ := byt_push (HP1.out.1) (by have := HL.out; simp; omega) (Nat.le_trans hB HP1.out.2.1.size) (a % 256) 39
    have hw8 := byte_of a
    have hLL : (l ++ [o]).length = N + 1 := by have := HL.out; simp; omega
    rw [hLL] at hr2 ho2 hb2
    have HP2 : Hid (BPost w B (.slice ao N cap) (l ++ [o, a % 256]) (.slice a2 (N + 1 + 1) c2) w2) := BPost.trans HP1.out ⟨by have := ho2; simpa using this, t2, hb2⟩
    clear ho2 t2 hb2 hLL hex
    go_wp2_with (at_builtin; refine Lib.wpList_append_run _ rfl _ _ _ _ rfl _ _ rfl rfl _ _ hr2 ?_)
    go_wp2
    go_ret
    exact ⟨_, rfl, by simp only [Bool.false_eq_true, if_false, if_true, List.append_nil]; exact HP2.out⟩
  | false =>
    cases vp with
    | false =>
      go_wp2
      go_ret
      exact ⟨_, rfl, by simp only [Bool.false_eq_true, if_false, List.append_nil]; exact HP1.out⟩
    | true =>
      clear hex
      have hB1 := HB1.out
      go_wp2_with fail
      go_loopw [0, 27] (fun vc i wr => ∃ k : Nat, i = .int .i64 k ∧ k ≤ 8 ∧ BPost w B (.slice ao N cap) (l ++ (o :: valB n k)) vc wr ∧ vc.ownBlock ≠ some w.heap.size ∧ wr.cell? ⟨w.heap.size, 2, none⟩ = some (.int .u64 (n : Int)) ∧ w.heap.size < wr.heap.size) (fun _ i _ => 8 - (intOf i).toNat)
      case atStart => exact ⟨0, rfl, by omega, HP1.out, hB1, k2, World.block_lt_of_cell? w1 _ k2⟩
      case round =>
        obtain ⟨k, rfl, hk, hP, hnb, hcq, hqs⟩ := hrel
        by_cases hlt : k < 8
        · have h1 : (k : Int) < 8 := by omega
          have hlen : (l ++ (o :: valB n k)).length = N + 1 + k := by have := HL.out; simp [valB_len]; omega
          obtain ⟨av, cv, rfl⟩ := owns_slice hP.1
          obtain ⟨a3, c3, w3, hr3, ho3, t3, hb3⟩ := byt_push hP.1 (by omega) (Nat.le_trans hB hP.2.1.size) ((n / 2 ^ (8 * (7 - k)) % 256 : Nat) : Int) 39
          have HP3 : Hid (BPost w B (.slice ao N cap) (l ++ (o :: valB n (k + 1))) (.slice a3 ((l ++ (o :: valB n k)).length + 1) c3) w3) := hP.trans ⟨by rw [valB_snoc]; have := ho3; simpa using this, t3, hb3⟩
          have HN3 : Hid ((Value.slice a3 ((l ++ (o :: valB n k)).length + 1) c3).ownBlock ≠ some w.heap.size) := fun hs => by
            rcases hb3 _ hs with h5 | h5
            · exact hnb h5
            · omega
          have HC3 : Hid (w3.cell? ⟨w.heap.size, 2, none⟩ = some (.int .u64 (n : Int))) := (t3.cell (p := ⟨w.heap.size, 2, none⟩) hqs (by simpa using hnb)).trans hcq
          have HS3 : Hid (w.heap.size < w3.heap.size) := Nat.lt_of_lt_of_le hqs t3.size
          clear ho3 t3 hb3 hP hlen
          generalize (l ++ (o :: valB n k)).length = Z at *
          rcases (show k = 0 ∨ k = 1 ∨ k = 2 ∨ k = 3 ∨ k = 4 ∨ k = 5 ∨ k = 6 ∨ k = 7 by omega) with rfl | rfl | rfl | rfl | rfl | rfl | rfl | rfl
          · have ey : ((n / 2 ^ (8 * (7 - 0)) % 256 : Nat) : Int) = (n : Int) / 72057594037927936 := by
              show ((n / 72057594037927936 % 256 : Nat) : Int) = _
              omega
            rw [ey] at hr3
            clear ey
            go_wp2_with (at_builtin; refine Lib.wpList_append_run _ rfl _ _ _ _ rfl _ _ rfl rfl _ _ hr3 ?_)
            go_wp2
            go_roundw
            case rel => exact ⟨1, by go_num, by omega, HP3.out, HN3.out, HC3.out, HS3.out⟩
            case measure => simp [intOf]
          · have ey : ((n / 2 ^ (8 * (7 - 1)) % 256 : Nat) : Int) = (n : Int) / 281474976710656 % 256 := by
              show ((n / 281474976710656 % 256 : Nat) : Int) = _
              omega
            rw [ey] at hr3
            clear ey
            go_wp2_with (at_builtin; refine Lib.wpList_append_run _ rfl _ _ _ _ rfl _ _ rfl rfl _ _ hr3 ?_)
            go_wp2
            go_roundw
            case rel => exact ⟨2, by go_num, by omega, HP3.out, HN3.out, HC3.out, HS3.out⟩
            case measure => simp [intOf]
          · have ey : ((n / 2 ^ (8 * (7 - 2)) % 256 : Nat) : Int) = (n : Int) / 1099511627776 % 256 := by
              show ((n / 1099511627776 % 256 : Nat) : Int) = _
              omega
            rw [ey] at hr3
            clear ey
            go_wp2_with (at_builtin; refine Lib.wpList_append_run _ rfl _ _ _ _ rfl _ _ rfl rfl _ _ hr3 ?_)
            go_wp2
            go_roundw
            case rel => exact ⟨3, by go_num, by omega, HP3.out, HN3.out, HC3.out, HS3.out⟩
            case measure => simp [intOf]
          · have ey : ((n / 2 ^ (8 * (7 - 3)) % 256 : Nat) : Int) = (n : Int) / 4294967296 % 256 := by
              show ((n / 4294967296 % 256 : Nat) : Int) = _
              omega
            rw [ey] at hr3
            clear ey
            go_wp2_with (at_builtin; refine Lib.wpList_append_run _ rfl _ _ _ _ rfl _ _ rfl rfl _ _ hr3 ?_)
            go_wp2
            go_roundw
            case rel => exact ⟨4, by go_num, by omega, HP3.out, HN3.out, HC3.out, HS3.out⟩
            case measure => simp [intOf]
          · have ey : ((n / 2 ^ (8 * (7 - 4)) % 256 : Nat) : Int) = (n : Int) / 16777216 % 256 := by
              show ((n / 16777216 % 256 : Nat) : Int) = _
              omega
            rw [ey] at hr3
            clear ey
            go_wp2_with (at_builtin; refine Lib.wpList_append_run _ rfl _ _ _ _ rfl _ _ rfl rfl _ _ hr3 ?_)
            go_wp2
            go_roundw
            case rel => exact ⟨5, by go_num, by omega, HP3.out, HN3.out, HC3.out, HS3.out⟩
            case measure => simp [intOf]
          · have ey : ((n / 2 ^ (8 * (7 - 5)) % 256 : Nat) : Int) = (n : Int) / 65536 % 256 := by
              show ((n / 65536 % 256 : Nat) : Int) = _
              omega
            rw [ey] at hr3
            clear ey
            go_wp2_with (at_builtin; refine Lib.wpList_append_run _ rfl _ _ _ _ rfl _ _ rfl rfl _ _ hr3 ?_)
            go_wp2
            go_roundw
            case rel => exact ⟨6, by go_num, by omega, HP3.out, HN3.out, HC3.out, HS3.out⟩
            case measure => simp [intOf]
          · have ey : ((n / 2 ^ (8 * (7 - 6)) % 256 : Nat) : Int) = (n : Int) / 256 % 256 := by
              show ((n / 256 % 256 : Nat) : Int) = _
              omega
            rw [ey] at hr3
            clear ey
            go_wp2_with (at_builtin; refine Lib.wpList_append_run _ rfl _ _ _ _ rfl _ _ rfl rfl _ _ hr3 ?_)
            go_wp2
            go_roundw
            case rel => exact ⟨7, by go_num, by omega, HP3.out, HN3.out, HC3.out, HS3.out⟩
            case measure => simp [intOf]
          · have ey : ((n / 2 ^ (8 * (7 - 7)) % 256 : Nat) : Int) = (n : Int) % 256 := by
              show ((n / 1 % 256 : Nat) : Int) = _
              omega
            rw [ey] at hr3
            clear ey
            go_wp2_with (at_builtin; refine Lib.wpList_append_run _ rfl _ _ _ _ rfl _ _ rfl rfl _ _ hr3 ?_)
            go_wp2
            go_roundw
            case rel => exact ⟨8, by go_num, by omega, HP3.out, HN3.out, HC3.out, HS3.out⟩
            case measure => simp [intOf]
        · obtain rfl : k = 8 := by omega
          have HP8 : Hid _ := hP
          obtain ⟨av, cv, rfl⟩ := owns_slice hP.1
          clear hP
          generalize hZ : (l ++ (o :: valB n 8)).length = Z at HP8 ⊢
          clear hZ
          go_wp2
          go_ret
          refine ⟨_, rfl, ?_⟩
          simp only [Bool.false_eq_true, if_false, if_true, List.nil_append]
          rw [← HVB.out]
          exact HP8.out

end Go.Proofs.YtoaajheneojfjaaDoor

/-
  package flows: the words of a line, yielded one by one.
-/
import Derived.Test.YtcbkafbchpjnoaaGreatDoorFlRange
import Derived.Lib.OthersKept
import Derived.WalkSmall
namespace Go.Proofs.YtcbkafbchpjnoaaGreatDoor
set_option linter.unusedVariables false
set_option linter.unusedSimpArgs false
open Go.RowKit Go.Shelf
attribute [local go_sem] Oper.semAt_some

theorem Touch.iterAt {a w : World} {S : List Nat} (h : Touch a w S) {k : Nat} (hk : k ∈ S ∨ a.heap.size ≤ k) (s : ByteArray) (p : Nat) : Touch a (w.iterAt k s p) S := h.putObj hk (.stringIter s p)
def pieceS (s : ByteArray) (p k : Nat) : ByteArray := if k = 0 then s.extract 0 p else s.extract (p + 1) s.size

set_option maxRecDepth 100000 in
set_option maxHeartbeats 4000000 in
theorem words1_in (n : Nat) (hn : 1 ≤ n) (yl q S0 p : Nat) (s : ByteArray) (hs : s.size ≤ 40) (hasc : ∀ i (h : i < s.size), (s[i]'h).toNat < 128) (hp : p ≤ s.size) (hb : ∀ i (h : i < s.size), (s[i]'h).toNat = 32 ↔ i = p) (J : Nat → World → Prop) (X : World → Prop)
    (hq : ∀ k W, J k W → W.cell? ⟨q, 0, none⟩ = some (.string s))
    (hA : ∀ k W W' S, J k W → Touch W W' S → (∀ x ∈ S, S0 + 2 ≤ x ∧ ∃ i j, W.heap[x]? = some (.stringIter i j)) → J k W')
    (hY : ∀ k W, (k = 0 ∨ (k = 1 ∧ p < s.size)) → J k W → YieldAt Fence.wide (n - 1) Tryz.prog yl #[.int .i64 k, .string (pieceS s p k)] W (YPostS J X k W))
    (W : World) (hW : W.heap.size = S0 + 2) (hJ : J 0 W) :
    CallsIn Fence.wide n Tryz.prog 155 #[.func (.yield yl) #[] #[], .pointer (some ⟨q, 0, none⟩)] W fun e W' => (∃ v, e = .returned v) ∧ (J (if p < s.size then 2 else 1) W' ∨ X W') := by
  have c0 := hq 0 W hJ
  have HQ : Hid _ := hq
  have HA : Hid _ := hA
  have HY : Hid _ := hY
  have HB : Hid _ := hb
  have HASC : Hid _ := hasc
  have HJ0 : Hid (J 0 (W.iter s 0)) := hA 0 W _ [] hJ ((Touch.refl W []).alloc _) (by simp)
  have HI0 : Hid ((W.iter s 0).heap[W.heap.size]? = some (.stringIter s 0)) := World.iter_heap W s 0
  have HW : Hid (S0 + 2 ≤ W.heap.size) := by show _ ≤ _; omega
  clear hq hA hY hb hJ hW hasc
  refine callsIn_of_wp Tryz.func155 rfl trivial ?_ rfl
  simp only [Tryz.ntmps155, List.size_toArray, List.length_cons, List.length_nil, Nat.reduceAdd, Nat.reduceSub, Array.replicate_succ, Array.replicate_zero, List.push_toArray, List.append_toArray, List.nil_append, List.cons_append]
  gi_wp2_with fail
  generalize W.heap.size = it at *
  generalize W.iter s 0 = W1 at *
  gi_loopw [3, 4] (fun c b wr => ∃ pos : Nat, pos ≤ s.size ∧ wr.heap[it]? = some (.stringIter s pos) ∧ c = .int .i64 (if p < pos then 1 else 0) ∧ b = .int .i64 (if p < pos then (p : Int) + 1 else 0) ∧ J (if p < pos then 1 else 0) wr) (fun _ _ wr => s.size + 1 - wr.iterPos it)
  case atStart => exact ⟨0, Nat.zero_le _, HI0.out, by simp, by simp, by simpa using HJ0.out⟩
  case round =>
    obtain ⟨pos, hpos, hit, rfl, rfl, hJ⟩ := hrel
    have HIT0 : Hid _ := hit
    have hIN : ∀ x ∈ [it], S0 + 2 ≤ x ∧ ∃ i j, wr.heap[x]? = some (.stringIter i j) := fun x hx => by rw [List.mem_singleton.1 hx]; exact ⟨HW.out, _, _, hit⟩
    by_cases hlt : pos < s.size
    · have ha := HASC.out pos hlt
      have hbb := HB.out pos hlt
      have nx := fun ty => Lib.run_next_ascii_at (P := Tryz.prog) wr it s pos ty hit hlt ha
      have hJ1 := HA.out _ wr (wr.iterAt it s (pos + 1)) [it] hJ ((Touch.refl wr [it]).iterAt (.inl (by simp)) s (pos + 1)) hIN
      have hit1 := Lib.iterAt_heap wr it s pos (pos + 1) hit
      obtain ⟨ch, hch⟩ : ∃ ch, ch = (s[pos]'hlt).toNat := ⟨_, rfl⟩
      rw [← hch] at hbb ha
      simp only [← hch] at nx
      have HIT1 : Hid _ := hit1
      have HIP : Hid _ := iterPos_of hit
      have c1 := HQ.out _ _ hJ1
      have HJ1 : Hid _ := hJ1
      clear hch hit hit1 hIN hJ hJ1 c0
      generalize (wr.iterAt it s (pos + 1)) = wr1 at *
      by_cases hpp : pos = p
      · have h32 : (ch : Int) = 32 := by have := hbb.2 hpp; omega
        have hyy := HY.out 0 wr1 (.inl rfl) (by have := HJ1.out; rwa [if_neg (by omega)] at this)
        rw [show pieceS s p 0 = s.extract 0 p from rfl, show ((0 : Nat) : Int) = 0 from rfl] at hyy
        have hnp : ¬ p < pos := by omega
        obtain ⟨fn, tmps, assign, body, hy, hR⟩ := hyy
        simp only [if_neg hnp]
        subst hpp
        have hp0 : (0 : Int) ≤ pos := by omega
        have hp1 : (pos : Int) < s.size := by omega
        clear hbb
        gi_wp2
        refine hR.mono ?_
        rintro x W3 (⟨rfl, hJ3, hks⟩ | ⟨rfl, hX⟩)
        · have HJ3 : Hid _ := hJ3
          have HIT3 : Hid _ := hks _ _ _ HIT1.out
          clear hJ3 hks hy hR
          gi_wp2
          refine ⟨⟨pos + 1, by omega, HIT3.out, by rw [if_pos (by omega)], by rw [if_pos (by omega)], by rw [if_pos (by omega)]; exact HJ3.out⟩, ?_⟩
          rw [iterPos_of HIT3.out, HIP.out]; omega
        · have HX : Hid _ := hX
          clear hX hy hR
          gi_wp2
          refine bodyPost_ret (v := .tuple #[]) ?_ rfl ⟨⟨_, rfl⟩, .inr HX.out⟩
          simp [results, Tryz.results155, go_sem]
      · have h32 : (ch : Int) ≠ 32 := by intro h; exact hpp (hbb.1 (by omega))
        clear hbb
        gi_wp2
        refine ⟨⟨pos + 1, by omega, HIT1.out, ?_, ?_, ?_⟩, ?_⟩
        · by_cases h : p < pos
          · rw [if_pos h, if_pos (by omega)]
          · rw [if_neg h, if_neg (by omega)]
        · by_cases h : p < pos
          · rw [if_pos h, if_pos (by omega)]
          · rw [if_neg h, if_neg (by omega)]
        · have := HJ1.out
          by_cases h : p < pos
          · rw [if_pos h] at this; rw [if_pos (by omega)]; exact this
          · rw [if_neg h] at this; rw [if_neg (by omega)]; exact this
        · rw [iterPos_of HIT1.out, HIP.out]; omega
    · have nx := fun ty => Lib.run_next_end_at (P := Tryz.prog) wr it s pos ty hit hlt
      obtain rfl : pos = s.size := by omega
      have c1 := HQ.out _ _ hJ
      clear hit hIN c0 HIT0
      by_cases hps : p < s.size
      · simp only [if_pos hps] at hJ ⊢
        have hyy := HY.out 1 wr (.inr ⟨rfl, hps⟩) hJ
        rw [show pieceS s p 1 = s.extract (p + 1) s.size from rfl, show ((1 : Nat) : Int) = 1 from rfl] at hyy
        obtain ⟨fn, tmps, assign, body, hy, hR⟩ := hyy
        have hp0 : (0 : Int) ≤ (p : Int) + 1 := by omega
        have hp1 : (p : Int) + 1 ≤ s.size := by omega
        clear hJ
        gi_wp2
        refine hR.mono ?_
        rintro x W3 (⟨rfl, hJ3, hks⟩ | ⟨rfl, hX⟩)
        · have HJ3 : Hid _ := hJ3
          clear hJ3 hks hy hR
          gi_wp2
          refine bodyPost_end (v := .tuple #[]) ?_ rfl ⟨⟨_, rfl⟩, .inl HJ3.out⟩
          simp [results, Tryz.results155, go_sem]
        · have HX : Hid _ := hX
          clear hX hy hR
          gi_wp2
          refine bodyPost_end (v := .tuple #[]) ?_ rfl ⟨⟨_, rfl⟩, .inr HX.out⟩
          simp [results, Tryz.results155, go_sem]
      · simp only [if_neg hps] at hJ ⊢
        have hyy := HY.out 0 wr (.inl rfl) hJ
        obtain rfl : p = s.size := by omega
        rw [show pieceS s s.size 0 = s from by simp [pieceS], show ((0 : Nat) : Int) = 0 from rfl] at hyy
        obtain ⟨fn, tmps, assign, body, hy, hR⟩ := hyy
        clear hJ
        gi_wp2
        refine hR.mono ?_
        rintro x W3 (⟨rfl, hJ3, hks⟩ | ⟨rfl, hX⟩)
        · have HJ3 : Hid _ := hJ3
          clear hJ3 hks hy hR
          gi_wp2
          refine bodyPost_end (v := .tuple #[]) ?_ rfl ⟨⟨_, rfl⟩, .inl HJ3.out⟩
          simp [results, Tryz.results155, go_sem]
        · have HX : Hid _ := hX
          clear hX hy hR
          gi_wp2
          refine bodyPost_end (v := .tuple #[]) ?_ rfl ⟨⟨_, rfl⟩, .inr HX.out⟩
          simp [results, Tryz.results155, go_sem]

end Go.Proofs.YtcbkafbchpjnoaaGreatDoor

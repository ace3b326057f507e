/-
  package code: cut BY ITS CONTRACT.
-/
import Derived.Test.YtminiabpeodjaaaDoorCdUtf
import Derived.Test.YtminiabpeodjaaaDoorAllA
namespace Go.Proofs.YtminiabpeodjaaaDoor
set_option linter.unusedVariables false
set_option linter.unusedSimpArgs false
open Go.RowKit
attribute [local go_sem] Oper.semAt_some

/-- Where the first blank stands. -/
def blankAt (s : ByteArray) : Option Nat := (List.range s.size).find? fun i => (s.get! i).toNat == 32
theorem blank_some {s : ByteArray} {p : Nat} (hp : p < s.size) (h : (s.get! p).toNat = 32) (hl : ∀ j < p, (s.get! j).toNat ≠ 32) : blankAt s = some p := by
  unfold blankAt
  rw [List.find?_eq_some_iff_getElem]
  exact ⟨by simp [h], p, by simpa using hp, by simp, fun j hj => by simpa using hl j hj⟩
theorem blank_none {s : ByteArray} (hl : ∀ j < s.size, (s.get! j).toNat ≠ 32) : blankAt s = none := by
  unfold blankAt
  rw [List.find?_eq_none]
  intro j hj
  simpa using hl j (by simpa using hj)
def cutW (s : ByteArray) : ByteArray := match blankAt s with | some p => s.extract 0 p | none => s
def cutR (s : ByteArray) : ByteArray := match blankAt s with | some p => s.extract (p + 1) s.size | none => ⟨#[]⟩

set_option maxRecDepth 100000 in
set_option maxHeartbeats 1000000 in
theorem cut_any (s : ByteArray) (hs : s.size ≤ 100000) (w : World) : Calls Tryd.prog 44 #[.string s] w fun e w' => e = .returned (.tuple #[.string (cutW s), .string (cutR s), .bool (blankAt s).isSome]) ∧ Touch w w' [] := by
  have HTI : Hid (∀ p, Touch w (w.iter s p) []) := fun p => (Touch.refl w []).alloc (.stringIter s p)
  go_enter Tryd.func44, Tryd.ntmps44
  go_wp2_with fail
  go_loopw [] (fun wr => ∃ pos : Nat, wr = w.iter s pos ∧ pos ≤ s.size ∧ ∀ j < pos, (s.get! j).toNat ≠ 32) (fun wr => s.size - wr.iterPos w.heap.size)
  case atStart => exact ⟨0, rfl, Nat.zero_le _, fun j hj => by omega⟩
  case round =>
    obtain ⟨pos, rfl, hpos, hbl⟩ := hrel
    by_cases hlt : pos < s.size
    · have hnx := fun ty => run_next_any (P := Tryd.prog) w s pos ty hlt
      obtain ⟨hd1, hd2⟩ := decode_pos s pos hlt
      have hsk := decode_skip s pos hlt
      have hsg := decode_sign s pos hlt 32 (by omega)
      have hgt : s.get! pos = s[pos]'hlt := get_at s pos hlt
      rw [← hgt] at hsg
      generalize Utf8.decode s pos = d at *
      obtain ⟨c, n⟩ := d
      simp only at hd1 hd2 hsk hsg hnx
      by_cases h32 : c = 32
      · have hb := blank_some hlt (hsg.1 h32) hbl
        have e1 : cutW s = s.extract 0 pos := by unfold cutW; rw [hb]
        have e2 : cutR s = s.extract (pos + 1) s.size := by unfold cutR; rw [hb]
        have e3 : (blankAt s).isSome = true := by rw [hb]; rfl
        have HE : Hid (cutW s = s.extract 0 pos ∧ cutR s = s.extract (pos + 1) s.size ∧ (blankAt s).isSome = true) := ⟨e1, e2, e3⟩
        subst h32
        have hp0 : (0 : Int) ≤ pos := by omega
        have hp1 : (pos : Int) ≤ s.size := by omega
        have hp2 : (pos : Int) + 1 ≤ s.size := by omega
        have hp3 : (0 : Int) ≤ (pos : Int) + 1 := by omega
        have hpw : IntKind.i64.wrap ((pos : Int) + 1) = (pos : Int) + 1 := by rw [IntKind.wrap_i64]; omega
        clear hsk hsg hbl hb e1 e2 e3 hgt
        go_wp2_with fail
        go_region
        go_wp2
        refine bodyPost_ret (v := .tuple #[.string (s.extract 0 pos), .string (s.extract (pos + 1) s.size), .bool true]) (by simp [results, Tryd.results44, go_sem]) rfl ?_
        rw [HE.out.1, HE.out.2.1, HE.out.2.2]
        exact ⟨rfl, (HTI.out _).drew⟩
      · have h32' : ((c : Int) == 32) = false := by simp; omega
        have HN : Hid (∀ j < pos + n, (s.get! j).toNat ≠ 32) := fun j hj => by
          by_cases h1 : j < pos
          · exact hbl j h1
          · by_cases h2 : j = pos
            · subst h2; exact fun q => h32 (hsg.2 q)
            · have q := hsk (j - pos) (by omega) (by omega)
              rw [show pos + (j - pos) = j by omega] at q
              omega
        clear hsk hsg hbl hgt
        go_wp2
        go_roundw
        case rel => exact ⟨pos + n, rfl, hd2, HN.out⟩
        case measure => simp; omega
    · have hnx := fun ty => run_next_end (P := Tryd.prog) w s pos ty hlt
      have hb : blankAt s = none := blank_none (fun j hj => hbl j (by omega))
      have HE : Hid (cutW s = s ∧ cutR s = ⟨#[]⟩ ∧ (blankAt s).isSome = false) := ⟨by unfold cutW; rw [hb], by unfold cutR; rw [hb], by rw [hb]; rfl⟩
      clear hb hbl
      go_wp2
      refine bodyPost_ret (v := .tuple #[.string s, .string ⟨#[]⟩, .bool false]) (by simp [results, Tryd.results44, go_sem]) rfl ?_
      rw [HE.out.1, HE.out.2.1, HE.out.2.2]
      exact ⟨rfl, HTI.out _⟩

end Go.Proofs.YtminiabpeodjaaaDoor

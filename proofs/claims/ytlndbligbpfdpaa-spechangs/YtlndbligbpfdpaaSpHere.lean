/-
  package spec: standsAt, here BY THEIR CONTRACTS.
-/
import Derived.Test.YtlndbligbpfdpaaSpBase
namespace Go.Proofs.Ytlndbligbpfdpaa
set_option linter.unusedVariables false
set_option linter.unusedSimpArgs false
open Go.RowKit
attribute [local go_sem] Oper.semAt_some

theorem WObj.drewN {w : World} {b : Nat} {T : TypeId} {tl : List Value} {vs vo vp : Value} {D : WD} (h : WObj w b T tl vs vo vp D) (q : Nat) : WObj (w.drewN q) b T tl vs vo vp D := h.touch ((Touch.refl w []).drewN q) (by simp)
abbrev InsRow := SRow 3 InsD.cells
/-- The program's instruction at a place. -/
theorem ins_cells {w : World} {ao : Option Addr} {cap : Nat} {l : List InsD} (h : InsRow w (.slice ao l.length cap) l) (k : Nat) (hk : k < l.length) :
    ∃ g off, ao = some ⟨g, off, none⟩ ∧ g < w.heap.size ∧ w.cell? ⟨g, off + k * 3, none⟩ = some (.int .u8 l[k].op) ∧ w.cell? ⟨g, off + k * 3 + 1, none⟩ = some (.int .i64 l[k].arg) ∧ w.cell? ⟨g, off + k * 3 + 2, none⟩ = some (.int .u64 l[k].val) := by
  obtain ⟨g, off, e, hg, hc⟩ := h.at k hk
  exact ⟨g, off, e, hg, hc 0 (by omega), hc 1 (by omega), hc 2 (by omega)⟩

/-- The operation at a place; -1: none. -/
def opAtW (l : List InsD) (pc : Int) : Int := if placeP pc l.length then (l.getD pc.toNat ⟨0, 0, 0⟩).op else -1

set_option maxRecDepth 100000 in
set_option maxHeartbeats 1000000 in
theorem standsAt_any {w : World} {b : Nat} {T : TypeId} {tl : List Value} {vs vo : Value} {ao : Option Addr} {cap : Nat} {D : WD} {l : List InsD} (h : WObj w b T tl vs vo (.slice ao l.length cap) D) (hl : InsRow w (.slice ao l.length cap) l) (o : Int) (ho : 0 ≤ o) :
    Calls Try.prog 60 #[.pointer (some ⟨b, 0, none⟩), .int .u8 o] w fun e w' => e = .returned (.bool (opAtW l D.pc == o)) ∧ ∃ q, w' = w.drewN q := by
  have HIP : Hid (∀ q, HidC Try.prog 65 #[.pointer (some ⟨b, 0, none⟩)] (w.drewN q) fun e w' => e = .returned (.bool (placeP D.pc l.length)) ∧ ∃ q', w' = w.drewN q') := fun q => ⟨by
    refine (isPlace_any (h.drewN q)).mono ?_
    rintro e w' ⟨rfl, q', rfl⟩
    exact ⟨rfl, _, World.drewN_drewN _ _ _⟩⟩
  have c := h.cells
  have c0 := c.c0
  have c7 := c.c7
  unfold opAtW
  cases hp : placeP D.pc l.length with
  | false =>
    rw [hp] at HIP
    have hne : (((-1 : Int)) == o) = false := by simp; omega
    simp only [Bool.false_eq_true, if_false, hne]
    generalize l.length = n at *
    clear h hl c hp
    go_enter Try.func60, Try.ntmps60
    go_wp2_with fail
    go_quiet (first | (go_at_call 65; exact (HIP.out _).out))
    go_wp2
    go_ret
    exact ⟨rfl, _, rfl⟩
  | true =>
    have hpl := hp
    unfold placeP at hpl
    simp only [Bool.and_eq_true, decide_eq_true_eq] at hpl
    obtain ⟨k, hk⟩ := Int.eq_ofNat_of_zero_le hpl.1
    have hkl : k < l.length := by omega
    obtain ⟨g, off, rfl, hg, d0, d1, d2⟩ := ins_cells hl k hkl
    have hop : (l.getD D.pc.toNat ⟨0, 0, 0⟩).op = l[k].op := by rw [hk, Int.toNat_natCast, List.getD, List.getElem?_eq_getElem hkl]; rfl
    rw [hp] at HIP
    simp only [if_true, hop]
    rw [hk] at c0
    have h1 : (k : Int) < l.length := by omega
    have h0 : (0 : Int) ≤ k := by omega
    clear h hl c hp hpl hop d1 d2
    generalize l[k].op = io at *
    clear hkl
    generalize l.length = n at *
    go_enter Try.func60, Try.ntmps60
    go_wp2_with fail
    go_quiet (first | (go_at_call 65; exact (HIP.out _).out))
    go_wp2
    go_ret
    exact ⟨rfl, _, rfl⟩

end Go.Proofs.Ytlndbligbpfdpaa

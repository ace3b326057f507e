/-
  package norec: New BY ITS CONTRACT, over values that may be.
-/
import Derived.Test.YtinhdpiecifmhaaNrKill
namespace Go.Proofs.Ytinhdpiecifmhaa.Nr
set_option linter.unusedVariables false
set_option linter.unusedSimpArgs false
open Go.RowKit Go.Maps

def newEng (l : List Int) : Eng := ⟨[], [], l, ⟨0, 0⟩, fun _ => none⟩

/-- A new engine. -/
def NPost (w : World) (l : List Int) (x : Ending) (w' : World) : Prop := ∃ X, x = .returned (ptr X.e) ∧ EObj w' X (newEng l) ∧ Touch w w' [] ∧ ∀ y, X.Has y → w.heap.size ≤ y

theorem new_laid {w w1 w2 : World} {l : List Int} {v : Value} (hv : w1.ownsRow w.heap.size 26 1 v l.length (l.map (Value.int .u64))) (t1 : Touch w w1 []) (hl : Sq.LObj w2 w1.heap.size 0 0) (e2 : w2 = w1.alloc (.cells #[.int .u64 0, .int .i64 0] 92)) :
    ∀ V, V = w2.alloc (.cells #[.slice none 0 0, .slice none 0 0, v, ptr w1.heap.size, .pointer none, .pointer none, .pointer none, .pointer none] 63) → NPost w l (.returned (ptr w2.heap.size)) V := by
  rintro V rfl
  have t2 : Touch w1 w2 [] := by rw [e2]; exact (Touch.refl w1 []).alloc _
  have t3 : Touch w2 (w2.alloc (.cells #[.slice none 0 0, .slice none 0 0, v, ptr w1.heap.size, .pointer none, .pointer none, .pointer none, .pointer none] 63)) [] := (Touch.refl w2 []).alloc _
  have s2 : w2.heap.size = w1.heap.size + 1 := by rw [e2]; simp
  have s1 := t1.size
  have hlt := fun x hx => hv.lt x hx
  have hv' := ownsRow_touch hv (t2.trans t3 (by simp)) (by simp)
  refine ⟨⟨w2.heap.size, .slice none 0 0, .slice none 0 0, v, w1.heap.size, fun _ => none⟩, rfl, ⟨?_, World.ownsRow_nil _ _ _ _, World.ownsRow_nil _ _ _ _, ?_, hl.touch t3 (by simp), fun k => trivial, ?_⟩, (t1.trans t2 (by simp)).trans t3 (by simp), ?_⟩
  · exact heap_alloc_new w2 _
  · exact ⟨hv'.1, by
      rcases hv'.2 with q | ⟨g, cap, cur, h1, h2, h3⟩
      · exact .inl q
      · exact .inr ⟨g, cap, cur, h1, Nat.zero_le _, h3⟩⟩
  · intro c d hcd x hx hx'
    have hb : ∀ y, y ∈ v.ownBlock.toList → y < w1.heap.size := fun y hy => (hlt y (by simpa using hy)).2
    match c, d, hcd, hx, hx' with
    | 0, 0, hcd, _, _ => exact hcd rfl
    | 0, 3, _, hx, hx' => simp only [ELoc.foot, List.mem_singleton] at hx hx'; have := hb x hx'; omega
    | 0, 4, _, hx, hx' => simp only [ELoc.foot, List.mem_singleton] at hx hx'; omega
    | 3, 0, _, hx, hx' => simp only [ELoc.foot, List.mem_singleton] at hx hx'; have := hb x hx; omega
    | 3, 3, hcd, _, _ => exact hcd rfl
    | 3, 4, _, hx, hx' => simp only [ELoc.foot, List.mem_singleton] at hx hx'; have := hb x hx; omega
    | 4, 0, _, hx, hx' => simp only [ELoc.foot, List.mem_singleton] at hx hx'; omega
    | 4, 3, _, hx, hx' => simp only [ELoc.foot, List.mem_singleton] at hx hx'; have := hb x hx'; omega
    | 4, 4, hcd, _, _ => exact hcd rfl
    | 1, _, _, hx, _ => simp [ELoc.foot, Value.ownBlock] at hx
    | 2, _, _, hx, _ => simp [ELoc.foot, Value.ownBlock] at hx
    | _ + 5, _, _, hx, _ => simp [ELoc.foot, lfoot] at hx
    | _, 1, _, _, hx' => simp [ELoc.foot, Value.ownBlock] at hx'
    | _, 2, _, _, hx' => simp [ELoc.foot, Value.ownBlock] at hx'
    | _, _ + 5, _, _, hx' => simp [ELoc.foot, lfoot] at hx'
  · rintro y ⟨c, hy⟩
    match c, hy with
    | 0, hy => simp only [ELoc.foot, List.mem_singleton] at hy; omega
    | 1, hy => simp [ELoc.foot, Value.ownBlock] at hy
    | 2, hy => simp [ELoc.foot, Value.ownBlock] at hy
    | 3, hy => exact (hlt y (by simpa [ELoc.foot] using hy)).1
    | 4, hy => simp only [ELoc.foot, List.mem_singleton] at hy; omega
    | _ + 5, hy => simp [ELoc.foot, lfoot] at hy

set_option maxRecDepth 100000 in
set_option maxHeartbeats 2000000 in
theorem new_ok {B : Nat} {w : World} {v : Value} {l : List Int} (hr : w.ownsRow B 26 1 v l.length (l.map (Value.int .u64))) (h1 : 1 ≤ l.length) (h12 : l.length ≤ 12) (hR : ∀ x ∈ l, rightB x = true) :
    Calls Try.prog 4 #[v] w (NPost w l) := by
  obtain ⟨g, cap, hv⟩ := row_some hr (by omega)
  have CL := HidC.mk (vclone_any hr (hp_one _) (by omega))
  subst hv
  have HC : Hid (∀ k (hk : k < l.length), w.cell? ⟨g, k, none⟩ = some (.int .u64 l[k])) := fun k hk => by
    have := (row_at hr k (by simpa using hk)).1
    simpa using this
  obtain ⟨n, hn⟩ : ∃ n, n = l.length := ⟨_, rfl⟩
  have HN : Hid _ := hn
  rw [← hn] at CL h1 h12 ⊢
  have h1' : ¬ (n : Int) < 1 := by omega
  have h12' : ¬ (12 : Int) < n := by omega
  clear hr hn
  go_enter Try.func4, Try.ntmps4
  go_wp2_with fail
  go_loopw [15] (fun i wr => ∃ k : Nat, i = .int .i64 k ∧ k ≤ n ∧ wr = w) (fun i _ => n - (intOf i).toNat)
  case atStart => exact ⟨0, rfl, Nat.zero_le _, rfl⟩
  case round =>
    obtain ⟨k, rfl, hk, rfl⟩ := hrel
    by_cases hlt : k < n
    · have hk1 : (k : Int) < n := by omega
      have hk0 : (0 : Int) ≤ k := by omega
      have hkl : k < l.length := by rw [← HN.out]; exact hlt
      have d0 := HC.out k hkl
      have hrt := right_any l[k]
      rw [hR _ (List.getElem_mem hkl)] at hrt
      generalize l[k] = y at *
      go_wp2_with fail
      refine (hrt _).mono ?_
      rintro e w1 ⟨rfl, rfl⟩
      clear hrt d0
      go_wp2
      go_roundw
      case rel => exact ⟨k + 1, by go_num, by omega, by trivial⟩
      case measure => simp [intOf]; omega
    · have hk1 : ¬ (k : Int) < n := by omega
      clear HC
      go_wp2_with fail
      refine CL.out.mono ?_
      rintro e w1 ⟨v, rfl, o1, t1⟩
      clear CL
      have HO : Hid _ := And.intro o1 t1
      obtain ⟨al, cl, hv⟩ := own_slice o1
      subst hv
      clear o1 t1
      go_wp2_with fail
      refine (Sq.snew_any _).mono ?_
      rintro e w2 ⟨rfl, l2, e2⟩
      have HE : Hid _ := new_laid (by have := HO.out.1; rw [HN.out] at this; exact this) HO.out.2 l2 e2
      clear l2 e2
      go_wp2
      go_ret
      have := HE.out _ rfl
      rw [← HN.out] at this
      exact this

/-- The values at first. -/
abbrev firstL : List Int := [0, 4607182418800017408, 9221120237041090560, 9223372036854775808, 0]
theorem first_right : ∀ x ∈ firstL, rightB x = true := by decide
theorem newEng_wf : EWf 0 (newEng firstL) := ⟨by decide, by decide, by decide, by intro v hv; simp only [newEng, List.mem_cons, List.not_mem_nil, or_false] at hv; rcases hv with rfl | rfl | rfl | rfl | rfl <;> exact ⟨by decide, by decide⟩, by simp [newEng], by simp [newEng], by simp [newEng], by simp [newEng], fun k A h => by simp [newEng] at h⟩

end Go.Proofs.Ytinhdpiecifmhaa.Nr

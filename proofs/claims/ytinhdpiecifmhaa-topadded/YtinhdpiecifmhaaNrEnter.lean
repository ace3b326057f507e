/-
  package norec: renew, decide, giveUp, why, enter BY THEIR CONTRACTS.
-/
import Derived.Test.YtinhdpiecifmhaaNrPages
namespace Go.Proofs.Ytinhdpiecifmhaa.Nr
set_option linter.unusedVariables false
set_option linter.unusedSimpArgs false
open Go.RowKit Go.Maps

def pageE (E : Eng) (k : Nat) (p : PgD) : Eng := { E with pg := E.pg.set k p }

theorem renew_any (X : ELoc) (E : Eng) (k : Nat) (hk : k < E.pg.length) (hb : E.pg.length ≤ 64) (s : Int) (w : World) (h : EObj w X E) : Calls Try.prog 84 #[ptr X.e, .int .i64 k, .int .u64 s] w fun x w' => x = .returned (.tuple #[]) ∧ EObj w' X (pageE E k { E.pg[k] with s := s }) ∧ Next w X w' X := by
  obtain ⟨_, c1, _, _, _⟩ := h.cells
  obtain ⟨g, cap, hv, p0, _, _, pf⟩ := h.pageAt k hk
  have f0 := pf 0 (by decide)
  have HP : Hid _ := h.setPage hv k hk 0 (by decide) (.int .u64 s) { E.pg[k] with s := s } rfl
  simp only [Nat.add_zero] at f0 HP
  rw [hv] at c1
  have hk0 : 0 ≤ (k : Int) := by omega
  have hk1 : (k : Int) < (E.pg.length : Int) := by omega
  clear h hv pf
  go_enter Try.func84, Try.ntmps84
  go_wp2
  go_end0
  exact ⟨rfl, HP.out.1, HP.out.2⟩

theorem decide_any (X : ELoc) (E : Eng) (k : Nat) (hk : k < E.pg.length) (hb : E.pg.length ≤ 64) (w : World) (h : EObj w X E) : Calls Try.prog 78 #[ptr X.e, .int .i64 k] w fun x w' => x = .returned (.tuple #[]) ∧ EObj w' X (pageE E k { E.pg[k] with wr := true }) ∧ Next w X w' X := by
  obtain ⟨_, c1, _, _, _⟩ := h.cells
  obtain ⟨g, cap, hv, _, p1, _, pf⟩ := h.pageAt k hk
  have f1 := pf 1 (by decide)
  have HP : Hid _ := h.setPage hv k hk 1 (by decide) (.bool true) { E.pg[k] with wr := true } rfl
  rw [hv] at c1
  have hk0 : 0 ≤ (k : Int) := by omega
  have hk1 : (k : Int) < (E.pg.length : Int) := by omega
  clear h hv pf
  go_enter Try.func78, Try.ntmps78
  go_wp2
  go_end0
  exact ⟨rfl, HP.out.1, HP.out.2⟩

def giveUpE (E : Eng) (k : Nat) (why : Int) : Eng := noteE (pageE E k { E.pg.getD k ⟨0, false, 0⟩ with why := why }) ⟨9, k, 0, 0⟩

theorem giveUp_any (X : ELoc) (E : Eng) (k : Nat) (hk : k < E.pg.length) (hb : E.pg.length ≤ 64) (hl : E.ev.length < 100000) (why : Int) (w : World) (h : EObj w X E) : Calls Try.prog 67 #[ptr X.e, .int .i64 k, .int .u8 why] w (LPost w X (giveUpE E k why) (.tuple #[])) := by
  obtain ⟨_, c1, _, _, _⟩ := h.cells
  obtain ⟨g, cap, hv, _, _, p2, pf⟩ := h.pageAt k hk
  have f2 := pf 2 (by decide)
  have e0 : E.pg.getD k ⟨0, false, 0⟩ = E.pg[k] := by simp [List.getD_eq_getElem?_getD, List.getElem?_eq_getElem hk]
  have hP := h.setPage hv k hk 2 (by decide) (.int .u8 why) { E.pg[k] with why := why } rfl
  have NT := HidC.mk (note_any X (pageE E k { E.pg[k] with why := why }) ⟨9, k, 0, 0⟩ _ hP.1 hl)
  have HN : Hid _ := hP.2
  unfold giveUpE
  rw [e0]
  rw [hv] at c1
  have hk0 : 0 ≤ (k : Int) := by omega
  have hk1 : (k : Int) < (E.pg.length : Int) := by omega
  simp only [EvD.val] at NT
  clear h hv pf hP e0
  go_enter Try.func67, Try.ntmps67
  go_wp2_with fail
  refine NT.out.mono ?_
  rintro x w2 ⟨X', rfl, h2, n2, q1, q2, q3⟩
  clear NT
  have HF : Hid (LPost w X (noteE (pageE E k { E.pg[k] with why := why }) ⟨9, k, 0, 0⟩) (.tuple #[]) (.returned (.tuple #[])) w2) := ⟨X', rfl, h2, HN.out.trans n2, q1, q2, q3⟩
  clear h2 n2 q1 q2 q3 HN
  go_wp2
  go_end0
  exact HF.out

def enterE (E : Eng) (s : Int) : Eng := noteE { E with pg := E.pg ++ [⟨s, false, 0⟩] } ⟨1, E.pg.length, 0, 0⟩

set_option maxRecDepth 100000 in
set_option maxHeartbeats 1600000 in
theorem enter_any (X : ELoc) (E : Eng) (s : Int) (hb : E.pg.length ≤ 64) (hl : E.ev.length < 100000) (w : World) (h : EObj w X E) : Calls Try.prog 21 #[ptr X.e, .int .u64 s] w (LPost w X (enterE E s) (.int .i64 E.pg.length)) := by
  have BG := HidC.mk (began_any X E w h)
  obtain ⟨i0, hi, hz0, hz1, hz2⟩ := info_parts Try.info_page
  obtain ⟨_, c1, _, _, fz⟩ := h.cells
  have f1 := fz 1
  have hel := lt_of_heap h.st
  obtain ⟨al, cl, hvp⟩ := own_slice h.pg
  obtain ⟨v3, w3, hr3, ho3, hg3, hn3, ha3⟩ := run_append_own_at (P := Try.prog) (w.alloc (.cells #[.int .u64 s, .bool false, .int .u8 0] 104)) 0 57 57 104 i0 _ 3 16 Try.underlying57 hi hz0 hz1 hz2 rfl (by decide) _ E.pg.length _ (h.pg.alloc _) ⟨w.heap.size, 0, none⟩ 1 1 [.int .u64 s, .bool false, .int .u8 0] rfl (World.news_of_block (cs := #[.int .u64 s, .bool false, .int .u8 0]) (t := 104) (fr := (0, 0)) (heap_alloc_new w _)) (by simp [Value.oneCell']) (by unfold maxLen; omega) (by omega) (by simp)
  obtain ⟨a3, c3, rfl⟩ := own_slice ho3
  have tw3 : Touch w w3 X.vp.ownBlock.toList := ((Touch.refl w _).alloc _).grown hg3 (fun x hx => .inl (by simp [hx]))
  have hvb : X.e ∉ X.vp.ownBlock.toList := fun hx => h.ap 2 0 (by decide) _ hx (by simp [ELoc.foot])
  have st3 := (tw3.block X.e hel hvb).trans h.st
  have d3 : w3.cell? ⟨X.e, 1, none⟩ = some X.vp := by simp [World.cell?, st3, ecells]
  have g3 : w3.frozen? ⟨X.e, 1, none⟩ = false := by simp [World.frozen?, st3]
  have HK : Hid (EObj (w3.setCell ⟨X.e, 1, none⟩ (.slice a3 (E.pg.length + 1) c3)) { X with vp := .slice a3 (E.pg.length + 1) c3 } { E with pg := E.pg ++ [⟨s, false, 0⟩] } ∧ Next w X (w3.setCell ⟨X.e, 1, none⟩ (.slice a3 (E.pg.length + 1) c3)) { X with vp := .slice a3 (E.pg.length + 1) c3 }) := by
    have hT : Touch w (w3.setCell ⟨X.e, 1, none⟩ (.slice a3 (E.pg.length + 1) c3)) (X.e :: X.vp.ownBlock.toList) := (tw3.mono (fun x hx => by simp at hx; simp [hx])).setCell (.inl (by simp)) _
    have hst' : (w3.setCell ⟨X.e, 1, none⟩ (.slice a3 (E.pg.length + 1) c3)).heap[X.e]? = some (.cells (ecells { X with vp := .slice a3 (E.pg.length + 1) c3 }) 63 (0, 0)) := by
      rw [heap_setCell_same _ _ _ _ _ _ st3]; rfl
    have hne : X.e ∉ (Value.slice a3 (E.pg.length + 1) c3).ownBlock.toList := fun hx => by
      rcases ha3 with q | q
      · rw [q] at hx; exact hvb hx
      · rw [q] at hx; simp at hx; omega
    have hrow : pgRow (w3.setCell ⟨X.e, 1, none⟩ (.slice a3 (E.pg.length + 1) c3)) (.slice a3 (E.pg.length + 1) c3) (E.pg ++ [⟨s, false, 0⟩]) := by
      have := ownsRow_touch ho3 ((Touch.refl w3 [X.e]).setCell (p := ⟨X.e, 1, none⟩) (.inl (by simp)) (.slice a3 (E.pg.length + 1) c3)) (fun x hx hs => by simp at hs; subst hs; exact hne (by simp [hx]))
      simpa [pgRow, List.flatMap_append, PgD.cells] using this
    exact h.setPg hT hst' hrow (ha3.imp id (fun q x hx => by rw [q] at hx; simp at hx; omega))
  have HR3 : Hid _ := hr3
  clear hr3 ho3 hg3 hn3 ha3 tw3 st3 fz hvb h
  rw [hvp] at HR3 c1 d3
  clear hvp
  generalize hW3 : w3.setCell ⟨X.e, 1, none⟩ (.slice a3 (E.pg.length + 1) c3) = W3 at *
  have HW3 : Hid (w3.setCell ⟨X.e, 1, none⟩ (.slice a3 (E.pg.length + 1) c3) = W3) := hW3
  clear hW3
  have NT := HidC.mk (note_any _ _ ⟨1, E.pg.length, 0, 0⟩ W3 HK.out.1 hl)
  simp only [EvD.val] at NT
  go_enter Try.func21, Try.ntmps21
  go_wp2_with fail
  refine BG.out.mono ?_
  rintro x w2 ⟨rfl, rfl⟩
  clear BG
  go_wp2_with (refine wpList_append_run rfl _ _ _ 57 rfl rfl _ _ (.slice a3 (E.pg.length + 1) c3) w3 rfl rfl HR3.out ?_)
  rw [HW3.out]
  refine NT.out.mono ?_
  rintro x w4 ⟨X', rfl, h2, n2, q1, q2, q3⟩
  have HF : Hid (LPost w X (enterE E s) (.int .i64 E.pg.length) (.returned (.int .i64 E.pg.length)) w4) := ⟨X', rfl, h2, HK.out.2.trans n2, q1, q2, q3⟩
  clear h2 n2 q1 q2 q3 HK NT HR3 HW3
  go_wp2
  go_ret
  exact HF.out

end Go.Proofs.Ytinhdpiecifmhaa.Nr

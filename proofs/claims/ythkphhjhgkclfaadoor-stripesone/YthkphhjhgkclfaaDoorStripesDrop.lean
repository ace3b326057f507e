/-
  Drop of the document's table, and its New.
-/
import Derived.Test.YthkphhjhgkclfaaDoorStripesRef
namespace Go.Proofs.YthkphhjhgkclfaaDoor
set_option linter.unusedVariables false
set_option linter.unusedSimpArgs false
open Go.RowKit

/-- The words when the first k have been dropped. -/
def dk (ws : List Int) (o : Int) (k : Nat) : List Int := (ws.take k).map (freed o) ++ ws.drop k
/-- How many of the first k were an owner's. -/
def ck (ws : List Int) (o : Int) (k : Nat) : Nat := ((ws.take k).filter (isMine o)).length

theorem dk_len (ws : List Int) (o : Int) (k : Nat) : (dk ws o k).length = ws.length := by simp [dk]; omega
theorem dk_zero (ws : List Int) (o : Int) : dk ws o 0 = ws := by simp [dk]
theorem dk_all (ws : List Int) (o : Int) : dk ws o ws.length = (dropS ws o).2 := by simp [dk, dropS]
theorem ck_all (ws : List Int) (o : Int) : (ck ws o ws.length : Int) = (dropS ws o).1 := by simp [ck, dropS]
theorem ck_zero (ws : List Int) (o : Int) : ck ws o 0 = 0 := by simp [ck]
theorem ck_succ (ws : List Int) (o : Int) (k : Nat) (hk : k < ws.length) : ck ws o (k + 1) = ck ws o k + if isMine o (ws[k]) then 1 else 0 := by
  unfold ck
  rw [List.take_succ_eq_append_getElem hk, List.filter_append, List.length_append]
  congr 1
  by_cases h : isMine o ws[k] = true <;> simp [h]
theorem ck_le (ws : List Int) (o : Int) (k : Nat) : ck ws o k ≤ k := by
  unfold ck
  exact Nat.le_trans (List.length_filter_le _ _) (by simp; omega)
theorem dk_at (ws : List Int) (o : Int) (k : Nat) (hk : k < ws.length) : (dk ws o k).getD k 0 = ws[k] := by
  unfold dk
  rw [List.getD_eq_getElem?_getD, List.getElem?_append_right (by simp; omega)]
  simp only [List.length_map, List.length_take]
  rw [show k - min k ws.length = 0 by omega, List.getElem?_drop]
  simp [hk]
theorem dk_succ (ws : List Int) (o : Int) (k : Nat) (hk : k < ws.length) : dk ws o (k + 1) = (dk ws o k).set k (freed o ws[k]) := by
  unfold dk
  rw [List.take_succ_eq_append_getElem hk, List.map_append, List.set_append_right _ _ (by simp; omega)]
  simp only [List.length_map, List.length_take]
  rw [show k - min k ws.length = 0 by omega, List.drop_eq_getElem_cons hk, List.set_cons_zero, List.map_cons, List.map_nil, List.append_assoc, List.singleton_append]
theorem dk_good {now : Int} {ws : List Int} (h : Good now ws) (o : Int) (k : Nat) : Good now (dk ws o k) :=
  ⟨by rw [dk_len]; exact h.pos, by rw [dk_len]; exact h.le, h.c0, h.c1, fun y hy => by
    unfold dk at hy
    rcases List.mem_append.1 hy with hy | hy
    · obtain ⟨x, hx, rfl⟩ := List.mem_map.1 hy
      exact freed_fine (h.word x (List.mem_of_mem_take hx)) h.c1
    · exact h.word y (List.mem_of_mem_drop hy)⟩

theorem restoreP_mine {now n o : Int} (h : Fine now n) : ((restoreP n o).2 = 0 ↔ isMine o n = true) ∧ (isMine o n = true → (restoreP n o).1 = freed o n) := by
  obtain ⟨_, _, h3⟩ := readP_ok h.1.1 h.2.1
  unfold isMine freed restoreP
  rw [if_neg (fun hh => hh h.2.1)]
  by_cases h1 : (readP n).1 = o
  · by_cases h2 : 0 ≤ (readP n).1
    · have h4 : 0 ≤ o ∧ o < 4 := by omega
      rw [if_neg (fun hh => hh h4), if_neg (fun hh => hh h1)]
      simp [isMine, h1, h4.1]
    · have h4 : ¬ (0 ≤ o ∧ o < 4) := by omega
      have h5 : ¬ 0 ≤ o := by omega
      rw [if_pos h4]
      simp [h1, h5]
  · by_cases h4 : 0 ≤ o ∧ o < 4
    · rw [if_neg (fun hh => hh h4), if_pos h1]
      simp [h1]
    · rw [if_pos h4]
      simp [h1]

theorem freed_not {o n : Int} (h : ¬ isMine o n = true) : freed o n = n := by unfold freed; rw [if_neg h]

/-- One step of Drop. -/
theorem drop_step {now : Int} {ws : List Int} (G : Good now ws) (o : Int) (k : Nat) (hk : k < ws.length) : (restoreS (dk ws o k) o k).2 = dk ws o (k + 1) ∧ ((restoreS (dk ws o k) o k).1 = 0 ↔ isMine o ws[k] = true) := by
  have hin : inS (dk ws o k) k := by unfold inS; rw [dk_len]; omega
  have hat : wordAt (dk ws o k) k = ws[k] := by unfold wordAt; rw [Int.toNat_natCast]; exact dk_at ws o k hk
  have hf : Fine now ws[k] := G.word _ (List.getElem_mem hk)
  obtain ⟨h1, h2⟩ := restoreP_mine (o := o) hf
  unfold restoreS putS
  rw [if_pos hin, hat, dk_succ ws o k hk]
  by_cases hm : isMine o ws[k] = true
  · rw [if_pos (h1.2 hm), h2 hm, Int.toNat_natCast]
    exact ⟨rfl, by simp [hm]⟩
  · have h0 : ¬ (restoreP ws[k] o).2 = 0 := fun e => hm (h1.1 e)
    rw [if_neg h0]
    refine ⟨?_, by simp [hm, h0]⟩
    rw [freed_not hm]
    have hl : k < (dk ws o k).length := by rw [dk_len]; exact hk
    have e : (dk ws o k)[k] = ws[k] := by
      have := dk_at ws o k hk
      rw [List.getD_eq_getElem?_getD, List.getElem?_eq_getElem hl] at this
      simpa using this
    conv => rhs; rw [← e]
    exact (List.set_getElem_self hl).symm

set_option maxRecDepth 100000 in
theorem rdrop_ext {B : Nat} {w : World} {b : Nat} {vw : Value} {now : Int} {ws : List Int} (h : RObj B w b vw now ws) (G : Good now ws) (o : Int) : Calls Tryd.prog 38 #[ptr b, .int .i64 o] w (RPost B w b vw now (dropS ws o)) := by
  unfold RPost
  have HO : Hid _ := h
  clear h
  go_enter Tryd.func38, Tryd.ntmps38
  go_wp2_with fail
  go_loopw [5, 6] (fun n i wr => ∃ k : Nat, i = .int .i64 k ∧ k ≤ ws.length ∧ n = .int .i64 (ck ws o k : Nat) ∧ RObj B wr b vw now (dk ws o k) ∧ Touch w wr (rfoot b vw)) (fun _ i _ => 9 - (intOf i).toNat)
  case atStart => exact ⟨0, rfl, by omega, by rw [ck_zero]; rfl, by rw [dk_zero]; exact HO.out, Touch.refl _ _⟩
  case round =>
    obtain ⟨k, rfl, hk, rfl, hR, hT⟩ := hrel
    have HT : Hid _ := hT
    have h8 := G.le
    clear hT HO
    by_cases hlt : k < ws.length
    · have hin : inS (dk ws o k) k := by unfold inS; rw [dk_len]; omega
      have hm := may_in hR (by rw [dk_len]; exact G.pos) k hin
      have hr := rrestore_ext hR (dk_good G o k) o k
      obtain ⟨e1, e2⟩ := drop_step G o k hlt
      have hcs := ck_succ ws o k hlt
      have hcl := ck_le ws o k
      unfold RPost at hr
      rw [e1] at hr
      generalize (restoreS (dk ws o k) o k).1 = e at *
      clear hR e1 hin
      by_cases hmine : isMine o ws[k] = true
      · rw [if_pos hmine] at hcs
        have e0 := e2.2 hmine
        subst e0
        clear e2 hmine
        go_wp2_with fail
        refine hm.mono ?_
        rintro e w1 ⟨rfl, rfl⟩
        clear hm
        go_wp2_with fail
        refine hr.mono ?_
        rintro e w1 ⟨rfl, h1, t1⟩
        clear hr
        have HR : Hid _ := h1
        clear h1
        go_wp2
        go_roundw
        case rel => exact ⟨k + 1, by go_num, by omega, by rw [hcs]; go_num, HR.out, HT.out.trans t1 (fun x hx => .inl hx)⟩
        case measure => simp [intOf]; omega
      · rw [if_neg hmine] at hcs
        have e0 : (e == 0) = false := by
          have : ¬ e = 0 := fun hh => hmine (e2.1 hh)
          simpa using this
        clear e2 hmine
        go_wp2_with fail
        refine hm.mono ?_
        rintro e w1 ⟨rfl, rfl⟩
        clear hm
        go_wp2_with fail
        refine hr.mono ?_
        rintro e w1 ⟨rfl, h1, t1⟩
        clear hr
        have HR : Hid _ := h1
        clear h1
        go_wp2
        go_roundw
        case rel => exact ⟨k + 1, by go_num, by omega, by rw [hcs]; simp, HR.out, HT.out.trans t1 (fun x hx => .inl hx)⟩
        case measure => simp [intOf]; omega
    · obtain rfl : k = ws.length := by omega
      have hout : ¬ inS (dk ws o ws.length) (ws.length : Int) := by unfold inS; rw [dk_len]; omega
      have hm := may_out hR (by rw [dk_len]; exact G.pos) ws.length hout
      have HR : Hid _ := hR
      clear hR hout
      go_wp2_with fail
      refine hm.mono ?_
      rintro e w1 ⟨rfl, rfl⟩
      clear hm
      go_wp2
      go_ret
      refine ⟨?_, ?_, HT.out⟩
      · rw [← ck_all]; rfl
      · rw [← dk_all]; exact HR.out

end Go.Proofs.YthkphhjhgkclfaaDoor

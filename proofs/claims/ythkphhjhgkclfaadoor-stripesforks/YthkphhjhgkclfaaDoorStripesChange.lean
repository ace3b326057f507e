/-
  package stripes' change BY ITS CONTRACT, with each of the three functions that are handed to it.
-/
import Derived.Test.YthkphhjhgkclfaaDoorStripesCalls
namespace Go.Proofs.YthkphhjhgkclfaaDoor
set_option linter.unusedVariables false
set_option linter.unusedSimpArgs false
open Go.RowKit

theorem lock1_any (pb : Nat) (n o : Int) (hn : 0 ≤ n ∧ n < 18446744073709551616) (w : World) (S : Sh w) (c : w.cell? ⟨pb, 0, none⟩ = some (.int .i64 o)) : Calls Tryd.prog 41 #[.int .u64 n, ptr pb] w fun e w' => e = .returned (two (lockP n o)) ∧ Touch w w' [] := by
  have hr := lock_ext n o hn w S
  generalize lockP n o = r at *
  clear S
  go_enter Tryd.func41, Tryd.ntmps41
  go_wp2_with fail
  refine hr.mono ?_
  rintro e w1 ⟨rfl, t1⟩
  clear hr
  go_wp2
  go_ret2
  exact ⟨by simp, t1⟩

theorem restore1_any (pb : Nat) (n o : Int) (hn : 0 ≤ n ∧ n < 18446744073709551616) (w : World) (S : Sh w) (c : w.cell? ⟨pb, 0, none⟩ = some (.int .i64 o)) : Calls Tryd.prog 45 #[.int .u64 n, ptr pb] w fun e w' => e = .returned (two (restoreP n o)) ∧ Touch w w' [] := by
  have hr := restore_ext n o hn w S
  generalize restoreP n o = r at *
  clear S
  go_enter Tryd.func45, Tryd.ntmps45
  go_wp2_with fail
  refine hr.mono ?_
  rintro e w1 ⟨rfl, t1⟩
  clear hr
  go_wp2
  go_ret2
  exact ⟨by simp, t1⟩

theorem unlock1_any (pv pt po b : Nat) (now n o v : Int) (hn : 0 ≤ n ∧ n < 18446744073709551616) (hv : 0 ≤ v) (w : World) (S : Sh w) (cv : w.cell? ⟨pv, 0, none⟩ = some (.int .u64 v)) (ct : w.cell? ⟨pt, 0, none⟩ = some (ptr b)) (co : w.cell? ⟨po, 0, none⟩ = some (.int .i64 o)) (cn : w.cell? ⟨b, 0, none⟩ = some (.int .u64 now)) :
    Calls Tryd.prog 43 #[.int .u64 n, ptr pv, ptr pt, ptr po] w fun e w' => e = .returned (two (if now < v then (0, 2) else unlockP n o v)) ∧ Touch w w' [] := by
  by_cases h : now < v
  · rw [if_pos h]
    go_enter Tryd.func43, Tryd.ntmps43
    go_wp2_with fail
    go_quiet (fail)
    go_wp2
    go_ret2
    exact ⟨by simp, (Touch.refl _ _).drewN _⟩
  · rw [if_neg h]
    have hd : decide (now < v) = false := decide_eq_false h
    have HR : Hid (∀ W, Sh W → Calls Tryd.prog 44 #[.int .u64 n, .int .i64 o, .int .u64 v] W fun e w' => e = .returned (two (unlockP n o v)) ∧ Touch W w' []) := fun W => unlock_ext n o v hn hv W
    have HS : Hid _ := S
    generalize unlockP n o v = r at *
    clear S
    go_enter Tryd.func43, Tryd.ntmps43
    go_wp2_with fail
    go_quiet (fail)
    go_wp2_with fail
    refine (HR.out _ (HS.out.touch ((Touch.refl _ []).drewN _) (by simp))).mono ?_
    rintro e w1 ⟨rfl, t1⟩
    go_wp2
    go_ret2
    exact ⟨by simp, ((Touch.refl _ []).drewN _).trans t1 (by simp)⟩

set_option maxRecDepth 100000 in
theorem change_lock {w : World} {b : Nat} {now : Int} {ws : List Int} (h : TObj w b now ws) (G : Good now ws) (s : Int) (pb : Nat) (rs : Int → Int × Int)
    (hC : ∀ n W, 0 ≤ n ∧ n < 18446744073709551616 → Touch w W [] → Calls Tryd.prog 41 #[.int .u64 n, ptr pb] W fun e w' => e = .returned (two (rs n)) ∧ Touch W w' []) :
    Calls Tryd.prog 40 #[ptr b, .int .i64 s, .func (.func 41) #[] #[ptr pb]] w fun e w' => e = .returned (.int .i64 (if inS ws s then putS ws s (rs (wordAt ws s)) else (2, ws)).1) ∧ TObj w' b now (if inS ws s then putS ws s (rs (wordAt ws s)) else (2, ws)).2 ∧ Touch w w' [b] := by
  by_cases hs : inS ws s
  · rw [if_pos hs]
    have hw := word_in h s hs G.le
    have hc := hC (wordAt ws s) w (G.at hs).1 (Touch.refl _ _)
    have hlen : s.toNat < ws.length := by unfold inS at hs; omega
    have hs0 : 0 ≤ s := hs.1
    have hs8 : s < 8 := by have := G.le; have := hs.2; omega
    unfold putS
    generalize rs (wordAt ws s) = r at *
    obtain ⟨r1, r2⟩ := r
    by_cases h0 : r2 = 0
    · subst h0
      simp only [if_true]
      have HT : Hid _ := h
      clear hC h
      go_enter Tryd.func40, Tryd.ntmps40
      go_wp2_with fail
      refine hw.mono ?_
      rintro e w1 ⟨rfl, rfl⟩
      clear hw
      go_wp2_with fail
      refine hc.mono ?_
      rintro e w1 ⟨rfl, t1⟩
      clear hc
      have hO := HT.out.touch t1 (by simp)
      have c0 := hO.cWord s.toNat hlen
      have hfr := hO.frozen
      have HN : Hid _ := hO.set s.toNat hlen r1
      have HT2 : Hid (Touch w (w1.setCell ⟨b, 2 + s.toNat, none⟩ (.int .u64 r1)) [b]) := (t1.mono (by simp)).setCell (.inl (by simp)) _
      clear hO t1
      go_wp2
      go_ret
      exact ⟨by simp, HN.out, HT2.out⟩
    · have h0' : (r2 == 0) = false := by simpa using h0
      simp only [if_neg h0]
      have HT : Hid _ := h
      clear hC h
      go_enter Tryd.func40, Tryd.ntmps40
      go_wp2_with fail
      refine hw.mono ?_
      rintro e w1 ⟨rfl, rfl⟩
      clear hw
      go_wp2_with fail
      refine hc.mono ?_
      rintro e w1 ⟨rfl, t1⟩
      clear hc
      go_wp2
      go_ret
      exact ⟨by simp, HT.out.touch t1 (by simp), t1.mono (by simp)⟩
  · rw [if_neg hs]
    have hw := word_out h s hs
    have HT : Hid _ := h
    clear hC h
    go_enter Tryd.func40, Tryd.ntmps40
    go_wp2_with fail
    refine hw.mono ?_
    rintro e w1 ⟨rfl, rfl⟩
    clear hw
    go_wp2
    go_ret
    exact ⟨by simp, HT.out, Touch.refl _ _⟩

set_option maxRecDepth 100000 in
theorem change_restore {w : World} {b : Nat} {now : Int} {ws : List Int} (h : TObj w b now ws) (G : Good now ws) (s : Int) (pb : Nat) (rs : Int → Int × Int)
    (hC : ∀ n W, 0 ≤ n ∧ n < 18446744073709551616 → Touch w W [] → Calls Tryd.prog 45 #[.int .u64 n, ptr pb] W fun e w' => e = .returned (two (rs n)) ∧ Touch W w' []) :
    Calls Tryd.prog 40 #[ptr b, .int .i64 s, .func (.func 45) #[] #[ptr pb]] w fun e w' => e = .returned (.int .i64 (if inS ws s then putS ws s (rs (wordAt ws s)) else (2, ws)).1) ∧ TObj w' b now (if inS ws s then putS ws s (rs (wordAt ws s)) else (2, ws)).2 ∧ Touch w w' [b] := by
  by_cases hs : inS ws s
  · rw [if_pos hs]
    have hw := word_in h s hs G.le
    have hc := hC (wordAt ws s) w (G.at hs).1 (Touch.refl _ _)
    have hlen : s.toNat < ws.length := by unfold inS at hs; omega
    have hs0 : 0 ≤ s := hs.1
    have hs8 : s < 8 := by have := G.le; have := hs.2; omega
    unfold putS
    generalize rs (wordAt ws s) = r at *
    obtain ⟨r1, r2⟩ := r
    by_cases h0 : r2 = 0
    · subst h0
      simp only [if_true]
      have HT : Hid _ := h
      clear hC h
      go_enter Tryd.func40, Tryd.ntmps40
      go_wp2_with fail
      refine hw.mono ?_
      rintro e w1 ⟨rfl, rfl⟩
      clear hw
      go_wp2_with fail
      refine hc.mono ?_
      rintro e w1 ⟨rfl, t1⟩
      clear hc
      have hO := HT.out.touch t1 (by simp)
      have c0 := hO.cWord s.toNat hlen
      have hfr := hO.frozen
      have HN : Hid _ := hO.set s.toNat hlen r1
      have HT2 : Hid (Touch w (w1.setCell ⟨b, 2 + s.toNat, none⟩ (.int .u64 r1)) [b]) := (t1.mono (by simp)).setCell (.inl (by simp)) _
      clear hO t1
      go_wp2
      go_ret
      exact ⟨by simp, HN.out, HT2.out⟩
    · have h0' : (r2 == 0) = false := by simpa using h0
      simp only [if_neg h0]
      have HT : Hid _ := h
      clear hC h
      go_enter Tryd.func40, Tryd.ntmps40
      go_wp2_with fail
      refine hw.mono ?_
      rintro e w1 ⟨rfl, rfl⟩
      clear hw
      go_wp2_with fail
      refine hc.mono ?_
      rintro e w1 ⟨rfl, t1⟩
      clear hc
      go_wp2
      go_ret
      exact ⟨by simp, HT.out.touch t1 (by simp), t1.mono (by simp)⟩
  · rw [if_neg hs]
    have hw := word_out h s hs
    have HT : Hid _ := h
    clear hC h
    go_enter Tryd.func40, Tryd.ntmps40
    go_wp2_with fail
    refine hw.mono ?_
    rintro e w1 ⟨rfl, rfl⟩
    clear hw
    go_wp2
    go_ret
    exact ⟨by simp, HT.out, Touch.refl _ _⟩

set_option maxRecDepth 100000 in
theorem change_unlock {w : World} {b : Nat} {now : Int} {ws : List Int} (h : TObj w b now ws) (G : Good now ws) (s : Int) (pv pt po : Nat) (rs : Int → Int × Int)
    (hC : ∀ n W, 0 ≤ n ∧ n < 18446744073709551616 → Touch w W [] → Calls Tryd.prog 43 #[.int .u64 n, ptr pv, ptr pt, ptr po] W fun e w' => e = .returned (two (rs n)) ∧ Touch W w' []) :
    Calls Tryd.prog 40 #[ptr b, .int .i64 s, .func (.func 43) #[] #[ptr pv, ptr pt, ptr po]] w fun e w' => e = .returned (.int .i64 (if inS ws s then putS ws s (rs (wordAt ws s)) else (2, ws)).1) ∧ TObj w' b now (if inS ws s then putS ws s (rs (wordAt ws s)) else (2, ws)).2 ∧ Touch w w' [b] := by
  by_cases hs : inS ws s
  · rw [if_pos hs]
    have hw := word_in h s hs G.le
    have hc := hC (wordAt ws s) w (G.at hs).1 (Touch.refl _ _)
    have hlen : s.toNat < ws.length := by unfold inS at hs; omega
    have hs0 : 0 ≤ s := hs.1
    have hs8 : s < 8 := by have := G.le; have := hs.2; omega
    unfold putS
    generalize rs (wordAt ws s) = r at *
    obtain ⟨r1, r2⟩ := r
    by_cases h0 : r2 = 0
    · subst h0
      simp only [if_true]
      have HT : Hid _ := h
      clear hC h
      go_enter Tryd.func40, Tryd.ntmps40
      go_wp2_with fail
      refine hw.mono ?_
      rintro e w1 ⟨rfl, rfl⟩
      clear hw
      go_wp2_with fail
      refine hc.mono ?_
      rintro e w1 ⟨rfl, t1⟩
      clear hc
      have hO := HT.out.touch t1 (by simp)
      have c0 := hO.cWord s.toNat hlen
      have hfr := hO.frozen
      have HN : Hid _ := hO.set s.toNat hlen r1
      have HT2 : Hid (Touch w (w1.setCell ⟨b, 2 + s.toNat, none⟩ (.int .u64 r1)) [b]) := (t1.mono (by simp)).setCell (.inl (by simp)) _
      clear hO t1
      go_wp2
      go_ret
      exact ⟨by simp, HN.out, HT2.out⟩
    · have h0' : (r2 == 0) = false := by simpa using h0
      simp only [if_neg h0]
      have HT : Hid _ := h
      clear hC h
      go_enter Tryd.func40, Tryd.ntmps40
      go_wp2_with fail
      refine hw.mono ?_
      rintro e w1 ⟨rfl, rfl⟩
      clear hw
      go_wp2_with fail
      refine hc.mono ?_
      rintro e w1 ⟨rfl, t1⟩
      clear hc
      go_wp2
      go_ret
      exact ⟨by simp, HT.out.touch t1 (by simp), t1.mono (by simp)⟩
  · rw [if_neg hs]
    have hw := word_out h s hs
    have HT : Hid _ := h
    clear hC h
    go_enter Tryd.func40, Tryd.ntmps40
    go_wp2_with fail
    refine hw.mono ?_
    rintro e w1 ⟨rfl, rfl⟩
    clear hw
    go_wp2
    go_ret
    exact ⟨by simp, HT.out, Touch.refl _ _⟩

end Go.Proofs.YthkphhjhgkclfaaDoor

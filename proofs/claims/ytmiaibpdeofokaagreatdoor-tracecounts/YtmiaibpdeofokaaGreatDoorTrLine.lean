/-
  package trace: an event as a line.
-/
import Derived.Test.YtmiaibpdeofokaaGreatDoorTrBusy
import Derived.Test.YtmiaibpdeofokaaGreatDoorValueHexAny
import Derived.Laws.Concat
namespace Go.Proofs.YtmiaibpdeofokaaGreatDoor
set_option linter.unusedVariables false
set_option linter.unusedSimpArgs false
open Go.RowKit Go.Maps Go.Shelf
attribute [local go_sem] Oper.semAt_some

def wordsT : List (List UInt8) := [[], [98, 101, 103, 105, 110], [114, 101, 97, 100], [119, 114, 105, 116, 101], [112, 117, 115, 104], [100, 114, 111, 112], [109, 101, 114, 103, 101], [116, 114, 121], [99, 111, 109, 109, 105, 116], [97, 98, 111, 114, 116]]
def wordT (k : Nat) : ByteArray := ⟨(wordsT.getD k []).toArray⟩
/-- trace.words lies as it is laid. -/
structure Wdt (w : World) : Prop where
  lt : 0 < w.heap.size
  at' : ∀ k, k < 10 → w.cell? ⟨0, k, none⟩ = some (.string (wordT k))
theorem Wdt.touch {w w' : World} {S : List Nat} (h : Wdt w) (t : Touch w w' S) (hS : 0 ∉ S) : Wdt w' := ⟨Nat.lt_of_lt_of_le h.lt t.size, fun k hk => (t.cell (p := ⟨0, k, none⟩) h.lt hS).trans (h.at' k hk)⟩
/-- A number in digits; a value in digits; an event as a line. -/
def argT (n : Int) : ByteArray := ⟨(Lib.decDigits n.toNat).toArray⟩
def hexT (v : Int) : ByteArray := ⟨(hexS (ofB v.toNat) 16).toArray⟩
def blT : ByteArray := ⟨#[32]⟩
def lineT (e : EvD) : ByteArray := if tchB e then wordT e.k.toNat ++ ⟨#[32]⟩ ++ argT e.a ++ (⟨#[32]⟩ ++ argT e.t ++ ⟨#[32]⟩ ++ hexT e.v) else wordT e.k.toNat ++ ⟨#[32]⟩ ++ argT e.a
/-- An event that may be. -/
structure LineOk (e : EvD) : Prop where
  k : 1 ≤ e.k ∧ e.k ≤ 9
  a : 0 ≤ e.a ∧ e.a ≤ 63
  t : 0 ≤ e.t ∧ e.t ≤ 11
  v : Wf64 e.v
  r : rightB e.v = true
theorem itoaT_any (n : Int) (h0 : 0 ≤ n) (h1 : n ≤ 63) (w : World) : Calls Tryz.prog 48 #[.int .i64 n] w fun e w' => e = .returned (.string (argT n)) ∧ w' = w := by
  obtain ⟨k, rfl⟩ := Int.eq_ofNat_of_zero_le h0
  refine Calls.mono (Any.strconv_Itoa_small Tryz.Lays_n171 k (by omega) w) fun e w' h => ⟨?_, h.2⟩
  rw [h.1]
  rfl
theorem wordT_size (k : Nat) (h : k ≤ 9) : (wordT k).size ≤ 6 := by
  have hk : ∀ k < 10, (wordT k).size ≤ 6 := by decide +kernel
  exact hk k (by omega)
theorem argT_size (n : Int) (h0 : 0 ≤ n) (h1 : n ≤ 63) : (argT n).size ≤ 2 := by
  have hk : ∀ k < 64, (argT (k : Nat)).size ≤ 2 := by decide +kernel
  obtain ⟨k, rfl⟩ := Int.eq_ofNat_of_zero_le h0
  exact hk k (by omega)
theorem hexT_size (v : Int) : (hexT v).size = 16 := by
  show (hexS (ofB v.toNat) 16).toArray.size = 16
  simp [hexS]

set_option maxRecDepth 100000 in
set_option maxHeartbeats 2000000 in
theorem line_any {w : World} (h : Wdt w) (Z : Tz w) (e : EvD) (he : LineOk e) :
    Calls Tryz.prog 23 #[e.val] w fun x w' => x = .returned (.string (lineT e)) ∧ Touch w w' [] := by
  obtain ⟨ek, ea, et, ev⟩ := e
  obtain ⟨hk, ha, ht, hv, hr⟩ := he
  simp only at hk ha ht hv hr
  obtain ⟨n, rfl⟩ : ∃ n : Nat, ek = n := ⟨ek.toNat, by omega⟩
  have T0 : Hid (Touch w (w.alloc (.cells #[.int .u8 n, .int .i64 ea, .int .i64 et, .int .u64 ev] 50)) []) := (Touch.refl w []).alloc _
  have HCL0 : Hid (∀ W, Touch (w.alloc (.cells #[.int .u8 n, .int .i64 ea, .int .i64 et, .int .u64 ev] 50)) W [] → W.cell? ⟨w.heap.size, 0, none⟩ = some (.int .u8 n) ∧ W.cell? ⟨w.heap.size, 1, none⟩ = some (.int .i64 ea) ∧ W.cell? ⟨w.heap.size, 2, none⟩ = some (.int .i64 et) ∧ W.cell? ⟨w.heap.size, 3, none⟩ = some (.int .u64 ev)) := fun W t => by
    refine ⟨(t.cell (by simp) (by simp)).trans ?_, (t.cell (by simp) (by simp)).trans ?_, (t.cell (by simp) (by simp)).trans ?_, (t.cell (by simp) (by simp)).trans ?_⟩ <;> simp [go_sem]
  have HI1 : Hid (∀ W, Calls Tryz.prog 48 #[.int .i64 ea] W fun e w' => e = .returned (.string (argT ea)) ∧ w' = W) := fun W => itoaT_any ea ha.1 ha.2 W
  have HI2 : Hid (∀ W, HidC Tryz.prog 48 #[.int .i64 et] W fun e w' => e = .returned (.string (argT et)) ∧ w' = W) := fun W => ⟨itoaT_any et ht.1 (by omega) W⟩
  have HHX : Hid (∀ W, Touch w W [] → HidC Tryz.prog 49 #[.int .u64 ev] W fun e w' => e = .returned (.string (hexT ev)) ∧ Touch W w' []) := fun W t => ⟨hex_any ev hv W (Z.touch t)⟩
  have HTC : Hid (∀ W, HidC Tryz.prog 33 #[.agg #[.int .u8 n, .int .i64 ea, .int .i64 et, .int .u64 ev]] W fun x w' => x = .returned (.bool (tchB ⟨n, ea, et, ev⟩)) ∧ Touch W w' []) := fun W => ⟨touches_any ⟨n, ea, et, ev⟩ W⟩
  have hwt := (h.touch T0.out (by simp)).at' n (by omega)
  have hlt : 0 < w.heap.size := h.lt
  have s1 := wordT_size n (by omega)
  have s2 := argT_size ea ha.1 ha.2
  have s3 := argT_size et ht.1 (by omega)
  have s4 := hexT_size ev
  obtain ⟨R, hR⟩ : ∃ R, R = lineT ⟨n, ea, et, ev⟩ := ⟨_, rfl⟩
  have HLT : Hid (R = if tchB ⟨n, ea, et, ev⟩ then wordT n ++ ⟨#[32]⟩ ++ argT ea ++ (⟨#[32]⟩ ++ argT et ++ ⟨#[32]⟩ ++ hexT ev) else wordT n ++ ⟨#[32]⟩ ++ argT ea) := hR
  rw [← hR]
  clear hR
  generalize wordT n = wd at *
  generalize argT ea = t1 at *
  generalize argT et = t2 at *
  generalize hexT ev = t3 at *
  generalize tchB ⟨n, ea, et, ev⟩ = tc at *
  have hsm1 := fun W : World => run_string_add_sum (P := Tryz.prog) (w := W) wd ⟨#[32]⟩ (by show wd.size + 1 ≤ _; omega)
  have hsm2 := fun W : World => run_string_add_sum (P := Tryz.prog) (w := W) (wd ++ ⟨#[32]⟩) t1 (by rw [ByteArray.size_append]; show wd.size + 1 + t1.size ≤ _; omega)
  have hsm3 := fun W : World => run_string_add_sum (P := Tryz.prog) (w := W) ⟨#[32]⟩ t2 (by show 1 + t2.size ≤ _; omega)
  have hsm4 := fun W : World => run_string_add_sum (P := Tryz.prog) (w := W) (⟨#[32]⟩ ++ t2) ⟨#[32]⟩ (by rw [ByteArray.size_append]; show 1 + t2.size + 1 ≤ _; omega)
  have hsm5 := fun W : World => run_string_add_sum (P := Tryz.prog) (w := W) (⟨#[32]⟩ ++ t2 ++ ⟨#[32]⟩) t3 (by rw [ByteArray.size_append, ByteArray.size_append]; show 1 + t2.size + 1 + t3.size ≤ _; omega)
  have hsm6 := fun W : World => run_string_add_sum (P := Tryz.prog) (w := W) (wd ++ ⟨#[32]⟩ ++ t1) (⟨#[32]⟩ ++ t2 ++ ⟨#[32]⟩ ++ t3) (by simp only [ByteArray.size_append]; show wd.size + 1 + t1.size + (1 + t2.size + 1 + t3.size) ≤ _; omega)
  generalize hc1 : wd ++ ⟨#[32]⟩ = c1 at *
  generalize hc2 : c1 ++ t1 = c2 at *
  generalize hd1 : (⟨#[32]⟩ : ByteArray) ++ t2 = d1 at *
  generalize hd2 : d1 ++ ⟨#[32]⟩ = d2 at *
  generalize hd3 : d2 ++ t3 = d3 at *
  generalize hd4 : c2 ++ d3 = d4 at *
  have hn9 : n < 10 := by omega
  clear hc1 hc2 hd1 hd2 hd3 hd4 s1 s2 s3 s4 hk ha ht hv hr h Z
  obtain ⟨x0, x1, x2, x3⟩ := HCL0.out _ (Touch.refl _ _)
  go_enter Tryz.func23, Tryz.ntmps23
  go_wp2_with fail
  generalize (w.alloc (.cells #[.int .u8 n, .int .i64 ea, .int .i64 et, .int .u64 ev] 50)) = Q at *
  go_quiet ((go_at_call 48; exact Calls.quiet_of_same (HI1.out _)))
  clear hsm1 hsm2 hwt
  have T0q : Touch Q (Q.drewN nq) [] := (Touch.refl Q []).drewN _
  have T0d : Hid (Touch w (Q.drewN nq) []) := T0.out.drewN _
  have HCL1 : Hid (∀ W, Touch (Q.drewN nq) W [] → W.cell? ⟨w.heap.size, 0, none⟩ = some (.int .u8 n) ∧ W.cell? ⟨w.heap.size, 1, none⟩ = some (.int .i64 ea) ∧ W.cell? ⟨w.heap.size, 2, none⟩ = some (.int .i64 et) ∧ W.cell? ⟨w.heap.size, 3, none⟩ = some (.int .u64 ev)) := fun W t => HCL0.out W (T0q.trans t (by simp))
  obtain ⟨y0, y1, y2, y3⟩ := HCL1.out _ (Touch.refl _ _)
  clear x0 x1 x2 x3 T0q T0 HCL0
  generalize (Q.drewN nq) = Q2 at *
  go_wp2_with fail
  refine (HTC.out _).out.mono ?_
  rintro x w1 ⟨rfl, tt⟩
  have T1 : Hid (Touch w w1 []) := T0d.out.trans tt (by simp)
  have HCL : Hid (∀ W, Touch w1 W [] → W.cell? ⟨w.heap.size, 0, none⟩ = some (.int .u8 n) ∧ W.cell? ⟨w.heap.size, 1, none⟩ = some (.int .i64 ea) ∧ W.cell? ⟨w.heap.size, 2, none⟩ = some (.int .i64 et) ∧ W.cell? ⟨w.heap.size, 3, none⟩ = some (.int .u64 ev)) := fun W t => HCL1.out W (tt.trans t (by simp))
  clear y0 y1 y2 y3 tt HCL1 T0d HTC HI1
  cases tc with
  | false =>
    have HL2 : Hid (R = c2) := HLT.out
    clear HLT
    go_wp2
    go_ret
    rw [HL2.out]
    exact ⟨rfl, T1.out⟩
  | true =>
    have HL2 : Hid (R = d4) := HLT.out
    clear HLT
    go_wp2_with fail
    refine wp_region_held_drew (S := (fun W : World => Touch w1 W [])) (by kernel_rfl) ((Touch.refl _ _).drew) (fun hHeld => ?_)
    try simp only [Act.put, List.getElem_toArray, List.getElem_cons_succ, List.getElem_cons_zero, List.setIfInBounds_toArray, List.set_cons_zero, List.set_cons_succ]
    refine wpAnyH_take (i := 0) (v := (.string c2)) rfl (by kernel_rfl) (by kernel_rfl) (by kernel_rfl) (fun _ _ _ h => h) (Or.inl ⟨by rfl, ?_⟩) hHeld ?_
    · intro w' hSw
      try simp only [Act.put, List.getElem_toArray, List.getElem_cons_succ, List.getElem_cons_zero, List.setIfInBounds_toArray, List.set_cons_zero, List.set_cons_succ]
      (obtain ⟨q0, q1, q2, q3⟩ := HCL.out _ hSw; go_simp)
    try simp only [Act.put, List.getElem_toArray, List.getElem_cons_succ, List.getElem_cons_zero, List.setIfInBounds_toArray, List.set_cons_zero, List.set_cons_succ]
    refine wpAnyH_take (i := 1) (v := (.pointer (some ⟨w.heap.size, 2, none⟩))) rfl (by kernel_rfl) (by kernel_rfl) (by kernel_rfl) (fun _ _ _ h => h) (Or.inl ⟨by rfl, ?_⟩) hHeld ?_
    · intro w' hSw
      try simp only [Act.put, List.getElem_toArray, List.getElem_cons_succ, List.getElem_cons_zero, List.setIfInBounds_toArray, List.set_cons_zero, List.set_cons_succ]
      (obtain ⟨q0, q1, q2, q3⟩ := HCL.out _ hSw; go_simp)
    try simp only [Act.put, List.getElem_toArray, List.getElem_cons_succ, List.getElem_cons_zero, List.setIfInBounds_toArray, List.set_cons_zero, List.set_cons_succ]
    refine wpAnyH_take (i := 2) (v := (.int .i64 et)) rfl (by kernel_rfl) (by kernel_rfl) (by kernel_rfl) (fun _ _ _ h => h) (Or.inl ⟨by rfl, ?_⟩) hHeld ?_
    · intro w' hSw
      try simp only [Act.put, List.getElem_toArray, List.getElem_cons_succ, List.getElem_cons_zero, List.setIfInBounds_toArray, List.set_cons_zero, List.set_cons_succ]
      (obtain ⟨q0, q1, q2, q3⟩ := HCL.out _ hSw; go_simp)
    try simp only [Act.put, List.getElem_toArray, List.getElem_cons_succ, List.getElem_cons_zero, List.setIfInBounds_toArray, List.set_cons_zero, List.set_cons_succ]
    refine wpAnyH_take (i := 6) (v := (.pointer (some ⟨w.heap.size, 3, none⟩))) rfl (by kernel_rfl) (by kernel_rfl) (by kernel_rfl) (fun _ _ _ h => h) (Or.inl ⟨by rfl, ?_⟩) hHeld ?_
    · intro w' hSw
      try simp only [Act.put, List.getElem_toArray, List.getElem_cons_succ, List.getElem_cons_zero, List.setIfInBounds_toArray, List.set_cons_zero, List.set_cons_succ]
      (obtain ⟨q0, q1, q2, q3⟩ := HCL.out _ hSw; go_simp)
    try simp only [Act.put, List.getElem_toArray, List.getElem_cons_succ, List.getElem_cons_zero, List.setIfInBounds_toArray, List.set_cons_zero, List.set_cons_succ]
    refine wpAnyH_take (i := 7) (v := (.int .u64 ev)) rfl (by kernel_rfl) (by kernel_rfl) (by kernel_rfl) (fun _ _ _ h => h) (Or.inl ⟨by rfl, ?_⟩) hHeld ?_
    · intro w' hSw
      try simp only [Act.put, List.getElem_toArray, List.getElem_cons_succ, List.getElem_cons_zero, List.setIfInBounds_toArray, List.set_cons_zero, List.set_cons_succ]
      (obtain ⟨q0, q1, q2, q3⟩ := HCL.out _ hSw; go_simp)
    try simp only [Act.put, List.getElem_toArray, List.getElem_cons_succ, List.getElem_cons_zero, List.setIfInBounds_toArray, List.set_cons_zero, List.set_cons_succ]
    clear hHeld
    refine wpAnyH_ready (rs := [3]) (by kernel_rfl) (by simp) (AllReadyH.cons rfl (fun K hK => ?_) (AllReadyH.nil))
    rw [if_pos (by rfl)]
    go_simp
    refine (HI2.out _).out.mono ?_
    rintro e wz ⟨rfl, rfl⟩
    go_simp
    refine hK.out _ _ ((Touch.refl w1 []).drew) (fun hHeld => ?_)
    clear hK
    try simp only [Act.put, List.getElem_toArray, List.getElem_cons_succ, List.getElem_cons_zero, List.setIfInBounds_toArray, List.set_cons_zero, List.set_cons_succ]
    refine wpAnyH_take (i := 4) (v := (.string d1)) rfl (by kernel_rfl) (by kernel_rfl) (by kernel_rfl) (fun _ _ _ h => h) (Or.inl ⟨by rfl, ?_⟩) hHeld ?_
    · intro w' hSw
      try simp only [Act.put, List.getElem_toArray, List.getElem_cons_succ, List.getElem_cons_zero, List.setIfInBounds_toArray, List.set_cons_zero, List.set_cons_succ]
      go_simp
    try simp only [Act.put, List.getElem_toArray, List.getElem_cons_succ, List.getElem_cons_zero, List.setIfInBounds_toArray, List.set_cons_zero, List.set_cons_succ]
    refine wpAnyH_take (i := 5) (v := (.string d2)) rfl (by kernel_rfl) (by kernel_rfl) (by kernel_rfl) (fun _ _ _ h => h) (Or.inl ⟨by rfl, ?_⟩) hHeld ?_
    · intro w' hSw
      try simp only [Act.put, List.getElem_toArray, List.getElem_cons_succ, List.getElem_cons_zero, List.setIfInBounds_toArray, List.set_cons_zero, List.set_cons_succ]
      go_simp
    try simp only [Act.put, List.getElem_toArray, List.getElem_cons_succ, List.getElem_cons_zero, List.setIfInBounds_toArray, List.set_cons_zero, List.set_cons_succ]
    clear hHeld
    refine wpAnyH_ready (rs := [8]) (by kernel_rfl) (by simp) (AllReadyH.cons rfl (fun K hK => ?_) (AllReadyH.nil))
    rw [if_pos (by rfl)]
    go_simp
    refine (HHX.out _ (T1.out.drew)).out.mono ?_
    rintro e w3 ⟨rfl, t3⟩
    have T3 : Hid (Touch w w3 []) := (T1.out.drew).trans t3 (by simp)
    have T13 : Hid (Touch w1 w3 []) := ((Touch.refl w1 []).drew).trans t3 (by simp)
    clear t3
    go_simp
    refine hK.out _ _ T13.out (fun hHeld => ?_)
    clear hK
    try simp only [Act.put, List.getElem_toArray, List.getElem_cons_succ, List.getElem_cons_zero, List.setIfInBounds_toArray, List.set_cons_zero, List.set_cons_succ]
    refine wpAnyH_take (i := 9) (v := (.string d3)) rfl (by kernel_rfl) (by kernel_rfl) (by kernel_rfl) (fun _ _ _ h => h) (Or.inl ⟨by rfl, ?_⟩) hHeld ?_
    · intro w' hSw
      try simp only [Act.put, List.getElem_toArray, List.getElem_cons_succ, List.getElem_cons_zero, List.setIfInBounds_toArray, List.set_cons_zero, List.set_cons_succ]
      go_simp
    try simp only [Act.put, List.getElem_toArray, List.getElem_cons_succ, List.getElem_cons_zero, List.setIfInBounds_toArray, List.set_cons_zero, List.set_cons_succ]
    refine wpAnyH_take (i := 10) (v := (.string d4)) rfl (by kernel_rfl) (by kernel_rfl) (by kernel_rfl) (fun _ _ _ h => h) (Or.inl ⟨by rfl, ?_⟩) hHeld ?_
    · intro w' hSw
      try simp only [Act.put, List.getElem_toArray, List.getElem_cons_succ, List.getElem_cons_zero, List.setIfInBounds_toArray, List.set_cons_zero, List.set_cons_succ]
      go_simp
    try simp only [Act.put, List.getElem_toArray, List.getElem_cons_succ, List.getElem_cons_zero, List.setIfInBounds_toArray, List.set_cons_zero, List.set_cons_succ]
    refine wpAnyH_take (i := 11) (v := (.string d4)) rfl (by kernel_rfl) (by kernel_rfl) (by kernel_rfl) (fun _ _ _ h => h) (Or.inl ⟨by rfl, ?_⟩) hHeld ?_
    · intro w' hSw
      try simp only [Act.put, List.getElem_toArray, List.getElem_cons_succ, List.getElem_cons_zero, List.setIfInBounds_toArray, List.set_cons_zero, List.set_cons_succ]
      go_simp
    try simp only [Act.put, List.getElem_toArray, List.getElem_cons_succ, List.getElem_cons_zero, List.setIfInBounds_toArray, List.set_cons_zero, List.set_cons_succ]
    clear hHeld
    refine wpAnyH_done (by kernel_rfl) ?_ _
    go_wp2
    go_ret
    rw [HL2.out]
    exact ⟨rfl, T3.out⟩

end Go.Proofs.YtmiaibpdeofokaaGreatDoor

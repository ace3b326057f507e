/-
  package norec: abort, commit, hasRead BY THEIR CONTRACTS.
-/
import Derived.Test.YtinhdpiecifmhaaNrTell
namespace Go.Proofs.Ytinhdpiecifmhaa.Nr
set_option linter.unusedVariables false
set_option linter.unusedSimpArgs false
open Go.RowKit Go.Maps

theorem ecells_set (X : ELoc) (k : Nat) (hk : k < 4) (o : Option Loc) : (ecells X).setIfInBounds (4 + k) (tptr o) = ecells (X.put k o) := by
  match k, hk with
  | 0, _ => simp [ecells, ELoc.put, setT]
  | 1, _ => simp [ecells, ELoc.put, setT]
  | 2, _ => simp [ecells, ELoc.put, setT]
  | 3, _ => simp [ecells, ELoc.put, setT]

/-- A thread has another attempt, or none. -/
theorem EObj.setTh {w0 w : World} {X : ELoc} {E : Eng} (h : EObj w X E) {k : Nat} (hk : k < 4) {o : Option Loc} {A : Option Att} (hA : AtObj w o A) (hd : ∀ x ∈ lfoot o, ∀ c, x ∉ X.foot c) (n : Next w0 X w X) (hn : ∀ x ∈ lfoot o, w0.heap.size ≤ x) :
    EObj (w.setCell ⟨X.e, 4 + k, none⟩ (tptr o)) (X.put k o) (E.put k A) ∧ Next w0 X (w.setCell ⟨X.e, 4 + k, none⟩ (tptr o)) (X.put k o) := by
  have t : Touch w (w.setCell ⟨X.e, 4 + k, none⟩ (tptr o)) [X.e] := (Touch.refl w _).setCell (.inl (by simp)) _
  have hno : ∀ c, c ≠ 0 → ∀ x ∈ X.foot c, x ∉ [X.e] := fun c hc x hx hs => h.ap c 0 hc x hx (by simpa [ELoc.foot] using hs)
  refine ⟨⟨?_, ?_, ?_, ?_, ?_, fun j => ?_, ?_⟩, ?_⟩
  · rw [← ecells_set X k hk o]
    exact set_cell h.st (4 + k) (tptr o)
  · have hh := ownsRow_touch h.ev t (fun q hq => hno 1 (by omega) q (by simp [ELoc.foot, hq])); exact hh
  · have hh := ownsRow_touch h.pg t (fun q hq => hno 2 (by omega) q (by simp [ELoc.foot, hq])); exact hh
  · have hh := ownsRow_touch h.hp t (fun q hq => hno 3 (by omega) q (by simp [ELoc.foot, hq])); exact hh
  · exact h.lk.touch t (hno 4 (by omega) _ (by simp [ELoc.foot]))
  · by_cases hj : j = k
    · subst hj
      simp only [ELoc.put, Eng.put, setT_same]
      exact hA.keep t (fun x hx hs => hd x hx 0 (by simpa [ELoc.foot] using hs))
    · simp only [ELoc.put, Eng.put, setT_other _ _ hj]
      exact (h.at' j).keep t (hno (j + 5) (by omega))
  · intro c d hcd x hx hx'
    by_cases hc : c = k + 5
    · subst hc
      rw [X.put_at] at hx
      rw [X.put_foot k _ d (Ne.symm hcd)] at hx'
      exact hd x hx d hx'
    · rw [X.put_foot k _ c hc] at hx
      by_cases hd' : d = k + 5
      · subst hd'
        rw [X.put_at] at hx'
        exact hd x hx' c hx
      · rw [X.put_foot k _ d hd'] at hx'
        exact h.ap c d hcd x hx hx'
  · refine ⟨n.e, t.os.trans n.os, t.tape.trans n.tape, t.output.trans n.output, Nat.le_trans n.size t.size, fun q hq hx => (t.block q (Nat.lt_of_lt_of_le hq n.size) (fun hs => hx ⟨0, by simpa [ELoc.foot] using hs⟩)).trans (n.block q hq hx), fun x ⟨c, hx⟩ => ?_⟩
    by_cases hc : c = k + 5
    · subst hc
      rw [X.put_at] at hx
      exact .inr (hn x hx)
    · rw [X.put_foot k _ c hc] at hx
      exact .inl ⟨c, hx⟩

theorem EObj.clear {w0 w : World} {X X0 : ELoc} {E : Eng} (h : EObj w X E) {k : Nat} (hk : k < 4) (n : Next w0 X0 w X) : EObj (w.setCell ⟨X.e, 4 + k, none⟩ (.pointer none)) (X.put k none) (E.put k none) ∧ Next w0 X0 (w.setCell ⟨X.e, 4 + k, none⟩ (.pointer none)) (X.put k none) := by
  have := h.setTh (w0 := w) hk (o := none) (A := none) trivial (fun x hx => by simp [lfoot] at hx) (Next.same (Touch.refl w []) (by simp)) (fun x hx => by simp [lfoot] at hx)
  exact ⟨this.1, n.trans this.2⟩

theorem EObj.thCell {w : World} {X : ELoc} {E : Eng} (h : EObj w X E) {k : Nat} (hk : k < 4) : w.cell? ⟨X.e, 4 + k, none⟩ = some (tptr (X.at' k)) := by
  match k, hk with
  | 0, _ => simp [World.cell?, h.st, ecells]
  | 1, _ => simp [World.cell?, h.st, ecells]
  | 2, _ => simp [World.cell?, h.st, ecells]
  | 3, _ => simp [World.cell?, h.st, ecells]

def abortE (E : Eng) (k : Nat) (A : Att) (why : Int) : Eng := (giveUpE E A.num why).put k none
def commitE (E : Eng) (k : Nat) (A : Att) : Eng := (tellE E A 8 0 0).put k none

theorem LPost.next {w w' : World} {X : ELoc} {E : Eng} {v : Value} {x : Ending} (h : LPost w X E v x w') : ∃ X', x = .returned v ∧ EObj w' X' E ∧ Next w X w' X' ∧ X'.at' = X.at' ∧ X'.e = X.e := by
  obtain ⟨X', a, b, c, d, _, _⟩ := h
  exact ⟨X', a, b, c, d, c.e⟩

set_option maxRecDepth 100000 in
set_option maxHeartbeats 1600000 in
theorem abort_any {w : World} {X : ELoc} {E : Eng} {k : Nat} {l : Loc} {A : Att} (h : At w X E k l A) (hk : k < 4) (hthr : A.thr = k) (hnum : A.num < E.pg.length) (hpg : E.pg.length ≤ 64) (hev : E.ev.length < 100000) (why : Int) :
    Calls Try.prog 41 #[ptr X.e, ptr l.a, .int .u8 why] w (RPost w X (abortE E k A why) { rp0 with done := true, ended := true, why := why }) := by
  have ta : Touch w (w.alloc (rpC rp0)) [] := (Touch.refl w []).alloc _
  have h1 := h.fresh ta
  have hlt : w.heap.size < (w.alloc (rpC rp0)).heap.size := by simp
  have HL0 : Hid (∀ c, ∀ x ∈ X.foot c, x < w.heap.size) := h.h.lt
  have hs0 := Slot.new w
  clear h
  go_enter Try.func41, Try.ntmps41
  go_wp2_with fail
  refine wp_name fun W hW => ?_
  rw [← hW] at h1 hlt hs0 ta
  clear hW
  have GU := fun (V : World) (hV : EObj V X E) => HidC.mk (giveUp_any X E A.num hnum hpg hev why V hV)
  have c9 := h1.obj.cells.c9
  have hD := h1.h.fresh ((Touch.refl W []).drew)
  have HKEEP : Hid (∀ V X' E', EObj V X' E' → X'.at' = X.at' → E'.th = E.th → V.cell? ⟨l.a, 9, none⟩ = some (.int .i64 A.num) ∧ V.cell? ⟨l.a, 8, none⟩ = some (.int .i64 k)) := fun V X' E' hV e1 e2 => by
    have := (At.obj (k := k) ⟨hV, by rw [e1]; exact h1.hl, by rw [e2]; exact h1.hA⟩).cells
    exact ⟨this.c9, by rw [← hthr]; exact this.c8⟩
  have HAT : Hid (X.at' k = some l) := h1.hl
  have HT0 : Hid (Touch w W []) := ta
  have HS0 : Hid (Slot W w.heap.size) := hs0
  clear h1 ta hs0
  go_region_held3 (fun w' => w'.cell? ⟨l.a, 9, none⟩ = some (.int .i64 A.num)) ((first | exact c9 | exact k9)) ((go_at_call 67; refine (GU _ hD).out.mono ?_; rintro e w3 hL3; obtain ⟨X', rfl, h3, n3, q1, q2⟩ := LPost.next hL3; obtain ⟨k9, k8⟩ := HKEEP.out w3 X' _ h3 q1 rfl))
  clear hL3 GU HKEEP c9 hD k9
  have hlk := h3.thCell hk
  obtain ⟨pq, hpq⟩ : ∃ p, tptr (X'.at' k) = .pointer p := by cases X'.at' k <;> exact ⟨_, rfl⟩
  have hfz := h3.cells.2.2.2.2 (4 + k)
  obtain ⟨h4, n4⟩ := h3.clear hk (Next.after (HT0.out.trans (Touch.refl W []).drew (by simp)) n3)
  have s3 := (HS0.out.touch ((Touch.refl W []).drew) (by simp)).next n3 (fun ⟨c, hc⟩ => by have := HL0.out c _ hc; omega)
  have hxe : X.e < w.heap.size := HL0.out 0 X.e (by simp [ELoc.foot])
  rw [q2] at hlk hfz h4 n4
  rw [hpq] at hlk
  have s4 : Slot (w3.setCell ⟨X.e, 4 + k, none⟩ (.pointer none)) w.heap.size := s3.touch ((Touch.refl w3 [X.e]).setCell (.inl (by simp)) _) (by simp; omega)
  have H5 : Hid _ := h4.fresh ((Touch.refl _ []).drew)
  have N5 : Hid _ := n4.then ((Touch.refl _ []).drew)
  have S5 : Hid (Slot (w3.setCell ⟨X.e, 4 + k, none⟩ (.pointer none)).drew w.heap.size) := s4.touch ((Touch.refl _ []).drew) (by simp)
  have F5 : Hid (∀ c, ∀ x ∈ (X'.put k none).foot c, x ≠ w.heap.size) := fun c x hx => by
    by_cases hc : c = k + 5
    · subst hc; rw [X'.put_at] at hx; simp [lfoot] at hx
    · rw [X'.put_foot k none c hc] at hx
      exact foot_ne n3 HL0.out (by simpa using hlt) c x hx
  have hk0 : 0 ≤ (k : Int) := by omega
  have hk4 : (k : Int) < 4 := by omega
  clear h3 n3 h4 n4 s3 s4 q1 q2 hpq HL0 HS0 HT0
  go_wp2_with fail
  go_region
  have h5 := H5.out
  have n5 := N5.out
  have s5 := S5.out
  have hfn5 := F5.out
  clear H5 N5 S5 F5
  have HE : Hid _ := slot_end (R := { rp0 with done := true, ended := true, why := why }) s5 h5 n5 (Nat.le_refl _) hfn5
  have HH : Hid (World.there _ w.heap.size 0 (rpL { rp0 with done := true, ended := true, why := why }).toArray.size) := s5.there { rp0 with done := true, ended := true, why := why }
  clear h5 n5 s5 hfn5
  go_wp2_with (refine wpList_store_mid rfl 38 _ _ rfl w.heap.size 0 (rpL { rp0 with done := true, ended := true, why := why }).toArray rfl rfl HH.out Try.size_reply (rp_one _) ?_; refine wpList_name fun W3 hW3 => ?_; obtain ⟨g1, g2, g3⟩ := HE.out W3 hW3; clear hW3)
  refine bodyPost_ret (v := RpD.val' ({ rp0 with done := true, ended := true, why := why })) (Slot.load g1 _ rfl rfl) rfl ?_
  exact ⟨_, rfl, g2, g3⟩

set_option maxRecDepth 100000 in
set_option maxHeartbeats 1600000 in
theorem commit_any {w : World} {X : ELoc} {E : Eng} {k : Nat} {l : Loc} {A : Att} (h : At w X E k l A) (hk : k < 4) (hthr : A.thr = k) (hev : E.ev.length < 100000) :
    Calls Try.prog 76 #[ptr X.e, ptr l.a] w (RPost w X (commitE E k A) { rp0 with done := true, ended := true }) := by
  have ta : Touch w (w.alloc (rpC rp0)) [] := (Touch.refl w []).alloc _
  have h1 := h.fresh ta
  have hlt : w.heap.size < (w.alloc (rpC rp0)).heap.size := by simp
  have HL0 : Hid (∀ c, ∀ x ∈ X.foot c, x < w.heap.size) := h.h.lt
  have HS0 : Hid (Slot (w.alloc (rpC rp0)) w.heap.size) := Slot.new w
  have HT0 : Hid (Touch w (w.alloc (rpC rp0)) []) := ta
  have TL := HidC.mk (tell_any h1 8 0 0 hev)
  have HKEEP : Hid (∀ V X' E', EObj V X' E' → X'.at' = X.at' → E'.th = E.th → V.cell? ⟨l.a, 8, none⟩ = some (.int .i64 k)) := fun V X' E' hV e1 e2 => by
    have := (At.obj (k := k) ⟨hV, by rw [e1]; exact h1.hl, by rw [e2]; exact h1.hA⟩).cells
    rw [← hthr]; exact this.c8
  clear h h1 ta
  generalize hW : w.alloc (rpC rp0) = W at *
  have HW : Hid (w.alloc (rpC rp0) = W) := hW
  clear hW
  go_enter Try.func76, Try.ntmps76
  go_wp2_with fail
  rw [show w.alloc (.cells #[.bool false, .int .u64 0, .bool false, .int .i64 0, .bool false, .int .u8 0, .int .i64 0] 38) = W from HW.out]
  refine TL.out.mono ?_
  rintro e w3 hL3
  obtain ⟨X', rfl, h3, n3, q1, q2⟩ := LPost.next hL3
  have k8 := HKEEP.out w3 X' _ h3 q1 rfl
  clear hL3 TL HKEEP HW
  have hlk := h3.thCell hk
  obtain ⟨pq, hpq⟩ : ∃ p, tptr (X'.at' k) = .pointer p := by cases X'.at' k <;> exact ⟨_, rfl⟩
  have hfz := h3.cells.2.2.2.2 (4 + k)
  obtain ⟨h4, n4⟩ := h3.clear hk (Next.after HT0.out n3)
  have s3 := HS0.out.next n3 (fun ⟨c, hc⟩ => by have := HL0.out c _ hc; omega)
  have hxe : X.e < w.heap.size := HL0.out 0 X.e (by simp [ELoc.foot])
  rw [q2] at hlk hfz h4 n4
  rw [hpq] at hlk
  have s4 : Slot (w3.setCell ⟨X.e, 4 + k, none⟩ (.pointer none)) w.heap.size := s3.touch ((Touch.refl w3 [X.e]).setCell (.inl (by simp)) _) (by simp; omega)
  have H5 : Hid _ := h4.fresh ((Touch.refl _ []).drew)
  have N5 : Hid _ := n4.then ((Touch.refl _ []).drew)
  have S5 : Hid (Slot (w3.setCell ⟨X.e, 4 + k, none⟩ (.pointer none)).drew w.heap.size) := s4.touch ((Touch.refl _ []).drew) (by simp)
  have F5 : Hid (∀ c, ∀ x ∈ (X'.put k none).foot c, x ≠ w.heap.size) := fun c x hx => by
    by_cases hc : c = k + 5
    · subst hc; rw [X'.put_at] at hx; simp [lfoot] at hx
    · rw [X'.put_foot k none c hc] at hx
      exact foot_ne n3 HL0.out (by simpa using hlt) c x hx
  have hk0 : 0 ≤ (k : Int) := by omega
  have hk4 : (k : Int) < 4 := by omega
  clear h3 n3 h4 n4 s3 s4 q1 q2 hpq HL0 HS0 HT0
  go_wp2_with fail
  go_region
  have h5 := H5.out
  have n5 := N5.out
  have s5 := S5.out
  have hfn5 := F5.out
  clear H5 N5 S5 F5
  have HE : Hid _ := slot_end (R := { rp0 with done := true, ended := true }) s5 h5 n5 (Nat.le_refl _) hfn5
  have HH : Hid (World.there _ w.heap.size 0 (rpL { rp0 with done := true, ended := true }).toArray.size) := s5.there { rp0 with done := true, ended := true }
  clear h5 n5 s5 hfn5
  go_wp2_with (refine wpList_store_mid rfl 38 _ _ rfl w.heap.size 0 (rpL { rp0 with done := true, ended := true }).toArray rfl rfl HH.out Try.size_reply (rp_one _) ?_; refine wpList_name fun W3 hW3 => ?_; obtain ⟨g1, g2, g3⟩ := HE.out W3 hW3; clear hW3)
  refine bodyPost_ret (v := RpD.val' ({ rp0 with done := true, ended := true })) (Slot.load g1 _ rfl rfl) rfl ?_
  exact ⟨_, rfl, g2, g3⟩

def readE (E : Eng) (k : Nat) (A : Att) (v : Int) : Eng := (tellE E A 2 A.ask.t v).put k (some (doneA A))

set_option maxRecDepth 100000 in
set_option maxHeartbeats 1600000 in
theorem hasRead_any {w : World} {X : ELoc} {E : Eng} {k : Nat} {l : Loc} {A : Att} (h : At w X E k l A) (v : Int) (hev : E.ev.length < 100000) :
    Calls Try.prog 34 #[ptr X.e, ptr l.a, .int .u64 v] w (RPost w X (readE E k A v) { rp0 with done := true, val := v }) := by
  have ta : Touch w (w.alloc (rpC rp0)) [] := (Touch.refl w []).alloc _
  have h1 := h.fresh ta
  have c3 := h.obj.cells.c3
  have hla := lt_of_heap h.obj.st
  have hlt : w.heap.size < (w.alloc (rpC rp0)).heap.size := by simp
  have HL0 : Hid (∀ c, ∀ x ∈ X.foot c, x < w.heap.size) := h.h.lt
  have HS0 : Hid (Slot (w.alloc (rpC rp0)) w.heap.size) := Slot.new w
  have HT0 : Hid (Touch w (w.alloc (rpC rp0)) []) := ta
  have TL := HidC.mk (tell_any h1 2 A.ask.t v hev)
  have HAT : Hid (X.at' k = some l) := h.hl
  have HA : Hid (E.th k = some A) := h.hA
  clear h h1 ta
  generalize hW : w.alloc (rpC rp0) = W at *
  have HW : Hid (w.alloc (rpC rp0) = W) := hW
  clear hW
  go_enter Try.func34, Try.ntmps34
  go_wp2_with fail
  rw [show w.alloc (.cells #[.bool false, .int .u64 0, .bool false, .int .i64 0, .bool false, .int .u8 0, .int .i64 0] 38) = W from HW.out]
  refine TL.out.mono ?_
  rintro e w3 hL3
  obtain ⟨X', rfl, h3, n3, q1, q2⟩ := LPost.next hL3
  have DN := HidC.mk (done_any (k := k) (l := l) (A := A) ⟨h3, by rw [q1]; exact HAT.out, HA.out⟩ v)
  have s3 := HS0.out.next n3 (fun ⟨c, hc⟩ => by have := HL0.out c _ hc; omega)
  have f3 := foot_ne n3 HL0.out hlt
  have S3 : Hid (Slot w3 w.heap.size) := s3
  have F3 : Hid (∀ c, ∀ x ∈ X'.foot c, x ≠ w.heap.size) := f3
  have N3 : Hid (Next w X w3 X') := Next.after HT0.out n3
  clear hL3 TL h3 n3 s3 f3 HS0 HT0 HL0 HW c3 q1 q2
  go_wp2_with fail
  refine DN.out.mono ?_
  rintro e w4 ⟨rfl, h4, n4⟩
  have s5 := S3.out.next n4 (fun ⟨c, hc⟩ => F3.out c _ hc rfl)
  have hfn5 := F3.out
  have h5 := h4
  have n5 := N3.out.trans n4
  clear h4 n4 S3 F3 N3 DN
  have HE : Hid _ := slot_end (R := { rp0 with done := true, val := v }) s5 h5 n5 (Nat.le_refl _) hfn5
  have HH : Hid (World.there _ w.heap.size 0 (rpL { rp0 with done := true, val := v }).toArray.size) := s5.there { rp0 with done := true, val := v }
  clear h5 n5 s5 hfn5
  go_wp2_with (refine wpList_store_mid rfl 38 _ _ rfl w.heap.size 0 (rpL { rp0 with done := true, val := v }).toArray rfl rfl HH.out Try.size_reply (rp_one _) ?_; refine wpList_name fun W3 hW3 => ?_; obtain ⟨g1, g2, g3⟩ := HE.out W3 hW3; clear hW3)
  refine bodyPost_ret (v := RpD.val' ({ rp0 with done := true, val := v })) (Slot.load g1 _ rfl rfl) rfl ?_
  exact ⟨_, rfl, g2, g3⟩

end Go.Proofs.Ytinhdpiecifmhaa.Nr

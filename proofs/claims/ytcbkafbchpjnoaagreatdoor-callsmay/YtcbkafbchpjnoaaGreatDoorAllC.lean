/-
  package calls: joined BY ITS CONTRACT: pieces that are asked one by one, behind what is there.
-/
import Derived.Test.YtcbkafbchpjnoaaGreatDoorLkBlock
import Derived.Test.YtcbkafbchpjnoaaGreatDoorClPlain
import Derived.Test.YtcbkafbchpjnoaaGreatDoorFlCalls
import Derived.Test.YtcbkafbchpjnoaaGreatDoorLkRefs
namespace Go.Proofs.YtcbkafbchpjnoaaGreatDoor
set_option linter.unusedVariables false
set_option linter.unusedSimpArgs false
open Go.RowKit
attribute [local go_sem] Oper.semAt_some

/-- What pieces come to behind what is there. -/
def jnP : List (Int → Int × List InsD) → List InsD → Option (List InsD)
  | [], xs => some xs
  | f :: fs, xs => if (f (xs.length : Nat)).1 ≠ 0 ∨ xs.length + (f (xs.length : Nat)).2.length > 64 then none else jnP fs (xs ++ (f (xs.length : Nat)).2)

/-- A piece: a closure that answers so, as long as the blocks from lo to hi are as they are. -/
def PcOk (lo hi : Nat) (w : World) (v : Value) (f : Int → Int × List InsD) : Prop :=
  ∃ fn caps, v = .func (.func fn) #[] caps ∧ (∀ a W, (callFunc fn (#[.int .i64 a] ++ caps)).run Tryz.prog W = .ok (.enter fn (#[.int .i64 a] ++ caps)) W) ∧
    ∀ W S, Touch w W S → (∀ x ∈ S, x ≠ 1 ∧ (x < lo ∨ hi ≤ x)) → ∀ a : Int, 0 ≤ a → a ≤ 64 → (f a).2.length ≤ 100 ∧ Calls Tryz.prog fn (#[.int .i64 a] ++ caps) W (LkP W (f a).1 (f a).2)
def PcsAt (lo hi : Nat) (w : World) (g : Nat) (fs : List (Int → Int × List InsD)) : Prop :=
  lo ≤ g ∧ g < hi ∧ ∀ k (hk : k < fs.length), ∃ v, w.cell? ⟨g, k, none⟩ = some v ∧ PcOk lo hi w v fs[k]

theorem ins_app2 {w : World} {B : Nat} {v : Value} {xs : List InsD} (h : insOwn w B v xs) (hl : xs.length ≤ 1000) (hB : B ≤ w.heap.size) {ao : Option Addr} {n cap : Nat} {l : List InsD} (hr : InsIn w ao n cap l) (hn : n ≤ 1000) (ty : TypeId) :
    ∃ ao' cap' w', (Builtin.append_ #[25, 25] ty #[v, .slice ao n cap]).run Tryz.prog w = .ok (.slice ao' (xs.length + n) cap') w' ∧ insOwn w' B (.slice ao' (xs.length + n) cap') (xs ++ l) ∧ Touch w w' v.ownBlock.toList ∧ ((Value.slice ao' (xs.length + n) cap').ownBlock = v.ownBlock ∨ (Value.slice ao' (xs.length + n) cap').ownBlock = some w.heap.size) := by
  obtain ⟨i0, hi, hz0, hz1, hz2⟩ := info_parts' Tryz.info_ins
  have hlen := hr.len
  subst hlen
  obtain ⟨v', w', h1, h2, h3, h4⟩ := run_app (P := Tryz.prog) (cells := InsD.cells) 25 ty 78 i0 _ 3 24 Tryz.underlying25 hi hz0 hz1 hz2 rfl (by decide) (fun _ => rfl) ins_one h (l := l) hr.row (by omega) (by decide) hB
  have h2' : insOwn w' B v' (xs ++ l) := by
    show w'.ownsRow _ _ _ _ _ _
    rw [List.length_append, List.flatMap_append]
    exact h2
  obtain ⟨ao', cap', rfl⟩ := owns_slice h2
  exact ⟨ao', cap', w', h1, h2', (Touch.refl w _).grown h3 (fun k hk => .inl (by simp [hk])), h4⟩

/-- What joined comes to. -/
def JnP (w : World) (B : Nat) (v0 : Value) (r : Option (List InsD)) (e : Ending) (w' : World) : Prop :=
  (r = none ∧ e = .returned (.tuple #[.slice none 0 0, .int .i64 4]) ∧ Touch w w' v0.ownBlock.toList) ∨
  (∃ P a c, r = some P ∧ e = .returned (.tuple #[.slice a P.length c, .int .i64 0]) ∧ insOwn w' B (.slice a P.length c) P ∧ (∀ i ∈ P, i.Wf) ∧ P.length ≤ 64 ∧ Touch w w' v0.ownBlock.toList ∧ (∀ x, (Value.slice a P.length c).ownBlock = some x → v0.ownBlock = some x ∨ w.heap.size ≤ x))

set_option maxRecDepth 100000 in
set_option maxHeartbeats 2000000 in
theorem joinedC_any {w : World} {B lo g cap c0 n0 N : Nat} {a0 : Option Addr} {xs0 : List InsD} {fs : List (Int → Int × List InsD)} {v0 : Value} (hv0 : v0 = .slice a0 n0 c0) (hn0 : n0 = xs0.length) (hN : N = fs.length) (hown : insOwn w B v0 xs0) (hwf : ∀ i ∈ xs0, i.Wf) (hx : xs0.length ≤ 64) (hB : B ≤ w.heap.size) (hv : ∀ x, v0.ownBlock = some x → x ≠ 1 ∧ x < lo) (hp : PcsAt lo w.heap.size w g fs) (hfs : fs.length ≤ 100) :
    Calls Tryz.prog 51 #[.slice a0 n0 c0, .slice (some ⟨g, 0, none⟩) N cap] w (JnP w B v0 (jnP fs xs0)) := by
  obtain ⟨R, hR⟩ : ∃ r, r = jnP fs xs0 := ⟨_, rfl⟩
  rw [← hR]
  have HN : Hid _ := hN
  have HP : Hid _ := hp
  have HOWN : Hid _ := hown
  have HWF : Hid _ := hwf
  have HV : Hid _ := hv
  have HV0 : Hid _ := hv0
  have HR : Hid _ := hR
  have HN0 : Hid _ := hn0
  rw [hN.symm] at hfs
  clear hown hwf hv hp hN hR hv0
  go_enter Tryz.func51, Tryz.ntmps51
  go_wp2_with fail
  go_loopw [0, 12] (fun v i wr => ∃ (k : Nat) (xs : List InsD) (a : Option Addr) (c : Nat), i = .int .i64 k ∧ k ≤ N ∧ v = .slice a xs.length c ∧ R = jnP (fs.drop k) xs ∧ insOwn wr B (.slice a xs.length c) xs ∧ (∀ i ∈ xs, i.Wf) ∧ xs.length ≤ 64 ∧ Touch w wr v0.ownBlock.toList ∧ (∀ x, (Value.slice a xs.length c).ownBlock = some x → v0.ownBlock = some x ∨ w.heap.size ≤ x)) (fun _ i _ => N - (intOf i).toNat)
  case atStart =>
    refine ⟨0, xs0, a0, c0, rfl, Nat.zero_le _, by rw [HN0.out], by rw [HR.out]; rfl, by rw [← HN0.out, ← HV0.out]; exact HOWN.out, HWF.out, by omega, Touch.refl _ _, fun x h => .inl (by rw [HV0.out, HN0.out]; exact h)⟩
  case round =>
    obtain ⟨k, xs, a, c, rfl, hk, rfl, hR, hown, hwf, hle, hT, hob⟩ := hrel
    have hsz := hT.size
    by_cases hlt : k < N
    · have h1 : (k : Int) < N := by omega
      have h0 : (0 : Int) ≤ k := by omega
      have hkl : k < fs.length := by rw [← HN.out]; exact hlt
      obtain ⟨hlo, hhi, hall⟩ := HP.out
      obtain ⟨pv, hc, fn, caps, rfl, hen, hcall⟩ := hall k hkl
      have hS0 : ∀ x ∈ v0.ownBlock.toList, x ≠ 1 ∧ (x < lo ∨ w.heap.size ≤ x) := by
        intro x hx
        cases hq : v0.ownBlock with
        | none => rw [hq] at hx; simp at hx
        | some y => rw [hq] at hx; simp at hx; subst hx; exact ⟨(HV.out _ hq).1, .inl (HV.out _ hq).2⟩
      have hcell : wr.cell? ⟨g, k, none⟩ = some (.func (.func fn) #[] caps) := (hT.cell (p := ⟨g, k, none⟩) hhi (fun e => by have := (hS0 _ e).2; simp only at this; omega)).trans hc
      obtain ⟨hL, hpc⟩ := hcall wr v0.ownBlock.toList hT hS0 (xs.length : Nat) (by omega) (by omega)
      have hdrop : fs.drop k = fs[k] :: fs.drop (k + 1) := List.drop_eq_getElem_cons hkl
      rw [hdrop] at hR
      generalize fs[k] = f at *
      simp only [jnP] at hR
      generalize hfx : f ((xs.length : Nat) : Int) = fr at *
      obtain ⟨er, L⟩ := fr
      simp only at hR hpc hL
      have HEN : Hid _ := hen
      have HPC : HidC _ _ _ _ _ := ⟨hpc⟩
      have HRR : Hid _ := hR
      have HOW : Hid _ := hown
      have HWX : Hid _ := hwf
      have HT : Hid _ := hT
      have HOB : Hid _ := hob
      clear hall hcall hc hpc hR hown hwf hT hob hdrop hfx hS0 hlo
      generalize hxl : xs.length = n at *
      go_wp2_with fail
      refine HPC.out.mono ?_
      rintro e w1 (⟨he, ao, cp, rfl, hi, t1⟩ | ⟨he, rfl, t1⟩)
      · have hw : IntKind.i64.wrap ((n : Int) + (L.length : Nat)) = (n : Int) + (L.length : Nat) := by rw [IntKind.wrap_i64]; omega
        by_cases h64 : n + L.length > 64
        · have HRN : Hid (R = none) := by show _ = _; rw [HRR.out, if_pos (.inr h64)]
          have HT2 : Hid (Touch w w1 v0.ownBlock.toList) := HT.out.trans t1 (by simp)
          have hg : (64 : Int) < (n : Int) + (L.length : Nat) := by omega
          subst he
          clear hi t1 h64 HRR hL HPC
          generalize L.length = m at *
          go_wp2
          exact bodyPost_ret (v := .tuple #[.slice none 0 0, .int .i64 4]) (by simp [results, Tryz.results51, go_sem]) rfl (.inl ⟨HRN.out, rfl, HT2.out⟩)
        · have HRR2 : Hid (R = jnP (List.drop (k + 1) fs) (xs ++ L)) := by show _ = _; rw [HRR.out, if_neg (by omega)]
          have hg : ¬ (64 : Int) < (n : Int) + (L.length : Nat) := by omega
          have how1 : insOwn w1 B (.slice a n c) xs := by
            show w1.ownsRow _ _ _ _ xs.length _
            rw [hxl]
            exact ownsRow_touch HOW.out t1 (by simp)
          have hsz1 := t1.size
          obtain ⟨a3, c3, w3, r3, o3, t3, b3⟩ := ins_app2 (v := .slice a n c) how1 (by omega) (by omega) hi (by omega) 25
          rw [hxl] at r3 o3 b3
          have hsz3 := t3.size
          have HO3 : Hid (insOwn w3 B (.slice a3 (n + L.length) c3) (xs ++ L)) := o3
          have HW3 : Hid (∀ i ∈ xs ++ L, i.Wf) := fun i hi' => (List.mem_append.1 hi').elim (HWX.out i) (hi.wf i)
          have hob1 : ∀ x ∈ (Value.slice a n c).ownBlock.toList, x ∈ v0.ownBlock.toList ∨ w.heap.size ≤ x := by
            intro x hx
            rcases HOB.out x (by simpa using hx) with h | h
            · exact .inl (by simp [h])
            · exact .inr h
          have HT3 : Hid (Touch w w3 v0.ownBlock.toList) := (HT.out.trans t1 (by simp)).trans t3 hob1
          have HOB3 : Hid (∀ x, (Value.slice a3 (n + L.length) c3).ownBlock = some x → v0.ownBlock = some x ∨ w.heap.size ≤ x) := by
            intro x hx
            rcases b3 with h | h
            · rw [h] at hx; exact HOB.out x hx
            · rw [h] at hx; cases hx; exact .inr (by omega)
          have hlen : (xs ++ L).length = n + L.length := by rw [List.length_append, hxl]
          subst he
          clear hi t1 HRR hL HPC how1 o3 t3 b3 hob1
          generalize L.length = m at *
          go_wp2_with (at_builtin; refine Lib.wpList_append_run _ rfl (.tmp 33) (.tmp 34) _ _ rfl _ _ rfl rfl _ _ r3 ?_)
          go_roundw
          case rel => exact ⟨k + 1, xs ++ L, a3, c3, by go_num, by omega, by rw [hlen], HRR2.out, by rw [hlen]; exact HO3.out, HW3.out, by omega, HT3.out, by rw [hlen]; exact HOB3.out⟩
          case measure => simp [intOf]; omega
      · have HRN : Hid (R = none) := by show _ = _; rw [HRR.out, if_pos (.inl he)]
        have HT2 : Hid (Touch w w1 v0.ownBlock.toList) := HT.out.trans t1 (by simp)
        clear t1 HRR hL HPC
        go_wp2
        exact bodyPost_ret (v := .tuple #[.slice none 0 0, .int .i64 4]) (by simp [results, Tryz.results51, go_sem]) rfl (.inl ⟨HRN.out, rfl, HT2.out⟩)
    · have h1 : ¬ (k : Int) < N := by omega
      have hkN : k = fs.length := by rw [← HN.out]; omega
      have HRR : Hid (R = some xs) := by show _ = _; rw [hR, hkN, List.drop_length]; rfl
      have HO : Hid _ := hown
      have HWX : Hid _ := hwf
      have HT : Hid _ := hT
      have HOB : Hid _ := hob
      clear hR hown hwf hT hob
      generalize hxl : xs.length = n at *
      have HO2 : Hid (insOwn wr B (.slice a n c) xs) := by
        show wr.ownsRow _ _ _ _ xs.length _
        rw [hxl]
        exact HO.out
      clear HO
      go_wp2
      refine bodyPost_ret (v := .tuple #[.slice a n c, .int .i64 0]) (by simp [results, Tryz.results51, go_sem]) rfl (.inr ⟨xs, a, c, HRR.out, by rw [hxl], by rw [hxl]; exact HO2.out, HWX.out, by omega, HT.out, by rw [hxl]; exact HOB.out⟩)

end Go.Proofs.YtcbkafbchpjnoaaGreatDoor
/-
  package object: New and Takes BY THEIR CONTRACTS; package calls: Tvars, between, mayHave; the document's New, Takes, Tvars, Fits.
-/
namespace Go.Proofs.YtcbkafbchpjnoaaGreatDoor
set_option linter.unusedVariables false
set_option linter.unusedSimpArgs false
open Go.RowKit
attribute [local go_sem] Oper.semAt_some

/-- The type of a kind's thing. -/
def thT (k : Int) : Nat := if k = 1 then 142 else if k = 2 then 145 else if k = 3 then 148 else 151
def ThP (w : World) (k n : Int) (e : Ending) (w' : World) : Prop := (okO k n = true ∧ ∃ g, e = .returned (.iface (thT k) (.pointer (some ⟨g, 0, none⟩))) ∧ Touch w w' []) ∨ (okO k n = false ∧ e = .returned .nilIface ∧ Touch w w' [])

/-- How the numbers lie: which of these they are. -/
theorem size_ways (k n : Int) : (k = 1 ∧ n = 0) ∨ (k = 1 ∧ n ≠ 0) ∨ (k = 2 ∧ n < 0) ∨ (k = 2 ∧ 0 ≤ n ∧ n ≤ 9) ∨ (k = 2 ∧ 9 < n) ∨ (k = 3 ∧ n < 1) ∨ (k = 3 ∧ 1 ≤ n ∧ n ≤ 4) ∨ (k = 3 ∧ 4 < n) ∨ (k = 4 ∧ n < 1) ∨ (k = 4 ∧ 1 ≤ n ∧ n ≤ 4) ∨ (k = 4 ∧ 4 < n) ∨ (k ≠ 1 ∧ k ≠ 2 ∧ k ≠ 3 ∧ k ≠ 4) := by omega

set_option maxRecDepth 100000 in
theorem thing_any (k n : Int) (w : World) : Calls Tryz.prog 48 #[.int .u8 k, .int .i64 n] w (ThP w k n) := by
  rcases size_ways k n with ⟨rfl, rfl⟩ | ⟨rfl, h1⟩ | ⟨rfl, h1⟩ | ⟨rfl, h1, h2⟩ | ⟨rfl, h1⟩ | ⟨rfl, h1⟩ | ⟨rfl, h1, h2⟩ | ⟨rfl, h1⟩ | ⟨rfl, h1⟩ | ⟨rfl, h1, h2⟩ | ⟨rfl, h1⟩ | ⟨h1, h2, h3, h4⟩
  all_goals
    go_enter Tryz.func48, Tryz.ntmps48
    try have q1 : decide (0 ≤ n) = true := decide_eq_true (by omega)
    try have q1 : decide (0 ≤ n) = false := decide_eq_false (by omega)
    try have q2 : decide (n ≤ 9) = true := decide_eq_true (by omega)
    try have q2 : decide (n ≤ 9) = false := decide_eq_false (by omega)
    try have q3 : decide (1 ≤ n) = true := decide_eq_true (by omega)
    try have q3 : decide (1 ≤ n) = false := decide_eq_false (by omega)
    try have q4 : decide (n ≤ 4) = true := decide_eq_true (by omega)
    try have q4 : decide (n ≤ 4) = false := decide_eq_false (by omega)
    go_wp2
    first
    | (refine bodyPost_ret (v := .nilIface) (by simp [results, Tryz.results48, go_sem]) rfl (.inr ⟨?_, rfl, ?_⟩)
       · unfold okO; simp_all <;> omega
       · first | exact Touch.refl _ _ | exact (Touch.refl _ _).alloc _)
    | (go_ret
       refine .inl ⟨?_, w.heap.size, rfl, (Touch.refl _ _).alloc _⟩
       unfold okO; simp_all <;> omega)

/-- What an object's thing is. -/
def ThAt (w : World) (b : Nat) (k : Int) : Prop := b < w.heap.size ∧ ∃ g : Nat, w.cell? ⟨b, 0, none⟩ = some (.iface (thT k) (.pointer (some ⟨g, 0, none⟩)))
theorem ThAt.touch {w w' : World} {b : Nat} {k : Int} {S : List Nat} (h : ThAt w b k) (t : Touch w w' S) (hS : b ∉ S) : ThAt w' b k := by
  obtain ⟨hb, g, hc⟩ := h
  exact ⟨Nat.lt_of_lt_of_le hb t.size, g, (t.cell (p := ⟨b, 0, none⟩) hb hS).trans hc⟩
def OnP (w : World) (k n : Int) (e : Ending) (w' : World) : Prop := (okO k n = true ∧ ∃ b, e = .returned (.pointer (some ⟨b, 0, none⟩)) ∧ ThAt w' b k ∧ w.heap.size ≤ b ∧ Touch w w' []) ∨ (okO k n = false ∧ e = .returned (.pointer none) ∧ Touch w w' [])

set_option maxRecDepth 100000 in
theorem onew_any (k n : Int) (w : World) : Calls Tryz.prog 27 #[.int .u8 k, .int .i64 n] w (OnP w k n) := by
  have HC : HidC _ _ _ _ _ := ⟨thing_any k n w⟩
  go_enter Tryz.func27, Tryz.ntmps27
  go_wp2_with fail
  refine HC.out.mono ?_
  clear HC
  rintro e w1 (⟨h, g, rfl, t⟩ | ⟨h, rfl, t⟩)
  · have HA : Hid (ThAt (w1.alloc (.cells #[.iface (thT k) (.pointer (some ⟨g, 0, none⟩))] 101)) w1.heap.size k) := ⟨by simp, g, by unfold World.cell?; rw [heap_alloc_new]; rfl⟩
    have HT : Hid (Touch w (w1.alloc (.cells #[.iface (thT k) (.pointer (some ⟨g, 0, none⟩))] 101)) []) := t.alloc _
    have hs := t.size
    have HO : Hid _ := h
    clear t h
    generalize thT k = T at *
    go_wp2
    go_ret
    exact .inl ⟨HO.out, w1.heap.size, rfl, HA.out, hs, HT.out⟩
  · have HT : Hid _ := t
    have HO : Hid _ := h
    clear t h
    go_wp2
    exact bodyPost_ret (v := .pointer none) (by simp [results, Tryz.results27, go_sem]) rfl (.inr ⟨HO.out, rfl, HT.out⟩)

theorem takes_mutex (v : Value) (c : Int) (w : World) : Calls Tryz.prog 204 #[v, .int .u8 c] w fun e w' => e = .returned (.bool (decide (c = 1) || decide (c = 2))) ∧ w = w' := by
  by_cases h1 : c = 1 <;> by_cases h2 : c = 2
  all_goals
    go_enter Tryz.func204, Tryz.ntmps204
    go_wp2
    go_ret
    refine ⟨?_, rfl⟩
    congr 2
    try simp_all
theorem takes_sem (v : Value) (c : Int) (w : World) : Calls Tryz.prog 208 #[v, .int .u8 c] w fun e w' => e = .returned (.bool (decide (c = 3) || decide (c = 4))) ∧ w = w' := by
  by_cases h1 : c = 3 <;> by_cases h2 : c = 4
  all_goals
    go_enter Tryz.func208, Tryz.ntmps208
    go_wp2
    go_ret
    refine ⟨?_, rfl⟩
    congr 2
    try simp_all
theorem takes_queue (v : Value) (c : Int) (w : World) : Calls Tryz.prog 211 #[v, .int .u8 c] w fun e w' => e = .returned (.bool (decide (c = 5) || decide (c = 6))) ∧ w = w' := by
  by_cases h1 : c = 5 <;> by_cases h2 : c = 6
  all_goals
    go_enter Tryz.func211, Tryz.ntmps211
    go_wp2
    go_ret
    refine ⟨?_, rfl⟩
    congr 2
    try simp_all
theorem takes_bar (v : Value) (c : Int) (w : World) : Calls Tryz.prog 215 #[v, .int .u8 c] w fun e w' => e = .returned (.bool (decide (c = 7) || decide (c = 8))) ∧ w = w' := by
  by_cases h1 : c = 7 <;> by_cases h2 : c = 8
  all_goals
    go_enter Tryz.func215, Tryz.ntmps215
    go_wp2
    go_ret
    refine ⟨?_, rfl⟩
    congr 2
    try simp_all

set_option maxRecDepth 100000 in
theorem otakes_any {w : World} {b : Nat} {k : Int} (hk : k = 1 ∨ k = 2 ∨ k = 3 ∨ k = 4) (h : ThAt w b k) (c : Int) :
    Calls Tryz.prog 49 #[.pointer (some ⟨b, 0, none⟩), .int .u8 c] w fun e w' => e = .returned (.bool (tksP k c)) ∧ w = w' := by
  obtain ⟨hb, g, hc⟩ := h
  rcases hk with rfl | rfl | rfl | rfl
  · have hm : ∀ w : World, (method 98 142 (.pointer (some ⟨g, 0, none⟩)) "rowlock/object.takes").run Tryz.prog w = .ok (204, .pointer (some ⟨g, 0, none⟩)) w := fun _ => by kernel_rfl
    have hc : w.cell? ⟨b, 0, none⟩ = some (.iface 142 (.pointer (some ⟨g, 0, none⟩))) := hc
    go_enter Tryz.func49, Tryz.ntmps49
    go_wp2_with fail
    refine (takes_mutex _ c _).mono ?_
    rintro e w1 ⟨rfl, rfl⟩
    go_wp2
    go_ret
    exact ⟨rfl, rfl⟩
  · have hm : ∀ w : World, (method 98 145 (.pointer (some ⟨g, 0, none⟩)) "rowlock/object.takes").run Tryz.prog w = .ok (208, .pointer (some ⟨g, 0, none⟩)) w := fun _ => by kernel_rfl
    have hc : w.cell? ⟨b, 0, none⟩ = some (.iface 145 (.pointer (some ⟨g, 0, none⟩))) := hc
    go_enter Tryz.func49, Tryz.ntmps49
    go_wp2_with fail
    refine (takes_sem _ c _).mono ?_
    rintro e w1 ⟨rfl, rfl⟩
    go_wp2
    go_ret
    exact ⟨rfl, rfl⟩
  · have hm : ∀ w : World, (method 98 148 (.pointer (some ⟨g, 0, none⟩)) "rowlock/object.takes").run Tryz.prog w = .ok (211, .pointer (some ⟨g, 0, none⟩)) w := fun _ => by kernel_rfl
    have hc : w.cell? ⟨b, 0, none⟩ = some (.iface 148 (.pointer (some ⟨g, 0, none⟩))) := hc
    go_enter Tryz.func49, Tryz.ntmps49
    go_wp2_with fail
    refine (takes_queue _ c _).mono ?_
    rintro e w1 ⟨rfl, rfl⟩
    go_wp2
    go_ret
    exact ⟨rfl, rfl⟩
  · have hm : ∀ w : World, (method 98 151 (.pointer (some ⟨g, 0, none⟩)) "rowlock/object.takes").run Tryz.prog w = .ok (215, .pointer (some ⟨g, 0, none⟩)) w := fun _ => by kernel_rfl
    have hc : w.cell? ⟨b, 0, none⟩ = some (.iface 151 (.pointer (some ⟨g, 0, none⟩))) := hc
    go_enter Tryz.func49, Tryz.ntmps49
    go_wp2_with fail
    refine (takes_bar _ c _).mono ?_
    rintro e w1 ⟨rfl, rfl⟩
    go_wp2
    go_ret
    exact ⟨rfl, rfl⟩

theorem clbet_any (a b c : Int) (w : World) : Calls Tryz.prog 29 #[.int .i64 a, .int .i64 b, .int .i64 c] w fun e w' => e = .returned (.bool (decide (a ≤ b) && decide (b ≤ c))) ∧ w = w' := by
  by_cases h1 : a ≤ b <;> by_cases h2 : b ≤ c
  all_goals
    go_enter Tryz.func29, Tryz.ntmps29
    go_wp2
    go_ret
    refine ⟨?_, rfl⟩
    congr 2
    simp_all

set_option maxRecDepth 100000 in
theorem may_any (k v : Int) (hv : Wf64 v) (w : World) : Calls Tryz.prog 50 #[.int .u8 k, .int .u64 v] w fun e w' => e = .returned (.bool (fitC ⟨k, 0, v⟩)) ∧ Touch w w' [] := by
  unfold fitC
  simp only
  by_cases h : k = 5 ∨ k = 8
  · rw [if_pos h]
    have HC : HidC _ _ _ _ _ := ⟨right_any v w⟩
    rcases h with rfl | rfl
    all_goals
      go_enter Tryz.func50, Tryz.ntmps50
      go_wp2_with fail
      refine HC.out.mono ?_
      clear HC
      rintro e w1 ⟨rfl, t⟩
      subst t
      go_wp2
      go_ret
      exact ⟨rfl, Touch.refl _ _⟩
  · rw [if_neg h]
    have h5 : k ≠ 5 := fun e => h (.inl e)
    have h8 : k ≠ 8 := fun e => h (.inr e)
    clear h
    have k5 : (k == 5) = false := by simpa using h5
    have k8 : (k == 8) = false := by simpa using h8
    rcases Int.lt_trichotomy v 0 with hz | hz | hz
    · have hz2 : (v == 0) = false := by simp; omega
      have hz3 : decide (v = 0) = false := decide_eq_false (by omega)
      clear hz hv
      go_enter Tryz.func50, Tryz.ntmps50
      go_wp2
      go_ret
      exact ⟨by rw [hz3]; rfl, Touch.refl _ _⟩
    · subst hz
      go_enter Tryz.func50, Tryz.ntmps50
      go_wp2
      go_ret
      exact ⟨rfl, Touch.refl _ _⟩
    · have hz2 : (v == 0) = false := by simp; omega
      have hz3 : decide (v = 0) = false := decide_eq_false (by omega)
      clear hz hv
      go_enter Tryz.func50, Tryz.ntmps50
      go_wp2
      go_ret
      exact ⟨by rw [hz3]; rfl, Touch.refl _ _⟩

end Go.Proofs.YtcbkafbchpjnoaaGreatDoor
/-
  package calls: row, ahead, block, answer BY THEIR CONTRACTS: pieces.
-/
namespace Go.Proofs.YtcbkafbchpjnoaaGreatDoor
set_option linter.unusedVariables false
set_option linter.unusedSimpArgs false
open Go.RowKit
attribute [local go_sem] Oper.semAt_some

theorem makeFunc_run (fn : Fn) (first cap : Array Value) (w : World) : (Instr.makeFunc fn first cap).run Tryz.prog w = .ok (.func fn first cap) w := rfl

/-- A call in a block of its own. -/
structure BoxK (W : World) (p : Nat) (o a v : Int) : Prop where
  st : W.heap[p]? = some (.cells #[.int .u8 o, .int .i64 a, .int .u64 v] 52 (0, 0))
theorem BoxK.touch {W W' : World} {p : Nat} {o a v : Int} {S : List Nat} (h : BoxK W p o a v) (t : Touch W W' S) (hS : p ∉ S) : BoxK W' p o a v := ⟨(t.block p (lt_of_heap h.st) hS).trans h.st⟩
theorem BoxK.cells {W : World} {p : Nat} {o a v : Int} (h : BoxK W p o a v) : W.cell? ⟨p, 0, none⟩ = some (.int .u8 o) ∧ W.cell? ⟨p, 1, none⟩ = some (.int .i64 a) ∧ W.cell? ⟨p, 2, none⟩ = some (.int .u64 v) :=
  ⟨by unfold World.cell?; rw [h.st]; rfl, by unfold World.cell?; rw [h.st]; rfl, by unfold World.cell?; rw [h.st]; rfl⟩
theorem BoxK.new (w : World) (o a v : Int) : BoxK (w.alloc (.cells #[.int .u8 o, .int .i64 a, .int .u64 v] 52)) w.heap.size o a v := ⟨heap_alloc_new w _⟩
theorem ins_nil (w : World) : InsIn w none 0 0 [] := ⟨rfl, ⟨none, 0, rfl, fun h => absurd rfl h⟩, Nat.le_refl _, by decide, fun i hi => by simp at hi⟩

/-- What a piece of a row answers. -/
theorem row1_any {p : Nat} {ao : Option Addr} {n cap : Nat} {L : List InsD} (W : World) (hc : W.cell? ⟨p, 0, none⟩ = some (.slice ao n cap)) (hi : InsIn W ao n cap L) (a : Int) :
    Calls Tryz.prog 95 #[.int .i64 a, .pointer (some ⟨p, 0, none⟩)] W (LkP W 0 L) := by
  have HI : Hid _ := hi
  have HL : Hid _ := hi.len
  clear hi
  go_enter Tryz.func95, Tryz.ntmps95
  go_wp2
  refine bodyPost_ret (v := .tuple #[.slice ao n cap, .int .i64 0]) (by simp [results, Tryz.results95, go_sem]) rfl (.inl ⟨rfl, ao, cap, by rw [← HL.out], by rw [← HL.out]; exact HI.out, Touch.refl _ _⟩)

/-- A row's piece. -/
def rowF (L : List InsD) : Int → Int × List InsD := fun _ => (0, L)
theorem InsIn.other {w w' : World} {ao : Option Addr} {n cap : Nat} {l : List InsD} {S : List Nat} (h : InsIn w ao n cap l) (t : Touch w w' S) (hS : ∀ x, (Value.slice ao n cap).ownBlock = some x → x ∉ S) : InsIn w' ao n cap l := by
  obtain ⟨h1, h2, h3, h4, h5⟩ := h
  subst h1
  exact ⟨rfl, SRow.keepB h2 t (fun _ => hS), h3, h4, h5⟩

set_option maxRecDepth 100000 in
theorem row_any {w : World} {ao : Option Addr} {n cap : Nat} {L : List InsD} (hi : InsIn w ao n cap L) (hL : L.length ≤ 100) {lo : Nat} (hlo : ∀ x, (Value.slice ao n cap).ownBlock = some x → lo ≤ x ∧ x < w.heap.size) (hl : lo ≤ w.heap.size) :
    Calls Tryz.prog 55 #[.slice ao n cap] w fun e w' => ∃ v, e = .returned v ∧ Touch w w' [] ∧ PcOk lo w'.heap.size w' v (rowF L) := by
  have HW : Hid (∀ hi', w.heap.size + 1 ≤ hi' → PcOk lo hi' (w.alloc (.cells #[.slice ao n cap] 25)) (.func (.func 95) #[] #[.pointer (some ⟨w.heap.size, 0, none⟩)]) (rowF L)) := by
    intro hh hhl
    refine ⟨95, #[.pointer (some ⟨w.heap.size, 0, none⟩)], rfl, fun a W => enter_of Tryz.func95 (by kernel_rfl) (by kernel_rfl) W, ?_⟩
    intro W S t hS a ha0 ha1
    refine ⟨hL, ?_⟩
    have hc : (w.alloc (.cells #[.slice ao n cap] 25)).cell? ⟨w.heap.size, 0, none⟩ = some (.slice ao n cap) := by unfold World.cell?; rw [heap_alloc_new]; rfl
    have hc' : W.cell? ⟨w.heap.size, 0, none⟩ = some (.slice ao n cap) := (t.cell (p := ⟨w.heap.size, 0, none⟩) (by simp) (fun e => by have := (hS _ e).2; simp only at this; omega)).trans hc
    have hi1 : InsIn (w.alloc (.cells #[.slice ao n cap] 25)) ao n cap L := hi.keep ((Touch.refl w []).alloc _)
    have hi2 := hi1.other t (fun x hx e => by have := (hS _ e).2; have := hlo x hx; omega)
    exact row1_any W hc' hi2 a
  have HT : Hid (Touch w (w.alloc (.cells #[.slice ao n cap] 25)) []) := (Touch.refl w []).alloc _
  clear hi hlo
  have hmf := makeFunc_run
  go_enter Tryz.func55, Tryz.ntmps55
  go_wp2
  go_ret
  exact ⟨_, rfl, HT.out, HW.out _ (by simp)⟩

theorem PcOk.later {lo hi hi2 : Nat} {w w2 : World} {v : Value} {f : Int → Int × List InsD} (h : PcOk lo hi w v f) (t : Touch w w2 []) (hh : hi ≤ hi2) : PcOk lo hi2 w2 v f := by
  obtain ⟨fn, caps, hv, hen, hc⟩ := h
  refine ⟨fn, caps, hv, hen, fun W S t2 hS a a0 a1 => hc W S ((t.mono (by simp)).trans t2 (fun x hx => .inl hx)) (fun x hx => by have := hS x hx; exact ⟨this.1, by omega⟩) a a0 a1⟩

set_option maxRecDepth 100000 in
theorem ahead_any {w : World} (k u v : Int) (hv : Wf64 v) {lo : Nat} (hl : lo ≤ w.heap.size) :
    Calls Tryz.prog 52 #[.agg #[.int .u8 k, .int .i64 u, .int .u64 v]] w fun e w' => ∃ p, e = .returned p ∧ Touch w w' [] ∧ PcOk lo w'.heap.size w' p (rowF (ahdC ⟨k, u, v⟩)) := by
  have hb : BoxK (w.alloc (.cells #[.int .u8 k, .int .i64 u, .int .u64 v] 52)) w.heap.size k u v := BoxK.new w k u v
  obtain ⟨x0, x1, x2⟩ := hb.cells
  have HT : Hid (Touch w (w.alloc (.cells #[.int .u8 k, .int .i64 u, .int .u64 v] 52)) []) := (Touch.refl w []).alloc _
  have hs : (w.alloc (.cells #[.int .u8 k, .int .i64 u, .int .u64 v] 52)).heap.size = w.heap.size + 1 := by simp
  clear hb
  by_cases h8 : k = 8
  · subst h8
    have e : ahdC ⟨8, u, v⟩ = [⟨1, 0, v⟩, insO 3 0] := by unfold ahdC; simp
    rw [e]
    have hwf : ∀ i ∈ [(⟨1, 0, v⟩ : InsD), insO 3 0], i.Wf := by
      intro i hi
      simp only [List.mem_cons, List.not_mem_nil, or_false] at hi
      rcases hi with rfl | rfl
      · exact ⟨⟨by show (0 : Int) ≤ 1; omega, by show (1 : Int) ≤ 255; omega⟩, ⟨by show (-9223372036854775808 : Int) ≤ 0; omega, by show (0 : Int) ≤ 9223372036854775807; omega⟩, hv⟩
      · exact insO_wf (by omega) (by omega) (by omega) (by omega)
    have HR : Hid (∀ W : World, lo ≤ W.heap.size → HidC Tryz.prog 55 #[.slice (some ⟨W.heap.size, 0, none⟩) 2 2] (W.alloc (.cells #[.int .u8 1, .int .i64 0, .int .u64 v, .int .u8 3, .int .i64 0, .int .u64 0] 78)) fun e w' => ∃ v', e = .returned v' ∧ Touch (W.alloc (.cells #[.int .u8 1, .int .i64 0, .int .u64 v, .int .u8 3, .int .i64 0, .int .u64 0] 78)) w' [] ∧ PcOk lo w'.heap.size w' v' (rowF [⟨1, 0, v⟩, insO 3 0])) := fun W hW => ⟨row_any (ins_lit W [⟨1, 0, v⟩, insO 3 0] _ rfl hwf (by simp)) (by simp) (fun x hx => by simp [Value.ownBlock] at hx ⊢; omega) (by simp; omega)⟩
    clear hwf e
    go_enter Tryz.func52, Tryz.ntmps52
    go_wp2_with fail
    have hr := (HR.out (w.alloc (.cells #[.int .u8 8, .int .i64 u, .int .u64 v] 52)) (by omega)).out
    rw [hs] at hr
    refine hr.mono ?_
    rintro e w1 ⟨p, rfl, t, hp⟩
    have HP : Hid _ := hp
    have HT2 : Hid _ := (HT.out.alloc _).trans t (by simp)
    clear hp t
    go_wp2
    go_ret
    exact ⟨p, rfl, HT2.out, HP.out⟩
  · have e : ahdC ⟨k, u, v⟩ = [] := by unfold ahdC; simp [h8]
    rw [e]
    have k8 : (k == 8) = false := by simpa using h8
    have HR : Hid (∀ W : World, lo ≤ W.heap.size → HidC Tryz.prog 55 #[.slice none 0 0] W fun e w' => ∃ v', e = .returned v' ∧ Touch W w' [] ∧ PcOk lo w'.heap.size w' v' (rowF [])) := fun W hW => ⟨row_any (ins_nil W) (by simp) (fun x hx => by simp [Value.ownBlock] at hx) hW⟩
    clear e
    go_enter Tryz.func52, Tryz.ntmps52
    go_wp2_with fail
    refine (HR.out _ (by omega)).out.mono ?_
    rintro e w1 ⟨p, rfl, t, hp⟩
    have HP : Hid _ := hp
    have HT2 : Hid _ := HT.out.trans t (by simp)
    clear hp t
    go_wp2
    go_ret
    exact ⟨p, rfl, HT2.out, HP.out⟩

end Go.Proofs.YtcbkafbchpjnoaaGreatDoor
/-
  package calls: a call's block BY ITS CONTRACT. Written by mkcl.py.
-/
namespace Go.Proofs.YtcbkafbchpjnoaaGreatDoor
set_option linter.unusedVariables false
set_option linter.unusedSimpArgs false
open Go.RowKit
attribute [local go_sem] Oper.semAt_some

/-- What a call may be, for its block. -/
structure CkOk (n t : Int) (c : CaD) : Prop where
  hk : 1 ≤ c.k ∧ c.k ≤ 8
  ht : 0 ≤ t ∧ t ≤ 11
  hu : c.k ≤ 2 → 0 ≤ c.u ∧ c.u ≤ 3
  hq : c.k = 5 ∨ c.k = 6 → 1 ≤ n ∧ n ≤ 4 ∧ t ≤ 10 - n
  hb : c.k = 7 → 1 ≤ n ∧ n ≤ 4 ∧ t ≤ 10
  hl : c.k = 8 → t ≤ 10
  hv : Wf64 c.v
  hr : c.k = 5 → rightB c.v = true
def blkCE (a : Int) (k : Int) : Int := if a + (lenC k : Nat) > 64 then 4 else 0

theorem blkE_1 (a : Int) (ha : 0 ≤ a ∧ a ≤ 64) (n t u v : Int) (h : CkOk n t ⟨1, u, v⟩) : lockE a t u = blkCE a 1 := by
  have h1 := h.ht
  have h2 := h.hu (by show (1 : Int) ≤ 2; omega)
  try simp only at h2
  unfold blkCE
  unfold lockE mayP
  rw [if_pos (by simp only [Bool.and_eq_true, decide_eq_true_eq]; omega)]
  rfl
set_option maxRecDepth 100000 in
theorem blk1_1 {W : World} (hw : Wds W) (a : Int) (ha : 0 ≤ a ∧ a ≤ 64) (n t u v : Int) (h : CkOk n t ⟨1, u, v⟩) {p q r : Nat} (hp : BoxK W p 1 u v) (hq : W.cell? ⟨q, 0, none⟩ = some (.int .i64 t)) (hr : W.cell? ⟨r, 0, none⟩ = some (.int .i64 n)) :
    Calls Tryz.prog 86 #[.int .i64 a, .pointer (some ⟨p, 0, none⟩), .pointer (some ⟨q, 0, none⟩), .pointer (some ⟨r, 0, none⟩)] W (LkP W (blkCE a 1) (blkC n t a ⟨1, u, v⟩)) := by
  have hv := h.hv
  simp only at hv
  have hc := llock_any a t u W
  rw [blkE_1 a ha n t u v h] at hc
  have e : blkC n t a ⟨1, u, v⟩ = blkL a (lockB t u) := rfl
  rw [e]
  generalize blkL a (lockB t u) = RL at *
  generalize blkCE a 1 = E at *
  have HC : HidC _ _ _ _ _ := ⟨hc⟩
  obtain ⟨x0, x1, x2⟩ := hp.cells
  clear hc h hp hw hv ha e
  go_enter Tryz.func86, Tryz.ntmps86
  go_wp2_with fail
  refine HC.out.mono ?_
  clear HC
  rintro e w1 (⟨h1, ao, cp, rfl, hi, t1⟩ | ⟨h1, rfl, t1⟩)
  · have HI : Hid _ := hi
    have HT : Hid _ := t1
    have H1 : Hid _ := h1
    clear hi t1 h1
    skip
    go_wp2
    exact bodyPost_ret (v := .tuple #[.slice ao RL.length cp, .int .i64 0]) (by simp [results, Tryz.results86, go_sem]) rfl (.inl ⟨H1.out, ao, cp, rfl, HI.out, HT.out⟩)
  · have HT : Hid _ := t1
    have H1 : Hid _ := h1
    clear t1 h1
    go_wp2
    exact bodyPost_ret (v := .tuple #[.slice none 0 0, .int .i64 E]) (by simp [results, Tryz.results86, go_sem]) rfl (.inr ⟨H1.out, rfl, HT.out⟩)

theorem blkE_2 (a : Int) (ha : 0 ≤ a ∧ a ≤ 64) (n t u v : Int) (h : CkOk n t ⟨2, u, v⟩) : unlockE a t u = blkCE a 2 := by
  have h1 := h.ht
  have h2 := h.hu (by show (2 : Int) ≤ 2; omega)
  try simp only at h2
  unfold blkCE
  unfold unlockE mayP
  rw [if_pos (by simp only [Bool.and_eq_true, decide_eq_true_eq]; omega)]
  rfl
set_option maxRecDepth 100000 in
theorem blk1_2 {W : World} (hw : Wds W) (a : Int) (ha : 0 ≤ a ∧ a ≤ 64) (n t u v : Int) (h : CkOk n t ⟨2, u, v⟩) {p q r : Nat} (hp : BoxK W p 2 u v) (hq : W.cell? ⟨q, 0, none⟩ = some (.int .i64 t)) (hr : W.cell? ⟨r, 0, none⟩ = some (.int .i64 n)) :
    Calls Tryz.prog 86 #[.int .i64 a, .pointer (some ⟨p, 0, none⟩), .pointer (some ⟨q, 0, none⟩), .pointer (some ⟨r, 0, none⟩)] W (LkP W (blkCE a 2) (blkC n t a ⟨2, u, v⟩)) := by
  have hv := h.hv
  simp only at hv
  have hc := lunlock_any a t u W
  rw [blkE_2 a ha n t u v h] at hc
  have e : blkC n t a ⟨2, u, v⟩ = blkL a (unlockB t u) := rfl
  rw [e]
  generalize blkL a (unlockB t u) = RL at *
  generalize blkCE a 2 = E at *
  have HC : HidC _ _ _ _ _ := ⟨hc⟩
  obtain ⟨x0, x1, x2⟩ := hp.cells
  clear hc h hp hw hv ha e
  go_enter Tryz.func86, Tryz.ntmps86
  go_wp2_with fail
  refine HC.out.mono ?_
  clear HC
  rintro e w1 (⟨h1, ao, cp, rfl, hi, t1⟩ | ⟨h1, rfl, t1⟩)
  · have HI : Hid _ := hi
    have HT : Hid _ := t1
    have H1 : Hid _ := h1
    clear hi t1 h1
    skip
    go_wp2
    exact bodyPost_ret (v := .tuple #[.slice ao RL.length cp, .int .i64 0]) (by simp [results, Tryz.results86, go_sem]) rfl (.inl ⟨H1.out, ao, cp, rfl, HI.out, HT.out⟩)
  · have HT : Hid _ := t1
    have H1 : Hid _ := h1
    clear t1 h1
    go_wp2
    exact bodyPost_ret (v := .tuple #[.slice none 0 0, .int .i64 E]) (by simp [results, Tryz.results86, go_sem]) rfl (.inr ⟨H1.out, rfl, HT.out⟩)

theorem blkE_3 (a : Int) (ha : 0 ≤ a ∧ a ≤ 64) (n t u v : Int) (h : CkOk n t ⟨3, u, v⟩) : downE a t = blkCE a 3 := by
  have h1 := h.ht
  try simp only at h2
  unfold blkCE
  unfold downE mayP
  rw [if_pos (by simp only [Bool.and_eq_true, decide_eq_true_eq]; omega)]
  rfl
set_option maxRecDepth 100000 in
theorem blk1_3 {W : World} (hw : Wds W) (a : Int) (ha : 0 ≤ a ∧ a ≤ 64) (n t u v : Int) (h : CkOk n t ⟨3, u, v⟩) {p q r : Nat} (hp : BoxK W p 3 u v) (hq : W.cell? ⟨q, 0, none⟩ = some (.int .i64 t)) (hr : W.cell? ⟨r, 0, none⟩ = some (.int .i64 n)) :
    Calls Tryz.prog 86 #[.int .i64 a, .pointer (some ⟨p, 0, none⟩), .pointer (some ⟨q, 0, none⟩), .pointer (some ⟨r, 0, none⟩)] W (LkP W (blkCE a 3) (blkC n t a ⟨3, u, v⟩)) := by
  have hv := h.hv
  simp only at hv
  have hc := ldown_any a t W
  rw [blkE_3 a ha n t u v h] at hc
  have e : blkC n t a ⟨3, u, v⟩ = blkL a (downB t) := rfl
  rw [e]
  generalize blkL a (downB t) = RL at *
  generalize blkCE a 3 = E at *
  have HC : HidC _ _ _ _ _ := ⟨hc⟩
  obtain ⟨x0, x1, x2⟩ := hp.cells
  clear hc h hp hw hv ha e
  go_enter Tryz.func86, Tryz.ntmps86
  go_wp2_with fail
  refine HC.out.mono ?_
  clear HC
  rintro e w1 (⟨h1, ao, cp, rfl, hi, t1⟩ | ⟨h1, rfl, t1⟩)
  · have HI : Hid _ := hi
    have HT : Hid _ := t1
    have H1 : Hid _ := h1
    clear hi t1 h1
    skip
    go_wp2
    exact bodyPost_ret (v := .tuple #[.slice ao RL.length cp, .int .i64 0]) (by simp [results, Tryz.results86, go_sem]) rfl (.inl ⟨H1.out, ao, cp, rfl, HI.out, HT.out⟩)
  · have HT : Hid _ := t1
    have H1 : Hid _ := h1
    clear t1 h1
    go_wp2
    exact bodyPost_ret (v := .tuple #[.slice none 0 0, .int .i64 E]) (by simp [results, Tryz.results86, go_sem]) rfl (.inr ⟨H1.out, rfl, HT.out⟩)

theorem blkE_4 (a : Int) (ha : 0 ≤ a ∧ a ≤ 64) (n t u v : Int) (h : CkOk n t ⟨4, u, v⟩) : upE a t = blkCE a 4 := by
  have h1 := h.ht
  try simp only at h2
  unfold blkCE
  unfold upE mayP
  rw [if_pos (by simp only [Bool.and_eq_true, decide_eq_true_eq]; omega)]
  rfl
set_option maxRecDepth 100000 in
theorem blk1_4 {W : World} (hw : Wds W) (a : Int) (ha : 0 ≤ a ∧ a ≤ 64) (n t u v : Int) (h : CkOk n t ⟨4, u, v⟩) {p q r : Nat} (hp : BoxK W p 4 u v) (hq : W.cell? ⟨q, 0, none⟩ = some (.int .i64 t)) (hr : W.cell? ⟨r, 0, none⟩ = some (.int .i64 n)) :
    Calls Tryz.prog 86 #[.int .i64 a, .pointer (some ⟨p, 0, none⟩), .pointer (some ⟨q, 0, none⟩), .pointer (some ⟨r, 0, none⟩)] W (LkP W (blkCE a 4) (blkC n t a ⟨4, u, v⟩)) := by
  have hv := h.hv
  simp only at hv
  have hc := lup_any a t W
  rw [blkE_4 a ha n t u v h] at hc
  have e : blkC n t a ⟨4, u, v⟩ = blkL a (upB t) := rfl
  rw [e]
  generalize blkL a (upB t) = RL at *
  generalize blkCE a 4 = E at *
  have HC : HidC _ _ _ _ _ := ⟨hc⟩
  obtain ⟨x0, x1, x2⟩ := hp.cells
  clear hc h hp hw hv ha e
  go_enter Tryz.func86, Tryz.ntmps86
  go_wp2_with fail
  refine HC.out.mono ?_
  clear HC
  rintro e w1 (⟨h1, ao, cp, rfl, hi, t1⟩ | ⟨h1, rfl, t1⟩)
  · have HI : Hid _ := hi
    have HT : Hid _ := t1
    have H1 : Hid _ := h1
    clear hi t1 h1
    skip
    go_wp2
    exact bodyPost_ret (v := .tuple #[.slice ao RL.length cp, .int .i64 0]) (by simp [results, Tryz.results86, go_sem]) rfl (.inl ⟨H1.out, ao, cp, rfl, HI.out, HT.out⟩)
  · have HT : Hid _ := t1
    have H1 : Hid _ := h1
    clear t1 h1
    go_wp2
    exact bodyPost_ret (v := .tuple #[.slice none 0 0, .int .i64 E]) (by simp [results, Tryz.results86, go_sem]) rfl (.inr ⟨H1.out, rfl, HT.out⟩)

theorem blkE_5 (a : Int) (ha : 0 ≤ a ∧ a ≤ 64) (n t u v : Int) (h : CkOk n t ⟨5, u, v⟩) : enterE a t n v = blkCE a 5 := by
  have h1 := h.ht
  have h3 := h.hq (by simp)
  have h6 := h.hr rfl
  try simp only at h2
  unfold blkCE
  unfold enterE enterMay
  rw [if_pos (by simp only [Bool.and_eq_true, decide_eq_true_eq]; omega)]
  rw [if_pos h6]
  rfl
set_option maxRecDepth 100000 in
theorem blk1_5 {W : World} (hw : Wds W) (a : Int) (ha : 0 ≤ a ∧ a ≤ 64) (n t u v : Int) (h : CkOk n t ⟨5, u, v⟩) {p q r : Nat} (hp : BoxK W p 5 u v) (hq : W.cell? ⟨q, 0, none⟩ = some (.int .i64 t)) (hr : W.cell? ⟨r, 0, none⟩ = some (.int .i64 n)) :
    Calls Tryz.prog 86 #[.int .i64 a, .pointer (some ⟨p, 0, none⟩), .pointer (some ⟨q, 0, none⟩), .pointer (some ⟨r, 0, none⟩)] W (LkP W (blkCE a 5) (blkC n t a ⟨5, u, v⟩)) := by
  have hv := h.hv
  simp only at hv
  have hc := flenter_any hw a t n v hv
  rw [blkE_5 a ha n t u v h] at hc
  have e : blkC n t a ⟨5, u, v⟩ = enterI a t n 0 v := rfl
  rw [e]
  generalize enterI a t n 0 v = RL at *
  generalize blkCE a 5 = E at *
  have HC : HidC _ _ _ _ _ := ⟨hc⟩
  obtain ⟨x0, x1, x2⟩ := hp.cells
  clear hc h hp hw hv ha e
  go_enter Tryz.func86, Tryz.ntmps86
  go_wp2_with fail
  refine HC.out.mono ?_
  clear HC
  rintro e w1 (⟨h1, ao, cp, rfl, hi, t1⟩ | ⟨h1, rfl, t1⟩)
  · have HI : Hid _ := hi
    have HT : Hid _ := t1
    have H1 : Hid _ := h1
    clear hi t1 h1
    skip
    go_wp2
    exact bodyPost_ret (v := .tuple #[.slice ao RL.length cp, .int .i64 0]) (by simp [results, Tryz.results86, go_sem]) rfl (.inl ⟨H1.out, ao, cp, rfl, HI.out, HT.out⟩)
  · have HT : Hid _ := t1
    have H1 : Hid _ := h1
    clear t1 h1
    go_wp2
    exact bodyPost_ret (v := .tuple #[.slice none 0 0, .int .i64 E]) (by simp [results, Tryz.results86, go_sem]) rfl (.inr ⟨H1.out, rfl, HT.out⟩)

theorem blkE_6 (a : Int) (ha : 0 ≤ a ∧ a ≤ 64) (n t u v : Int) (h : CkOk n t ⟨6, u, v⟩) : takeE a t n = blkCE a 6 := by
  have h1 := h.ht
  have h3 := h.hq (by simp)
  try simp only at h2
  unfold blkCE
  unfold takeE takeMay
  rw [if_pos (by simp only [Bool.and_eq_true, decide_eq_true_eq]; omega)]
  rfl
set_option maxRecDepth 100000 in
theorem blk1_6 {W : World} (hw : Wds W) (a : Int) (ha : 0 ≤ a ∧ a ≤ 64) (n t u v : Int) (h : CkOk n t ⟨6, u, v⟩) {p q r : Nat} (hp : BoxK W p 6 u v) (hq : W.cell? ⟨q, 0, none⟩ = some (.int .i64 t)) (hr : W.cell? ⟨r, 0, none⟩ = some (.int .i64 n)) :
    Calls Tryz.prog 86 #[.int .i64 a, .pointer (some ⟨p, 0, none⟩), .pointer (some ⟨q, 0, none⟩), .pointer (some ⟨r, 0, none⟩)] W (LkP W (blkCE a 6) (blkC n t a ⟨6, u, v⟩)) := by
  have hv := h.hv
  simp only at hv
  have hc := fltake_any hw a t n
  rw [blkE_6 a ha n t u v h] at hc
  have e : blkC n t a ⟨6, u, v⟩ = takeI a t n 0 0 := rfl
  rw [e]
  generalize takeI a t n 0 0 = RL at *
  generalize blkCE a 6 = E at *
  have HC : HidC _ _ _ _ _ := ⟨hc⟩
  obtain ⟨x0, x1, x2⟩ := hp.cells
  clear hc h hp hw hv ha e
  go_enter Tryz.func86, Tryz.ntmps86
  go_wp2_with fail
  refine HC.out.mono ?_
  clear HC
  rintro e w1 (⟨h1, ao, cp, rfl, hi, t1⟩ | ⟨h1, rfl, t1⟩)
  · have HI : Hid _ := hi
    have HT : Hid _ := t1
    have H1 : Hid _ := h1
    clear hi t1 h1
    skip
    go_wp2
    exact bodyPost_ret (v := .tuple #[.slice ao RL.length cp, .int .i64 0]) (by simp [results, Tryz.results86, go_sem]) rfl (.inl ⟨H1.out, ao, cp, rfl, HI.out, HT.out⟩)
  · have HT : Hid _ := t1
    have H1 : Hid _ := h1
    clear t1 h1
    go_wp2
    exact bodyPost_ret (v := .tuple #[.slice none 0 0, .int .i64 E]) (by simp [results, Tryz.results86, go_sem]) rfl (.inr ⟨H1.out, rfl, HT.out⟩)

theorem blkE_7 (a : Int) (ha : 0 ≤ a ∧ a ≤ 64) (n t u v : Int) (h : CkOk n t ⟨7, u, v⟩) : arriveE a t n = blkCE a 7 := by
  have h1 := h.ht
  have h3 := h.hb rfl
  try simp only at h2
  unfold blkCE
  unfold arriveE arriveMay
  rw [if_pos (by simp only [Bool.and_eq_true, decide_eq_true_eq]; omega)]
  rfl
set_option maxRecDepth 100000 in
theorem blk1_7 {W : World} (hw : Wds W) (a : Int) (ha : 0 ≤ a ∧ a ≤ 64) (n t u v : Int) (h : CkOk n t ⟨7, u, v⟩) {p q r : Nat} (hp : BoxK W p 7 u v) (hq : W.cell? ⟨q, 0, none⟩ = some (.int .i64 t)) (hr : W.cell? ⟨r, 0, none⟩ = some (.int .i64 n)) :
    Calls Tryz.prog 86 #[.int .i64 a, .pointer (some ⟨p, 0, none⟩), .pointer (some ⟨q, 0, none⟩), .pointer (some ⟨r, 0, none⟩)] W (LkP W (blkCE a 7) (blkC n t a ⟨7, u, v⟩)) := by
  have hv := h.hv
  simp only at hv
  have hc := flarrive_any hw a t n
  rw [blkE_7 a ha n t u v h] at hc
  have e : blkC n t a ⟨7, u, v⟩ = arriveI a t n 0 0 := rfl
  rw [e]
  generalize arriveI a t n 0 0 = RL at *
  generalize blkCE a 7 = E at *
  have HC : HidC _ _ _ _ _ := ⟨hc⟩
  obtain ⟨x0, x1, x2⟩ := hp.cells
  clear hc h hp hw hv ha e
  go_enter Tryz.func86, Tryz.ntmps86
  go_wp2_with fail
  refine HC.out.mono ?_
  clear HC
  rintro e w1 (⟨h1, ao, cp, rfl, hi, t1⟩ | ⟨h1, rfl, t1⟩)
  · have HI : Hid _ := hi
    have HT : Hid _ := t1
    have H1 : Hid _ := h1
    clear hi t1 h1
    skip
    go_wp2
    exact bodyPost_ret (v := .tuple #[.slice ao RL.length cp, .int .i64 0]) (by simp [results, Tryz.results86, go_sem]) rfl (.inl ⟨H1.out, ao, cp, rfl, HI.out, HT.out⟩)
  · have HT : Hid _ := t1
    have H1 : Hid _ := h1
    clear t1 h1
    go_wp2
    exact bodyPost_ret (v := .tuple #[.slice none 0 0, .int .i64 E]) (by simp [results, Tryz.results86, go_sem]) rfl (.inr ⟨H1.out, rfl, HT.out⟩)

theorem blkE_8 (a : Int) (ha : 0 ≤ a ∧ a ≤ 64) (n t u v : Int) (h : CkOk n t ⟨8, u, v⟩) : leaveE a t 0 = blkCE a 8 := by
  have h1 := h.ht
  have h3 := h.hl rfl
  try simp only at h2
  unfold blkCE
  unfold leaveE leaveMay
  rw [if_pos (by simp only [Bool.and_eq_true, decide_eq_true_eq]; omega)]
  rfl
set_option maxRecDepth 100000 in
theorem blk1_8 {W : World} (hw : Wds W) (a : Int) (ha : 0 ≤ a ∧ a ≤ 64) (n t u v : Int) (h : CkOk n t ⟨8, u, v⟩) {p q r : Nat} (hp : BoxK W p 8 u v) (hq : W.cell? ⟨q, 0, none⟩ = some (.int .i64 t)) (hr : W.cell? ⟨r, 0, none⟩ = some (.int .i64 n)) :
    Calls Tryz.prog 86 #[.int .i64 a, .pointer (some ⟨p, 0, none⟩), .pointer (some ⟨q, 0, none⟩), .pointer (some ⟨r, 0, none⟩)] W (LkP W (blkCE a 8) (blkC n t a ⟨8, u, v⟩)) := by
  have hv := h.hv
  simp only at hv
  have hc := flleave_any hw a t 0
  rw [blkE_8 a ha n t u v h] at hc
  have e : blkC n t a ⟨8, u, v⟩ = leaveI a t 0 0 0 := rfl
  rw [e]
  generalize leaveI a t 0 0 0 = RL at *
  generalize blkCE a 8 = E at *
  have HC : HidC _ _ _ _ _ := ⟨hc⟩
  obtain ⟨x0, x1, x2⟩ := hp.cells
  clear hc h hp hw hv ha e
  go_enter Tryz.func86, Tryz.ntmps86
  go_wp2_with fail
  refine HC.out.mono ?_
  clear HC
  rintro e w1 (⟨h1, ao, cp, rfl, hi, t1⟩ | ⟨h1, rfl, t1⟩)
  · have HI : Hid _ := hi
    have HT : Hid _ := t1
    have H1 : Hid _ := h1
    clear hi t1 h1
    skip
    go_wp2
    exact bodyPost_ret (v := .tuple #[.slice ao RL.length cp, .int .i64 0]) (by simp [results, Tryz.results86, go_sem]) rfl (.inl ⟨H1.out, ao, cp, rfl, HI.out, HT.out⟩)
  · have HT : Hid _ := t1
    have H1 : Hid _ := h1
    clear t1 h1
    go_wp2
    exact bodyPost_ret (v := .tuple #[.slice none 0 0, .int .i64 E]) (by simp [results, Tryz.results86, go_sem]) rfl (.inr ⟨H1.out, rfl, HT.out⟩)

theorem blk1_any {W : World} (hw : Wds W) (a : Int) (ha : 0 ≤ a ∧ a ≤ 64) (n t : Int) (c : CaD) (h : CkOk n t c) {p q r : Nat} (hp : BoxK W p c.k c.u c.v) (hq : W.cell? ⟨q, 0, none⟩ = some (.int .i64 t)) (hr : W.cell? ⟨r, 0, none⟩ = some (.int .i64 n)) :
    Calls Tryz.prog 86 #[.int .i64 a, .pointer (some ⟨p, 0, none⟩), .pointer (some ⟨q, 0, none⟩), .pointer (some ⟨r, 0, none⟩)] W (LkP W (blkCE a c.k) (blkC n t a c)) := by
  obtain ⟨k, u, v⟩ := c
  simp only at hp ⊢
  have hk : k = 1 ∨ k = 2 ∨ k = 3 ∨ k = 4 ∨ k = 5 ∨ k = 6 ∨ k = 7 ∨ k = 8 := by have := h.hk; simp only at this; omega
  rcases hk with rfl | rfl | rfl | rfl | rfl | rfl | rfl | rfl
  · exact blk1_1 hw a ha n t u v h hp hq hr
  · exact blk1_2 hw a ha n t u v h hp hq hr
  · exact blk1_3 hw a ha n t u v h hp hq hr
  · exact blk1_4 hw a ha n t u v h hp hq hr
  · exact blk1_5 hw a ha n t u v h hp hq hr
  · exact blk1_6 hw a ha n t u v h hp hq hr
  · exact blk1_7 hw a ha n t u v h hp hq hr
  · exact blk1_8 hw a ha n t u v h hp hq hr

theorem blkCE_len (n t a : Int) (c : CaD) : (blkC n t a c).length ≤ 100 := by
  rw [blkC_len]; unfold lenC; repeat' split
  all_goals omega

def blkF (n t : Int) (c : CaD) : Int → Int × List InsD := fun a => (blkCE a c.k, blkC n t a c)

set_option maxRecDepth 100000 in
theorem block_piece {w : World} (hw : Wds w) (n t : Int) (c : CaD) (h : CkOk n t c) {lo : Nat} (hl : lo ≤ w.heap.size) :
    Calls Tryz.prog 53 #[c.val, .int .i64 n, .int .i64 t] w fun e w' => ∃ p, e = .returned p ∧ Touch w w' [] ∧ PcOk lo w'.heap.size w' p (blkF n t c) := by
  obtain ⟨k, u, v⟩ := c
  unfold CaD.val
  simp only
  have HW : Hid (∀ w4, w4 = ((w.alloc (.cells #[.int .u8 k, .int .i64 u, .int .u64 v] 52)).alloc (.cells #[.int .i64 n] 3)).alloc (.cells #[.int .i64 t] 3) → Touch w w4 [] ∧ PcOk lo w4.heap.size w4 (.func (.func 86) #[] #[.pointer (some ⟨w.heap.size, 0, none⟩), .pointer (some ⟨w.heap.size + 2, 0, none⟩), .pointer (some ⟨w.heap.size + 1, 0, none⟩)]) (blkF n t ⟨k, u, v⟩)) := by
    rintro w4 rfl
    have t1 : Touch w (w.alloc (.cells #[.int .u8 k, .int .i64 u, .int .u64 v] 52)) [] := (Touch.refl w []).alloc _
    have b1 := BoxK.new w k u v
    have s1 : (w.alloc (.cells #[.int .u8 k, .int .i64 u, .int .u64 v] 52)).heap.size = w.heap.size + 1 := by simp
    generalize (w.alloc (.cells #[.int .u8 k, .int .i64 u, .int .u64 v] 52)) = w1 at *
    have t2 : Touch w1 (w1.alloc (.cells #[.int .i64 n] 3)) [] := (Touch.refl w1 []).alloc _
    have c2 : (w1.alloc (.cells #[.int .i64 n] 3)).cell? ⟨w1.heap.size, 0, none⟩ = some (.int .i64 n) := by unfold World.cell?; rw [heap_alloc_new]; rfl
    have s2 : (w1.alloc (.cells #[.int .i64 n] 3)).heap.size = w1.heap.size + 1 := by simp
    generalize (w1.alloc (.cells #[.int .i64 n] 3)) = w2 at *
    have t3 : Touch w2 (w2.alloc (.cells #[.int .i64 t] 3)) [] := (Touch.refl w2 []).alloc _
    have c3 : (w2.alloc (.cells #[.int .i64 t] 3)).cell? ⟨w2.heap.size, 0, none⟩ = some (.int .i64 t) := by unfold World.cell?; rw [heap_alloc_new]; rfl
    have s3 : (w2.alloc (.cells #[.int .i64 t] 3)).heap.size = w2.heap.size + 1 := by simp
    generalize (w2.alloc (.cells #[.int .i64 t] 3)) = w3 at *
    have tt : Touch w w3 [] := (t1.trans t2 (by simp)).trans t3 (by simp)
    refine ⟨tt, 86, #[.pointer (some ⟨w.heap.size, 0, none⟩), .pointer (some ⟨w.heap.size + 2, 0, none⟩), .pointer (some ⟨w.heap.size + 1, 0, none⟩)], rfl, fun a W => enter_of Tryz.func86 (by kernel_rfl) (by kernel_rfl) W, ?_⟩
    intro W S tS hS a ha0 ha1
    refine ⟨blkCE_len n t a _, ?_⟩
    have hn : ∀ x, w.heap.size ≤ x → x < w3.heap.size → x ∉ S := fun x h1 h2 hx => by have := (hS x hx).2; omega
    refine blk1_any (hw.touch ((tt.mono (by simp)).trans tS (fun x hx => .inl hx)) (fun hx => (hS _ hx).1 rfl)) a ⟨ha0, ha1⟩ n t ⟨k, u, v⟩ h (p := w.heap.size) (q := w.heap.size + 2) (r := w.heap.size + 1) ?_ ?_ ?_
    · exact ((b1.touch t2 (by simp)).touch t3 (by simp)).touch tS (hn _ (by omega) (by omega))
    · refine (tS.cell (p := ⟨w.heap.size + 2, 0, none⟩) (by simp only; omega) (hn (w.heap.size + 2) (by omega) (by omega))).trans ?_
      rw [show w.heap.size + 2 = w2.heap.size by omega]
      exact c3
    · refine (tS.cell (p := ⟨w.heap.size + 1, 0, none⟩) (by simp only; omega) (hn (w.heap.size + 1) (by omega) (by omega))).trans ?_
      refine (t3.cell (p := ⟨w.heap.size + 1, 0, none⟩) (by simp only; omega) (by simp)).trans ?_
      rw [show w.heap.size + 1 = w1.heap.size by omega]
      exact c2
  have hmf := makeFunc_run
  clear h hw
  go_enter Tryz.func53, Tryz.ntmps53
  go_wp2
  go_ret
  obtain ⟨a1, a2⟩ := HW.out _ rfl
  exact ⟨_, rfl, a1, a2⟩

theorem one_num : numV 1 = 4607182418800017408 := by decide +kernel

set_option maxRecDepth 100000 in
set_option maxHeartbeats 2000000 in
theorem answer_any {w : World} (k : Int) (hk : 1 ≤ k ∧ k ≤ 8) {lo : Nat} (hl : lo ≤ w.heap.size) :
    Calls Tryz.prog 54 #[.int .u8 k] w fun e w' => ∃ p, e = .returned p ∧ Touch w w' [] ∧ PcOk lo w'.heap.size w' p (rowF (ansC k)) := by
  have hO := World.ownsRow_nil w w.heap.size 78 3
  by_cases h2 : k = 2 ∨ k = 6 ∨ k = 7
  · have e : ansC k = [insO 27 0] := by unfold ansC; rw [if_pos h2]
    rw [e]
    have hwf : ∀ i ∈ [insO 27 0], i.Wf := fun i hi => by rw [List.mem_singleton.1 hi]; exact insO_wf (by omega) (by omega) (by omega) (by omega)
    obtain ⟨a1, c1, w1, r1, o1, t1⟩ := flstep (w0 := w) (w := w) (xs := []) hO (Touch.refl _ _) [insO 27 0] #[.int .u8 27, .int .i64 0, .int .u64 0] 0 1 1 rfl rfl rfl (by omega) rfl
    obtain ⟨a3, c3, e3, i3⟩ := insIn_of o1 hwf
    simp only [Value.slice.injEq] at e3
    obtain ⟨rfl, e4, rfl⟩ := e3
    clear e4
    have HC : HidC _ _ _ _ _ := ⟨row_any i3 (by simp) (lo := lo) (fun x hx => by have := World.ownsRow.lt o1 x (by simpa using hx); omega) (by have := t1.size; omega)⟩
    have HT : Hid _ := t1
    simp only [List.nil_append, List.length_cons, List.length_nil, Nat.reduceAdd] at HC
    clear e hwf o1 t1 i3 hO
    rcases h2 with rfl | rfl | rfl
    all_goals
      go_enter Tryz.func54, Tryz.ntmps54
      go_wp2_with (at_builtin; refine Lib.wpList_append_run _ rfl (.tmp 15) (.tmp 17) _ _ rfl _ _ rfl rfl _ _ r1 ?_)
      refine HC.out.mono ?_
      rintro e w2 ⟨p, rfl, t, hp⟩
      have HP : Hid _ := hp
      have HT2 : Hid _ := HT.out.trans t (by simp)
      clear hp t
      go_wp2
      go_ret
      exact ⟨p, rfl, HT2.out, HP.out⟩
  · have e : ansC k = [insP 1, insO 27 0] := by unfold ansC; rw [if_neg h2]
    rw [e]
    have hwf : ∀ i ∈ [insP 1, insO 27 0], i.Wf := by
      intro i hi
      simp only [List.mem_cons, List.not_mem_nil, or_false] at hi
      rcases hi with rfl | rfl
      · exact insP_wf (by omega)
      · exact insO_wf (by omega) (by omega) (by omega) (by omega)
    obtain ⟨a0, c0, w1, r1, o1, t1⟩ := flstep (w0 := w) (w := w) (xs := []) hO (Touch.refl _ _) [insP 1] #[.int .u8 1, .int .i64 0, .int .u64 4607182418800017408] 0 1 1 rfl rfl rfl (by omega) (by rw [← one_num]; rfl)
    obtain ⟨a1, c1, w2, r2, o2, t2⟩ := flstep o1 t1 [insO 27 0] #[.int .u8 27, .int .i64 0, .int .u64 0] 1 1 2 rfl rfl rfl (by omega) rfl
    obtain ⟨a3, c3, e3, i3⟩ := insIn_of (l := [insP 1, insO 27 0]) o2 hwf
    simp only [Value.slice.injEq] at e3
    obtain ⟨rfl, e4, rfl⟩ := e3
    clear e4
    have HC : HidC _ _ _ _ _ := ⟨row_any i3 (by simp) (lo := lo) (fun x hx => by have := World.ownsRow.lt o2 x (by simpa using hx); omega) (by have := t2.size; omega)⟩
    simp only [List.length_cons, List.length_nil, Nat.reduceAdd] at HC
    have HT : Hid _ := t2
    clear e hwf o1 t1 o2 t2 i3 hO
    have hk' : k = 1 ∨ k = 3 ∨ k = 4 ∨ k = 5 ∨ k = 8 := by omega
    clear h2
    rcases hk' with rfl | rfl | rfl | rfl | rfl
    all_goals
      go_enter Tryz.func54, Tryz.ntmps54
      go_wp2_with (at_builtin; first | (refine Lib.wpList_append_run _ rfl (.tmp 11) (.tmp 13) _ _ rfl _ _ rfl rfl _ _ r1 ?_) | (refine Lib.wpList_append_run _ rfl (.tmp 15) (.tmp 17) _ _ rfl _ _ rfl rfl _ _ r2 ?_))
      refine HC.out.mono ?_
      rintro e w3 ⟨p, rfl, t, hp⟩
      have HP : Hid _ := hp
      have HT2 : Hid _ := HT.out.trans t (by simp)
      clear hp t
      go_wp2
      go_ret
      exact ⟨p, rfl, HT2.out, HP.out⟩

end Go.Proofs.YtcbkafbchpjnoaaGreatDoor
/-
  package calls: built BY ITS CONTRACT. Written by mkclb.py.
-/
namespace Go.Proofs.YtcbkafbchpjnoaaGreatDoor
set_option linter.unusedVariables false
set_option linter.unusedSimpArgs false
open Go.RowKit
attribute [local go_sem] Oper.semAt_some

/-- A row of calls that can be read. -/
structure CasIn (w : World) (ao : Option Addr) (m cap : Nat) (l : List CaD) : Prop where
  len : m = l.length
  row : SRow 3 CaD.cells w (.slice ao l.length cap) l
  le : m ≤ cap
  wf : ∀ c ∈ l, c.Wf
theorem CasIn.keep {w w' : World} {ao : Option Addr} {m cap : Nat} {l : List CaD} (h : CasIn w ao m cap l) (t : Touch w w' []) : CasIn w' ao m cap l := ⟨h.len, SRow.keep h.row t (by simp), h.le, h.wf⟩
theorem CasIn.at {w : World} {ao : Option Addr} {m cap : Nat} {l : List CaD} (h : CasIn w ao m cap l) (k : Nat) (hk : k < l.length) :
    ∃ g off, ao = some ⟨g, off, none⟩ ∧ g < w.heap.size ∧ w.cell? ⟨g, off + k * 3, none⟩ = some (.int .u8 l[k].k) ∧ w.cell? ⟨g, off + k * 3 + 1, none⟩ = some (.int .i64 l[k].u) ∧ w.cell? ⟨g, off + k * 3 + 2, none⟩ = some (.int .u64 l[k].v) := by
  obtain ⟨g, off, e, hg, hc⟩ := SRow.at h.row k hk
  have h0 := hc 0 (by omega)
  have h1 := hc 1 (by omega)
  have h2 := hc 2 (by omega)
  exact ⟨g, off, e, hg, by simpa [CaD.cells] using h0, by simpa [CaD.cells] using h1, by simpa [CaD.cells] using h2⟩

theorem jn_go {f : Int → Int × List InsD} {fs : List (Int → Int × List InsD)} {xs : List InsD} (h1 : (f (xs.length : Nat)).1 = 0) (h2 : xs.length + (f (xs.length : Nat)).2.length ≤ 64) : jnP (f :: fs) xs = jnP fs (xs ++ (f (xs.length : Nat)).2) := by
  rw [jnP, if_neg (by omega)]
theorem jn_no {f : Int → Int × List InsD} {fs : List (Int → Int × List InsD)} {xs : List InsD} (h : (f (xs.length : Nat)).1 ≠ 0 ∨ xs.length + (f (xs.length : Nat)).2.length > 64) : jnP (f :: fs) xs = none := by
  rw [jnP, if_pos h]
theorem jn_step (n t : Int) (xs : List InsD) (c : CaD) (hx : xs.length ≤ 64) : jnP [rowF (ahdC c), blkF n t c, rowF (ansC c.k)] xs = if (stepC n t xs c).length > 64 then none else some (stepC n t xs c) := by
  have hl := stepC_len n t xs c
  have hb := blkC_len n t ((xs ++ ahdC c).length : Nat) c
  have hA : (xs ++ ahdC c).length = xs.length + (ahdC c).length := List.length_append
  by_cases h1 : xs.length + (ahdC c).length > 64
  · rw [jn_no (.inr h1), if_pos (by omega)]
  · rw [jn_go (f := rowF (ahdC c)) rfl (by show xs.length + (ahdC c).length ≤ 64; omega)]
    show jnP [blkF n t c, rowF (ansC c.k)] (xs ++ ahdC c) = _
    by_cases h2 : (xs ++ ahdC c).length + lenC c.k > 64
    · rw [jn_no (f := blkF n t c) (.inr (by show _ + (blkC n t ((xs ++ ahdC c).length : Nat) c).length > 64; rw [hb]; exact h2)), if_pos (by omega)]
    · rw [jn_go (f := blkF n t c) (by show blkCE _ _ = 0; unfold blkCE; rw [if_neg (by omega)]) (by show _ + (blkC n t ((xs ++ ahdC c).length : Nat) c).length ≤ 64; rw [hb]; omega)]
      show jnP [rowF (ansC c.k)] (xs ++ ahdC c ++ blkC n t ((xs ++ ahdC c).length : Nat) c) = _
      have hB : (xs ++ ahdC c ++ blkC n t ((xs ++ ahdC c).length : Nat) c).length = (xs ++ ahdC c).length + lenC c.k := by rw [List.length_append, hb]
      by_cases h3 : (stepC n t xs c).length > 64
      · rw [jn_no (f := rowF (ansC c.k)) (.inr (by show _ + (ansC c.k).length > 64; rw [hB]; omega)), if_pos h3]
      · rw [jn_go (f := rowF (ansC c.k)) rfl (by show _ + (ansC c.k).length ≤ 64; rw [hB]; omega), if_neg h3]
        rfl

/-- What built comes to. -/
def BuP (w : World) (r : Option (List InsD)) (e : Ending) (w' : World) : Prop :=
  (r = none ∧ e = .returned (.tuple #[.slice none 0 0, .int .i64 4]) ∧ Touch w w' []) ∨
  (∃ P a c, r = some P ∧ e = .returned (.tuple #[.slice a P.length c, .int .i64 0]) ∧ InsIn w' a P.length c P ∧ Touch w w' [])

set_option maxRecDepth 100000 in
set_option maxHeartbeats 4000000 in
theorem built_any {w : World} (hw : Wds w) (n t : Int) {ao : Option Addr} {mm cap : Nat} {l : List CaD} (hl : CasIn w ao mm cap l) (hm : mm ≤ 100) (hck : ∀ c ∈ l, CkOk n t c) :
    Calls Tryz.prog 30 #[.int .i64 n, .int .i64 t, .slice ao mm cap] w (BuP w (runC n t l [])) := by
  obtain ⟨R, hR⟩ : ∃ r, r = runC n t l [] := ⟨_, rfl⟩
  rw [← hR]
  have HL : Hid _ := hl
  have HW : Hid _ := hw
  have HR : Hid _ := hR
  have HCK : Hid _ := hck
  have HM : Hid _ := hl.len
  clear hl hw hR hck
  go_enter Tryz.func30, Tryz.ntmps30
  go_wp2_with fail
  go_loopw [8, 14] (fun vv i wr => ∃ (k : Nat) (xs : List InsD) (a : Option Addr) (c : Nat), i = .int .i64 k ∧ k ≤ mm ∧ vv = .slice a xs.length c ∧ R = runC n t (l.drop k) xs ∧ insOwn wr w.heap.size (.slice a xs.length c) xs ∧ (∀ i ∈ xs, i.Wf) ∧ xs.length ≤ 64 ∧ Touch w wr []) (fun _ i _ => mm - (intOf i).toNat)
  case atStart => exact ⟨0, [], none, 0, rfl, Nat.zero_le _, rfl, HR.out, World.ownsRow_nil _ _ _ _, fun i hi => by simp at hi, by simp, Touch.refl _ _⟩
  case round =>
    obtain ⟨k, xs, a, c0, rfl, hk, rfl, hR, hown, hwf, hle, hT⟩ := hrel
    by_cases hlt : k < mm
    · have h1 : (k : Int) < mm := by omega
      have h0 : (0 : Int) ≤ k := by omega
      have hkl : k < l.length := by rw [← HM.out]; exact hlt
      have hkc : k < cap := Nat.lt_of_lt_of_le hlt HL.out.le
      obtain ⟨g, off, rfl, hg, x0, x1, x2⟩ := (HL.out.keep hT).at k hkl
      have hdrop : l.drop k = l[k] :: l.drop (k + 1) := List.drop_eq_getElem_cons hkl
      rw [hdrop] at hR
      have hCK := HCK.out l[k] (List.getElem_mem hkl)
      have hCW := HL.out.wf l[k] (List.getElem_mem hkl)
      generalize l[k] = cc at *
      obtain ⟨k', u, v⟩ := cc
      simp only at x0 x1 x2 hR
      obtain ⟨XW, hXW⟩ : ∃ W, W = wr.alloc (.cells #[.int .u8 k', .int .i64 u, .int .u64 v] 52) := ⟨_, rfl⟩
      have hbx : BoxK XW wr.heap.size k' u v := by rw [hXW]; exact BoxK.new wr k' u v
      have hsW : XW.heap.size = wr.heap.size + 1 := by rw [hXW]; simp
      have tW : Touch wr XW [] := by rw [hXW]; exact (Touch.refl _ _).alloc _
      have tD : Touch wr XW.drew [] := tW.drew
      have hsD : XW.drew.heap.size = wr.heap.size + 1 := by rw [← hsW]; rfl
      have hbD : BoxK XW.drew wr.heap.size k' u v := hbx.touch (Touch.refl XW []).drew (by simp)
      have HA : Hid (HidC Tryz.prog 52 #[.agg #[.int .u8 k', .int .i64 u, .int .u64 v]] XW.drew fun e w' => ∃ p, e = .returned p ∧ Touch XW.drew w' [] ∧ PcOk (wr.heap.size + 1) w'.heap.size w' p (rowF (ahdC ⟨k', u, v⟩))) := ⟨ahead_any k' u v hCW.v (by rw [hsD]; omega)⟩
      have HS1 : Hid (∀ w2 p1, Touch XW.drew w2 [] → PcOk (wr.heap.size + 1) w2.heap.size w2 p1 (rowF (ahdC ⟨k', u, v⟩)) → w2.cell? ⟨wr.heap.size, 0, none⟩ = some (.int .u8 k') ∧ w2.cell? ⟨wr.heap.size, 1, none⟩ = some (.int .i64 u) ∧ w2.cell? ⟨wr.heap.size, 2, none⟩ = some (.int .u64 v) ∧ Hid (PcOk (wr.heap.size + 1) w2.heap.size w2 p1 (rowF (ahdC ⟨k', u, v⟩))) ∧ Hid (BoxK w2 wr.heap.size k' u v ∧ Touch wr w2 []) ∧ Hid (HidC Tryz.prog 53 #[.agg #[.int .u8 k', .int .i64 u, .int .u64 v], .int .i64 n, .int .i64 t] w2 fun e w' => ∃ p, e = .returned p ∧ Touch w2 w' [] ∧ PcOk (wr.heap.size + 1) w'.heap.size w' p (blkF n t ⟨k', u, v⟩))) := by
        intro w2 p1 t1 k1
        have hb := hbD.touch t1 (by simp)
        obtain ⟨y0, y1, y2⟩ := hb.cells
        have tt : Touch wr w2 [] := tD.trans t1 (by simp)
        exact ⟨y0, y1, y2, k1, ⟨hb, tt⟩, ⟨block_piece ((HW.out.touch hT (by simp)).touch tt (by simp)) n t ⟨k', u, v⟩ hCK (by have := t1.size; omega)⟩⟩
      have HS2 : Hid (∀ w2 w3 p1 p2, (BoxK w2 wr.heap.size k' u v ∧ Touch wr w2 []) → PcOk (wr.heap.size + 1) w2.heap.size w2 p1 (rowF (ahdC ⟨k', u, v⟩)) → Touch w2 w3 [] → PcOk (wr.heap.size + 1) w3.heap.size w3 p2 (blkF n t ⟨k', u, v⟩) → w3.cell? ⟨wr.heap.size, 0, none⟩ = some (.int .u8 k') ∧ w3.cell? ⟨wr.heap.size, 1, none⟩ = some (.int .i64 u) ∧ w3.cell? ⟨wr.heap.size, 2, none⟩ = some (.int .u64 v) ∧ Hid (PcOk (wr.heap.size + 1) w3.heap.size w3 p1 (rowF (ahdC ⟨k', u, v⟩)) ∧ PcOk (wr.heap.size + 1) w3.heap.size w3 p2 (blkF n t ⟨k', u, v⟩)) ∧ Hid (BoxK w3 wr.heap.size k' u v ∧ Touch wr w3 []) ∧ Hid (HidC Tryz.prog 54 #[.int .u8 k'] w3 fun e w' => ∃ p, e = .returned p ∧ Touch w3 w' [] ∧ PcOk (wr.heap.size + 1) w'.heap.size w' p (rowF (ansC k')))) := by
        intro w2 w3 p1 p2 hq k1 t2 k2
        have hb := hq.1.touch t2 (by simp)
        obtain ⟨y0, y1, y2⟩ := hb.cells
        exact ⟨y0, y1, y2, ⟨k1.later t2 t2.size, k2⟩, ⟨hb, hq.2.trans t2 (by simp)⟩, ⟨answer_any k' hCK.hk (by have := t2.size; have := lt_of_heap hq.1.st; omega)⟩⟩
      have hob : ∀ x, (Value.slice a xs.length c0).ownBlock = some x → w.heap.size ≤ x ∧ x < wr.heap.size := fun x hx => World.ownsRow.lt hown x hx
      have HS3 : Hid (∀ w3 w4 p1 p2 p3, (BoxK w3 wr.heap.size k' u v ∧ Touch wr w3 []) → (PcOk (wr.heap.size + 1) w3.heap.size w3 p1 (rowF (ahdC ⟨k', u, v⟩)) ∧ PcOk (wr.heap.size + 1) w3.heap.size w3 p2 (blkF n t ⟨k', u, v⟩)) → Touch w3 w4 [] → PcOk (wr.heap.size + 1) w4.heap.size w4 p3 (rowF (ansC k')) → w4.cell? ⟨wr.heap.size, 0, none⟩ = some (.int .u8 k') ∧ w4.cell? ⟨wr.heap.size, 1, none⟩ = some (.int .i64 u) ∧ w4.cell? ⟨wr.heap.size, 2, none⟩ = some (.int .u64 v) ∧ Hid ((w4.alloc (.cells #[p1, p2, p3] 105)).cell? ⟨wr.heap.size, 0, none⟩ = some (.int .u8 k') ∧ (w4.alloc (.cells #[p1, p2, p3] 105)).cell? ⟨wr.heap.size, 1, none⟩ = some (.int .i64 u) ∧ (w4.alloc (.cells #[p1, p2, p3] 105)).cell? ⟨wr.heap.size, 2, none⟩ = some (.int .u64 v)) ∧ Hid (∀ w6, Touch (w4.alloc (.cells #[p1, p2, p3] 105)) w6 (Value.slice a xs.length c0).ownBlock.toList → (w6.cell? ⟨wr.heap.size, 0, none⟩ = some (.int .u8 k') ∧ w6.cell? ⟨wr.heap.size, 1, none⟩ = some (.int .i64 u) ∧ w6.cell? ⟨wr.heap.size, 2, none⟩ = some (.int .u64 v)) ∧ Touch w w6 [] ∧ w.heap.size ≤ (w4.alloc (.cells #[p1, p2, p3] 105)).heap.size) ∧ Hid (HidC Tryz.prog 51 #[.slice a xs.length c0, .slice (some ⟨w4.heap.size, 0, none⟩) 3 3] (w4.alloc (.cells #[p1, p2, p3] 105)) (JnP (w4.alloc (.cells #[p1, p2, p3] 105)) w.heap.size (.slice a xs.length c0) (if (stepC n t xs ⟨k', u, v⟩).length > 64 then none else some (stepC n t xs ⟨k', u, v⟩))))) := by
        intro w3 w4 p1 p2 p3 hq hk3 t3 k3
        have hb := hq.1.touch t3 (by simp)
        have t4 : Touch wr w4 [] := hq.2.trans t3 (by simp)
        have tA : Touch w4 (w4.alloc (.cells #[p1, p2, p3] 105)) [] := (Touch.refl _ _).alloc _
        have hb5 := hb.touch tA (by simp)
        obtain ⟨y0, y1, y2⟩ := hb.cells
        obtain ⟨z0, z1, z2⟩ := hb5.cells
        have hwl := lt_of_heap hq.1.st
        have h34 := t3.size
        have hsT := hT.size
        have h5s := tA.size
        refine ⟨y0, y1, y2, ⟨z0, z1, z2⟩, fun w6 t6 => ?_, ⟨?_⟩⟩
        · have hb6 := hb5.touch t6 (fun hx => by have := hob _ (by simpa using hx); omega)
          exact ⟨hb6.cells, (hT.trans (t4.trans tA (by simp)) (by simp)).trans t6 (fun x hx => .inr (hob x (by simpa using hx)).1), by omega⟩
        have hj := joinedC_any (w := w4.alloc (.cells #[p1, p2, p3] 105)) (B := w.heap.size) (lo := wr.heap.size + 1) (g := w4.heap.size) (cap := 3) (c0 := c0) (n0 := xs.length) (N := 3) (a0 := a) (xs0 := xs) (fs := [rowF (ahdC ⟨k', u, v⟩), blkF n t ⟨k', u, v⟩, rowF (ansC k')]) (v0 := .slice a xs.length c0) rfl rfl rfl (ownsRow_touch hown (t4.trans tA (by simp)) (by simp)) hwf hle (by have := hT.size; have := tA.size; omega) (fun x hx => ⟨fun e => by have := hob x hx; have := HW.out.lt; omega, by have := hob x hx; omega⟩) ⟨by omega, by simp, fun j hj => ?_⟩ (by simp)
        · have := jn_step n t xs ⟨k', u, v⟩ hle
          rw [this] at hj
          exact hj
        · have hn := heap_alloc_new w4 (.cells #[p1, p2, p3] 105)
          have h5 : (w4.alloc (.cells #[p1, p2, p3] 105)).heap.size = w4.heap.size + 1 := by simp
          match j, hj with
          | 0, _ => exact ⟨p1, by unfold World.cell?; rw [hn]; rfl, (hk3.1.later t3 t3.size).later tA (by omega)⟩
          | 1, _ => exact ⟨p2, by unfold World.cell?; rw [hn]; rfl, (hk3.2.later t3 t3.size).later tA (by omega)⟩
          | 2, _ => exact ⟨p3, by unfold World.cell?; rw [hn]; rfl, k3.later tA (by omega)⟩
      have HRR : Hid (R = if (stepC n t xs ⟨k', u, v⟩).length > 64 then none else runC n t (l.drop (k + 1)) (stepC n t xs ⟨k', u, v⟩)) := by show _ = _; rw [hR]; rfl
      have HTR : Hid _ := hT
      obtain ⟨b0, b1, b2⟩ := hbx.cells
      clear hR hown hwf hT hdrop hCK hCW tW tD hsD hbD hob hbx
      generalize hxl : xs.length = m at *
      go_wp2_with fail
      simp only [← hXW]
      clear hXW
      generalize wr.heap.size = b at *
      refine wp_region_held_drew (S := (fun w' => w'.cell? ⟨b, 0, none⟩ = some (.int .u8 k') ∧ w'.cell? ⟨b, 1, none⟩ = some (.int .i64 u) ∧ w'.cell? ⟨b, 2, none⟩ = some (.int .u64 v))) (by kernel_rfl) ⟨b0, b1, b2⟩ (fun hHeld => ?_)
      refine wpAnyH_take (i := 0) (v := .slice a m c0) rfl (by kernel_rfl) (by kernel_rfl) (by kernel_rfl) (fun _ _ _ h => h) (Or.inl ⟨by rfl, ?_⟩) hHeld ?_
      · intro w' hSw
        try simp only [Act.put, List.getElem_toArray, List.getElem_cons_succ, List.getElem_cons_zero, List.setIfInBounds_toArray, List.set_cons_zero, List.set_cons_succ]
        go_simp
      try simp only [Act.put, List.getElem_toArray, List.getElem_cons_succ, List.getElem_cons_zero, List.setIfInBounds_toArray, List.set_cons_zero, List.set_cons_succ]
      refine wpAnyH_take (i := 1) (v := .agg #[.int .u8 k', .int .i64 u, .int .u64 v]) rfl (by kernel_rfl) (by kernel_rfl) (by kernel_rfl) (fun _ _ _ h => h) (Or.inl ⟨by rfl, ?_⟩) hHeld ?_
      · intro w' hSw
        try simp only [Act.put, List.getElem_toArray, List.getElem_cons_succ, List.getElem_cons_zero, List.setIfInBounds_toArray, List.set_cons_zero, List.set_cons_succ]
        obtain ⟨s0, s1, s2⟩ := hSw; go_simp
      try simp only [Act.put, List.getElem_toArray, List.getElem_cons_succ, List.getElem_cons_zero, List.setIfInBounds_toArray, List.set_cons_zero, List.set_cons_succ]
      refine wpAnyH_take (i := 3) (v := .agg #[.int .u8 k', .int .i64 u, .int .u64 v]) rfl (by kernel_rfl) (by kernel_rfl) (by kernel_rfl) (fun _ _ _ h => h) (Or.inl ⟨by rfl, ?_⟩) hHeld ?_
      · intro w' hSw
        try simp only [Act.put, List.getElem_toArray, List.getElem_cons_succ, List.getElem_cons_zero, List.setIfInBounds_toArray, List.set_cons_zero, List.set_cons_succ]
        obtain ⟨s0, s1, s2⟩ := hSw; go_simp
      try simp only [Act.put, List.getElem_toArray, List.getElem_cons_succ, List.getElem_cons_zero, List.setIfInBounds_toArray, List.set_cons_zero, List.set_cons_succ]
      refine wpAnyH_take (i := 4) (v := .int .i64 n) rfl (by kernel_rfl) (by kernel_rfl) (by kernel_rfl) (fun _ _ _ h => h) (Or.inl ⟨by rfl, ?_⟩) hHeld ?_
      · intro w' hSw
        try simp only [Act.put, List.getElem_toArray, List.getElem_cons_succ, List.getElem_cons_zero, List.setIfInBounds_toArray, List.set_cons_zero, List.set_cons_succ]
        go_simp
      try simp only [Act.put, List.getElem_toArray, List.getElem_cons_succ, List.getElem_cons_zero, List.setIfInBounds_toArray, List.set_cons_zero, List.set_cons_succ]
      refine wpAnyH_take (i := 5) (v := .int .i64 t) rfl (by kernel_rfl) (by kernel_rfl) (by kernel_rfl) (fun _ _ _ h => h) (Or.inl ⟨by rfl, ?_⟩) hHeld ?_
      · intro w' hSw
        try simp only [Act.put, List.getElem_toArray, List.getElem_cons_succ, List.getElem_cons_zero, List.setIfInBounds_toArray, List.set_cons_zero, List.set_cons_succ]
        go_simp
      try simp only [Act.put, List.getElem_toArray, List.getElem_cons_succ, List.getElem_cons_zero, List.setIfInBounds_toArray, List.set_cons_zero, List.set_cons_succ]
      refine wpAnyH_take (i := 7) (v := .pointer (some ⟨b, 0, none⟩)) rfl (by kernel_rfl) (by kernel_rfl) (by kernel_rfl) (fun _ _ _ h => h) (Or.inl ⟨by rfl, ?_⟩) hHeld ?_
      · intro w' hSw
        try simp only [Act.put, List.getElem_toArray, List.getElem_cons_succ, List.getElem_cons_zero, List.setIfInBounds_toArray, List.set_cons_zero, List.set_cons_succ]
        go_simp
      try simp only [Act.put, List.getElem_toArray, List.getElem_cons_succ, List.getElem_cons_zero, List.setIfInBounds_toArray, List.set_cons_zero, List.set_cons_succ]
      refine wpAnyH_take (i := 8) (v := .int .u8 k') rfl (by kernel_rfl) (by kernel_rfl) (by kernel_rfl) (fun _ _ _ h => h) (Or.inl ⟨by rfl, ?_⟩) hHeld ?_
      · intro w' hSw
        try simp only [Act.put, List.getElem_toArray, List.getElem_cons_succ, List.getElem_cons_zero, List.setIfInBounds_toArray, List.set_cons_zero, List.set_cons_succ]
        obtain ⟨s0, s1, s2⟩ := hSw; go_simp
      try simp only [Act.put, List.getElem_toArray, List.getElem_cons_succ, List.getElem_cons_zero, List.setIfInBounds_toArray, List.set_cons_zero, List.set_cons_succ]
      clear hHeld
      refine wpAnyH_ready (rs := [2]) (by kernel_rfl) (by simp) (AllReadyH.cons rfl (fun K hK => ?_) AllReadyH.nil)
      rw [if_pos (by rfl)]
      go_wp2_with fail
      refine HA.out.out.mono ?_
      rintro e w2 ⟨p1, rfl, t1, k1⟩
      have e1 := k1
      obtain ⟨fn1, cp1, rfl, -⟩ := e1
      obtain ⟨g10, g11, g12, HP1, HT1, HBK⟩ := HS1.out w2 _ t1 k1
      clear t1 k1
      refine hK.out _ _ ⟨g10, g11, g12⟩ (fun hHeld => ?_)
      clear hK
      try simp only [Act.put, List.getElem_toArray, List.getElem_cons_succ, List.getElem_cons_zero, List.setIfInBounds_toArray, List.set_cons_zero, List.set_cons_succ]
      clear hHeld
      refine wpAnyH_ready (rs := [6]) (by kernel_rfl) (by simp) (AllReadyH.cons rfl (fun K hK => ?_) AllReadyH.nil)
      rw [if_pos (by rfl)]
      go_wp2_with fail
      refine HBK.out.out.mono ?_
      rintro e w3 ⟨p2, rfl, t2, k2⟩
      have e2 := k2
      obtain ⟨fn2, cp2, rfl, -⟩ := e2
      obtain ⟨g20, g21, g22, HP2, HT2, HAN⟩ := HS2.out w2 w3 _ _ HT1.out HP1.out t2 k2
      clear t2 k2 HP1 HBK
      refine hK.out _ _ ⟨g20, g21, g22⟩ (fun hHeld => ?_)
      clear hK
      try simp only [Act.put, List.getElem_toArray, List.getElem_cons_succ, List.getElem_cons_zero, List.setIfInBounds_toArray, List.set_cons_zero, List.set_cons_succ]
      clear hHeld
      refine wpAnyH_ready (rs := [9]) (by kernel_rfl) (by simp) (AllReadyH.cons rfl (fun K hK => ?_) AllReadyH.nil)
      rw [if_pos (by rfl)]
      go_wp2_with fail
      refine HAN.out.out.mono ?_
      rintro e w4 ⟨p3, rfl, t3, k3⟩
      have e3 := k3
      obtain ⟨fn3, cp3, rfl, -⟩ := e3
      obtain ⟨g30, g31, g32, HT4, HT5, HJN⟩ := HS3.out w3 w4 _ _ _ HT2.out HP2.out t3 k3
      clear t3 k3 HP2 HAN
      refine hK.out _ _ ⟨g30, g31, g32⟩ (fun hHeld => ?_)
      clear hK
      try simp only [Act.put, List.getElem_toArray, List.getElem_cons_succ, List.getElem_cons_zero, List.setIfInBounds_toArray, List.set_cons_zero, List.set_cons_succ]
      clear hHeld
      refine wpAnyH_ready (rs := [10]) (by kernel_rfl) (by simp) (AllReadyH.cons rfl (fun K hK => ?_) AllReadyH.nil)
      rw [if_pos (by rfl)]
      go_wp2_with fail
      obtain ⟨g40, g41, g42⟩ := HT4.out
      refine hK.out _ _ ⟨g40, g41, g42⟩ (fun hHeld => ?_)
      clear hK
      try simp only [Act.put, List.getElem_toArray, List.getElem_cons_succ, List.getElem_cons_zero, List.setIfInBounds_toArray, List.set_cons_zero, List.set_cons_succ]
      clear hHeld
      refine wpAnyH_ready (rs := [11]) (by kernel_rfl) (by simp) (AllReadyH.cons rfl (fun K hK => ?_) AllReadyH.nil)
      rw [if_pos (by rfl)]
      go_wp2_with fail
      refine HJN.out.out.mono ?_
      clear HJN
      rintro e w6 (⟨hr, rfl, t6⟩ | ⟨P, a6, c6, hr, rfl, o6, wf6, le6, t6, b6⟩)
      · obtain ⟨⟨g50, g51, g52⟩, ht6, hs6⟩ := HT5.out w6 t6
        have HT6 : Hid _ := ht6
        have HRN : Hid (R = none) := by
          show _ = _
          rw [HRR.out]
          split at hr
          · rename_i h; rw [if_pos h]
          · cases hr
        clear hr t6 ht6 hs6 HT5 HT4
        refine hK.out _ _ ⟨g50, g51, g52⟩ (fun hHeld => ?_)
        clear hK
        try simp only [Act.put, List.getElem_toArray, List.getElem_cons_succ, List.getElem_cons_zero, List.setIfInBounds_toArray, List.set_cons_zero, List.set_cons_succ]
        refine wpAnyH_take (i := 12) (v := .tuple #[.slice none 0 0, .int .i64 4]) rfl (by kernel_rfl) (by kernel_rfl) (by kernel_rfl) (fun _ _ _ h => h) (Or.inl ⟨by rfl, ?_⟩) hHeld ?_
        · intro w' hSw
          try simp only [Act.put, List.getElem_toArray, List.getElem_cons_succ, List.getElem_cons_zero, List.setIfInBounds_toArray, List.set_cons_zero, List.set_cons_succ]
          go_simp
        try simp only [Act.put, List.getElem_toArray, List.getElem_cons_succ, List.getElem_cons_zero, List.setIfInBounds_toArray, List.set_cons_zero, List.set_cons_succ]
        refine wpAnyH_take (i := 13) (v := .slice none 0 0) rfl (by kernel_rfl) (by kernel_rfl) (by kernel_rfl) (fun _ _ _ h => h) (Or.inl ⟨by rfl, ?_⟩) hHeld ?_
        · intro w' hSw
          try simp only [Act.put, List.getElem_toArray, List.getElem_cons_succ, List.getElem_cons_zero, List.setIfInBounds_toArray, List.set_cons_zero, List.set_cons_succ]
          go_simp
        try simp only [Act.put, List.getElem_toArray, List.getElem_cons_succ, List.getElem_cons_zero, List.setIfInBounds_toArray, List.set_cons_zero, List.set_cons_succ]
        refine wpAnyH_take (i := 14) (v := .int .i64 4) rfl (by kernel_rfl) (by kernel_rfl) (by kernel_rfl) (fun _ _ _ h => h) (Or.inl ⟨by rfl, ?_⟩) hHeld ?_
        · intro w' hSw
          try simp only [Act.put, List.getElem_toArray, List.getElem_cons_succ, List.getElem_cons_zero, List.setIfInBounds_toArray, List.set_cons_zero, List.set_cons_succ]
          go_simp
        try simp only [Act.put, List.getElem_toArray, List.getElem_cons_succ, List.getElem_cons_zero, List.setIfInBounds_toArray, List.set_cons_zero, List.set_cons_succ]
        refine wpAnyH_take (i := 15) (v := .slice none 0 0) rfl (by kernel_rfl) (by kernel_rfl) (by kernel_rfl) (fun _ _ _ h => h) (Or.inl ⟨by rfl, ?_⟩) hHeld ?_
        · intro w' hSw
          try simp only [Act.put, List.getElem_toArray, List.getElem_cons_succ, List.getElem_cons_zero, List.setIfInBounds_toArray, List.set_cons_zero, List.set_cons_succ]
          go_simp
        try simp only [Act.put, List.getElem_toArray, List.getElem_cons_succ, List.getElem_cons_zero, List.setIfInBounds_toArray, List.set_cons_zero, List.set_cons_succ]
        refine wpAnyH_take (i := 16) (v := .int .i64 4) rfl (by kernel_rfl) (by kernel_rfl) (by kernel_rfl) (fun _ _ _ h => h) (Or.inl ⟨by rfl, ?_⟩) hHeld ?_
        · intro w' hSw
          try simp only [Act.put, List.getElem_toArray, List.getElem_cons_succ, List.getElem_cons_zero, List.setIfInBounds_toArray, List.set_cons_zero, List.set_cons_succ]
          go_simp
        try simp only [Act.put, List.getElem_toArray, List.getElem_cons_succ, List.getElem_cons_zero, List.setIfInBounds_toArray, List.set_cons_zero, List.set_cons_succ]
        clear hHeld
        refine wpAnyH_done (by kernel_rfl) ?_ _
        go_wp2
        refine bodyPost_ret (v := .tuple #[.slice none 0 0, .int .i64 4]) (by simp [results, Tryz.results30, go_sem]) rfl (.inl ⟨HRN.out, rfl, HT6.out⟩)
      · obtain ⟨⟨g50, g51, g52⟩, ht6, hs6⟩ := HT5.out w6 t6
        have HT6 : Hid _ := ht6
        have HRN : Hid (R = runC n t (l.drop (k + 1)) P) := by
          show _ = _
          rw [HRR.out]
          split at hr
          · cases hr
          · rename_i h; cases hr; rw [if_neg h]
        have HO6 : Hid _ := o6
        have HW6 : Hid _ := wf6
        clear hr t6 ht6 hs6 HT5 HT4 o6 wf6 b6
        generalize hpl : P.length = pm at *
        refine hK.out _ _ ⟨g50, g51, g52⟩ (fun hHeld => ?_)
        clear hK
        try simp only [Act.put, List.getElem_toArray, List.getElem_cons_succ, List.getElem_cons_zero, List.setIfInBounds_toArray, List.set_cons_zero, List.set_cons_succ]
        refine wpAnyH_take (i := 12) (v := .tuple #[.slice a6 pm c6, .int .i64 0]) rfl (by kernel_rfl) (by kernel_rfl) (by kernel_rfl) (fun _ _ _ h => h) (Or.inl ⟨by rfl, ?_⟩) hHeld ?_
        · intro w' hSw
          try simp only [Act.put, List.getElem_toArray, List.getElem_cons_succ, List.getElem_cons_zero, List.setIfInBounds_toArray, List.set_cons_zero, List.set_cons_succ]
          go_simp
        try simp only [Act.put, List.getElem_toArray, List.getElem_cons_succ, List.getElem_cons_zero, List.setIfInBounds_toArray, List.set_cons_zero, List.set_cons_succ]
        refine wpAnyH_take (i := 13) (v := .slice a6 pm c6) rfl (by kernel_rfl) (by kernel_rfl) (by kernel_rfl) (fun _ _ _ h => h) (Or.inl ⟨by rfl, ?_⟩) hHeld ?_
        · intro w' hSw
          try simp only [Act.put, List.getElem_toArray, List.getElem_cons_succ, List.getElem_cons_zero, List.setIfInBounds_toArray, List.set_cons_zero, List.set_cons_succ]
          go_simp
        try simp only [Act.put, List.getElem_toArray, List.getElem_cons_succ, List.getElem_cons_zero, List.setIfInBounds_toArray, List.set_cons_zero, List.set_cons_succ]
        refine wpAnyH_take (i := 14) (v := .int .i64 0) rfl (by kernel_rfl) (by kernel_rfl) (by kernel_rfl) (fun _ _ _ h => h) (Or.inl ⟨by rfl, ?_⟩) hHeld ?_
        · intro w' hSw
          try simp only [Act.put, List.getElem_toArray, List.getElem_cons_succ, List.getElem_cons_zero, List.setIfInBounds_toArray, List.set_cons_zero, List.set_cons_succ]
          go_simp
        try simp only [Act.put, List.getElem_toArray, List.getElem_cons_succ, List.getElem_cons_zero, List.setIfInBounds_toArray, List.set_cons_zero, List.set_cons_succ]
        refine wpAnyH_take (i := 15) (v := .slice a6 pm c6) rfl (by kernel_rfl) (by kernel_rfl) (by kernel_rfl) (fun _ _ _ h => h) (Or.inl ⟨by rfl, ?_⟩) hHeld ?_
        · intro w' hSw
          try simp only [Act.put, List.getElem_toArray, List.getElem_cons_succ, List.getElem_cons_zero, List.setIfInBounds_toArray, List.set_cons_zero, List.set_cons_succ]
          go_simp
        try simp only [Act.put, List.getElem_toArray, List.getElem_cons_succ, List.getElem_cons_zero, List.setIfInBounds_toArray, List.set_cons_zero, List.set_cons_succ]
        refine wpAnyH_take (i := 16) (v := .int .i64 0) rfl (by kernel_rfl) (by kernel_rfl) (by kernel_rfl) (fun _ _ _ h => h) (Or.inl ⟨by rfl, ?_⟩) hHeld ?_
        · intro w' hSw
          try simp only [Act.put, List.getElem_toArray, List.getElem_cons_succ, List.getElem_cons_zero, List.setIfInBounds_toArray, List.set_cons_zero, List.set_cons_succ]
          go_simp
        try simp only [Act.put, List.getElem_toArray, List.getElem_cons_succ, List.getElem_cons_zero, List.setIfInBounds_toArray, List.set_cons_zero, List.set_cons_succ]
        clear hHeld
        refine wpAnyH_done (by kernel_rfl) ?_ _
        go_wp2
        go_roundw
        case rel => exact ⟨k + 1, P, a6, c6, by go_num, by omega, by rw [hpl], HRN.out, by show w6.ownsRow _ _ _ _ P.length _; rw [hpl]; exact HO6.out, HW6.out, by omega, HT6.out⟩
        case measure => simp [intOf]; omega
    · have h1 : ¬ (k : Int) < mm := by omega
      have hkN : k = l.length := by rw [← HM.out]; omega
      have hob : ∀ x, (Value.slice a xs.length c0).ownBlock = some x → w.heap.size ≤ x ∧ x < wr.heap.size := fun x hx => World.ownsRow.lt hown x hx
      have HRR : Hid (R = if xs.length + 1 > 64 then none else some (xs ++ [insO 28 0])) := by show _ = _; rw [hR, hkN, List.drop_length]; rfl
      have hI : InsIn (wr.alloc (.cells #[.int .u8 28, .int .i64 0, .int .u64 0] 78)) (some ⟨wr.heap.size, 0, none⟩) 1 1 [insO 28 0] := ins_one_in wr (insO 28 0) (insO_wf (by omega) (by omega) (by omega) (by omega))
      have tI : Touch wr (wr.alloc (.cells #[.int .u8 28, .int .i64 0, .int .u64 0] 78)) [] := (Touch.refl _ _).alloc _
      have sI : (wr.alloc (.cells #[.int .u8 28, .int .i64 0, .int .u64 0] 78)).heap.size = wr.heap.size + 1 := by simp
      have HROW : Hid (HidC Tryz.prog 55 #[.slice (some ⟨wr.heap.size, 0, none⟩) 1 1] (wr.alloc (.cells #[.int .u8 28, .int .i64 0, .int .u64 0] 78)) fun e w' => ∃ v, e = .returned v ∧ Touch (wr.alloc (.cells #[.int .u8 28, .int .i64 0, .int .u64 0] 78)) w' [] ∧ PcOk wr.heap.size w'.heap.size w' v (rowF [insO 28 0])) := ⟨row_any hI (by simp) (fun x hx => by simp [Value.ownBlock] at hx; rw [sI]; omega) (by rw [sI]; omega)⟩
      have HJ : Hid (∀ w2 p, Touch (wr.alloc (.cells #[.int .u8 28, .int .i64 0, .int .u64 0] 78)) w2 [] → PcOk wr.heap.size w2.heap.size w2 p (rowF [insO 28 0]) → HidC Tryz.prog 51 #[.slice a xs.length c0, .slice (some ⟨w2.heap.size, 0, none⟩) 1 1] (w2.alloc (.cells #[p] 105)) fun e w' => BuP w R e w') := by
        intro w2 p t2 k2
        have tA : Touch w2 (w2.alloc (.cells #[p] 105)) [] := (Touch.refl _ _).alloc _
        have h5 : (w2.alloc (.cells #[p] 105)).heap.size = w2.heap.size + 1 := by simp
        have tt : Touch wr (w2.alloc (.cells #[p] 105)) [] := (tI.trans t2 (by simp)).trans tA (by simp)
        have h2s := t2.size
        have hTs := hT.size
        refine ⟨(joinedC_any (w := w2.alloc (.cells #[p] 105)) (B := w.heap.size) (lo := wr.heap.size) (g := w2.heap.size) (cap := 1) (c0 := c0) (n0 := xs.length) (N := 1) (a0 := a) (xs0 := xs) (fs := [rowF [insO 28 0]]) (v0 := .slice a xs.length c0) rfl rfl rfl (ownsRow_touch hown tt (by simp)) hwf hle (by have := tt.size; omega) (fun x hx => ⟨fun e => by have := hob x hx; have := HW.out.lt; omega, (hob x hx).2⟩) ⟨by omega, by omega, fun j hj => ?_⟩ (by simp)).mono ?_⟩
        · have hn := heap_alloc_new w2 (.cells #[p] 105)
          match j, hj with
          | 0, _ => exact ⟨p, by unfold World.cell?; rw [hn]; rfl, k2.later tA (by omega)⟩
        · rintro e w6 (⟨hr, rfl, t6⟩ | ⟨P, a6, c6, hr, rfl, o6, wf6, le6, t6, b6⟩)
          · have hn : R = none := by
              rw [HRR.out]
              by_cases h : xs.length + 1 > 64
              · rw [if_pos h]
              · rw [jn_go (f := rowF [insO 28 0]) rfl (by show xs.length + 1 ≤ 64; omega)] at hr
                cases hr
            exact .inl ⟨hn, rfl, (hT.trans tt (by simp)).trans t6 (fun x hx => .inr (hob x (by simpa using hx)).1)⟩
          · have hn : R = some P := by
              rw [HRR.out]
              by_cases h : xs.length + 1 > 64
              · rw [jn_no (f := rowF [insO 28 0]) (.inr h)] at hr
                cases hr
              · rw [jn_go (f := rowF [insO 28 0]) rfl (by show xs.length + 1 ≤ 64; omega)] at hr
                rw [if_neg h]
                exact hr
            obtain ⟨a7, c7, e7, i7⟩ := insIn_of o6 wf6
            cases e7
            exact .inr ⟨P, a6, c6, hn, rfl, i7, (hT.trans tt (by simp)).trans t6 (fun x hx => .inr (hob x (by simpa using hx)).1)⟩
      clear hR hown hwf hT hob hI tI sI HRR
      generalize hxl : xs.length = m at *
      go_wp2_with fail
      refine HROW.out.out.mono ?_
      rintro e w2 ⟨p, rfl, t2, k2⟩
      have e2 := k2
      obtain ⟨fn, cp, rfl, -⟩ := e2
      have HJ2 := HJ.out _ _ t2 k2
      clear t2 k2 HJ HROW
      go_wp2_with fail
      refine HJ2.out.mono ?_
      clear HJ2
      rintro e w6 hb
      have hb' := hb
      rcases hb' with ⟨_, rfl, _⟩ | ⟨P, a6, c6, _, rfl, _, _⟩
      · have HB : Hid (BuP w R (.returned (.tuple #[.slice none 0 0, .int .i64 4])) w6) := hb
        clear hb
        go_wp2
        exact bodyPost_ret (v := .tuple #[.slice none 0 0, .int .i64 4]) (by simp [results, Tryz.results30, go_sem]) rfl HB.out
      · have HB : Hid (BuP w R (.returned (.tuple #[.slice a6 P.length c6, .int .i64 0])) w6) := hb
        clear hb
        generalize P.length = pm at *
        go_wp2
        exact bodyPost_ret (v := .tuple #[.slice a6 pm c6, .int .i64 0]) (by simp [results, Tryz.results30, go_sem]) rfl HB.out

end Go.Proofs.YtcbkafbchpjnoaaGreatDoor
/-
  package calls: areOf, Tvars, Program BY THEIR CONTRACTS.
-/
namespace Go.Proofs.YtcbkafbchpjnoaaGreatDoor
set_option linter.unusedVariables false
set_option linter.unusedSimpArgs false
open Go.RowKit
attribute [local go_sem] Oper.semAt_some

theorem okO_kinds {k n : Int} (h : okO k n = true) : k = 1 ∨ k = 2 ∨ k = 3 ∨ k = 4 := by
  unfold okO at h
  simp only [Bool.or_eq_true, Bool.and_eq_true, decide_eq_true_eq] at h
  omega
theorem okO_is (k n : Int) : okO k n = true ↔ (k = 1 ∧ n = 0) ∨ (k = 2 ∧ 0 ≤ n ∧ n ≤ 9) ∨ (k = 3 ∧ 1 ≤ n ∧ n ≤ 4) ∨ (k = 4 ∧ 1 ≤ n ∧ n ≤ 4) := by
  unfold okO
  simp only [Bool.or_eq_true, Bool.and_eq_true, decide_eq_true_eq]

set_option maxRecDepth 100000 in
set_option maxHeartbeats 1000000 in
theorem areOf_any {w : World} {b : Nat} {k : Int} (hk : k = 1 ∨ k = 2 ∨ k = 3 ∨ k = 4) (h : ThAt w b k) (u : Int) {ao : Option Addr} {mm cap : Nat} {l : List CaD} (hl : CasIn w ao mm cap l) (hm : mm ≤ 100) :
    Calls Tryz.prog 28 #[.int .i64 u, .pointer (some ⟨b, 0, none⟩), .slice ao mm cap] w fun e w' => e = .returned (.bool (l.all (areC k u))) ∧ Touch w w' [] := by
  have HL : Hid _ := hl
  have HB : Hid (ThAt w b k) := h
  have HK : Hid _ := hk
  have HM : Hid _ := hl.len
  clear hl h hk
  go_enter Tryz.func28, Tryz.ntmps28
  go_wp2_with fail
  go_loopw [11] (fun i wr => ∃ j : Nat, i = .int .i64 j ∧ j ≤ mm ∧ l.all (areC k u) = (l.drop j).all (areC k u) ∧ Touch w wr []) (fun i _ => mm - (intOf i).toNat)
  case atStart => exact ⟨0, rfl, Nat.zero_le _, rfl, Touch.refl _ _⟩
  case round =>
    obtain ⟨j, rfl, hj, hR, hT⟩ := hrel
    by_cases hlt : j < mm
    · have h1 : (j : Int) < mm := by omega
      have h0 : (0 : Int) ≤ j := by omega
      have hjl : j < l.length := by rw [← HM.out]; exact hlt
      have hjc : j < cap := Nat.lt_of_lt_of_le hlt HL.out.le
      obtain ⟨g, off, rfl, hg, x0, x1, x2⟩ := (HL.out.keep hT).at j hjl
      have hdrop : l.drop j = l[j] :: l.drop (j + 1) := List.drop_eq_getElem_cons hjl
      rw [hdrop, List.all_cons] at hR
      have hCW := HL.out.wf l[j] (List.getElem_mem hjl)
      generalize l[j] = cc at *
      obtain ⟨c, v, x⟩ := cc
      simp only at x0 x1 x2
      have hbx := BoxK.new wr c v x
      obtain ⟨b0, b1, b2⟩ := hbx.cells
      have tW : Touch wr (wr.alloc (.cells #[.int .u8 c, .int .i64 v, .int .u64 x] 52)) [] := (Touch.refl _ _).alloc _
      have HTA : Hid (HidC Tryz.prog 49 #[.pointer (some ⟨b, 0, none⟩), .int .u8 c] (wr.alloc (.cells #[.int .u8 c, .int .i64 v, .int .u64 x] 52)) fun e w' => e = .returned (.bool (tksP k c)) ∧ (wr.alloc (.cells #[.int .u8 c, .int .i64 v, .int .u64 x] 52)) = w') := ⟨otakes_any HK.out (((show ThAt w b k from HB.out).touch hT (by simp)).touch tW (by simp)) c⟩
      have HMA : Hid (HidC Tryz.prog 50 #[.int .u8 c, .int .u64 x] (wr.alloc (.cells #[.int .u8 c, .int .i64 v, .int .u64 x] 52)) fun e w' => e = .returned (.bool (fitC ⟨c, 0, x⟩)) ∧ Touch (wr.alloc (.cells #[.int .u8 c, .int .i64 v, .int .u64 x] 52)) w' []) := ⟨may_any c x hCW.v _⟩
      have HTW : Hid (Touch w (wr.alloc (.cells #[.int .u8 c, .int .i64 v, .int .u64 x] 52)) []) := hT.trans tW (by simp)
      have hfe : areC k u ⟨c, v, x⟩ = (tksP k c && (decide (v = u) && fitC ⟨c, 0, x⟩)) := rfl
      rw [hfe] at hR
      have HR : Hid _ := hR
      clear hR hT hdrop hCW tW hbx hfe
      generalize fitC ⟨c, 0, x⟩ = fb at *
      generalize tksP k c = tb at *
      go_wp2_with fail
      refine HTA.out.out.mono ?_
      clear HTA
      rintro e w1 ⟨rfl, rfl⟩
      cases tb with
      | false =>
        have HR2 : Hid (l.all (areC k u) = false) := by show _ = _; rw [show l.all (areC k u) = _ from HR.out]; rfl
        clear HR HMA
        go_wp2
        go_ret
        exact ⟨by rw [HR2.out]; rfl, HTW.out⟩
      | true =>
        by_cases hvu : v = u
        · subst hvu
          go_wp2_with fail
          refine HMA.out.out.mono ?_
          clear HMA
          rintro e w1 ⟨rfl, t1⟩
          have HTX : Hid (Touch w w1 []) := HTW.out.trans t1 (by simp)
          clear t1 HTW
          cases fb with
          | false =>
            have HR2 : Hid (l.all (areC k v) = false) := by show _ = _; rw [show l.all (areC k v) = _ from HR.out]; simp
            clear HR
            go_wp2
            go_ret
            exact ⟨by rw [HR2.out]; rfl, HTX.out⟩
          | true =>
            have HR2 : Hid (l.all (areC k v) = (l.drop (j + 1)).all (areC k v)) := by show _ = _; rw [show l.all (areC k v) = _ from HR.out]; simp
            clear HR
            go_wp2
            go_roundw
            case rel => exact ⟨j + 1, by go_num, by omega, HR2.out, HTX.out⟩
            case measure => simp [intOf]; omega
        · have HR2 : Hid (l.all (areC k u) = false) := by show _ = _; rw [show l.all (areC k u) = _ from HR.out]; simp [hvu]
          clear HR HMA
          go_wp2
          go_ret
          exact ⟨by rw [HR2.out]; rfl, HTW.out⟩
    · have h1 : ¬ (j : Int) < mm := by omega
      have hjN : j = l.length := by rw [← HM.out]; omega
      rw [hjN, List.drop_length] at hR
      have HR2 : Hid (l.all (areC k u) = true) := hR
      have HT : Hid _ := hT
      clear hR hT
      go_wp2
      go_ret
      exact ⟨by rw [HR2.out]; rfl, HT.out⟩

set_option maxRecDepth 100000 in
theorem tvars_any (k n : Int) (w : World) : Calls Tryz.prog 17 #[.int .u8 k, .int .i64 n] w fun e w' => e = .returned (.int .i64 (tvN k n)) ∧ Touch w w' [] := by
  have HC : HidC _ _ _ _ _ := ⟨onew_any k n w⟩
  cases ho : okO k n with
  | false =>
    have HE : Hid (tvN k n = 0) := by show _ = _; unfold tvN; rw [ho]; rfl
    go_enter Tryz.func17, Tryz.ntmps17
    go_wp2_with fail
    refine HC.out.mono ?_
    clear HC
    rintro e w1 (⟨h, b, rfl, ha, hb, t⟩ | ⟨h, rfl, t⟩)
    · rw [ho] at h; cases h
    · have HT : Hid _ := t
      clear t
      go_wp2
      go_ret
      exact ⟨by rw [HE.out]; rfl, HT.out⟩
  | true =>
    have hw := (okO_is k n).1 ho
    have HE : Hid (tvN k n = if k = 3 then n + 2 else if k = 4 then 2 else 1) := by show _ = _; unfold tvN; rw [ho]; rfl
    have hn1 : IntKind.i64.wrap (0 + n) = n ∨ ¬ k = 3 := by
      by_cases h3 : k = 3
      · left; rw [IntKind.wrap_i64]; omega
      · right; exact h3
    have hk := okO_kinds ho
    rcases hk with rfl | rfl | rfl | rfl
    all_goals
      first
      | (have h3 : 1 ≤ n ∧ n ≤ 4 := by omega
         have w1 : IntKind.i64.wrap n = n := by rw [IntKind.wrap_i64]; omega
         have w2 : IntKind.i64.wrap (n + 1) = n + 1 := by rw [IntKind.wrap_i64]; omega
         have w3 : IntKind.i64.wrap (n + 1 + 1) = n + 2 := by rw [IntKind.wrap_i64]; omega)
      | skip
      clear hw hn1
      go_enter Tryz.func17, Tryz.ntmps17
      go_wp2_with fail
      refine HC.out.mono ?_
      clear HC
      rintro e w1 (⟨h, b, rfl, ha, hb, t⟩ | ⟨h, rfl, t⟩)
      · have HT : Hid _ := t
        clear t h ha
        go_wp2
        go_ret
        refine ⟨?_, HT.out⟩
        rw [HE.out]
        rfl
      · rw [ho] at h; cases h

end Go.Proofs.YtcbkafbchpjnoaaGreatDoor
/-
  package calls: Program BY ITS CONTRACT.
-/
namespace Go.Proofs.YtcbkafbchpjnoaaGreatDoor
set_option linter.unusedVariables false
set_option linter.unusedSimpArgs false
open Go.RowKit
attribute [local go_sem] Oper.semAt_some

theorem ck_of {k n t u : Int} {l : List CaD} (ho : okO k n = true) (ha : l.all (areC k u) = true) (ht : (decide (0 ≤ t) && decide (t ≤ 12 - tvN k n)) = true) (hu : (decide (0 ≤ u) && decide (u ≤ 3)) = true) (hw : ∀ c ∈ l, c.Wf) : ∀ c ∈ l, CkOk n t c := by
  intro c hc
  have h1 := (okO_is k n).1 ho
  have h2 := List.all_eq_true.1 ha c hc
  have h3 : tvN k n = if k = 3 then n + 2 else if k = 4 then 2 else 1 := by unfold tvN; rw [ho]; rfl
  rw [h3] at ht
  unfold areC at h2
  simp only [Bool.and_eq_true, decide_eq_true_eq] at h2 ht hu
  obtain ⟨h4, h5, h6⟩ := h2
  unfold tksP at h4
  have h7 : c.k = 5 → rightB c.v = true := by
    intro h
    unfold fitC at h6
    rwa [if_pos (.inl h)] at h6
  have hwf := hw c hc
  rcases h1 with ⟨rfl, h⟩ | ⟨rfl, h⟩ | ⟨rfl, h⟩ | ⟨rfl, h⟩
  · simp at h4 ht
    exact ⟨by omega, by omega, fun _ => by omega, fun _ => by omega, fun _ => by omega, fun _ => by omega, hwf.v, h7⟩
  · simp at h4 ht
    exact ⟨by omega, by omega, fun _ => by omega, fun _ => by omega, fun _ => by omega, fun _ => by omega, hwf.v, h7⟩
  · simp at h4 ht
    exact ⟨by omega, by omega, fun _ => by omega, fun _ => by omega, fun _ => by omega, fun _ => by omega, hwf.v, h7⟩
  · simp at h4 ht
    exact ⟨by omega, by omega, fun _ => by omega, fun _ => by omega, fun _ => by omega, fun _ => by omega, hwf.v, h7⟩

theorem tv_le {k n : Int} (ho : okO k n = true) : 1 ≤ tvN k n ∧ tvN k n ≤ 6 := by
  have h1 := (okO_is k n).1 ho
  have h3 : tvN k n = if k = 3 then n + 2 else if k = 4 then 2 else 1 := by unfold tvN; rw [ho]; rfl
  rw [h3]
  split
  · omega
  · split <;> omega

theorem clbet_is {a b c : Int} {x : Bool} (h : (decide (a ≤ b) && decide (b ≤ c)) = x) (w : World) : Calls Tryz.prog 29 #[.int .i64 a, .int .i64 b, .int .i64 c] w fun e w' => e = .returned (.bool x) ∧ w = w' := by subst h; exact clbet_any a b c w

set_option maxRecDepth 100000 in
set_option maxHeartbeats 2000000 in
theorem program_any {w : World} (hw : Wds w) (k n t u : Int) {ao : Option Addr} {mm cap : Nat} {l : List CaD} (hl : CasIn w ao mm cap l) (hm : mm ≤ 100) :
    Calls Tryz.prog 8 #[.int .u8 k, .int .i64 n, .int .i64 t, .int .i64 u, .slice ao mm cap] w (LkP w (proE k n t u l) (proL n t l)) := by
  obtain ⟨E, hE⟩ : ∃ E, E = proE k n t u l := ⟨_, rfl⟩
  rw [← hE]
  unfold proE at hE
  have HE : Hid _ := hE
  have HL : Hid _ := hl
  have HW : Hid _ := hw
  have HC : HidC _ _ _ _ _ := ⟨onew_any k n w⟩
  clear hE hl hw
  cases ho : okO k n with
  | false =>
    have HE2 : Hid (E = 3) := by show _ = _; rw [HE.out, ho]; rfl
    clear HE
    go_enter Tryz.func8, Tryz.ntmps8
    go_wp2_with fail
    refine HC.out.mono ?_
    clear HC
    rintro e w1 (⟨h, b, rfl, ha, hb, t1⟩ | ⟨h, rfl, t1⟩)
    · rw [ho] at h; cases h
    · have HT : Hid _ := t1
      clear t1
      go_wp2
      exact bodyPost_ret (v := .tuple #[.slice none 0 0, .int .i64 3]) (by simp [results, Tryz.results8, go_sem]) rfl (.inr ⟨by rw [HE2.out]; decide, by rw [HE2.out], HT.out⟩)
  | true =>
    have HO : Hid _ := ho
    have hk := okO_kinds ho
    have HTV : Hid _ := tv_le ho
    have HK : Hid _ := hk
    clear ho hk
    go_enter Tryz.func8, Tryz.ntmps8
    go_wp2_with fail
    refine HC.out.mono ?_
    clear HC
    rintro e w1 (⟨h, b, rfl, ha, hb, t1⟩ | ⟨h, rfl, t1⟩)
    · have hAR := areOf_any HK.out ha u (HL.out.keep t1) hm
      have HT1 : Hid _ := t1
      clear t1 ha h hb
      go_wp2_with fail
      refine hAR.mono ?_
      clear hAR
      rintro e w2 ⟨rfl, t2⟩
      have HT2 : Hid (Touch w w2 []) := HT1.out.trans t2 (by simp)
      clear t2 HT1
      cases hA : l.all (areC k u) with
      | false =>
        have HE2 : Hid (E = 3) := by show _ = _; rw [HE.out, hA]; simp
        clear HE hA
        go_wp2
        exact bodyPost_ret (v := .tuple #[.slice none 0 0, .int .i64 3]) (by simp [results, Tryz.results8, go_sem]) rfl (.inr ⟨by rw [HE2.out]; decide, by rw [HE2.out], HT2.out⟩)
      | true =>
        have HA : Hid _ := hA
        have HTN : Hid (∀ W, HidC Tryz.prog 17 #[.int .u8 k, .int .i64 n] W fun e w' => e = .returned (.int .i64 (tvN k n)) ∧ Touch W w' []) := fun W => ⟨tvars_any k n W⟩
        have hw12 : IntKind.i64.wrap (12 - tvN k n) = 12 - tvN k n := by have := HTV.out; rw [IntKind.wrap_i64]; omega
        have HE3 : Hid (E = if (decide (0 ≤ t) && decide (t ≤ 12 - tvN k n)) && (decide (0 ≤ u) && decide (u ≤ 3)) then (if (runC n t l []).isSome then 0 else 4) else 2) := by
          show _ = _
          rw [HE.out, show okO k n = true from HO.out, show l.all (areC k u) = true from HA.out]
          simp only [Bool.and_self, if_true]
        clear HE hA
        have hck := fun hx hy => ck_of (t := t) HO.out HA.out hx hy HL.out.wf
        have HCK : Hid _ := hck
        clear hck
        generalize tvN k n = tv at *
        go_wp2_with fail
        refine (HTN.out _).out.mono ?_
        rintro e w3 ⟨rfl, t3⟩
        have HT3 : Hid (Touch w w3 []) := HT2.out.trans t3 (by simp)
        clear t3 HTN HT2
        cases hc1 : (decide (0 ≤ t) && decide (t ≤ 12 - tv)) with
        | false =>
          have HE2 : Hid (E = 2) := by show _ = _; rw [HE3.out, hc1]; rfl
          clear HE3
          have HB1 : Hid _ := hc1
          clear hc1
          go_wp2_with fail
          refine (clbet_is HB1.out _).mono ?_
          rintro e _ ⟨rfl, rfl⟩
          go_wp2
          exact bodyPost_ret (v := .tuple #[.slice none 0 0, .int .i64 2]) (by simp [results, Tryz.results8, go_sem]) rfl (.inr ⟨by rw [HE2.out]; decide, by rw [HE2.out], HT3.out⟩)
        | true =>
          cases hc2 : (decide (0 ≤ u) && decide (u ≤ 3)) with
          | false =>
            have HE2 : Hid (E = 2) := by show _ = _; rw [HE3.out, hc1, hc2]; rfl
            clear HE3
            have HB1 : Hid _ := hc1
            have HB2 : Hid _ := hc2
            clear hc1 hc2
            go_wp2_with fail
            refine (clbet_is HB1.out _).mono ?_
            rintro e _ ⟨rfl, rfl⟩
            go_wp2_with fail
            refine (clbet_is HB2.out _).mono ?_
            rintro e _ ⟨rfl, rfl⟩
            go_wp2
            exact bodyPost_ret (v := .tuple #[.slice none 0 0, .int .i64 2]) (by simp [results, Tryz.results8, go_sem]) rfl (.inr ⟨by rw [HE2.out]; decide, by rw [HE2.out], HT3.out⟩)
          | true =>
            have HE2 : Hid (E = if (runC n t l []).isSome then 0 else 4) := by show _ = _; rw [HE3.out, hc1, hc2]; rfl
            have HBU : Hid (HidC Tryz.prog 30 #[.int .i64 n, .int .i64 t, .slice ao mm cap] w3 (BuP w3 (runC n t l []))) := ⟨built_any (HW.out.touch HT3.out (by simp)) n t (HL.out.keep HT3.out) hm (HCK.out hc1 hc2)⟩
            clear HE3 HCK
            have HB1 : Hid _ := hc1
            have HB2 : Hid _ := hc2
            clear hc1 hc2
            have HPL : Hid (proL n t l = (runC n t l []).getD []) := rfl
            generalize runC n t l [] = r at *
            generalize proL n t l = PL at *
            go_wp2_with fail
            refine (clbet_is HB1.out _).mono ?_
            rintro e _ ⟨rfl, rfl⟩
            go_wp2_with fail
            refine (clbet_is HB2.out _).mono ?_
            rintro e _ ⟨rfl, rfl⟩
            go_wp2_with fail
            refine HBU.out.out.mono ?_
            clear HBU
            rintro e w4 (⟨rfl, rfl, t4⟩ | ⟨P, a4, c4, rfl, rfl, i4, t4⟩)
            · have HT4 : Hid (Touch w w4 []) := HT3.out.trans t4 (by simp)
              have HE5 : Hid (E = 4) := HE2.out
              clear t4 HE2
              go_wp2
              exact bodyPost_ret (v := .tuple #[.slice none 0 0, .int .i64 4]) (by simp [results, Tryz.results8, go_sem]) rfl (.inr ⟨by rw [HE5.out]; decide, by rw [HE5.out], HT4.out⟩)
            · have HT4 : Hid (Touch w w4 []) := HT3.out.trans t4 (by simp)
              have HE5 : Hid (E = 0) := HE2.out
              have HI : Hid (InsIn w4 a4 PL.length c4 PL) := by show InsIn _ _ _ _ _; rw [show PL = P from HPL.out]; exact i4
              have HPE : Hid (PL.length = P.length) := by show _ = _; rw [show PL = P from HPL.out]
              clear t4 HE2 i4 HPL
              generalize P.length = pn at *
              go_wp2
              exact bodyPost_ret (v := .tuple #[.slice a4 pn c4, .int .i64 0]) (by simp [results, Tryz.results8, go_sem]) rfl (.inl ⟨HE5.out, a4, c4, by rw [HPE.out], HI.out, HT4.out⟩)
    · rw [show okO k n = true from HO.out] at h; cases h

end Go.Proofs.YtcbkafbchpjnoaaGreatDoor
/-
  The document's objects and blocks of calls BY THEIR CONTRACTS. Written by mkclr.py.
-/
namespace Go.Proofs.YtcbkafbchpjnoaaGreatDoor
set_option linter.unusedVariables false
set_option linter.unusedSimpArgs false
open Go.RowKit
attribute [local go_sem] Oper.semAt_some

/-- An object of the document's, as it is made. -/
structure RoN (w : World) (b : Nat) (k n : Int) : Prop where
  st : w.heap[b]? = some (.cells #[.int .u8 k, .int .i64 n, .int .i64 (-1), .int .i64 (if k = 2 then n else 0), .int .i64 0, .slice none 0 0] 93 (0, 0))
theorem RoN.touch {w w' : World} {b : Nat} {k n : Int} {S : List Nat} (h : RoN w b k n) (t : Touch w w' S) (hS : b ∉ S) : RoN w' b k n := ⟨(t.block b (lt_of_heap h.st) hS).trans h.st⟩
def RnP (w : World) (k n : Int) (e : Ending) (w' : World) : Prop := (okO k n = true ∧ ∃ b, e = .returned (.pointer (some ⟨b, 0, none⟩)) ∧ RoN w' b k n ∧ w.heap.size ≤ b ∧ Touch w w' []) ∨ (okO k n = false ∧ e = .returned (.pointer none) ∧ Touch w w' [])

set_option maxRecDepth 100000 in
set_option maxHeartbeats 2000000 in
theorem rnewC_any (k n : Int) (w : World) : Calls Tryz.prog 22 #[.int .u8 k, .int .i64 n] w (RnP w k n) := by
  have hb : (w.alloc (.cells #[.int .u8 k, .int .i64 n, .int .i64 (-1), .int .i64 0, .int .i64 0, .slice none 0 0] 93)).heap[w.heap.size]? = some (.cells #[.int .u8 k, .int .i64 n, .int .i64 (-1), .int .i64 0, .int .i64 0, .slice none 0 0] 93 (0, 0)) := heap_alloc_new w _
  have f3 : (w.alloc (.cells #[.int .u8 k, .int .i64 n, .int .i64 (-1), .int .i64 0, .int .i64 0, .slice none 0 0] 93)).frozen? ⟨w.heap.size, 3, none⟩ = false := by unfold World.frozen?; rw [hb]; simp
  have x3 : (w.alloc (.cells #[.int .u8 k, .int .i64 n, .int .i64 (-1), .int .i64 0, .int .i64 0, .slice none 0 0] 93)).cell? ⟨w.heap.size, 3, none⟩ = some (.int .i64 0) := by unfold World.cell?; rw [hb]; rfl
  have HB : Hid _ := hb
  have HT : Hid (Touch w (w.alloc (.cells #[.int .u8 k, .int .i64 n, .int .i64 (-1), .int .i64 0, .int .i64 0, .slice none 0 0] 93)) []) := (Touch.refl w []).alloc _
  clear hb
  rcases size_ways k n with ⟨rfl, rfl⟩ | ⟨rfl, h1⟩ | ⟨rfl, h1⟩ | ⟨rfl, h1, h2⟩ | ⟨rfl, h1⟩ | ⟨rfl, h1⟩ | ⟨rfl, h1, h2⟩ | ⟨rfl, h1⟩ | ⟨rfl, h1⟩ | ⟨rfl, h1, h2⟩ | ⟨rfl, h1⟩ | ⟨h1, h2, h3, h4⟩
  all_goals
    try have q0 : (n == 0) = false := by simp; omega
    try have q1 : decide (n ≥ 0) = true := decide_eq_true (by omega)
    try have q1 : decide (n ≥ 0) = false := decide_eq_false (by omega)
    try have q2 : decide (n ≤ 9) = true := decide_eq_true (by omega)
    try have q2 : decide (n ≤ 9) = false := decide_eq_false (by omega)
    try have q3 : decide (n ≥ 1) = true := decide_eq_true (by omega)
    try have q3 : decide (n ≥ 1) = false := decide_eq_false (by omega)
    try have q4 : decide (n ≤ 4) = true := decide_eq_true (by omega)
    try have q4 : decide (n ≤ 4) = false := decide_eq_false (by omega)
    go_enter Tryz.func22, Tryz.ntmps22
    go_wp2
    first
    | (refine bodyPost_ret (v := .pointer none) (by simp [results, Tryz.results22, go_sem]) rfl (.inr ⟨?_, rfl, ?_⟩)
       · unfold okO; simp_all <;> omega
       · first | exact HT.out | exact (Touch.refl _ _).alloc _)
    | (go_ret
       refine .inl ⟨?_, w.heap.size, rfl, ⟨?_⟩, Nat.le_refl _, ?_⟩
       · unfold okO; simp_all <;> omega
       · first | exact HB.out | exact heap_alloc_new w _
       · first | exact HT.out | exact (Touch.refl _ _).alloc _)

theorem RoN.cells {w : World} {b : Nat} {k n : Int} (h : RoN w b k n) : w.cell? ⟨b, 0, none⟩ = some (.int .u8 k) ∧ w.cell? ⟨b, 1, none⟩ = some (.int .i64 n) ∧ w.cell? ⟨b, 2, none⟩ = some (.int .i64 (-1)) ∧ w.cell? ⟨b, 3, none⟩ = some (.int .i64 (if k = 2 then n else 0)) ∧ w.cell? ⟨b, 4, none⟩ = some (.int .i64 0) ∧ w.cell? ⟨b, 5, none⟩ = some (.slice none 0 0) := by
  refine ⟨?_, ?_, ?_, ?_, ?_, ?_⟩ <;> (unfold World.cell?; rw [h.st]; rfl)
set_option maxRecDepth 100000 in
theorem rtakesC_any {w : World} {b : Nat} {k n : Int} (hk : k = 1 ∨ k = 2 ∨ k = 3 ∨ k = 4) (h : RoN w b k n) (c : Int) :
    Calls Tryz.prog 31 #[.pointer (some ⟨b, 0, none⟩), .int .u8 c] w fun e w' => e = .returned (.bool (tksP k c)) ∧ w = w' := by
  obtain ⟨x0, x1, x2, x3, x4, x5⟩ := h.cells
  clear h
  generalize (if k = 2 then n else 0 : Int) = q at x3
  unfold tksP
  rcases hk with rfl | rfl | rfl | rfl
  · rcases (show c = 1 ∨ c = 2 ∨ (c ≠ 1 ∧ c ≠ 2) by omega) with rfl | rfl | ⟨h1, h2⟩
    all_goals
      go_enter Tryz.func31, Tryz.ntmps31
      go_wp2
      go_ret
      refine ⟨?_, rfl⟩
      congr 2
      try simp_all
  · rcases (show c = 3 ∨ c = 4 ∨ (c ≠ 3 ∧ c ≠ 4) by omega) with rfl | rfl | ⟨h1, h2⟩
    all_goals
      go_enter Tryz.func31, Tryz.ntmps31
      go_wp2
      go_ret
      refine ⟨?_, rfl⟩
      congr 2
      try simp_all
  · rcases (show c = 5 ∨ c = 6 ∨ (c ≠ 5 ∧ c ≠ 6) by omega) with rfl | rfl | ⟨h1, h2⟩
    all_goals
      go_enter Tryz.func31, Tryz.ntmps31
      go_wp2
      go_ret
      refine ⟨?_, rfl⟩
      congr 2
      try simp_all
  · rcases (show c = 7 ∨ c = 8 ∨ (c ≠ 7 ∧ c ≠ 8) by omega) with rfl | rfl | ⟨h1, h2⟩
    all_goals
      go_enter Tryz.func31, Tryz.ntmps31
      go_wp2
      go_ret
      refine ⟨?_, rfl⟩
      congr 2
      try simp_all

theorem fitC_is (c : CaD) : fitC c = (rightB c.v && (decide (c.k = 5) || (decide (c.k = 8) || decide (c.v = 0)))) := by
  unfold fitC
  by_cases h5 : c.k = 5
  · rw [if_pos (.inl h5)]; simp [h5]
  · by_cases h8 : c.k = 8
    · rw [if_pos (.inr h8)]; simp [h8]
    · rw [if_neg (by omega)]
      by_cases h0 : c.v = 0
      · rw [h0, show rightB 0 = true by decide +kernel]; simp
      · simp [h5, h8, h0]

set_option maxRecDepth 100000 in
theorem rfits_any (c : CaD) (hv : Wf64 c.v) (w : World) : Calls Tryz.prog 32 #[c.val] w fun e w' => e = .returned (.bool (fitC c)) ∧ Touch w w' [] := by
  rw [fitC_is]
  obtain ⟨k, u, v⟩ := c
  unfold CaD.val
  simp only at hv ⊢
  have HB := BoxK.new w k u v
  obtain ⟨x0, x1, x2⟩ := HB.cells
  have HT : Hid (Touch w (w.alloc (.cells #[.int .u8 k, .int .i64 u, .int .u64 v] 52)) []) := (Touch.refl w []).alloc _
  have HR : HidC _ _ _ _ _ := ⟨rright_any v hv (w.alloc (.cells #[.int .u8 k, .int .i64 u, .int .u64 v] 52))⟩
  clear HB hv
  generalize rightB v = rb at *
  cases rb with
  | false =>
    go_enter Tryz.func32, Tryz.ntmps32
    go_wp2_with fail
    refine HR.out.mono ?_
    clear HR
    rintro e _ ⟨rfl, rfl⟩
    go_wp2
    go_ret
    exact ⟨rfl, HT.out⟩
  | true =>
    by_cases h5 : k = 5
    · subst h5
      go_enter Tryz.func32, Tryz.ntmps32
      go_wp2_with fail
      refine HR.out.mono ?_
      clear HR
      rintro e _ ⟨rfl, rfl⟩
      go_wp2
      go_ret
      exact ⟨rfl, HT.out⟩
    · have k5 : (k == 5) = false := by simpa using h5
      by_cases h8 : k = 8
      · subst h8
        go_enter Tryz.func32, Tryz.ntmps32
        go_wp2_with fail
        refine HR.out.mono ?_
        clear HR
        rintro e _ ⟨rfl, rfl⟩
        go_wp2
        go_ret
        exact ⟨rfl, HT.out⟩
      · have k8 : (k == 8) = false := by simpa using h8
        have hz : (v == 0) = decide (v = 0) := by by_cases h : v = 0 <;> simp [h]
        have HZ : Hid (decide (v = 0) = (true && (decide (k = 5) || (decide (k = 8) || decide (v = 0))))) := by show _ = _; simp [h5, h8]
        generalize (true && (decide (k = 5) || (decide (k = 8) || decide (v = 0)))) = Z at *
        generalize decide (v = 0) = zb at *
        go_enter Tryz.func32, Tryz.ntmps32
        go_wp2_with fail
        refine HR.out.mono ?_
        clear HR
        rintro e _ ⟨rfl, rfl⟩
        go_wp2
        go_ret
        exact ⟨by rw [← HZ.out]; rfl, HT.out⟩

set_option maxRecDepth 100000 in
theorem rtvars_any (k n : Int) (w : World) : Calls Tryz.prog 18 #[.int .u8 k, .int .i64 n] w fun e w' => e = .returned (.int .i64 (tvN k n)) ∧ Touch w w' [] := by
  have HC : HidC _ _ _ _ _ := ⟨rnewC_any k n w⟩
  cases ho : okO k n with
  | false =>
    have HE : Hid (tvN k n = 0) := by show _ = _; unfold tvN; rw [ho]; rfl
    go_enter Tryz.func18, Tryz.ntmps18
    go_wp2_with fail
    refine HC.out.mono ?_
    clear HC
    rintro e w1 (⟨h, b, rfl, ha, hb, t⟩ | ⟨h, rfl, t⟩)
    · rw [ho] at h; cases h
    · have HT : Hid _ := t
      clear t
      go_wp2
      go_ret
      exact ⟨by rw [HE.out]; rfl, HT.out⟩
  | true =>
    have hw := (okO_is k n).1 ho
    have HE : Hid (tvN k n = if k = 3 then n + 2 else if k = 4 then 2 else 1) := by show _ = _; unfold tvN; rw [ho]; rfl
    have hk := okO_kinds ho
    rcases hk with rfl | rfl | rfl | rfl
    all_goals
      first
      | (have h3 : 1 ≤ n ∧ n ≤ 4 := by omega
         have w3 : IntKind.i64.wrap (n + 2) = n + 2 := by rw [IntKind.wrap_i64]; omega)
      | skip
      clear hw
      go_enter Tryz.func18, Tryz.ntmps18
      go_wp2_with fail
      refine HC.out.mono ?_
      clear HC
      rintro e w1 (⟨h, b, rfl, ha, hb, t⟩ | ⟨h, rfl, t⟩)
      · have HT : Hid _ := t
        clear t h ha
        go_wp2
        go_ret
        refine ⟨?_, HT.out⟩
        rw [HE.out]
        rfl
      · rw [ho] at h; cases h

/-- The error of a call's block with what stands ahead of it. -/
def rbE (a : Int) (c : CaD) : Int := if a + ((ahdC c).length + lenC c.k : Nat) > 64 then 4 else 0
def rbL (n t a : Int) (c : CaD) : List InsD := ahdC c ++ blkC n t (a + (ahdC c).length) c

set_option maxRecDepth 100000 in
theorem rblk_1 (w : World) (a : Int) (ha : 0 ≤ a ∧ a ≤ 64) (n t u v : Int) (h : CkOk n t ⟨1, u, v⟩) :
    Calls Tryz.prog 33 #[.int .i64 a, .int .i64 n, .int .i64 t, .agg #[.int .u8 1, .int .i64 u, .int .u64 v]] w (LkP w (rbE a ⟨1, u, v⟩) (rbL n t a ⟨1, u, v⟩)) := by
  have hv := h.hv
  simp only at hv
  have hc := rlock_any a t u (w.alloc (.cells #[.int .u8 1, .int .i64 u, .int .u64 v] 52))
  rw [blkE_1 a ha n t u v h] at hc
  have e : rbL n t a ⟨1, u, v⟩ = blkL a (lockB t u) := by unfold rbL; rw [show ahdC ⟨1, u, v⟩ = [] from rfl]; simp only [List.nil_append, List.length_nil, Int.natCast_zero, Int.add_zero]; rfl
  rw [e]
  have e2 : rbE a ⟨1, u, v⟩ = blkCE a 1 := by unfold rbE blkCE; rw [show ahdC ⟨1, u, v⟩ = [] from rfl]; simp only [List.length_nil, Nat.zero_add]
  rw [e2]
  have hp := BoxK.new w 1 u v
  have HT0 : Hid (Touch w (w.alloc (.cells #[.int .u8 1, .int .i64 u, .int .u64 v] 52)) []) := (Touch.refl w []).alloc _
  generalize blkL a (lockB t u) = RL at *
  generalize blkCE a 1 = E at *
  have HC : HidC _ _ _ _ _ := ⟨hc⟩
  obtain ⟨x0, x1, x2⟩ := hp.cells
  clear hc h hp hv ha e e2
  go_enter Tryz.func33, Tryz.ntmps33
  go_wp2_with fail
  refine HC.out.mono ?_
  clear HC
  rintro e w1 (⟨h1, ao, cp, rfl, hi, t1⟩ | ⟨h1, rfl, t1⟩)
  · have HI : Hid _ := hi
    have HT : Hid (Touch w w1 []) := HT0.out.trans t1 (by simp)
    have H1 : Hid _ := h1
    clear hi t1 h1
    go_wp2
    exact bodyPost_ret (v := .tuple #[.slice ao RL.length cp, .int .i64 0]) (by simp [results, Tryz.results33, go_sem]) rfl (.inl ⟨H1.out, ao, cp, rfl, HI.out, HT.out⟩)
  · have HT : Hid (Touch w w1 []) := HT0.out.trans t1 (by simp)
    have H1 : Hid _ := h1
    clear t1 h1
    go_wp2
    exact bodyPost_ret (v := .tuple #[.slice none 0 0, .int .i64 E]) (by simp [results, Tryz.results33, go_sem]) rfl (.inr ⟨H1.out, rfl, HT.out⟩)

set_option maxRecDepth 100000 in
theorem rblk_2 (w : World) (a : Int) (ha : 0 ≤ a ∧ a ≤ 64) (n t u v : Int) (h : CkOk n t ⟨2, u, v⟩) :
    Calls Tryz.prog 33 #[.int .i64 a, .int .i64 n, .int .i64 t, .agg #[.int .u8 2, .int .i64 u, .int .u64 v]] w (LkP w (rbE a ⟨2, u, v⟩) (rbL n t a ⟨2, u, v⟩)) := by
  have hv := h.hv
  simp only at hv
  have hc := runlock_any a t u (w.alloc (.cells #[.int .u8 2, .int .i64 u, .int .u64 v] 52))
  rw [blkE_2 a ha n t u v h] at hc
  have e : rbL n t a ⟨2, u, v⟩ = blkL a (unlockB t u) := by unfold rbL; rw [show ahdC ⟨2, u, v⟩ = [] from rfl]; simp only [List.nil_append, List.length_nil, Int.natCast_zero, Int.add_zero]; rfl
  rw [e]
  have e2 : rbE a ⟨2, u, v⟩ = blkCE a 2 := by unfold rbE blkCE; rw [show ahdC ⟨2, u, v⟩ = [] from rfl]; simp only [List.length_nil, Nat.zero_add]
  rw [e2]
  have hp := BoxK.new w 2 u v
  have HT0 : Hid (Touch w (w.alloc (.cells #[.int .u8 2, .int .i64 u, .int .u64 v] 52)) []) := (Touch.refl w []).alloc _
  generalize blkL a (unlockB t u) = RL at *
  generalize blkCE a 2 = E at *
  have HC : HidC _ _ _ _ _ := ⟨hc⟩
  obtain ⟨x0, x1, x2⟩ := hp.cells
  clear hc h hp hv ha e e2
  go_enter Tryz.func33, Tryz.ntmps33
  go_wp2_with fail
  refine HC.out.mono ?_
  clear HC
  rintro e w1 (⟨h1, ao, cp, rfl, hi, t1⟩ | ⟨h1, rfl, t1⟩)
  · have HI : Hid _ := hi
    have HT : Hid (Touch w w1 []) := HT0.out.trans t1 (by simp)
    have H1 : Hid _ := h1
    clear hi t1 h1
    go_wp2
    exact bodyPost_ret (v := .tuple #[.slice ao RL.length cp, .int .i64 0]) (by simp [results, Tryz.results33, go_sem]) rfl (.inl ⟨H1.out, ao, cp, rfl, HI.out, HT.out⟩)
  · have HT : Hid (Touch w w1 []) := HT0.out.trans t1 (by simp)
    have H1 : Hid _ := h1
    clear t1 h1
    go_wp2
    exact bodyPost_ret (v := .tuple #[.slice none 0 0, .int .i64 E]) (by simp [results, Tryz.results33, go_sem]) rfl (.inr ⟨H1.out, rfl, HT.out⟩)

set_option maxRecDepth 100000 in
theorem rblk_3 (w : World) (a : Int) (ha : 0 ≤ a ∧ a ≤ 64) (n t u v : Int) (h : CkOk n t ⟨3, u, v⟩) :
    Calls Tryz.prog 33 #[.int .i64 a, .int .i64 n, .int .i64 t, .agg #[.int .u8 3, .int .i64 u, .int .u64 v]] w (LkP w (rbE a ⟨3, u, v⟩) (rbL n t a ⟨3, u, v⟩)) := by
  have hv := h.hv
  simp only at hv
  have hc := rdown_any a t (w.alloc (.cells #[.int .u8 3, .int .i64 u, .int .u64 v] 52))
  rw [blkE_3 a ha n t u v h] at hc
  have e : rbL n t a ⟨3, u, v⟩ = blkL a (downB t) := by unfold rbL; rw [show ahdC ⟨3, u, v⟩ = [] from rfl]; simp only [List.nil_append, List.length_nil, Int.natCast_zero, Int.add_zero]; rfl
  rw [e]
  have e2 : rbE a ⟨3, u, v⟩ = blkCE a 3 := by unfold rbE blkCE; rw [show ahdC ⟨3, u, v⟩ = [] from rfl]; simp only [List.length_nil, Nat.zero_add]
  rw [e2]
  have hp := BoxK.new w 3 u v
  have HT0 : Hid (Touch w (w.alloc (.cells #[.int .u8 3, .int .i64 u, .int .u64 v] 52)) []) := (Touch.refl w []).alloc _
  generalize blkL a (downB t) = RL at *
  generalize blkCE a 3 = E at *
  have HC : HidC _ _ _ _ _ := ⟨hc⟩
  obtain ⟨x0, x1, x2⟩ := hp.cells
  clear hc h hp hv ha e e2
  go_enter Tryz.func33, Tryz.ntmps33
  go_wp2_with fail
  refine HC.out.mono ?_
  clear HC
  rintro e w1 (⟨h1, ao, cp, rfl, hi, t1⟩ | ⟨h1, rfl, t1⟩)
  · have HI : Hid _ := hi
    have HT : Hid (Touch w w1 []) := HT0.out.trans t1 (by simp)
    have H1 : Hid _ := h1
    clear hi t1 h1
    go_wp2
    exact bodyPost_ret (v := .tuple #[.slice ao RL.length cp, .int .i64 0]) (by simp [results, Tryz.results33, go_sem]) rfl (.inl ⟨H1.out, ao, cp, rfl, HI.out, HT.out⟩)
  · have HT : Hid (Touch w w1 []) := HT0.out.trans t1 (by simp)
    have H1 : Hid _ := h1
    clear t1 h1
    go_wp2
    exact bodyPost_ret (v := .tuple #[.slice none 0 0, .int .i64 E]) (by simp [results, Tryz.results33, go_sem]) rfl (.inr ⟨H1.out, rfl, HT.out⟩)

set_option maxRecDepth 100000 in
theorem rblk_4 (w : World) (a : Int) (ha : 0 ≤ a ∧ a ≤ 64) (n t u v : Int) (h : CkOk n t ⟨4, u, v⟩) :
    Calls Tryz.prog 33 #[.int .i64 a, .int .i64 n, .int .i64 t, .agg #[.int .u8 4, .int .i64 u, .int .u64 v]] w (LkP w (rbE a ⟨4, u, v⟩) (rbL n t a ⟨4, u, v⟩)) := by
  have hv := h.hv
  simp only at hv
  have hc := rup_any a t (w.alloc (.cells #[.int .u8 4, .int .i64 u, .int .u64 v] 52))
  rw [blkE_4 a ha n t u v h] at hc
  have e : rbL n t a ⟨4, u, v⟩ = blkL a (upB t) := by unfold rbL; rw [show ahdC ⟨4, u, v⟩ = [] from rfl]; simp only [List.nil_append, List.length_nil, Int.natCast_zero, Int.add_zero]; rfl
  rw [e]
  have e2 : rbE a ⟨4, u, v⟩ = blkCE a 4 := by unfold rbE blkCE; rw [show ahdC ⟨4, u, v⟩ = [] from rfl]; simp only [List.length_nil, Nat.zero_add]
  rw [e2]
  have hp := BoxK.new w 4 u v
  have HT0 : Hid (Touch w (w.alloc (.cells #[.int .u8 4, .int .i64 u, .int .u64 v] 52)) []) := (Touch.refl w []).alloc _
  generalize blkL a (upB t) = RL at *
  generalize blkCE a 4 = E at *
  have HC : HidC _ _ _ _ _ := ⟨hc⟩
  obtain ⟨x0, x1, x2⟩ := hp.cells
  clear hc h hp hv ha e e2
  go_enter Tryz.func33, Tryz.ntmps33
  go_wp2_with fail
  refine HC.out.mono ?_
  clear HC
  rintro e w1 (⟨h1, ao, cp, rfl, hi, t1⟩ | ⟨h1, rfl, t1⟩)
  · have HI : Hid _ := hi
    have HT : Hid (Touch w w1 []) := HT0.out.trans t1 (by simp)
    have H1 : Hid _ := h1
    clear hi t1 h1
    go_wp2
    exact bodyPost_ret (v := .tuple #[.slice ao RL.length cp, .int .i64 0]) (by simp [results, Tryz.results33, go_sem]) rfl (.inl ⟨H1.out, ao, cp, rfl, HI.out, HT.out⟩)
  · have HT : Hid (Touch w w1 []) := HT0.out.trans t1 (by simp)
    have H1 : Hid _ := h1
    clear t1 h1
    go_wp2
    exact bodyPost_ret (v := .tuple #[.slice none 0 0, .int .i64 E]) (by simp [results, Tryz.results33, go_sem]) rfl (.inr ⟨H1.out, rfl, HT.out⟩)

set_option maxRecDepth 100000 in
theorem rblk_5 (w : World) (a : Int) (ha : 0 ≤ a ∧ a ≤ 64) (n t u v : Int) (h : CkOk n t ⟨5, u, v⟩) :
    Calls Tryz.prog 33 #[.int .i64 a, .int .i64 n, .int .i64 t, .agg #[.int .u8 5, .int .i64 u, .int .u64 v]] w (LkP w (rbE a ⟨5, u, v⟩) (rbL n t a ⟨5, u, v⟩)) := by
  have hv := h.hv
  simp only at hv
  have hc := renter_any a t n v hv (w.alloc (.cells #[.int .u8 5, .int .i64 u, .int .u64 v] 52))
  rw [blkE_5 a ha n t u v h] at hc
  have e : rbL n t a ⟨5, u, v⟩ = enterI a t n 0 v := by unfold rbL; rw [show ahdC ⟨5, u, v⟩ = [] from rfl]; simp only [List.nil_append, List.length_nil, Int.natCast_zero, Int.add_zero]; rfl
  rw [e]
  have e2 : rbE a ⟨5, u, v⟩ = blkCE a 5 := by unfold rbE blkCE; rw [show ahdC ⟨5, u, v⟩ = [] from rfl]; simp only [List.length_nil, Nat.zero_add]
  rw [e2]
  have hp := BoxK.new w 5 u v
  have HT0 : Hid (Touch w (w.alloc (.cells #[.int .u8 5, .int .i64 u, .int .u64 v] 52)) []) := (Touch.refl w []).alloc _
  generalize enterI a t n 0 v = RL at *
  generalize blkCE a 5 = E at *
  have HC : HidC _ _ _ _ _ := ⟨hc⟩
  obtain ⟨x0, x1, x2⟩ := hp.cells
  clear hc h hp hv ha e e2
  go_enter Tryz.func33, Tryz.ntmps33
  go_wp2_with fail
  refine HC.out.mono ?_
  clear HC
  rintro e w1 (⟨h1, ao, cp, rfl, hi, t1⟩ | ⟨h1, rfl, t1⟩)
  · have HI : Hid _ := hi
    have HT : Hid (Touch w w1 []) := HT0.out.trans t1 (by simp)
    have H1 : Hid _ := h1
    clear hi t1 h1
    go_wp2
    exact bodyPost_ret (v := .tuple #[.slice ao RL.length cp, .int .i64 0]) (by simp [results, Tryz.results33, go_sem]) rfl (.inl ⟨H1.out, ao, cp, rfl, HI.out, HT.out⟩)
  · have HT : Hid (Touch w w1 []) := HT0.out.trans t1 (by simp)
    have H1 : Hid _ := h1
    clear t1 h1
    go_wp2
    exact bodyPost_ret (v := .tuple #[.slice none 0 0, .int .i64 E]) (by simp [results, Tryz.results33, go_sem]) rfl (.inr ⟨H1.out, rfl, HT.out⟩)

set_option maxRecDepth 100000 in
theorem rblk_6 (w : World) (a : Int) (ha : 0 ≤ a ∧ a ≤ 64) (n t u v : Int) (h : CkOk n t ⟨6, u, v⟩) :
    Calls Tryz.prog 33 #[.int .i64 a, .int .i64 n, .int .i64 t, .agg #[.int .u8 6, .int .i64 u, .int .u64 v]] w (LkP w (rbE a ⟨6, u, v⟩) (rbL n t a ⟨6, u, v⟩)) := by
  have hv := h.hv
  simp only at hv
  have hc := rtake_any a t n (w.alloc (.cells #[.int .u8 6, .int .i64 u, .int .u64 v] 52))
  rw [blkE_6 a ha n t u v h] at hc
  have e : rbL n t a ⟨6, u, v⟩ = takeI a t n 0 0 := by unfold rbL; rw [show ahdC ⟨6, u, v⟩ = [] from rfl]; simp only [List.nil_append, List.length_nil, Int.natCast_zero, Int.add_zero]; rfl
  rw [e]
  have e2 : rbE a ⟨6, u, v⟩ = blkCE a 6 := by unfold rbE blkCE; rw [show ahdC ⟨6, u, v⟩ = [] from rfl]; simp only [List.length_nil, Nat.zero_add]
  rw [e2]
  have hp := BoxK.new w 6 u v
  have HT0 : Hid (Touch w (w.alloc (.cells #[.int .u8 6, .int .i64 u, .int .u64 v] 52)) []) := (Touch.refl w []).alloc _
  generalize takeI a t n 0 0 = RL at *
  generalize blkCE a 6 = E at *
  have HC : HidC _ _ _ _ _ := ⟨hc⟩
  obtain ⟨x0, x1, x2⟩ := hp.cells
  clear hc h hp hv ha e e2
  go_enter Tryz.func33, Tryz.ntmps33
  go_wp2_with fail
  refine HC.out.mono ?_
  clear HC
  rintro e w1 (⟨h1, ao, cp, rfl, hi, t1⟩ | ⟨h1, rfl, t1⟩)
  · have HI : Hid _ := hi
    have HT : Hid (Touch w w1 []) := HT0.out.trans t1 (by simp)
    have H1 : Hid _ := h1
    clear hi t1 h1
    go_wp2
    exact bodyPost_ret (v := .tuple #[.slice ao RL.length cp, .int .i64 0]) (by simp [results, Tryz.results33, go_sem]) rfl (.inl ⟨H1.out, ao, cp, rfl, HI.out, HT.out⟩)
  · have HT : Hid (Touch w w1 []) := HT0.out.trans t1 (by simp)
    have H1 : Hid _ := h1
    clear t1 h1
    go_wp2
    exact bodyPost_ret (v := .tuple #[.slice none 0 0, .int .i64 E]) (by simp [results, Tryz.results33, go_sem]) rfl (.inr ⟨H1.out, rfl, HT.out⟩)

set_option maxRecDepth 100000 in
theorem rblk_7 (w : World) (a : Int) (ha : 0 ≤ a ∧ a ≤ 64) (n t u v : Int) (h : CkOk n t ⟨7, u, v⟩) :
    Calls Tryz.prog 33 #[.int .i64 a, .int .i64 n, .int .i64 t, .agg #[.int .u8 7, .int .i64 u, .int .u64 v]] w (LkP w (rbE a ⟨7, u, v⟩) (rbL n t a ⟨7, u, v⟩)) := by
  have hv := h.hv
  simp only at hv
  have hc := rarrive_any a t n (w.alloc (.cells #[.int .u8 7, .int .i64 u, .int .u64 v] 52))
  rw [blkE_7 a ha n t u v h] at hc
  have e : rbL n t a ⟨7, u, v⟩ = arriveI a t n 0 0 := by unfold rbL; rw [show ahdC ⟨7, u, v⟩ = [] from rfl]; simp only [List.nil_append, List.length_nil, Int.natCast_zero, Int.add_zero]; rfl
  rw [e]
  have e2 : rbE a ⟨7, u, v⟩ = blkCE a 7 := by unfold rbE blkCE; rw [show ahdC ⟨7, u, v⟩ = [] from rfl]; simp only [List.length_nil, Nat.zero_add]
  rw [e2]
  have hp := BoxK.new w 7 u v
  have HT0 : Hid (Touch w (w.alloc (.cells #[.int .u8 7, .int .i64 u, .int .u64 v] 52)) []) := (Touch.refl w []).alloc _
  generalize arriveI a t n 0 0 = RL at *
  generalize blkCE a 7 = E at *
  have HC : HidC _ _ _ _ _ := ⟨hc⟩
  obtain ⟨x0, x1, x2⟩ := hp.cells
  clear hc h hp hv ha e e2
  go_enter Tryz.func33, Tryz.ntmps33
  go_wp2_with fail
  refine HC.out.mono ?_
  clear HC
  rintro e w1 (⟨h1, ao, cp, rfl, hi, t1⟩ | ⟨h1, rfl, t1⟩)
  · have HI : Hid _ := hi
    have HT : Hid (Touch w w1 []) := HT0.out.trans t1 (by simp)
    have H1 : Hid _ := h1
    clear hi t1 h1
    go_wp2
    exact bodyPost_ret (v := .tuple #[.slice ao RL.length cp, .int .i64 0]) (by simp [results, Tryz.results33, go_sem]) rfl (.inl ⟨H1.out, ao, cp, rfl, HI.out, HT.out⟩)
  · have HT : Hid (Touch w w1 []) := HT0.out.trans t1 (by simp)
    have H1 : Hid _ := h1
    clear t1 h1
    go_wp2
    exact bodyPost_ret (v := .tuple #[.slice none 0 0, .int .i64 E]) (by simp [results, Tryz.results33, go_sem]) rfl (.inr ⟨H1.out, rfl, HT.out⟩)

end Go.Proofs.YtcbkafbchpjnoaaGreatDoor
/-
  The document's block of a call BY ITS CONTRACT. Written by mkclr2.py.
-/
namespace Go.Proofs.YtcbkafbchpjnoaaGreatDoor
set_option linter.unusedVariables false
set_option linter.unusedSimpArgs false
open Go.RowKit
attribute [local go_sem] Oper.semAt_some

set_option maxRecDepth 100000 in
set_option maxHeartbeats 2000000 in
theorem rblk_8 (w : World) (a : Int) (ha : 0 ≤ a ∧ a ≤ 64) (n t u v : Int) (h : CkOk n t ⟨8, u, v⟩) :
    Calls Tryz.prog 33 #[.int .i64 a, .int .i64 n, .int .i64 t, .agg #[.int .u8 8, .int .i64 u, .int .u64 v]] w (LkP w (rbE a ⟨8, u, v⟩) (rbL n t a ⟨8, u, v⟩)) := by
  have hv := h.hv
  simp only at hv
  obtain ⟨XW, hXW⟩ : ∃ W, W = w.alloc (.cells #[.int .u8 8, .int .i64 u, .int .u64 v] 52) := ⟨_, rfl⟩
  have hbx : BoxK XW w.heap.size 8 u v := by rw [hXW]; exact BoxK.new w 8 u v
  have tW : Touch w XW [] := by rw [hXW]; exact (Touch.refl _ _).alloc _
  have tD : Touch w XW.drew [] := tW.drew
  have hbD : BoxK XW.drew w.heap.size 8 u v := hbx.touch (Touch.refl XW []).drew (by simp)
  have hwf : ∀ i ∈ [(⟨1, 0, v⟩ : InsD), insO 3 0], i.Wf := by
    intro i hi
    simp only [List.mem_cons, List.not_mem_nil, or_false] at hi
    rcases hi with rfl | rfl
    · exact ⟨⟨by show (0 : Int) ≤ 1; omega, by show (1 : Int) ≤ 255; omega⟩, ⟨by show (-9223372036854775808 : Int) ≤ 0; omega, by show (0 : Int) ≤ 9223372036854775807; omega⟩, hv⟩
    · exact insO_wf (by omega) (by omega) (by omega) (by omega)
  have HS1 : Hid (∀ w2, Touch XW.drew w2 [] → w2.cell? ⟨w.heap.size, 0, none⟩ = some (.int .u8 8) ∧ w2.cell? ⟨w.heap.size, 1, none⟩ = some (.int .i64 u) ∧ w2.cell? ⟨w.heap.size, 2, none⟩ = some (.int .u64 v) ∧ Hid ((w2.alloc (.cells #[.int .u8 1, .int .i64 0, .int .u64 v, .int .u8 3, .int .i64 0, .int .u64 0] 78)).cell? ⟨w.heap.size, 0, none⟩ = some (.int .u8 8) ∧ (w2.alloc (.cells #[.int .u8 1, .int .i64 0, .int .u64 v, .int .u8 3, .int .i64 0, .int .u64 0] 78)).cell? ⟨w.heap.size, 1, none⟩ = some (.int .i64 u) ∧ (w2.alloc (.cells #[.int .u8 1, .int .i64 0, .int .u64 v, .int .u8 3, .int .i64 0, .int .u64 0] 78)).cell? ⟨w.heap.size, 2, none⟩ = some (.int .u64 v)) ∧ Hid (insOwn (w2.alloc (.cells #[.int .u8 1, .int .i64 0, .int .u64 v, .int .u8 3, .int .i64 0, .int .u64 0] 78)) w.heap.size (.slice (some ⟨w2.heap.size, 0, none⟩) 2 2) [⟨1, 0, v⟩, insO 3 0] ∧ Touch w (w2.alloc (.cells #[.int .u8 1, .int .i64 0, .int .u64 v, .int .u8 3, .int .i64 0, .int .u64 0] 78)) [])) := by
    intro w2 t2
    have hb := hbD.touch t2 (by simp)
    have tA : Touch w2 (w2.alloc (.cells #[.int .u8 1, .int .i64 0, .int .u64 v, .int .u8 3, .int .i64 0, .int .u64 0] 78)) [] := (Touch.refl _ _).alloc _
    have hb5 := hb.touch tA (by simp)
    obtain ⟨y0, y1, y2⟩ := hb.cells
    obtain ⟨z0, z1, z2⟩ := hb5.cells
    have tt : Touch w w2 [] := tD.trans t2 (by simp)
    exact ⟨y0, y1, y2, ⟨z0, z1, z2⟩, fllit tt [⟨1, 0, v⟩, insO 3 0] _ 2 rfl rfl (by omega), tt.trans tA (by simp)⟩
  have HWF : Hid _ := hwf
  obtain ⟨b0, b1, b2⟩ := hbx.cells
  have HRE : Hid (rbE a ⟨8, u, v⟩ = if a > 54 then 4 else 0) := by
    show _ = _
    unfold rbE
    rw [show (ahdC ⟨8, u, v⟩).length = 2 from rfl, show lenC 8 = 8 from rfl]
    by_cases hq : a > 54
    · rw [if_pos hq, if_pos (by omega)]
    · rw [if_neg hq, if_neg (by omega)]
  have HRL : Hid (rbL n t a ⟨8, u, v⟩ = [⟨1, 0, v⟩, insO 3 0] ++ leaveI (a + 2) t 0 0 0) := rfl
  have HLV : Hid (a ≤ 62 → ∀ W, HidC Tryz.prog 63 #[.int .i64 (a + 2), .int .i64 t, .int .i64 0] W (LkP W (blkCE (a + 2) 8) (leaveI (a + 2) t 0 0 0))) := by
    intro h62 W
    have := rleave_any (a + 2) t 0 W
    rw [blkE_8 (a + 2) (by omega) n t u v h] at this
    exact ⟨this⟩
  have HLL : Hid ((leaveI (a + 2) t 0 0 0).length = 8) := rfl
  generalize rbE a ⟨8, u, v⟩ = E at *
  generalize rbL n t a ⟨8, u, v⟩ = RL at *
  generalize leaveI (a + 2) t 0 0 0 = LV at *
  have hw2 : IntKind.i64.wrap (a + 2) = a + 2 := by rw [IntKind.wrap_i64]; omega
  clear tW tD hbD hbx hwf h hv
  go_enter Tryz.func33, Tryz.ntmps33
  go_wp2_with fail
  simp only [← hXW]
  clear hXW
  obtain ⟨b, hbb⟩ : ∃ b, b = w.heap.size := ⟨_, rfl⟩
  have HBB : Hid _ := hbb
  rw [← hbb]
  simp only [← hbb] at HS1 b0 b1 b2
  clear hbb

  refine wp_region_held_drew (S := (fun w' => w'.cell? ⟨b, 0, none⟩ = some (.int .u8 8) ∧ w'.cell? ⟨b, 1, none⟩ = some (.int .i64 u) ∧ w'.cell? ⟨b, 2, none⟩ = some (.int .u64 v))) (by kernel_rfl) ⟨b0, b1, b2⟩ (fun hHeld => ?_)
  refine wpAnyH_take (i := 0) (v := .pointer (some ⟨b, 2, none⟩)) rfl (by kernel_rfl) (by kernel_rfl) (by kernel_rfl) (fun _ _ _ h => h) (Or.inl ⟨by rfl, ?_⟩) hHeld ?_
  · intro w' hSw
    try simp only [Act.put, List.getElem_toArray, List.getElem_cons_succ, List.getElem_cons_zero, List.setIfInBounds_toArray, List.set_cons_zero, List.set_cons_succ]
    go_simp
  try simp only [Act.put, List.getElem_toArray, List.getElem_cons_succ, List.getElem_cons_zero, List.setIfInBounds_toArray, List.set_cons_zero, List.set_cons_succ]
  refine wpAnyH_take (i := 1) (v := .int .u64 v) rfl (by kernel_rfl) (by kernel_rfl) (by kernel_rfl) (fun _ _ _ h => h) (Or.inl ⟨by rfl, ?_⟩) hHeld ?_
  · intro w' hSw
    try simp only [Act.put, List.getElem_toArray, List.getElem_cons_succ, List.getElem_cons_zero, List.setIfInBounds_toArray, List.set_cons_zero, List.set_cons_succ]
    obtain ⟨s0, s1, s2⟩ := hSw; go_simp
  try simp only [Act.put, List.getElem_toArray, List.getElem_cons_succ, List.getElem_cons_zero, List.setIfInBounds_toArray, List.set_cons_zero, List.set_cons_succ]
  refine wpAnyH_take (i := 2) (v := .agg #[.int .u8 1, .int .i64 0, .int .u64 v]) rfl (by kernel_rfl) (by kernel_rfl) (by kernel_rfl) (fun _ _ _ h => h) (Or.inl ⟨by rfl, ?_⟩) hHeld ?_
  · intro w' hSw
    try simp only [Act.put, List.getElem_toArray, List.getElem_cons_succ, List.getElem_cons_zero, List.setIfInBounds_toArray, List.set_cons_zero, List.set_cons_succ]
    go_simp
  try simp only [Act.put, List.getElem_toArray, List.getElem_cons_succ, List.getElem_cons_zero, List.setIfInBounds_toArray, List.set_cons_zero, List.set_cons_succ]
  clear hHeld
  refine wpAnyH_ready (rs := [3]) (by kernel_rfl) (by simp) (AllReadyH.cons rfl (fun K hK => ?_) AllReadyH.nil)
  rw [if_pos (by rfl)]
  go_wp2_with fail
  refine (rO_any _ _ _).mono ?_
  rintro e w2 ⟨rfl, t2⟩
  obtain ⟨g10, g11, g12, HLI, HNX⟩ := HS1.out w2 t2
  clear t2
  refine hK.out _ _ ⟨g10, g11, g12⟩ (fun hHeld => ?_)
  clear hK
  try simp only [Act.put, List.getElem_toArray, List.getElem_cons_succ, List.getElem_cons_zero, List.setIfInBounds_toArray, List.set_cons_zero, List.set_cons_succ]
  clear hHeld
  refine wpAnyH_ready (rs := [4]) (by kernel_rfl) (by simp) (AllReadyH.cons rfl (fun K hK => ?_) AllReadyH.nil)
  rw [if_pos (by rfl)]
  go_wp2_with fail
  obtain ⟨g20, g21, g22⟩ := HLI.out
  refine hK.out _ _ ⟨g20, g21, g22⟩ (fun hHeld => ?_)
  clear hK
  try simp only [Act.put, List.getElem_toArray, List.getElem_cons_succ, List.getElem_cons_zero, List.setIfInBounds_toArray, List.set_cons_zero, List.set_cons_succ]
  refine wpAnyH_take (i := 5) (v := .slice (some ⟨w2.heap.size, 0, none⟩) 2 2) rfl (by kernel_rfl) (by kernel_rfl) (by kernel_rfl) (fun _ _ _ h => h) (Or.inl ⟨by rfl, ?_⟩) hHeld ?_
  · intro w' hSw
    try simp only [Act.put, List.getElem_toArray, List.getElem_cons_succ, List.getElem_cons_zero, List.setIfInBounds_toArray, List.set_cons_zero, List.set_cons_succ]
    go_simp
  try simp only [Act.put, List.getElem_toArray, List.getElem_cons_succ, List.getElem_cons_zero, List.setIfInBounds_toArray, List.set_cons_zero, List.set_cons_succ]
  clear hHeld
  refine wpAnyH_done (by kernel_rfl) ?_ _
  obtain ⟨ho, ht⟩ := HNX.out
  have HO : Hid _ := ho
  have HT : Hid (Touch w _ []) := ht
  clear ho ht HNX HLI
  generalize (w2.alloc (.cells #[.int .u8 1, .int .i64 0, .int .u64 v, .int .u8 3, .int .i64 0, .int .u64 0] 78)) = W3 at *
  have HCE : Hid (blkCE (a + 2) 8 = if a > 54 then 4 else 0) := by
    show _ = _
    unfold blkCE
    rw [show lenC 8 = 8 from rfl]
    by_cases hq : a > 54
    · rw [if_pos hq, if_pos (by omega)]
    · rw [if_neg hq, if_neg (by omega)]
  generalize blkCE (a + 2) 8 = CE at *
  by_cases h62 : a > 62
  · have h62' : (62 : Int) < a := h62
    have HE : Hid (E = 4) := by show _ = _; rw [HRE.out, if_pos (by omega)]
    clear HRE HCE h62
    go_wp2
    exact bodyPost_ret (v := .tuple #[.slice none 0 0, .int .i64 4]) (by simp [results, Tryz.results33, go_sem]) rfl (.inr ⟨by rw [HE.out]; decide, by rw [HE.out], HT.out⟩)
  · have h62' : ¬ (62 : Int) < a := h62
    have HL := HLV.out (by omega) W3
    clear HLV h62
    go_wp2_with fail
    refine HL.out.mono ?_
    clear HL
    rintro e w4 (⟨h1, ao, cp, rfl, hi, t4⟩ | ⟨h1, rfl, t4⟩)
    · have HE : Hid (E = 0) := by show _ = _; rw [HRE.out, ← HCE.out]; exact h1
      have ho4 : insOwn w4 b (.slice (some ⟨w2.heap.size, 0, none⟩) 2 2) [⟨1, 0, v⟩, insO 3 0] := ownsRow_touch HO.out t4 (by simp)
      have HT4 : Touch w w4 [] := HT.out.trans t4 (by simp)
      obtain ⟨a5, c5, w5, r5, o5, t5⟩ := ins_app ho4 (by simp) (by have := World.ownsRow.lt ho4 w2.heap.size rfl; omega) hi (by rw [show LV.length = 8 from HLL.out]; omega) 25
      have hl8 : LV.length = 8 := HLL.out
      have HWL : Hid (∀ i ∈ RL, i.Wf) := by
        intro i hi'
        rw [show RL = _ from HRL.out] at hi'
        exact (List.mem_append.1 hi').elim (HWF.out i) (hi.wf i)
      have HIN : Hid (∃ a6 c6, a5 = a6 ∧ c5 = c6 ∧ InsIn w5 a6 RL.length c6 RL ∧ RL.length = 10) := by
        have e : RL = [⟨1, 0, v⟩, insO 3 0] ++ LV := HRL.out
        have el : RL.length = 10 := by rw [e, List.length_append, hl8]; rfl
        obtain ⟨a7, c7, e7, i7⟩ := insIn_of (l := RL) (by rw [e]; exact o5) HWL.out
        simp only [Value.slice.injEq] at e7
        obtain ⟨rfl, _, rfl⟩ := e7
        exact ⟨a5, c5, rfl, rfl, i7, el⟩
      have HT5 : Hid (Touch w w5 []) := HT4.trans t5 (fun x hx => .inr (by
        simp [Value.ownBlock] at hx
        subst hx
        have := (World.ownsRow.lt ho4 w2.heap.size rfl).1
        rwa [← (show b = w.heap.size from HBB.out)]))
      rw [hl8] at r5
      simp only [List.length_cons, List.length_nil, Nat.reduceAdd] at r5
      have HX : Hid _ := hl8
      rw [hl8]
      clear hi h1 t4 o5 t5 ho4 HT4 HRE HCE hl8 HLL
      go_wp2_with (at_builtin; refine Lib.wpList_append_run _ rfl (.tmp 90) (.tmp 91) _ _ rfl _ _ rfl rfl _ _ r5 ?_)
      obtain ⟨a6, c6, rfl, rfl, hin, hl⟩ := HIN.out
      exact bodyPost_ret (v := .tuple #[.slice a5 10 c5, .int .i64 0]) (by simp [results, Tryz.results33, go_sem]) rfl (.inl ⟨HE.out, a5, c5, by rw [hl], hin, HT5.out⟩)
    · have HE : Hid (E = CE) := by show _ = _; rw [HRE.out, ← HCE.out]
      have HT4 : Hid (Touch w w4 []) := HT.out.trans t4 (by simp)
      have H1 : Hid _ := h1
      have hce : (CE == 0) = false := by simpa using h1
      clear h1 t4 HRE HCE
      go_wp2
      exact bodyPost_ret (v := .tuple #[.slice none 0 0, .int .i64 CE]) (by simp [results, Tryz.results33, go_sem]) rfl (.inr ⟨by rw [HE.out]; exact H1.out, by rw [HE.out], HT4.out⟩)

end Go.Proofs.YtcbkafbchpjnoaaGreatDoor
/-
  The document's Program BY ITS CONTRACT. Written by mkclr3.py.
-/
namespace Go.Proofs.YtcbkafbchpjnoaaGreatDoor
set_option linter.unusedVariables false
set_option linter.unusedSimpArgs false
open Go.RowKit
attribute [local go_sem] Oper.semAt_some

theorem rblk_any (w : World) (a : Int) (ha : 0 ≤ a ∧ a ≤ 64) (n t : Int) (c : CaD) (h : CkOk n t c) :
    Calls Tryz.prog 33 #[.int .i64 a, .int .i64 n, .int .i64 t, .agg #[.int .u8 c.k, .int .i64 c.u, .int .u64 c.v]] w (LkP w (rbE a c) (rbL n t a c)) := by
  obtain ⟨k, u, v⟩ := c
  have hk : k = 1 ∨ k = 2 ∨ k = 3 ∨ k = 4 ∨ k = 5 ∨ k = 6 ∨ k = 7 ∨ k = 8 := by have := h.hk; simp only at this; omega
  rcases hk with rfl | rfl | rfl | rfl | rfl | rfl | rfl | rfl
  · exact rblk_1 w a ha n t u v h
  · exact rblk_2 w a ha n t u v h
  · exact rblk_3 w a ha n t u v h
  · exact rblk_4 w a ha n t u v h
  · exact rblk_5 w a ha n t u v h
  · exact rblk_6 w a ha n t u v h
  · exact rblk_7 w a ha n t u v h
  · exact rblk_8 w a ha n t u v h

theorem step_is (n t : Int) (acc : List InsD) (c : CaD) : stepC n t acc c = acc ++ rbL n t (acc.length : Nat) c ++ ansC c.k := by
  unfold stepC rbL
  rw [List.length_append, ← List.append_assoc, Int.natCast_add]
theorem rbE_is (acc : List InsD) (c : CaD) : rbE (acc.length : Nat) c = if acc.length + ((ahdC c).length + lenC c.k) > 64 then 4 else 0 := by
  unfold rbE
  by_cases h : acc.length + ((ahdC c).length + lenC c.k) > 64
  · rw [if_pos h, if_pos (by omega)]
  · rw [if_neg h, if_neg (by omega)]
theorem rbL_len (n t a : Int) (c : CaD) : (rbL n t a c).length = (ahdC c).length + lenC c.k := by
  unfold rbL; rw [List.length_append, blkC_len]
theorem run_no {n t : Int} {acc : List InsD} {c : CaD} {l : List CaD} (h : (stepC n t acc c).length ≥ 64) : runC n t (c :: l) acc = none := by
  rw [runC]
  by_cases h64 : (stepC n t acc c).length > 64
  · rw [if_pos h64]
  · rw [if_neg h64]; exact runC_full n t l _ h
theorem run_go {n t : Int} {acc : List InsD} {c : CaD} {l : List CaD} (h : (stepC n t acc c).length < 64) : runC n t (c :: l) acc = runC n t l (stepC n t acc c) := by
  rw [runC, if_neg (by omega)]

set_option maxRecDepth 100000 in
set_option maxHeartbeats 1500000 in
theorem rprogram_any (k n t u : Int) {w : World} {ao : Option Addr} {mm cap : Nat} {l : List CaD} (hl : CasIn w ao mm cap l) (hm : mm ≤ 100) :
    Calls Tryz.prog 10 #[.int .u8 k, .int .i64 n, .int .i64 t, .int .i64 u, .slice ao mm cap] w (LkP w (proE k n t u l) (proL n t l)) := by
  obtain ⟨E, hE⟩ : ∃ E, E = proE k n t u l := ⟨_, rfl⟩
  rw [← hE]
  unfold proE at hE
  have HE : Hid _ := hE
  have HL : Hid _ := hl
  have HM : Hid _ := hl.len
  have HC : HidC _ _ _ _ _ := ⟨rnewC_any k n w⟩
  clear hE hl
  cases ho : okO k n with
  | false =>
    have HE2 : Hid (E = 3) := by show _ = _; rw [HE.out, ho]; rfl
    clear HE
    go_enter Tryz.func10, Tryz.ntmps10
    go_wp2_with fail
    refine HC.out.mono ?_
    clear HC
    rintro e w1 (⟨h, b, rfl, ha, hb, t1⟩ | ⟨h, rfl, t1⟩)
    · rw [ho] at h; cases h
    · have HT : Hid _ := t1
      clear t1
      go_wp2
      exact bodyPost_ret (v := .tuple #[.slice none 0 0, .int .i64 3]) (by simp [results, Tryz.results10, go_sem]) rfl (.inr ⟨by rw [HE2.out]; decide, by rw [HE2.out], HT.out⟩)
  | true =>
    have HO : Hid _ := ho
    have hk := okO_kinds ho
    have HTV : Hid _ := tv_le ho
    have HK : Hid _ := hk
    clear ho hk
    go_enter Tryz.func10, Tryz.ntmps10
    go_wp2_with fail
    refine HC.out.mono ?_
    clear HC
    rintro e w1 (⟨h, b, rfl, ha, hb, t1⟩ | ⟨h, rfl, t1⟩)
    rotate_left
    · rw [show okO k n = true from HO.out] at h; cases h
    have HT1 : Hid _ := t1
    have HRO : Hid _ := ha
    clear t1 ha h hb
    go_wp2_with fail
    go_loopw [13] (fun i wr => ∃ j : Nat, i = .int .i64 j ∧ j ≤ mm ∧ l.all (areC k u) = (l.drop j).all (areC k u) ∧ Touch w1 wr []) (fun i _ => mm - (intOf i).toNat)
    case atStart => exact ⟨0, rfl, Nat.zero_le _, rfl, Touch.refl _ _⟩
    case round =>
      obtain ⟨j, rfl, hj, hR, hT⟩ := hrel
      by_cases hlt : j < mm
      · have h1 : (j : Int) < mm := by omega
        have h0 : (0 : Int) ≤ j := by omega
        have hjl : j < l.length := by rw [← HM.out]; exact hlt
        have hjc : j < cap := Nat.lt_of_lt_of_le hlt HL.out.le
        obtain ⟨g, off, rfl, hg, x0, x1, x2⟩ := ((HL.out.keep HT1.out).keep hT).at j hjl
        have hdrop : l.drop j = l[j] :: l.drop (j + 1) := List.drop_eq_getElem_cons hjl
        rw [hdrop, List.all_cons] at hR
        have hCW := HL.out.wf l[j] (List.getElem_mem hjl)
        generalize l[j] = cc at *
        obtain ⟨c, v, x⟩ := cc
        simp only at x0 x1 x2
        have HTA : Hid (HidC Tryz.prog 31 #[.pointer (some ⟨b, 0, none⟩), .int .u8 c] wr fun e w' => e = .returned (.bool (tksP k c)) ∧ wr = w') := ⟨rtakesC_any HK.out (RoN.touch (show RoN w1 b k n from HRO.out) hT (by simp)) c⟩
        have HFI : Hid (HidC Tryz.prog 32 #[.agg #[.int .u8 c, .int .i64 v, .int .u64 x]] wr fun e w' => e = .returned (.bool (fitC ⟨c, v, x⟩)) ∧ Touch wr w' []) := ⟨rfits_any ⟨c, v, x⟩ hCW.v wr⟩
        have hfe : areC k u ⟨c, v, x⟩ = (tksP k c && (decide (v = u) && fitC ⟨c, v, x⟩)) := rfl
        rw [hfe] at hR
        have HR : Hid _ := hR
        have HTR : Hid _ := hT
        clear hR hT hdrop hCW hfe
        generalize fitC ⟨c, v, x⟩ = fb at *
        generalize tksP k c = tb at *
        go_wp2_with fail
        refine HTA.out.out.mono ?_
        clear HTA
        rintro e w2 ⟨rfl, rfl⟩
        cases tb with
        | false =>
          have HE2 : Hid (E = 3) := by show _ = _; rw [HE.out, show l.all (areC k u) = _ from HR.out]; simp
          have HTT : Hid (Touch w wr []) := HT1.out.trans HTR.out (by simp)
          clear HR HFI HE
          go_wp2
          exact bodyPost_ret (v := .tuple #[.slice none 0 0, .int .i64 3]) (by simp [results, Tryz.results10, go_sem]) rfl (.inr ⟨by rw [HE2.out]; decide, by rw [HE2.out], HTT.out⟩)
        | true =>
          by_cases hvu : v = u
          · subst hvu
            go_wp2_with fail
            refine HFI.out.out.mono ?_
            clear HFI
            rintro e w3 ⟨rfl, t3⟩
            have HTX : Hid (Touch w1 w3 []) := HTR.out.trans t3 (by simp)
            clear t3
            cases fb with
            | false =>
              have HE2 : Hid (E = 3) := by show _ = _; rw [HE.out, show l.all (areC k v) = _ from HR.out]; simp
              have HTT : Hid (Touch w w3 []) := HT1.out.trans HTX.out (by simp)
              clear HR HE
              go_wp2
              exact bodyPost_ret (v := .tuple #[.slice none 0 0, .int .i64 3]) (by simp [results, Tryz.results10, go_sem]) rfl (.inr ⟨by rw [HE2.out]; decide, by rw [HE2.out], HTT.out⟩)
            | true =>
              have HR2 : Hid (l.all (areC k v) = (l.drop (j + 1)).all (areC k v)) := by show _ = _; rw [show l.all (areC k v) = _ from HR.out]; simp
              clear HR
              go_wp2
              go_roundw
              case rel => exact ⟨j + 1, by go_num, by omega, HR2.out, HTX.out⟩
              case measure => simp [intOf]; omega
          · have HE2 : Hid (E = 3) := by show _ = _; rw [HE.out, show l.all (areC k u) = _ from HR.out]; simp [hvu]
            have HTT : Hid (Touch w wr []) := HT1.out.trans HTR.out (by simp)
            clear HR HFI HE
            go_wp2
            exact bodyPost_ret (v := .tuple #[.slice none 0 0, .int .i64 3]) (by simp [results, Tryz.results10, go_sem]) rfl (.inr ⟨by rw [HE2.out]; decide, by rw [HE2.out], HTT.out⟩)
      · have h1 : ¬ (j : Int) < mm := by omega
        have hjN : j = l.length := by rw [← HM.out]; omega
        rw [hjN, List.drop_length] at hR
        have HA : Hid (l.all (areC k u) = true) := hR
        have HT2 : Hid (Touch w wr []) := HT1.out.trans hT (by simp)
        clear hR hT HT1 HRO
        have HTN : Hid (∀ W, HidC Tryz.prog 18 #[.int .u8 k, .int .i64 n] W fun e w' => e = .returned (.int .i64 (tvN k n)) ∧ Touch W w' []) := fun W => ⟨rtvars_any k n W⟩
        have hw12 : IntKind.i64.wrap (12 - tvN k n) = 12 - tvN k n := by have := HTV.out; rw [IntKind.wrap_i64]; omega
        have HE3 : Hid (E = if (decide (0 ≤ t) && decide (t ≤ 12 - tvN k n)) && (decide (0 ≤ u) && decide (u ≤ 3)) then (if (runC n t l []).isSome then 0 else 4) else 2) := by
          show _ = _
          rw [HE.out, show okO k n = true from HO.out, show l.all (areC k u) = true from HA.out]
          simp only [Bool.and_self, if_true]
        clear HE
        have hck := fun hx hy => ck_of (t := t) HO.out HA.out hx hy HL.out.wf
        have HCK : Hid _ := hck
        clear hck
        generalize tvN k n = tv at *
        by_cases ht0 : t < 0
        · have HE2 : Hid (E = 2) := by show _ = _; rw [HE3.out, decide_eq_false (show ¬ 0 ≤ t by omega)]; rfl
          clear HE3
          go_wp2
          exact bodyPost_ret (v := .tuple #[.slice none 0 0, .int .i64 2]) (by simp [results, Tryz.results10, go_sem]) rfl (.inr ⟨by rw [HE2.out]; decide, by rw [HE2.out], HT2.out⟩)
        have ht0' : 0 ≤ t := by omega
        by_cases ht1 : t > 12 - tv
        · have HE2 : Hid (E = 2) := by show _ = _; rw [HE3.out, decide_eq_false (show ¬ t ≤ 12 - tv by omega)]; simp
          have ht1' : 12 - tv < t := ht1
          clear HE3 ht1
          go_wp2_with fail
          refine (HTN.out _).out.mono ?_
          rintro e w3 ⟨rfl, t3⟩
          have HT3 : Hid (Touch w w3 []) := HT2.out.trans t3 (by simp)
          clear t3 HTN HT2
          go_wp2
          exact bodyPost_ret (v := .tuple #[.slice none 0 0, .int .i64 2]) (by simp [results, Tryz.results10, go_sem]) rfl (.inr ⟨by rw [HE2.out]; decide, by rw [HE2.out], HT3.out⟩)
        have ht1' : ¬ 12 - tv < t := ht1
        by_cases hu0 : u < 0
        · have HE2 : Hid (E = 2) := by show _ = _; rw [HE3.out, decide_eq_false (show ¬ 0 ≤ u by omega)]; simp
          clear HE3 ht1
          go_wp2_with fail
          refine (HTN.out _).out.mono ?_
          rintro e w3 ⟨rfl, t3⟩
          have HT3 : Hid (Touch w w3 []) := HT2.out.trans t3 (by simp)
          clear t3 HTN HT2
          go_wp2
          exact bodyPost_ret (v := .tuple #[.slice none 0 0, .int .i64 2]) (by simp [results, Tryz.results10, go_sem]) rfl (.inr ⟨by rw [HE2.out]; decide, by rw [HE2.out], HT3.out⟩)
        by_cases hu1 : u ≥ 4
        · have HE2 : Hid (E = 2) := by show _ = _; rw [HE3.out, decide_eq_false (show ¬ u ≤ 3 by omega)]; simp
          have hu1' : 4 ≤ u := hu1
          clear HE3 ht1
          go_wp2_with fail
          refine (HTN.out _).out.mono ?_
          rintro e w3 ⟨rfl, t3⟩
          have HT3 : Hid (Touch w w3 []) := HT2.out.trans t3 (by simp)
          clear t3 HTN HT2
          go_wp2
          exact bodyPost_ret (v := .tuple #[.slice none 0 0, .int .i64 2]) (by simp [results, Tryz.results10, go_sem]) rfl (.inr ⟨by rw [HE2.out]; decide, by rw [HE2.out], HT3.out⟩)
        have hc1 : (decide (0 ≤ t) && decide (t ≤ 12 - tv)) = true := by rw [decide_eq_true ht0', decide_eq_true (show t ≤ 12 - tv by omega)]; rfl
        have hc2 : (decide (0 ≤ u) && decide (u ≤ 3)) = true := by rw [decide_eq_true (show 0 ≤ u by omega), decide_eq_true (show u ≤ 3 by omega)]; rfl
        have HE2 : Hid (E = if (runC n t l []).isSome then 0 else 4) := by show _ = _; rw [HE3.out, hc1, hc2]; rfl
        have hCKA := HCK.out hc1 hc2
        have HCKA : Hid _ := hCKA
        have HPL : Hid (proL n t l = (runC n t l []).getD []) := rfl
        obtain ⟨R, hR⟩ : ∃ r, r = runC n t l [] := ⟨_, rfl⟩
        have HRR : Hid _ := hR
        rw [← hR] at HE2 HPL
        generalize proL n t l = PL at *
        have hu1' : ¬ 4 ≤ u := hu1
        clear HE3 HCK hCKA ht1 hu1 hc1 hc2 hR
        go_wp2_with fail
        refine (HTN.out _).out.mono ?_
        rintro e w3 ⟨rfl, t3⟩
        have HT3 : Hid (Touch w w3 []) := HT2.out.trans t3 (by simp)
        clear t3 HTN HT2
        go_wp2_with fail
        go_loopw [14, 15] (fun vv i wr => ∃ (j : Nat) (acc : List InsD) (a : Option Addr) (c : Nat), i = .int .i64 j ∧ j ≤ mm ∧ vv = .slice a acc.length c ∧ R = runC n t (l.drop j) acc ∧ insOwn wr w.heap.size (.slice a acc.length c) acc ∧ (∀ i ∈ acc, i.Wf) ∧ acc.length < 64 ∧ Touch w wr []) (fun _ i _ => mm - (intOf i).toNat)
        case atStart => exact ⟨0, [], none, 0, rfl, Nat.zero_le _, rfl, HRR.out, World.ownsRow_nil _ _ _ _, fun i hi => by simp at hi, by simp, HT3.out⟩
        case round =>
          obtain ⟨j, acc, a, c0, rfl, hj, rfl, hR, hown, hwf, hle, hT⟩ := hrel
          by_cases hlt : j < mm
          · have h1 : (j : Int) < mm := by omega
            have h0 : (0 : Int) ≤ j := by omega
            have hjl : j < l.length := by rw [← HM.out]; exact hlt
            have hjc : j < cap := Nat.lt_of_lt_of_le hlt HL.out.le
            obtain ⟨g, off, rfl, hg, z0, z1, z2⟩ := HL.out.at j hjl
            have HCL : Hid (∀ W, Touch w W [] → W.cell? ⟨g, off + j * 3, none⟩ = some (.int .u8 l[j].k) ∧ W.cell? ⟨g, off + j * 3 + 1, none⟩ = some (.int .i64 l[j].u) ∧ W.cell? ⟨g, off + j * 3 + 2, none⟩ = some (.int .u64 l[j].v)) := fun W tW => ⟨(tW.cell (p := ⟨g, off + j * 3, none⟩) hg (by simp)).trans z0, (tW.cell (p := ⟨g, off + j * 3 + 1, none⟩) hg (by simp)).trans z1, (tW.cell (p := ⟨g, off + j * 3 + 2, none⟩) hg (by simp)).trans z2⟩
            obtain ⟨x0, x1, x2⟩ := HCL.out wr hT
            clear z0 z1 z2 hg
            have hdrop : l.drop j = l[j] :: l.drop (j + 1) := List.drop_eq_getElem_cons hjl
            rw [hdrop] at hR
            have hCK := HCKA.out l[j] (List.getElem_mem hjl)
            generalize l[j] = cc at *
            have hblk := rblk_any wr (acc.length : Nat) ⟨by omega, by omega⟩ n t cc hCK
            have hkk := hCK.hk
            have HBLK : HidC _ _ _ _ _ := ⟨hblk⟩
            have HST : Hid (stepC n t acc cc = acc ++ rbL n t (acc.length : Nat) cc ++ ansC cc.k) := step_is n t acc cc
            have HRBE : Hid (rbE (acc.length : Nat) cc = if acc.length + ((ahdC cc).length + lenC cc.k) > 64 then 4 else 0) := rbE_is acc cc
            have HML : Hid ((rbL n t (acc.length : Nat) cc).length = (ahdC cc).length + lenC cc.k) := rbL_len _ _ _ _
            have HLEN : Hid (lenC cc.k ≤ 100 ∧ (ahdC cc).length ≤ 2) := by
              refine ⟨?_, ?_⟩
              · unfold lenC; repeat' split
                all_goals omega
              · unfold ahdC; split <;> simp
            have HSTL : Hid _ := stepC_len n t acc cc
            generalize rbL n t (acc.length : Nat) cc = M at *
            generalize rbE (acc.length : Nat) cc = ER at *
            have HRD : Hid _ := hR
            have HOW : Hid (insOwn wr w.heap.size (.slice a acc.length c0) acc) := hown
            have HWA : Hid _ := hwf
            have HTW : Hid _ := hT
            obtain ⟨ck, cu, cv⟩ := cc
            simp only at x0 x1 x2 hkk
            clear hdrop hCK hblk hR hown hwf hT
            obtain ⟨q, hq⟩ : ∃ q, q = acc.length := ⟨_, rfl⟩
            have HQ : Hid _ := hq
            have hqle : q < 64 := by omega
            simp only [← hq] at HBLK ⊢
            clear hq
            go_wp2_with fail
            refine HBLK.out.mono ?_
            clear HBLK
            rintro e w4 (⟨he, ao, cp, rfl, hi, t4⟩ | ⟨he, rfl, t4⟩)
            · have hm0 : acc.length + ((ahdC ⟨ck, cu, cv⟩).length + lenC ck) ≤ 64 := by
                have := HRBE.out
                rw [he] at this
                by_cases hgt : acc.length + ((ahdC ⟨ck, cu, cv⟩).length + lenC ck) > 64
                · rw [if_pos hgt] at this; cases this
                · omega
              have ho4 : insOwn w4 w.heap.size (.slice a acc.length c0) acc := ownsRow_touch HOW.out t4 (by simp)
              have ht4 : Touch w w4 [] := HTW.out.trans t4 (by simp)
              have hml : M.length = (ahdC ⟨ck, cu, cv⟩).length + lenC ck := HML.out
              obtain ⟨a5, c5, w5, r5, o5, t5⟩ := ins_app ho4 (by omega) ht4.size hi (by omega) 25
              obtain ⟨q5, hq5⟩ : ∃ q5, q5 = acc.length + M.length := ⟨_, rfl⟩
              rw [← hq5] at r5 o5
              rw [← (show q = acc.length from HQ.out)] at r5
              have HQ5 : Hid ((acc ++ M).length = q5) := by show _ = _; rw [List.length_append, hq5]
              have hq5b : q5 ≤ 64 := by omega
              have HO5 : Hid (insOwn w5 w.heap.size (.slice a5 q5 c5) (acc ++ M)) := o5
              have HWM : Hid (∀ i ∈ M, i.Wf) := hi.wf
              have HT5 : Hid (Touch w w5 []) := ht4.trans t5 (fun x hx => .inr (World.ownsRow.lt ho4 x (by simpa using hx)).1)
              have y0 : w5.cell? ⟨g, off + j * 3, none⟩ = some (.int .u8 ck) := (HCL.out w5 HT5.out).1
              have her : ER = 0 := he
              subst her
              clear x0 x1 x2 HCL hi he t4 ho4 ht4 o5 t5 HRBE hq5 HML HSTL HLEN hml hm0 HOW HTW
              generalize M.length = ml at *
              have HNO : Hid ((stepC n t acc ⟨ck, cu, cv⟩).length ≥ 64 → R = none) := fun h => by rw [HRD.out]; exact run_no h
              have HGO : Hid ((stepC n t acc ⟨ck, cu, cv⟩).length < 64 → R = runC n t (l.drop (j + 1)) (stepC n t acc ⟨ck, cu, cv⟩)) := fun h => by rw [HRD.out]; exact run_go h
              clear HRD
              generalize stepC n t acc ⟨ck, cu, cv⟩ = SC at *
              by_cases hk2 : ck = 2 ∨ ck = 6 ∨ ck = 7
              · have HST2 : Hid (SC = acc ++ M ++ [insO 27 0]) := by show _ = _; rw [HST.out]; unfold ansC; rw [if_pos hk2]
                clear HST
                rcases hk2 with rfl | rfl | rfl
                all_goals
                    go_wp2_with (at_builtin; refine Lib.wpList_append_run _ rfl (.tmp 94) (.tmp 95) _ _ rfl _ _ rfl rfl _ _ r5 ?_)
                    refine (rO_any _ _ _).mono ?_
                    rintro e w8 ⟨rfl, s8⟩
                    have HT8 : Hid (Touch w w8 []) := HT5.out.trans s8 (by simp)
                    have HO8 : insOwn w8 w.heap.size (.slice a5 q5 c5) (acc ++ M) := ownsRow_touch HO5.out s8 (by simp)
                    clear s8
                    obtain ⟨a9, c9, w9, r9, o9, t9⟩ := flstep HO8 HT8.out [insO 27 0] #[.int .u8 27, .int .i64 0, .int .u64 0] q5 1 (q5 + 1) (HQ5.out) rfl rfl (by omega) rfl
                    have e9 : (acc ++ M) ++ [insO 27 0] = SC := by rw [HST2.out]
                    have HSL : (SC).length = q5 + 1 := by rw [← e9, List.length_append, HQ5.out]; rfl
                    rw [e9] at o9
                    have HW9 : Hid (∀ i ∈ SC, i.Wf) := by
                      intro i hi
                      rw [← e9] at hi
                      simp only [List.mem_append, List.mem_singleton] at hi
                      rcases hi with (hi | hi) | rfl
                      · exact HWA.out i hi
                      · exact HWM.out i hi
                      · exact insO_wf (by omega) (by omega) (by omega) (by omega)
                    have HO9 : Hid _ := o9
                    have HT9 : Hid _ := t9
                    clear o9 t9 HO8 HT8 e9 HO5 HT5
                    obtain ⟨q9, hq9⟩ : ∃ q, q = q5 + 1 := ⟨_, rfl⟩
                    rw [← hq9] at r9 HSL HO9
                    have hq9b : q9 ≤ 70 := by omega
                    clear hq9
                    by_cases h64 : (q9 : Int) ≥ 64
                    · have h64' : (64 : Int) ≤ q9 := h64
                      have HRN : Hid (R = none) := by show _ = _; exact HNO.out (by omega)
                      have HEN : Hid (E = 4) := by show _ = _; rw [HE2.out, HRN.out]; rfl
                      clear h64 HE2 HPL
                      go_wp2_with (at_builtin; refine Lib.wpList_append_run _ rfl (.tmp 116) (.tmp 118) _ _ rfl _ _ rfl rfl _ _ r9 ?_)
                      exact bodyPost_ret (v := .tuple #[.slice none 0 0, .int .i64 4]) (by simp [results, Tryz.results10, go_sem]) rfl (.inr ⟨by rw [HEN.out]; decide, by rw [HEN.out], HT9.out⟩)
                    · have h64' : ¬ (64 : Int) ≤ q9 := h64
                      have HRG : Hid (R = runC n t (l.drop (j + 1)) (SC)) := by show _ = _; exact HGO.out (by omega)
                      have hsl := HSL
                      have HSLH : Hid _ := HSL
                      clear HSL
                      clear h64 HST2 hsl
                      go_wp2_with (at_builtin; refine Lib.wpList_append_run _ rfl (.tmp 116) (.tmp 118) _ _ rfl _ _ rfl rfl _ _ r9 ?_)
                      refine ⟨⟨j + 1, SC, a9, c9, by go_num, by omega, by rw [HSLH.out], HRG.out, by have h := HO9.out; rw [show (Value.slice a9 SC.length c9) = .slice a9 q9 c9 by rw [HSLH.out]]; exact h, HW9.out, by rw [HSLH.out]; omega, HT9.out⟩, ?_⟩
                      simp [intOf]; omega
              · have HST2 : Hid (SC = acc ++ M ++ [insP 1, insO 27 0]) := by show _ = _; rw [HST.out]; unfold ansC; rw [if_neg hk2]
                clear HST
                have k2 : (ck != 2) = true := by simp; omega
                have k6 : (ck != 6) = true := by simp; omega
                have k7 : (ck != 7) = true := by simp; omega
                have k2n : ¬ ck = 2 := by omega
                have k6n : ¬ ck = 6 := by omega
                have k7n : ¬ ck = 7 := by omega
                clear hk2 hkk
                go_wp2_with (at_builtin; refine Lib.wpList_append_run _ rfl (.tmp 94) (.tmp 95) _ _ rfl _ _ rfl rfl _ _ r5 ?_)
                refine (rP_any 1 (by omega) (by omega) _).mono ?_
                rintro e w6 ⟨rfl, s6⟩
                have HT6 : Hid (Touch w w6 []) := HT5.out.trans s6 (by simp)
                have HO6 : insOwn w6 w.heap.size (.slice a5 q5 c5) (acc ++ M) := ownsRow_touch HO5.out s6 (by simp)
                clear s6
                obtain ⟨a7, c7, w7, r7, o7, t7⟩ := flstep HO6 HT6.out [insP 1] #[.int .u8 1, .int .i64 0, .int .u64 (numV 1)] q5 1 (q5 + 1) HQ5.out rfl rfl (by omega) rfl
                have HO7 : Hid _ := o7
                have HT7 : Hid _ := t7
                clear o7 t7 HO6 HT6 HO5 HT5
                go_wp2_with (at_builtin; refine Lib.wpList_append_run _ rfl (.tmp 112) (.tmp 114) _ _ rfl _ _ rfl rfl _ _ r7 ?_)
                refine (rO_any _ _ _).mono ?_
                rintro e w8 ⟨rfl, s8⟩
                have HT8 : Hid (Touch w w8 []) := HT7.out.trans s8 (by simp)
                have HO8 : insOwn w8 w.heap.size (.slice a7 (q5 + 1) c7) (acc ++ M ++ [insP 1]) := ownsRow_touch HO7.out s8 (by simp)
                clear s8
                obtain ⟨a9, c9, w9, r9, o9, t9⟩ := flstep HO8 HT8.out [insO 27 0] #[.int .u8 27, .int .i64 0, .int .u64 0] (q5 + 1) 1 ((q5 + 1) + 1) (by rw [List.length_append, HQ5.out]; rfl) rfl rfl (by omega) rfl
                have e9 : (acc ++ M ++ [insP 1]) ++ [insO 27 0] = SC := by rw [HST2.out]; rw [List.append_assoc]; rfl
                have HSL : (SC).length = (q5 + 1) + 1 := by rw [← e9, List.length_append, show (acc ++ M ++ [insP 1]).length = q5 + 1 by rw [List.length_append, HQ5.out]; rfl]; rfl
                rw [e9] at o9
                have HW9 : Hid (∀ i ∈ SC, i.Wf) := by
                  intro i hi
                  rw [← e9] at hi
                  simp only [List.mem_append, List.mem_singleton] at hi
                  rcases hi with ((hi | hi) | rfl) | rfl
                  · exact HWA.out i hi
                  · exact HWM.out i hi
                  · exact insP_wf (by omega)
                  · exact insO_wf (by omega) (by omega) (by omega) (by omega)
                have HO9 : Hid _ := o9
                have HT9 : Hid _ := t9
                clear o9 t9 HO8 HT8 e9 HO7 HT7
                obtain ⟨q9, hq9⟩ : ∃ q, q = (q5 + 1) + 1 := ⟨_, rfl⟩
                rw [← hq9] at r9 HSL HO9
                have hq9b : q9 ≤ 70 := by omega
                clear hq9
                by_cases h64 : (q9 : Int) ≥ 64
                · have h64' : (64 : Int) ≤ q9 := h64
                  have HRN : Hid (R = none) := by show _ = _; exact HNO.out (by omega)
                  have HEN : Hid (E = 4) := by show _ = _; rw [HE2.out, HRN.out]; rfl
                  clear h64 HE2 HPL
                  go_wp2_with (at_builtin; refine Lib.wpList_append_run _ rfl (.tmp 116) (.tmp 118) _ _ rfl _ _ rfl rfl _ _ r9 ?_)
                  exact bodyPost_ret (v := .tuple #[.slice none 0 0, .int .i64 4]) (by simp [results, Tryz.results10, go_sem]) rfl (.inr ⟨by rw [HEN.out]; decide, by rw [HEN.out], HT9.out⟩)
                · have h64' : ¬ (64 : Int) ≤ q9 := h64
                  have HRG : Hid (R = runC n t (l.drop (j + 1)) (SC)) := by show _ = _; exact HGO.out (by omega)
                  have hsl := HSL
                  have HSLH : Hid _ := HSL
                  clear HSL
                  clear h64 HST2 hsl
                  go_wp2_with (at_builtin; refine Lib.wpList_append_run _ rfl (.tmp 116) (.tmp 118) _ _ rfl _ _ rfl rfl _ _ r9 ?_)
                  refine ⟨⟨j + 1, SC, a9, c9, by go_num, by omega, by rw [HSLH.out], HRG.out, by have h := HO9.out; rw [show (Value.slice a9 SC.length c9) = .slice a9 q9 c9 by rw [HSLH.out]]; exact h, HW9.out, by rw [HSLH.out]; omega, HT9.out⟩, ?_⟩
                  simp [intOf]; omega
            · have HE4 : Hid (ER = 4 ∧ (stepC n t acc ⟨ck, cu, cv⟩).length ≥ 64) := by
                have h2 := HRBE.out
                by_cases hgt : acc.length + ((ahdC ⟨ck, cu, cv⟩).length + lenC ck) > 64
                · rw [if_pos hgt] at h2
                  refine ⟨h2, ?_⟩
                  have h3 := HSTL.out
                  rw [h3]; omega
                · rw [if_neg hgt] at h2; exact absurd h2 he
              have her : ER = 4 := HE4.out.1
              have HRN : Hid (R = none) := by show _ = _; rw [HRD.out]; exact run_no HE4.out.2
              have HEN : Hid (E = 4) := by show _ = _; rw [HE2.out, HRN.out]; rfl
              have HT4 : Hid (Touch w w4 []) := HTW.out.trans t4 (by simp)
              subst her
              clear he t4 HRBE HML HSTL HLEN HE4 HOW HTW HRD
              go_wp2
              exact bodyPost_ret (v := .tuple #[.slice none 0 0, .int .i64 4]) (by simp [results, Tryz.results10, go_sem]) rfl (.inr ⟨by rw [HEN.out]; decide, by rw [HEN.out], HT4.out⟩)
          · have h1 : ¬ (j : Int) < mm := by omega
            have hjN : j = l.length := by rw [← HM.out]; omega
            have HRS : Hid (R = some (acc ++ [insO 28 0])) := by
              show _ = _
              rw [hR, hjN, List.drop_length, runC, if_neg (by omega)]
            have HEN : Hid (E = 0) := by show _ = _; rw [HE2.out, HRS.out]; rfl
            have HPN : Hid (PL = acc ++ [insO 28 0]) := by show _ = _; rw [HPL.out, HRS.out]; rfl
            have HOW : Hid (insOwn wr w.heap.size (.slice a acc.length c0) acc) := hown
            have HWA : Hid _ := hwf
            have HTW : Hid _ := hT
            obtain ⟨q, hq⟩ : ∃ q, q = acc.length := ⟨_, rfl⟩
            have HQ : Hid _ := hq
            have hqle : q < 64 := by omega
            have HOQ : Hid (insOwn wr w.heap.size (.slice a q c0) acc) := by show insOwn _ _ _ _; rw [hq]; exact hown
            simp only [← hq]
            clear hq hR hjN hown hwf hT HOW HE2 HPL
            go_wp2_with fail
            refine (rO_any _ _ _).mono ?_
            rintro e w8 ⟨rfl, s8⟩
            have HT8 : Hid (Touch w w8 []) := HTW.out.trans s8 (by simp)
            have HO8 : insOwn w8 w.heap.size (.slice a q c0) acc := ownsRow_touch HOQ.out s8 (by simp)
            clear s8
            obtain ⟨a9, c9, w9, r9, o9, t9⟩ := flstep HO8 HT8.out [insO 28 0] #[.int .u8 28, .int .i64 0, .int .u64 0] q 1 (q + 1) (HQ.out.symm) rfl rfl (by omega) rfl
            have HPW : Hid (∀ i ∈ PL, i.Wf) := by
              intro i hi
              rw [show PL = _ from HPN.out] at hi
              simp only [List.mem_append, List.mem_singleton] at hi
              rcases hi with hi | rfl
              · exact HWA.out i hi
              · exact insO_wf (by omega) (by omega) (by omega) (by omega)
            have HPI : Hid (PL.length = q + 1 ∧ InsIn w9 a9 PL.length c9 PL) := by
              have e : PL = acc ++ [insO 28 0] := HPN.out
              have el : PL.length = q + 1 := by rw [e, List.length_append, ← (show q = acc.length from HQ.out)]; rfl
              rw [← e] at o9
              obtain ⟨a7, c7, e7, i7⟩ := insIn_of o9 HPW.out
              simp only [Value.slice.injEq] at e7
              obtain ⟨rfl, _, rfl⟩ := e7
              exact ⟨el, i7⟩
            have HT9 : Hid _ := t9
            clear o9 t9 HO8 HT8
            go_wp2_with (at_builtin; refine Lib.wpList_append_run _ rfl (.tmp 123) (.tmp 125) _ _ rfl _ _ rfl rfl _ _ r9 ?_)
            exact bodyPost_ret (v := .tuple #[.slice a9 (q + 1) c9, .int .i64 0]) (by simp [results, Tryz.results10, go_sem]) rfl (.inl ⟨HEN.out, a9, c9, by rw [HPI.out.1], HPI.out.2, HT9.out⟩)

end Go.Proofs.YtcbkafbchpjnoaaGreatDoor
/-
  Begin OF package calls AND OF THE DOCUMENT BY THEIR CONTRACTS.
-/
namespace Go.Proofs.YtcbkafbchpjnoaaGreatDoor
set_option linter.unusedVariables false
set_option linter.unusedSimpArgs false
open Go.RowKit
attribute [local go_sem] Oper.semAt_some

theorem Tryz.info_valC : (Tryz.prog.info? 50).map (fun i => (i.zero, i.size, i.bytes)) = some (some (.int .u64 0), 1, 8) := by kernel_rfl
theorem info_partsC {P : Program} {t : TypeId} {z : Value} {s b : Nat} (h : (P.info? t).map (fun i => (i.zero, i.size, i.bytes)) = some (some z, s, b)) : ∃ i, P.info? t = some i ∧ i.zero = some z ∧ i.size = s ∧ i.bytes = b := by
  cases hi : P.info? t with
  | none => rw [hi] at h; cases h
  | some i =>
    rw [hi] at h
    simp only [Option.map_some, Option.some.injEq, Prod.mk.injEq] at h
    exact ⟨i, rfl, h.1, h.2.1, h.2.2⟩
theorem made_valC (n : Nat) : madeCells (Value.cells (.int .u64 0)) (n * 1) = Array.replicate n (.int .u64 0) := by
  apply Array.ext
  · simp [size_madeCells]
  · intro i h1 h2
    simp [madeCells, Value.cells, Nat.mod_one]
theorem make_valC (n : Nat) (hn : n ≤ 1000) (w : World) : (Instr.makeSlice 33 (.int .i64 n) (.int .i64 n)).run Tryz.prog w = .ok (.slice (some ⟨w.heap.size, 0, none⟩) n n) (w.alloc (.cells (Array.replicate n (.int .u64 0)) 50)) := by
  obtain ⟨i, hi, hz, hs, hb⟩ := info_partsC Tryz.info_valC
  have e := run_make (P := Tryz.prog) w 33 50 i (.int .u64 0) Tryz.underlying33 hi hz .i64 .i64 n n (by omega) (by omega) (by rw [hb]; omega) (by omega)
  rw [hs, made_valC] at e
  exact e

/-- The values at first. -/
def begA (k n : Int) : Array Value := if k = 2 then #[.int .u64 (numV n)] else Array.replicate (tvN k n).toNat (.int .u64 0)
def BegP (w : World) (k n : Int) (e : Ending) (w' : World) : Prop :=
  (okO k n = true ∧ ∃ g m, e = .returned (.tuple #[.slice (some ⟨g, 0, none⟩) m m, .int .i64 0]) ∧ (m : Int) = tvN k n ∧ w'.heap[g]? = some (.cells (begA k n) 50 (0, 0)) ∧ w.heap.size ≤ g ∧ Touch w w' []) ∨
  (okO k n = false ∧ e = .returned (.tuple #[.slice none 0 0, .int .i64 3]) ∧ Touch w w' [])

set_option maxRecDepth 100000 in
set_option maxHeartbeats 1000000 in
theorem begin_any (k n : Int) (w : World) : Calls Tryz.prog 13 #[.int .u8 k, .int .i64 n] w (BegP w k n) := by
  have HC : HidC _ _ _ _ _ := ⟨onew_any k n w⟩
  cases ho : okO k n with
  | false =>
    go_enter Tryz.func13, Tryz.ntmps13
    go_wp2_with fail
    refine HC.out.mono ?_
    clear HC
    rintro e w1 (⟨h, b, rfl, ha, hb, t⟩ | ⟨h, rfl, t⟩)
    · rw [ho] at h; cases h
    · have HT : Hid _ := t
      clear t h
      go_wp2
      exact bodyPost_ret (v := .tuple #[.slice none 0 0, .int .i64 3]) (by simp [results, Tryz.results13, go_sem]) rfl (.inr ⟨ho, rfl, HT.out⟩)
  | true =>
    have HO : Hid _ := ho
    have hw := (okO_is k n).1 ho
    have HTV : Hid _ := tv_le ho
    have HTN : Hid (∀ W, HidC Tryz.prog 17 #[.int .u8 k, .int .i64 n] W fun e w' => e = .returned (.int .i64 (tvN k n)) ∧ Touch W w' []) := fun W => ⟨tvars_any k n W⟩
    have HA : Hid (begA k n = if k = 2 then #[.int .u64 (numV n)] else Array.replicate (tvN k n).toNat (.int .u64 0)) := rfl
    obtain ⟨m, hm⟩ : ∃ m : Nat, (m : Int) = tvN k n := ⟨(tvN k n).toNat, by have := HTV.out; omega⟩
    have HM : Hid _ := hm
    have hm6 : m ≤ 6 := by have := HTV.out; omega
    have HMT : Hid ((tvN k n).toNat = m) := by show _ = _; omega
    rw [← hm] at HTN
    by_cases h2 : k = 2
    · subst h2
      have hn9 : 0 ≤ n ∧ n ≤ 9 := by omega
      have hm1 : m = 1 := by have h := hm; unfold tvN at h; rw [ho] at h; simp at h; omega
      subst hm1
      have HIN : Hid (∀ W, HidC Tryz.prog 36 #[.int .i64 n] W fun e w' => e = .returned (.tuple #[.int .u64 (numV n), .bool true]) ∧ Touch W w' []) := fun W => ⟨int_ok n (by omega) (by omega) W⟩
      have HAA : Hid (begA 2 n = #[.int .u64 (numV n)]) := HA.out
      have hmk : ∀ W : World, (Instr.makeSlice 33 (.int .i64 1) (.int .i64 1)).run Tryz.prog W = .ok (.slice (some ⟨W.heap.size, 0, none⟩) 1 1) (W.alloc (.cells (Array.replicate 1 (.int .u64 0)) 50)) := fun W => make_valC 1 (by omega) W
      have HNX : Hid (∀ w2 : World, Touch w w2 [] → Hid (∀ w4, Touch (w2.alloc (.cells (Array.replicate 1 (.int .u64 0)) 50)) w4 [] → Hid (w4.cell? ⟨w2.heap.size, 0, none⟩ = some (.int .u64 0) ∧ w4.frozen? ⟨w2.heap.size, 0, none⟩ = false) ∧ Hid ((w4.setCell ⟨w2.heap.size, 0, none⟩ (.int .u64 (numV n))).heap[w2.heap.size]? = some (.cells #[.int .u64 (numV n)] 50 (0, 0)) ∧ w.heap.size ≤ w2.heap.size ∧ Touch w (w4.setCell ⟨w2.heap.size, 0, none⟩ (.int .u64 (numV n))) []))) := by
        intro w2 t2 w4 t4
        have hn := heap_alloc_new w2 (.cells (Array.replicate 1 (.int .u64 0)) 50)
        have hs : (w2.alloc (.cells (Array.replicate 1 (.int .u64 0)) 50)).heap.size = w2.heap.size + 1 := by simp
        have h4 := (t4.block w2.heap.size (by omega) (by simp)).trans hn
        refine ⟨⟨by unfold World.cell?; rw [h4]; rfl, by unfold World.frozen?; rw [h4]; simp⟩, by rw [heap_setCell_same _ _ _ _ _ _ h4]; rfl, t2.size, ?_⟩
        exact ((t2.alloc _).trans t4 (by simp)).setCell (.inr t2.size) _
      clear hm hw HA ho
      generalize numV n = x at *
      go_enter Tryz.func13, Tryz.ntmps13
      go_wp2_with fail
      refine HC.out.mono ?_
      clear HC
      rintro e w1 (⟨h, b, rfl, ha, hb, t⟩ | ⟨h, rfl, t⟩)
      · have HT : Hid _ := t
        clear t ha h
        go_wp2_with fail
        refine (HTN.out _).out.mono ?_
        rintro e w2 ⟨rfl, t2⟩
        have hnx := HNX.out w2 (HT.out.trans t2 (by simp))
        have HNX2 : Hid _ := hnx
        clear hnx t2 HTN HNX HT
        go_wp2_with fail
        refine (HIN.out _).out.mono ?_
        rintro e w4 ⟨rfl, t4⟩
        obtain ⟨hcz, hfin⟩ := HNX2.out w4 t4
        obtain ⟨z0, z1⟩ := hcz.out
        clear t4 HNX2 HIN hcz
        go_wp2
        obtain ⟨q1, q2, q3⟩ := hfin.out
        exact bodyPost_ret (v := .tuple #[.slice (some ⟨w2.heap.size, 0, none⟩) 1 1, .int .i64 0]) (by simp [results, Tryz.results13, go_sem]) rfl (.inl ⟨HO.out, w2.heap.size, 1, rfl, HM.out, by rw [show begA 2 n = _ from HAA.out]; exact q1, q2, q3⟩)
      · rw [show okO 2 n = true from HO.out] at h; cases h
    · have HAA : Hid (begA k n = Array.replicate m (.int .u64 0)) := by show _ = _; rw [HA.out, if_neg h2, HMT.out]
      have k2 : (k == 2) = false := by simpa using h2
      have hmk := fun W => make_valC m (by omega) W
      clear hm hw HA ho
      go_enter Tryz.func13, Tryz.ntmps13
      go_wp2_with fail
      refine HC.out.mono ?_
      clear HC
      rintro e w1 (⟨h, b, rfl, ha, hb, t⟩ | ⟨h, rfl, t⟩)
      · have HT : Hid _ := t
        clear t ha h
        go_wp2_with fail
        refine (HTN.out _).out.mono ?_
        rintro e w2 ⟨rfl, t2⟩
        have HT2 : Hid (Touch w w2 []) := HT.out.trans t2 (by simp)
        clear t2 HTN HT
        go_wp2
        exact bodyPost_ret (v := .tuple #[.slice (some ⟨w2.heap.size, 0, none⟩) m m, .int .i64 0]) (by simp [results, Tryz.results13, go_sem]) rfl (.inl ⟨HO.out, w2.heap.size, m, rfl, HM.out, by rw [show begA k n = _ from HAA.out]; exact heap_alloc_new w2 _, HT2.out.size, HT2.out.alloc _⟩)
      · rw [show okO k n = true from HO.out] at h; cases h

end Go.Proofs.YtcbkafbchpjnoaaGreatDoor
/-
  THE STATEMENTS ON package locks, WALKED: LocksBlocks, LocksCounts.
-/
namespace Go.Proofs.YtcbkafbchpjnoaaGreatDoor
set_option linter.unusedVariables false
set_option linter.unusedSimpArgs false
open Go.RowKit
attribute [local go_sem] Oper.semAt_some

def lkL (er : Int) (L : List InsD) : List InsD := if er = 0 then L else []
/-- What the blocks come to, in the same words. -/
def LkQ (w : World) (er : Int) (n : Nat) (l : List InsD) (e : Ending) (w' : World) : Prop := ∃ ao cap, e = .returned (.tuple #[.slice ao n cap, .int .i64 er]) ∧ InsIn w' ao n cap l ∧ Touch w w' []
theorem LkP.q {w : World} {er : Int} {L : List InsD} {e : Ending} {w' : World} (h : LkP w er L e w') : LkQ w er (lkL er L).length (lkL er L) e w' := by
  rcases h with ⟨rfl, ao, cap, h2, h3, h4⟩ | ⟨h1, h2, h4⟩
  · exact ⟨ao, cap, h2, h3, h4⟩
  · have e : lkL er L = [] := by unfold lkL; rw [if_neg h1]
    rw [e]
    exact ⟨none, 0, h2, ⟨rfl, ⟨none, 0, rfl, fun h => absurd rfl h⟩, Nat.le_refl _, by omega, by simp⟩, h4⟩
theorem lkL_len {er : Int} {L : List InsD} (h : L.length ≤ 1000) : (lkL er L).length ≤ 1000 := by
  unfold lkL; split
  · exact h
  · simp

end Go.Proofs.YtcbkafbchpjnoaaGreatDoor
/-
  rowlocklaw24: live, few; CallsPrograms, WALKED. Written by mkcl4.py.
-/
namespace Go.Proofs.YtcbkafbchpjnoaaGreatDoor
set_option linter.unusedVariables false
set_option linter.unusedSimpArgs false
open Go.RowKit
attribute [local go_sem] Oper.semAt_some

theorem clfew_any {ao : Option Addr} {m cap : Nat} (w : World) (hc : m ≤ cap) : Calls Tryz.prog 9 #[.slice ao m cap] w fun e w' => e = .returned (.slice ao (min m 12 : Nat) cap) ∧ w = w' := by
  by_cases h : m > 12
  · have h12 : (12 : Int) < m := by omega
    have hm : min m 12 = 12 := by omega
    have hcap : (12 : Int) ≤ cap := by omega
    rw [hm]
    go_enter Tryz.func9, Tryz.ntmps9
    go_wp2
    go_ret
    exact ⟨rfl, rfl⟩
  · have h12 : ¬ (12 : Int) < m := by omega
    have hm : min m 12 = m := by omega
    rw [hm]
    go_enter Tryz.func9, Tryz.ntmps9
    go_wp2
    go_ret
    exact ⟨rfl, rfl⟩
theorem CasIn.first {w : World} {ao : Option Addr} {m cap : Nat} {l : List CaD} (h : CasIn w ao m cap l) (j : Nat) (hj : j ≤ m) : CasIn w ao j cap (l.take j) := by
  have hl : (l.take j).length = j := by rw [List.length_take, ← h.len]; omega
  refine ⟨hl.symm, SRow.first h.row j (by rw [← h.len]; exact hj), by have := h.le; omega, fun c hc => h.wf c (List.mem_of_mem_take hc)⟩

set_option maxRecDepth 100000 in
set_option maxHeartbeats 1000000 in
theorem cllive_any {w : World} (hw : Wds w) : Calls Tryz.prog 11 #[] w fun e w' => e = .returned (.bool true) ∧ Touch w w' [] := by
  have hE : proE 1 0 0 0 [⟨1, 0, 0⟩, ⟨2, 0, 0⟩] = 0 := by decide +kernel
  have hL : (proL 0 0 [⟨1, 0, 0⟩, ⟨2, 0, 0⟩]).length = 22 := by decide +kernel
  have hO : ∀ h : 21 < (proL 0 0 [⟨1, 0, 0⟩, ⟨2, 0, 0⟩]).length, ((proL 0 0 [⟨1, 0, 0⟩, ⟨2, 0, 0⟩])[21]'h).op = 28 := by decide +kernel
  have tA : Touch w (w.alloc (.cells #[.int .u8 1, .int .i64 0, .int .u64 0, .int .u8 2, .int .i64 0, .int .u64 0] 52)) [] := (Touch.refl _ _).alloc _
  have hrow : CasIn (w.alloc (.cells #[.int .u8 1, .int .i64 0, .int .u64 0, .int .u8 2, .int .i64 0, .int .u64 0] 52)) (some ⟨w.heap.size, 0, none⟩) 2 2 [⟨1, 0, 0⟩, ⟨2, 0, 0⟩] := by
    refine ⟨rfl, ?_, Nat.le_refl _, ?_⟩
    · refine srow_of (cells := CaD.cells) (n := 3) (fun _ => rfl) (B := w.heap.size) (e := 52) ?_
      have h := World.ownsRow_lit (base := w.heap.size) (e := 52) (size := 3) w #[.int .u8 1, .int .i64 0, .int .u64 0, .int .u8 2, .int .i64 0, .int .u64 0] 2 (Nat.le_refl _) (by unfold maxLen; omega) rfl
      exact h
    · intro c hc
      simp only [List.mem_cons, List.not_mem_nil, or_false] at hc
      rcases hc with rfl | rfl
      · exact ⟨by simp, by simp, by unfold Wf64; simp⟩
      · exact ⟨by simp, by simp, by unfold Wf64; simp⟩
  have HC : Hid (HidC Tryz.prog 8 #[.int .u8 1, .int .i64 0, .int .i64 0, .int .i64 0, .slice (some ⟨w.heap.size, 0, none⟩) 2 2] (w.alloc (.cells #[.int .u8 1, .int .i64 0, .int .u64 0, .int .u8 2, .int .i64 0, .int .u64 0] 52)) (fun e w' => ∃ g off cap, e = .returned (.tuple #[.slice (some ⟨g, off, none⟩) 22 cap, .int .i64 0]) ∧ (∀ W, Touch w' W [] → W.cell? ⟨g, off + 63, none⟩ = some (.int .u8 28)) ∧ Touch w w' [])) := by
    refine ⟨(program_any (hw.touch tA (by simp)) 1 0 0 0 hrow (by omega)).mono ?_⟩
    intro e w' h
    rw [hE] at h
    rcases h with ⟨_, ao, cap, rfl, hin, t⟩ | ⟨h, _⟩
    · have h21 : 21 < (proL 0 0 [⟨1, 0, 0⟩, ⟨2, 0, 0⟩]).length := by rw [hL]; omega
      obtain ⟨g, off, rfl, d0, d1, d2⟩ := ins_at hin.row (Touch.refl w' []) (by simp) 21 h21
      rw [hO h21] at d0
      rw [hL]
      have hlt : g < w'.heap.size := World.block_lt_of_cell? w' _ d0
      exact ⟨g, off, cap, rfl, fun W tW => (tW.cell (p := ⟨g, off + 63, none⟩) hlt (by simp)).trans d0, tA.trans t (by simp)⟩
    · exact absurd rfl h
  have HB : Hid (∀ W, HidC Tryz.prog 13 #[.int .u8 3, .int .i64 2] W fun e w' => ∃ g, e = .returned (.tuple #[.slice (some ⟨g, 0, none⟩) 4 4, .int .i64 0]) ∧ Touch W w' []) := by
    intro W
    refine ⟨(begin_any 3 2 W).mono ?_⟩
    rintro e w' (⟨_, g, m, rfl, hm, _, _, t⟩ | ⟨h, _⟩)
    · have e4 : tvN 3 2 = 4 := by decide
      rw [e4] at hm
      obtain rfl : m = 4 := by omega
      exact ⟨g, rfl, t⟩
    · exact absurd h (by decide)
  have HT : Hid (∀ W, HidC Tryz.prog 17 #[.int .u8 4, .int .i64 3] W fun e w' => e = .returned (.int .i64 2) ∧ Touch W w' []) := fun W => ⟨tvars_any 4 3 W⟩
  clear hE hL hO tA hrow hw
  go_enter Tryz.func11, Tryz.ntmps11
  go_wp2_with fail
  refine HC.out.out.mono ?_
  clear HC
  rintro e w1 ⟨g, off, cap, rfl, hd, t1⟩
  have HD : Hid _ := hd
  have HT1 : Hid _ := t1
  clear hd t1
  go_wp2_with fail
  refine (HB.out _).out.mono ?_
  clear HB
  rintro e w2 ⟨g2, rfl, t2⟩
  have d0 := HD.out w2 t2
  have HT2 : Hid (Touch w w2 []) := HT1.out.trans t2 (by simp)
  clear HD HT1 t2
  go_wp2_with fail
  refine (HT.out _).out.mono ?_
  clear HT
  rintro e w3 ⟨rfl, t3⟩
  have HT3 : Hid (Touch w w3 []) := HT2.out.trans t3 (by simp)
  clear HT2 t3
  go_wp2
  go_ret
  exact ⟨rfl, HT3.out⟩

set_option maxRecDepth 100000 in
set_option maxHeartbeats 2000000 in
theorem callsprograms_any {w : World} (hw : Wds w) (k n t u : Int) {ao : Option Addr} {m cap : Nat} {l : List CaD} (hl : CasIn w ao m cap l) :
    Calls Tryz.prog 3 #[.int .u8 k, .agg #[.int .i64 n, .int .i64 t, .int .i64 u], .slice ao m cap] w fun e w' => e = .returned (.bool true) ∧ Touch w w' [] := by
  have hlen : (proL n t (l.take 12)).length ≤ 1000 := by
    unfold proL
    cases h : runC n t (l.take 12) [] with
    | none => simp
    | some P => have := runC_len n t _ _ _ h; simp; omega
  have hq : (lkL (proE k n t u (l.take 12)) (proL n t (l.take 12))).length ≤ 1000 := lkL_len hlen
  have hT : l.take (min m 12) = l.take 12 := by
    rw [hl.len]
    rcases Nat.le_total l.length 12 with h | h
    · rw [Nat.min_eq_left h, List.take_length, List.take_of_length_le h]
    · rw [Nat.min_eq_right h]
  have hF : CasIn w ao (min m 12) cap (l.take 12) := by rw [← hT]; exact hl.first _ (Nat.min_le_left _ _)
  obtain ⟨XW, hXW⟩ : ∃ W, W = w.alloc (.cells #[.int .i64 n, .int .i64 t, .int .i64 u] 23) := ⟨_, rfl⟩
  have tX : Touch w XW [] := by rw [hXW]; exact (Touch.refl _ _).alloc _
  have hb : XW.heap[w.heap.size]? = some (.cells #[.int .i64 n, .int .i64 t, .int .i64 u] 23 (0, 0)) := by rw [hXW]; exact heap_alloc_new w _
  have hbs : w.heap.size < XW.heap.size := lt_of_heap hb
  have HX : Hid (∀ W, Touch XW W [] → W.cell? ⟨w.heap.size, 0, none⟩ = some (.int .i64 n) ∧ W.cell? ⟨w.heap.size, 1, none⟩ = some (.int .i64 t) ∧ W.cell? ⟨w.heap.size, 2, none⟩ = some (.int .i64 u)) := fun W tw => by
    have h := (tw.block w.heap.size hbs (by simp)).trans hb
    unfold World.cell?
    rw [h]
    exact ⟨rfl, rfl, rfl⟩
  have HFEW : Hid (∀ W, HidC Tryz.prog 9 #[.slice ao m cap] W fun e w' => e = .returned (.slice ao (min m 12 : Nat) cap) ∧ W = w') := fun W => ⟨clfew_any W hl.le⟩
  have C1 : Hid (∀ W, Touch XW W [] → HidC Tryz.prog 8 #[.int .u8 k, .int .i64 n, .int .i64 t, .int .i64 u, .slice ao (min m 12 : Nat) cap] W (LkQ W (proE k n t u (l.take 12)) (lkL (proE k n t u (l.take 12)) (proL n t (l.take 12))).length (lkL (proE k n t u (l.take 12)) (proL n t (l.take 12))))) := fun W tw => ⟨(program_any (hw.touch (tX.trans tw (by simp)) (by simp)) k n t u (hF.keep (tX.trans tw (by simp))) (by omega)).mono fun _ _ h => h.q⟩
  have C2 : Hid (∀ W, Touch XW W [] → HidC Tryz.prog 10 #[.int .u8 k, .int .i64 n, .int .i64 t, .int .i64 u, .slice ao (min m 12 : Nat) cap] W (LkQ W (proE k n t u (l.take 12)) (lkL (proE k n t u (l.take 12)) (proL n t (l.take 12))).length (lkL (proE k n t u (l.take 12)) (proL n t (l.take 12))))) := fun W tw => ⟨(rprogram_any k n t u (hF.keep (tX.trans tw (by simp))) (by omega)).mono fun _ _ h => h.q⟩
  have HLV : Hid (∀ W, Touch XW W [] → HidC Tryz.prog 11 #[] W fun e w' => e = .returned (.bool true) ∧ Touch W w' []) := fun W tw => ⟨cllive_any (hw.touch (tX.trans tw (by simp)) (by simp))⟩
  have HTX : Hid _ := tX
  have HQ : Hid _ := hq
  clear hlen hq hT hF tX hb hbs hw hl
  generalize lkL (proE k n t u (l.take 12)) (proL n t (l.take 12)) = L at *
  generalize proE k n t u (l.take 12) = E at *
  obtain ⟨q, hq⟩ : ∃ q, q = L.length := ⟨_, rfl⟩
  rw [← hq] at C1 C2 HQ
  clear hq
  generalize min m 12 = m12 at *
  have HE : Hid (XW.cell? ⟨w.heap.size, 0, none⟩ = some (.int .i64 n) ∧ XW.cell? ⟨w.heap.size, 1, none⟩ = some (.int .i64 t) ∧ XW.cell? ⟨w.heap.size, 2, none⟩ = some (.int .i64 u)) := HX.out XW (Touch.refl _ _)
  have H1 : Hid (XW.drew.cell? ⟨w.heap.size, 0, none⟩ = some (.int .i64 n) ∧ XW.drew.cell? ⟨w.heap.size, 1, none⟩ = some (.int .i64 t) ∧ XW.drew.cell? ⟨w.heap.size, 2, none⟩ = some (.int .i64 u) ∧ Hid (Touch XW XW.drew []) ∧ Hid (HidC Tryz.prog 8 #[.int .u8 k, .int .i64 n, .int .i64 t, .int .i64 u, .slice ao m12 cap] XW.drew (LkQ XW.drew E q L))) := by
    have td : Touch XW XW.drew [] := (Touch.refl _ _).drew
    obtain ⟨y0, y1, y2⟩ := HX.out _ td
    exact ⟨y0, y1, y2, td, C1.out _ td⟩
  have HN1 : Hid (∀ w2 a p, Touch XW XW.drew [] → InsIn w2 a q p L → Touch XW.drew w2 [] → w2.cell? ⟨w.heap.size, 0, none⟩ = some (.int .i64 n) ∧ w2.cell? ⟨w.heap.size, 1, none⟩ = some (.int .i64 t) ∧ w2.cell? ⟨w.heap.size, 2, none⟩ = some (.int .i64 u) ∧ Hid (InsIn w2 a q p L) ∧ Hid (Touch XW w2 [])) := by
    intro w2 a p td hi t2
    have tt : Touch XW w2 [] := td.trans t2 (by simp)
    obtain ⟨y0, y1, y2⟩ := HX.out _ tt
    exact ⟨y0, y1, y2, hi, tt⟩
  have HG2 : Hid (∀ w2, Touch XW w2 [] → Hid (w2.drew.cell? ⟨w.heap.size, 0, none⟩ = some (.int .i64 n) ∧ w2.drew.cell? ⟨w.heap.size, 1, none⟩ = some (.int .i64 t) ∧ w2.drew.cell? ⟨w.heap.size, 2, none⟩ = some (.int .i64 u) ∧ Hid (Touch XW w2.drew []) ∧ Hid (HidC Tryz.prog 10 #[.int .u8 k, .int .i64 n, .int .i64 t, .int .i64 u, .slice ao m12 cap] w2.drew (LkQ w2.drew E q L)))) := by
    intro w2 t2
    have td : Touch XW w2.drew [] := t2.drew
    obtain ⟨y0, y1, y2⟩ := HX.out _ td
    exact ⟨y0, y1, y2, td, C2.out _ td⟩
  have HN2 : Hid (∀ w4 a p, ∀ {w3 : World}, Touch XW w3 [] → InsIn w4 a q p L → Touch w3 w4 [] → w4.cell? ⟨w.heap.size, 0, none⟩ = some (.int .i64 n) ∧ w4.cell? ⟨w.heap.size, 1, none⟩ = some (.int .i64 t) ∧ w4.cell? ⟨w.heap.size, 2, none⟩ = some (.int .i64 u) ∧ Hid (InsIn w4 a q p L) ∧ Hid (Touch XW w4 [])) := by
    intro w4 a p w3 td hi t2
    have tt : Touch XW w4 [] := td.trans t2 (by simp)
    obtain ⟨y0, y1, y2⟩ := HX.out _ tt
    exact ⟨y0, y1, y2, hi, tt⟩
  obtain ⟨b0, b1, b2⟩ := HE.out
  clear C1 C2 HX HE
  go_enter Tryz.func3, Tryz.ntmps3
  go_wp2_with fail
  simp only [← hXW]
  clear hXW
  generalize w.heap.size = b at *
  refine wp_region_held_drew (S := (fun w' => w'.cell? ⟨b, 0, none⟩ = some (.int .i64 n) ∧ w'.cell? ⟨b, 1, none⟩ = some (.int .i64 t) ∧ w'.cell? ⟨b, 2, none⟩ = some (.int .i64 u))) (by kernel_rfl) ⟨b0, b1, b2⟩ (fun hHeld => ?_)
  refine wpAnyH_take (i := 0) (v := .int .u8 k) rfl (by kernel_rfl) (by kernel_rfl) (by kernel_rfl) (fun _ _ _ h => h) (Or.inl ⟨by rfl, ?_⟩) hHeld ?_
  · intro w' hSw
    try simp only [Act.put, List.getElem_toArray, List.getElem_cons_succ, List.getElem_cons_zero, List.setIfInBounds_toArray, List.set_cons_zero, List.set_cons_succ]
    go_simp
  try simp only [Act.put, List.getElem_toArray, List.getElem_cons_succ, List.getElem_cons_zero, List.setIfInBounds_toArray, List.set_cons_zero, List.set_cons_succ]
  refine wpAnyH_take (i := 1) (v := .pointer (some ⟨b, 0, none⟩)) rfl (by kernel_rfl) (by kernel_rfl) (by kernel_rfl) (fun _ _ _ h => h) (Or.inl ⟨by rfl, ?_⟩) hHeld ?_
  · intro w' hSw
    try simp only [Act.put, List.getElem_toArray, List.getElem_cons_succ, List.getElem_cons_zero, List.setIfInBounds_toArray, List.set_cons_zero, List.set_cons_succ]
    go_simp
  try simp only [Act.put, List.getElem_toArray, List.getElem_cons_succ, List.getElem_cons_zero, List.setIfInBounds_toArray, List.set_cons_zero, List.set_cons_succ]
  refine wpAnyH_take (i := 2) (v := .int .i64 n) rfl (by kernel_rfl) (by kernel_rfl) (by kernel_rfl) (fun _ _ _ h => h) (Or.inl ⟨by rfl, ?_⟩) hHeld ?_
  · intro w' hSw
    try simp only [Act.put, List.getElem_toArray, List.getElem_cons_succ, List.getElem_cons_zero, List.setIfInBounds_toArray, List.set_cons_zero, List.set_cons_succ]
    obtain ⟨s0, s1, s2⟩ := hSw; go_simp
  try simp only [Act.put, List.getElem_toArray, List.getElem_cons_succ, List.getElem_cons_zero, List.setIfInBounds_toArray, List.set_cons_zero, List.set_cons_succ]
  refine wpAnyH_take (i := 3) (v := .pointer (some ⟨b, 1, none⟩)) rfl (by kernel_rfl) (by kernel_rfl) (by kernel_rfl) (fun _ _ _ h => h) (Or.inl ⟨by rfl, ?_⟩) hHeld ?_
  · intro w' hSw
    try simp only [Act.put, List.getElem_toArray, List.getElem_cons_succ, List.getElem_cons_zero, List.setIfInBounds_toArray, List.set_cons_zero, List.set_cons_succ]
    go_simp
  try simp only [Act.put, List.getElem_toArray, List.getElem_cons_succ, List.getElem_cons_zero, List.setIfInBounds_toArray, List.set_cons_zero, List.set_cons_succ]
  refine wpAnyH_take (i := 4) (v := .int .i64 t) rfl (by kernel_rfl) (by kernel_rfl) (by kernel_rfl) (fun _ _ _ h => h) (Or.inl ⟨by rfl, ?_⟩) hHeld ?_
  · intro w' hSw
    try simp only [Act.put, List.getElem_toArray, List.getElem_cons_succ, List.getElem_cons_zero, List.setIfInBounds_toArray, List.set_cons_zero, List.set_cons_succ]
    obtain ⟨s0, s1, s2⟩ := hSw; go_simp
  try simp only [Act.put, List.getElem_toArray, List.getElem_cons_succ, List.getElem_cons_zero, List.setIfInBounds_toArray, List.set_cons_zero, List.set_cons_succ]
  refine wpAnyH_take (i := 5) (v := .pointer (some ⟨b, 2, none⟩)) rfl (by kernel_rfl) (by kernel_rfl) (by kernel_rfl) (fun _ _ _ h => h) (Or.inl ⟨by rfl, ?_⟩) hHeld ?_
  · intro w' hSw
    try simp only [Act.put, List.getElem_toArray, List.getElem_cons_succ, List.getElem_cons_zero, List.setIfInBounds_toArray, List.set_cons_zero, List.set_cons_succ]
    go_simp
  try simp only [Act.put, List.getElem_toArray, List.getElem_cons_succ, List.getElem_cons_zero, List.setIfInBounds_toArray, List.set_cons_zero, List.set_cons_succ]
  refine wpAnyH_take (i := 6) (v := .int .i64 u) rfl (by kernel_rfl) (by kernel_rfl) (by kernel_rfl) (fun _ _ _ h => h) (Or.inl ⟨by rfl, ?_⟩) hHeld ?_
  · intro w' hSw
    try simp only [Act.put, List.getElem_toArray, List.getElem_cons_succ, List.getElem_cons_zero, List.setIfInBounds_toArray, List.set_cons_zero, List.set_cons_succ]
    obtain ⟨s0, s1, s2⟩ := hSw; go_simp
  try simp only [Act.put, List.getElem_toArray, List.getElem_cons_succ, List.getElem_cons_zero, List.setIfInBounds_toArray, List.set_cons_zero, List.set_cons_succ]
  refine wpAnyH_take (i := 7) (v := .slice ao m cap) rfl (by kernel_rfl) (by kernel_rfl) (by kernel_rfl) (fun _ _ _ h => h) (Or.inl ⟨by rfl, ?_⟩) hHeld ?_
  · intro w' hSw
    try simp only [Act.put, List.getElem_toArray, List.getElem_cons_succ, List.getElem_cons_zero, List.setIfInBounds_toArray, List.set_cons_zero, List.set_cons_succ]
    go_simp
  try simp only [Act.put, List.getElem_toArray, List.getElem_cons_succ, List.getElem_cons_zero, List.setIfInBounds_toArray, List.set_cons_zero, List.set_cons_succ]
  clear hHeld
  refine wpAnyH_ready (rs := [8]) (by kernel_rfl) (by simp) (AllReadyH.cons rfl (fun K hK => ?_) AllReadyH.nil)
  rw [if_pos (by rfl)]
  go_wp2_with fail
  refine (HFEW.out _).out.mono ?_
  rintro e _ ⟨rfl, rfl⟩
  obtain ⟨c0, c1, c2, HTx, HPC⟩ := H1.out
  refine hK.out _ _ ⟨c0, c1, c2⟩ (fun hHeld => ?_)
  clear hK
  try simp only [Act.put, List.getElem_toArray, List.getElem_cons_succ, List.getElem_cons_zero, List.setIfInBounds_toArray, List.set_cons_zero, List.set_cons_succ]
  clear hHeld
  refine wpAnyH_ready (rs := [9]) (by kernel_rfl) (by simp) (AllReadyH.cons rfl (fun K hK => ?_) AllReadyH.nil)
  rw [if_pos (by rfl)]
  go_wp2_with fail
  refine HPC.out.out.mono ?_
  clear HPC
  rintro e w2 ⟨a1, p1, rfl, i1, t1⟩
  obtain ⟨d0, d1, d2, HI1, HTw2⟩ := HN1.out w2 _ _ HTx.out i1 t1
  clear i1 t1 c0 c1 c2
  refine hK.out _ _ ⟨d0, d1, d2⟩ (fun hHeld => ?_)
  clear hK
  try simp only [Act.put, List.getElem_toArray, List.getElem_cons_succ, List.getElem_cons_zero, List.setIfInBounds_toArray, List.set_cons_zero, List.set_cons_succ]
  refine wpAnyH_take (i := 10) (v := .tuple #[.slice a1 q p1, .int .i64 E]) rfl (by kernel_rfl) (by kernel_rfl) (by kernel_rfl) (fun _ _ _ h => h) (Or.inl ⟨by rfl, ?_⟩) hHeld ?_
  · intro w' hSw
    try simp only [Act.put, List.getElem_toArray, List.getElem_cons_succ, List.getElem_cons_zero, List.setIfInBounds_toArray, List.set_cons_zero, List.set_cons_succ]
    go_simp
  try simp only [Act.put, List.getElem_toArray, List.getElem_cons_succ, List.getElem_cons_zero, List.setIfInBounds_toArray, List.set_cons_zero, List.set_cons_succ]
  refine wpAnyH_take (i := 11) (v := .slice a1 q p1) rfl (by kernel_rfl) (by kernel_rfl) (by kernel_rfl) (fun _ _ _ h => h) (Or.inl ⟨by rfl, ?_⟩) hHeld ?_
  · intro w' hSw
    try simp only [Act.put, List.getElem_toArray, List.getElem_cons_succ, List.getElem_cons_zero, List.setIfInBounds_toArray, List.set_cons_zero, List.set_cons_succ]
    go_simp
  try simp only [Act.put, List.getElem_toArray, List.getElem_cons_succ, List.getElem_cons_zero, List.setIfInBounds_toArray, List.set_cons_zero, List.set_cons_succ]
  refine wpAnyH_take (i := 12) (v := .int .i64 E) rfl (by kernel_rfl) (by kernel_rfl) (by kernel_rfl) (fun _ _ _ h => h) (Or.inl ⟨by rfl, ?_⟩) hHeld ?_
  · intro w' hSw
    try simp only [Act.put, List.getElem_toArray, List.getElem_cons_succ, List.getElem_cons_zero, List.setIfInBounds_toArray, List.set_cons_zero, List.set_cons_succ]
    go_simp
  try simp only [Act.put, List.getElem_toArray, List.getElem_cons_succ, List.getElem_cons_zero, List.setIfInBounds_toArray, List.set_cons_zero, List.set_cons_succ]
  refine wpAnyH_take (i := 13) (v := .slice a1 q p1) rfl (by kernel_rfl) (by kernel_rfl) (by kernel_rfl) (fun _ _ _ h => h) (Or.inl ⟨by rfl, ?_⟩) hHeld ?_
  · intro w' hSw
    try simp only [Act.put, List.getElem_toArray, List.getElem_cons_succ, List.getElem_cons_zero, List.setIfInBounds_toArray, List.set_cons_zero, List.set_cons_succ]
    go_simp
  try simp only [Act.put, List.getElem_toArray, List.getElem_cons_succ, List.getElem_cons_zero, List.setIfInBounds_toArray, List.set_cons_zero, List.set_cons_succ]
  refine wpAnyH_take (i := 14) (v := .int .i64 E) rfl (by kernel_rfl) (by kernel_rfl) (by kernel_rfl) (fun _ _ _ h => h) (Or.inl ⟨by rfl, ?_⟩) hHeld ?_
  · intro w' hSw
    try simp only [Act.put, List.getElem_toArray, List.getElem_cons_succ, List.getElem_cons_zero, List.setIfInBounds_toArray, List.set_cons_zero, List.set_cons_succ]
    go_simp
  try simp only [Act.put, List.getElem_toArray, List.getElem_cons_succ, List.getElem_cons_zero, List.setIfInBounds_toArray, List.set_cons_zero, List.set_cons_succ]
  clear hHeld
  refine wpAnyH_done (by kernel_rfl) ?_ _
  clear b0 b1 b2 H1 HN1
  have H2 := HG2.out w2 HTw2.out
  clear HG2
  go_wp2_with fail
  refine wp_region_held_drew (S := (fun w' => w'.cell? ⟨b, 0, none⟩ = some (.int .i64 n) ∧ w'.cell? ⟨b, 1, none⟩ = some (.int .i64 t) ∧ w'.cell? ⟨b, 2, none⟩ = some (.int .i64 u))) (by kernel_rfl) ⟨d0, d1, d2⟩ (fun hHeld => ?_)
  refine wpAnyH_take (i := 0) (v := .int .u8 k) rfl (by kernel_rfl) (by kernel_rfl) (by kernel_rfl) (fun _ _ _ h => h) (Or.inl ⟨by rfl, ?_⟩) hHeld ?_
  · intro w' hSw
    try simp only [Act.put, List.getElem_toArray, List.getElem_cons_succ, List.getElem_cons_zero, List.setIfInBounds_toArray, List.set_cons_zero, List.set_cons_succ]
    go_simp
  try simp only [Act.put, List.getElem_toArray, List.getElem_cons_succ, List.getElem_cons_zero, List.setIfInBounds_toArray, List.set_cons_zero, List.set_cons_succ]
  refine wpAnyH_take (i := 1) (v := .pointer (some ⟨b, 0, none⟩)) rfl (by kernel_rfl) (by kernel_rfl) (by kernel_rfl) (fun _ _ _ h => h) (Or.inl ⟨by rfl, ?_⟩) hHeld ?_
  · intro w' hSw
    try simp only [Act.put, List.getElem_toArray, List.getElem_cons_succ, List.getElem_cons_zero, List.setIfInBounds_toArray, List.set_cons_zero, List.set_cons_succ]
    go_simp
  try simp only [Act.put, List.getElem_toArray, List.getElem_cons_succ, List.getElem_cons_zero, List.setIfInBounds_toArray, List.set_cons_zero, List.set_cons_succ]
  refine wpAnyH_take (i := 2) (v := .int .i64 n) rfl (by kernel_rfl) (by kernel_rfl) (by kernel_rfl) (fun _ _ _ h => h) (Or.inl ⟨by rfl, ?_⟩) hHeld ?_
  · intro w' hSw
    try simp only [Act.put, List.getElem_toArray, List.getElem_cons_succ, List.getElem_cons_zero, List.setIfInBounds_toArray, List.set_cons_zero, List.set_cons_succ]
    obtain ⟨s0, s1, s2⟩ := hSw; go_simp
  try simp only [Act.put, List.getElem_toArray, List.getElem_cons_succ, List.getElem_cons_zero, List.setIfInBounds_toArray, List.set_cons_zero, List.set_cons_succ]
  refine wpAnyH_take (i := 3) (v := .pointer (some ⟨b, 1, none⟩)) rfl (by kernel_rfl) (by kernel_rfl) (by kernel_rfl) (fun _ _ _ h => h) (Or.inl ⟨by rfl, ?_⟩) hHeld ?_
  · intro w' hSw
    try simp only [Act.put, List.getElem_toArray, List.getElem_cons_succ, List.getElem_cons_zero, List.setIfInBounds_toArray, List.set_cons_zero, List.set_cons_succ]
    go_simp
  try simp only [Act.put, List.getElem_toArray, List.getElem_cons_succ, List.getElem_cons_zero, List.setIfInBounds_toArray, List.set_cons_zero, List.set_cons_succ]
  refine wpAnyH_take (i := 4) (v := .int .i64 t) rfl (by kernel_rfl) (by kernel_rfl) (by kernel_rfl) (fun _ _ _ h => h) (Or.inl ⟨by rfl, ?_⟩) hHeld ?_
  · intro w' hSw
    try simp only [Act.put, List.getElem_toArray, List.getElem_cons_succ, List.getElem_cons_zero, List.setIfInBounds_toArray, List.set_cons_zero, List.set_cons_succ]
    obtain ⟨s0, s1, s2⟩ := hSw; go_simp
  try simp only [Act.put, List.getElem_toArray, List.getElem_cons_succ, List.getElem_cons_zero, List.setIfInBounds_toArray, List.set_cons_zero, List.set_cons_succ]
  refine wpAnyH_take (i := 5) (v := .pointer (some ⟨b, 2, none⟩)) rfl (by kernel_rfl) (by kernel_rfl) (by kernel_rfl) (fun _ _ _ h => h) (Or.inl ⟨by rfl, ?_⟩) hHeld ?_
  · intro w' hSw
    try simp only [Act.put, List.getElem_toArray, List.getElem_cons_succ, List.getElem_cons_zero, List.setIfInBounds_toArray, List.set_cons_zero, List.set_cons_succ]
    go_simp
  try simp only [Act.put, List.getElem_toArray, List.getElem_cons_succ, List.getElem_cons_zero, List.setIfInBounds_toArray, List.set_cons_zero, List.set_cons_succ]
  refine wpAnyH_take (i := 6) (v := .int .i64 u) rfl (by kernel_rfl) (by kernel_rfl) (by kernel_rfl) (fun _ _ _ h => h) (Or.inl ⟨by rfl, ?_⟩) hHeld ?_
  · intro w' hSw
    try simp only [Act.put, List.getElem_toArray, List.getElem_cons_succ, List.getElem_cons_zero, List.setIfInBounds_toArray, List.set_cons_zero, List.set_cons_succ]
    obtain ⟨s0, s1, s2⟩ := hSw; go_simp
  try simp only [Act.put, List.getElem_toArray, List.getElem_cons_succ, List.getElem_cons_zero, List.setIfInBounds_toArray, List.set_cons_zero, List.set_cons_succ]
  refine wpAnyH_take (i := 7) (v := .slice ao m cap) rfl (by kernel_rfl) (by kernel_rfl) (by kernel_rfl) (fun _ _ _ h => h) (Or.inl ⟨by rfl, ?_⟩) hHeld ?_
  · intro w' hSw
    try simp only [Act.put, List.getElem_toArray, List.getElem_cons_succ, List.getElem_cons_zero, List.setIfInBounds_toArray, List.set_cons_zero, List.set_cons_succ]
    go_simp
  try simp only [Act.put, List.getElem_toArray, List.getElem_cons_succ, List.getElem_cons_zero, List.setIfInBounds_toArray, List.set_cons_zero, List.set_cons_succ]
  clear hHeld
  refine wpAnyH_ready (rs := [8]) (by kernel_rfl) (by simp) (AllReadyH.cons rfl (fun K hK => ?_) AllReadyH.nil)
  rw [if_pos (by rfl)]
  go_wp2_with fail
  refine (HFEW.out _).out.mono ?_
  rintro e _ ⟨rfl, rfl⟩
  obtain ⟨c0, c1, c2, HTy, HPC⟩ := H2.out
  refine hK.out _ _ ⟨c0, c1, c2⟩ (fun hHeld => ?_)
  clear hK
  try simp only [Act.put, List.getElem_toArray, List.getElem_cons_succ, List.getElem_cons_zero, List.setIfInBounds_toArray, List.set_cons_zero, List.set_cons_succ]
  clear hHeld
  refine wpAnyH_ready (rs := [9]) (by kernel_rfl) (by simp) (AllReadyH.cons rfl (fun K hK => ?_) AllReadyH.nil)
  rw [if_pos (by rfl)]
  go_wp2_with fail
  refine HPC.out.out.mono ?_
  clear HPC
  rintro e w4 ⟨a2, p2, rfl, i2, t2⟩
  obtain ⟨d0, d1, d2, HI2, HTw4⟩ := HN2.out w4 _ _ HTy.out i2 t2
  have HI3 : Hid (InsIn w4 a1 q p1 L) := HI1.out.keep ((Touch.refl w2 []).drew.trans t2 (by simp))
  clear i2 t2 c0 c1 c2
  refine hK.out _ _ ⟨d0, d1, d2⟩ (fun hHeld => ?_)
  clear hK
  try simp only [Act.put, List.getElem_toArray, List.getElem_cons_succ, List.getElem_cons_zero, List.setIfInBounds_toArray, List.set_cons_zero, List.set_cons_succ]
  refine wpAnyH_take (i := 10) (v := .tuple #[.slice a2 q p2, .int .i64 E]) rfl (by kernel_rfl) (by kernel_rfl) (by kernel_rfl) (fun _ _ _ h => h) (Or.inl ⟨by rfl, ?_⟩) hHeld ?_
  · intro w' hSw
    try simp only [Act.put, List.getElem_toArray, List.getElem_cons_succ, List.getElem_cons_zero, List.setIfInBounds_toArray, List.set_cons_zero, List.set_cons_succ]
    go_simp
  try simp only [Act.put, List.getElem_toArray, List.getElem_cons_succ, List.getElem_cons_zero, List.setIfInBounds_toArray, List.set_cons_zero, List.set_cons_succ]
  refine wpAnyH_take (i := 11) (v := .slice a2 q p2) rfl (by kernel_rfl) (by kernel_rfl) (by kernel_rfl) (fun _ _ _ h => h) (Or.inl ⟨by rfl, ?_⟩) hHeld ?_
  · intro w' hSw
    try simp only [Act.put, List.getElem_toArray, List.getElem_cons_succ, List.getElem_cons_zero, List.setIfInBounds_toArray, List.set_cons_zero, List.set_cons_succ]
    go_simp
  try simp only [Act.put, List.getElem_toArray, List.getElem_cons_succ, List.getElem_cons_zero, List.setIfInBounds_toArray, List.set_cons_zero, List.set_cons_succ]
  refine wpAnyH_take (i := 12) (v := .int .i64 E) rfl (by kernel_rfl) (by kernel_rfl) (by kernel_rfl) (fun _ _ _ h => h) (Or.inl ⟨by rfl, ?_⟩) hHeld ?_
  · intro w' hSw
    try simp only [Act.put, List.getElem_toArray, List.getElem_cons_succ, List.getElem_cons_zero, List.setIfInBounds_toArray, List.set_cons_zero, List.set_cons_succ]
    go_simp
  try simp only [Act.put, List.getElem_toArray, List.getElem_cons_succ, List.getElem_cons_zero, List.setIfInBounds_toArray, List.set_cons_zero, List.set_cons_succ]
  refine wpAnyH_take (i := 13) (v := .slice a2 q p2) rfl (by kernel_rfl) (by kernel_rfl) (by kernel_rfl) (fun _ _ _ h => h) (Or.inl ⟨by rfl, ?_⟩) hHeld ?_
  · intro w' hSw
    try simp only [Act.put, List.getElem_toArray, List.getElem_cons_succ, List.getElem_cons_zero, List.setIfInBounds_toArray, List.set_cons_zero, List.set_cons_succ]
    go_simp
  try simp only [Act.put, List.getElem_toArray, List.getElem_cons_succ, List.getElem_cons_zero, List.setIfInBounds_toArray, List.set_cons_zero, List.set_cons_succ]
  refine wpAnyH_take (i := 14) (v := .int .i64 E) rfl (by kernel_rfl) (by kernel_rfl) (by kernel_rfl) (fun _ _ _ h => h) (Or.inl ⟨by rfl, ?_⟩) hHeld ?_
  · intro w' hSw
    try simp only [Act.put, List.getElem_toArray, List.getElem_cons_succ, List.getElem_cons_zero, List.setIfInBounds_toArray, List.set_cons_zero, List.set_cons_succ]
    go_simp
  try simp only [Act.put, List.getElem_toArray, List.getElem_cons_succ, List.getElem_cons_zero, List.setIfInBounds_toArray, List.set_cons_zero, List.set_cons_succ]
  clear hHeld
  refine wpAnyH_done (by kernel_rfl) ?_ _
  clear d0 d1 d2
  go_wp2_with fail
  refine (HLV.out _ HTw4.out).out.mono ?_
  rintro e w5 ⟨rfl, t5⟩
  have HA5 : Hid (InsIn w5 a1 q p1 L) := HI3.out.keep t5
  have HB5 : Hid (InsIn w5 a2 q p2 L) := HI2.out.keep t5
  have HT5 : Hid (Touch w w5 []) := (HTX.out.trans HTw4.out (by simp)).trans t5 (by simp)
  clear HI1 HI2 HI3 t5
  go_wp2_with fail
  refine (rsame_eq HA5.out HB5.out HQ.out).mono ?_
  rintro e w6 ⟨rfl, t6⟩
  have HT6 : Hid (Touch w w6 []) := HT5.out.trans t6 (by simp)
  clear t6
  go_wp2
  go_ret
  exact ⟨rfl, HT6.out⟩

end Go.Proofs.YtcbkafbchpjnoaaGreatDoor

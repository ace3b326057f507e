/-
  package opaque: LISTS OF NUMBERS: Index, Contains, Clone, eachOnce; isHeap BY THEIR CONTRACTS.
-/
import Derived.Test.YtjacclbifeoclaaRowApp
import Derived.Test.YtjacclbifeoclaaHistOwn
import Derived.Test.YtjacclbifeoclaaHistIn
import Derived.Test.YtjacclbifeoclaaCapsOf
namespace Go.Proofs.Ytjacclbifeoclaa
set_option linter.unusedVariables false
set_option linter.unusedSimpArgs false
open Go.RowKit Go.Maps
attribute [local go_sem] Oper.semAt_some

abbrev IRow := SRow 1 (fun x : Int => [Value.int .i64 x])
abbrev VRow := SRow 1 (fun x : Int => [Value.int .u64 x])
theorem IRow.one {w : World} {ao : Option Addr} {cap : Nat} {l : List Int} (h : IRow w (.slice ao l.length cap) l) (k : Nat) (hk : k < l.length) :
    ∃ g off, ao = some ⟨g, off, none⟩ ∧ g < w.heap.size ∧ w.cell? ⟨g, off + k, none⟩ = some (.int .i64 l[k]) := by
  obtain ⟨g, off, e, hlt, hc⟩ := h.at k hk
  exact ⟨g, off, e, hlt, by simpa using hc 0 (by omega)⟩
theorem VRow.one {w : World} {ao : Option Addr} {cap : Nat} {l : List Int} (h : VRow w (.slice ao l.length cap) l) (k : Nat) (hk : k < l.length) :
    ∃ g off, ao = some ⟨g, off, none⟩ ∧ g < w.heap.size ∧ w.cell? ⟨g, off + k, none⟩ = some (.int .u64 l[k]) := by
  obtain ⟨g, off, e, hlt, hc⟩ := h.at k hk
  exact ⟨g, off, e, hlt, by simpa using hc 0 (by omega)⟩
theorem irow_of {w : World} {B : Nat} {v : Value} {l : List Int} (h : intOwn w B v l) : IRow w v l := srow_of (cells := fun x : Int => [Value.int .i64 x]) (n := 1) (fun _ => rfl) (by rw [flat_one]; exact h)
abbrev valOwn (w : World) (B : Nat) (v : Value) (l : List Int) : Prop := w.ownsRow B 49 1 v l.length (l.map (Value.int .u64))
theorem vrow_of {w : World} {B : Nat} {v : Value} {l : List Int} (h : valOwn w B v l) : VRow w v l := srow_of (cells := fun x : Int => [Value.int .u64 x]) (n := 1) (fun _ => rfl) (by rw [flat_one]; exact h)
theorem Try.info_valO : (Try.prog.info? 49).map (fun i => (i.zero, i.size, i.bytes)) = some (some (.int .u64 0), 1, 8) := by kernel_rfl

set_option maxRecDepth 100000 in
set_option maxHeartbeats 2000000 in
theorem sindex_any {w : World} {ao : Option Addr} {cap : Nat} {l : List Int} (hr : IRow w (.slice ao l.length cap) l) (hl : l.length ≤ 9223372036854775807) (x : Int) :
    Calls Try.prog 65 #[.slice ao l.length cap, .int .i64 x] w fun e w' => e = .returned (.int .i64 (idxP (fun y => x == y) l 0)) ∧ w = w' := by
  obtain ⟨N, hN⟩ : ∃ N, N = l.length := ⟨_, rfl⟩
  have HN : Hid _ := hN
  have HC : Hid (∀ k (hk : k < l.length), ∃ g off, ao = some ⟨g, off, none⟩ ∧ g < w.heap.size ∧ w.cell? ⟨g, off + k, none⟩ = some (.int .i64 l[k])) := fun k hk => IRow.one hr k hk
  obtain ⟨res, hres⟩ : ∃ r, r = idxP (fun y => x == y) l 0 := ⟨_, rfl⟩
  rw [← hres]
  have HRES : Hid _ := hres
  rw [← hN] at hl ⊢
  clear hN hr hres
  go_enter Try.func65, Try.ntmps65
  go_wp2_with fail
  go_loopw [8] (fun i wr => ∃ k : Nat, i = .int .i64 k ∧ k ≤ N ∧ res = idxP (fun y => x == y) (l.drop k) k ∧ wr = w) (fun i _ => N - (intOf i).toNat)
  case atStart => exact ⟨0, rfl, Nat.zero_le _, HRES.out, rfl⟩
  case round =>
    obtain ⟨k, rfl, hk, hrs, rfl⟩ := hrel
    clear HRES
    by_cases hlt : k < N
    · have h1 : (k : Int) < N := by omega
      have h0 : (0 : Int) ≤ k := by omega
      have hkl : k < l.length := by rw [← HN.out]; exact hlt
      obtain ⟨g, off, rfl, hg, d0⟩ := HC.out k hkl
      rw [idxP_drop hkl] at hrs
      generalize l[k] = y at *
      have HR : Hid _ := hrs
      clear hrs
      by_cases hxy : x = y
      · subst hxy
        go_wp2
        go_ret
        exact ⟨by have := HR.out; simp only [beq_self_eq_true, if_true] at this; rw [this]; rfl, rfl⟩
      · have hb : (x == y) = false := by simpa using hxy
        go_wp2
        go_roundw
        case rel => exact ⟨k + 1, by go_num, by omega, by have := HR.out; rw [hb] at this; simpa using this, by simp⟩
        case measure => simp [intOf]; omega
    · obtain rfl : k = N := by omega
      have hall : l.drop k = [] := by rw [HN.out, List.drop_length]
      rw [hall] at hrs
      have HR : Hid _ := hrs
      clear hrs hall
      go_wp2
      go_ret
      exact ⟨by rw [HR.out]; rfl, rfl⟩

theorem idx_mem (x : Int) (l : List Int) : decide (0 ≤ idxP (fun y => x == y) l 0) = decide (x ∈ l) := by
  by_cases h : idxP (fun y => x == y) l 0 = -1
  · have h1 := (idxP_none l 0).1 h
    have h2 : ¬ x ∈ l := fun hx => by have := h1 x hx; simp at this
    rw [h]
    simp [h2]
  · obtain ⟨k, hk, h1, h2, _⟩ := idxP_some l 0 h
    have h3 : x ∈ l := by simp at h2; rw [h2]; exact List.getElem_mem hk
    rw [h1]
    simp [h3]

set_option maxRecDepth 100000 in
theorem scontains_any {w : World} {v : Value} {l : List Int} (hr : IRow w v l) (hl : l.length ≤ 9223372036854775807) (x : Int) :
    Calls Try.prog 45 #[v, .int .i64 x] w fun e w' => e = .returned (.bool (decide (x ∈ l))) ∧ w = w' := by
  obtain ⟨ao, cap, rfl⟩ := hr.form
  have hix := sindex_any hr hl x
  rw [← idx_mem]
  generalize idxP (fun y => x == y) l 0 = r at *
  generalize l.length = N at *
  clear hr hl
  go_enter Try.func45, Try.ntmps45
  go_wp2_with fail
  refine hix.mono ?_
  rintro e w1 ⟨rfl, rfl⟩
  clear hix
  go_wp2
  go_ret
  exact ⟨rfl, rfl⟩

def eachP (l s : List Int) : Bool := decide (l.Nodup ∧ ∀ x ∈ l, x ∈ s)
theorem take_snoc {α : Type} {l : List α} {k : Nat} (hk : k < l.length) : l.take (k + 1) = l.take k ++ [l[k]] := List.take_succ_eq_append_getElem hk
theorem each_snoc {l s : List Int} {k : Nat} (hk : k < l.length) : eachP (l.take (k + 1)) s = (eachP (l.take k) s && (decide (l[k] ∈ s) && !decide (l[k] ∈ l.take k))) := by
  unfold eachP
  rw [take_snoc hk, Bool.eq_iff_iff]
  simp only [decide_eq_true_eq, Bool.and_eq_true, Bool.not_eq_true', decide_eq_false_iff_not, List.mem_append, List.mem_singleton, List.nodup_append]
  constructor
  · rintro ⟨⟨h1, _, h3⟩, h4⟩
    exact ⟨⟨h1, fun x hx => h4 x (.inl hx)⟩, h4 _ (.inr rfl), fun h => h3 _ h _ rfl rfl⟩
  · rintro ⟨⟨h1, h2⟩, h3, h4⟩
    refine ⟨⟨h1, by simp, fun a ha b hb e => h4 ?_⟩, fun x hx => hx.elim (h2 x) (fun e => e ▸ h3)⟩
    rw [← hb, ← e]; exact ha
theorem each_take {l s : List Int} (h : eachP l s = true) (k : Nat) : eachP (l.take k) s = true := by
  unfold eachP at *
  simp only [decide_eq_true_eq] at *
  exact ⟨h.1.sublist (List.take_sublist k l), fun x hx => h.2 x (List.take_subset k l hx)⟩

set_option maxRecDepth 100000 in
set_option maxHeartbeats 2000000 in
theorem eachOnce_any {w : World} {va vb : Value} {l s : List Int} (hr : IRow w va l) (hs : IRow w vb s) (hcap : ∀ ao n cap, va = .slice ao n cap → n ≤ cap) (hl : l.length ≤ 9223372036854775807) (hsl : s.length ≤ 9223372036854775807) :
    Calls Try.prog 41 #[va, vb] w fun e w' => e = .returned (.bool (eachP l s)) ∧ w = w' := by
  obtain ⟨ao, cap, rfl⟩ := hr.form
  obtain ⟨bo, capb, rfl⟩ := hs.form
  have hca : l.length ≤ cap := hcap _ _ _ rfl
  obtain ⟨N, hN⟩ : ∃ N, N = l.length := ⟨_, rfl⟩
  have HN : Hid _ := hN
  have HC : Hid (∀ k (hk : k < l.length), ∃ g off, ao = some ⟨g, off, none⟩ ∧ g < w.heap.size ∧ w.cell? ⟨g, off + k, none⟩ = some (.int .i64 l[k])) := fun k hk => IRow.one hr k hk
  have HA : Hid (∀ x, Calls Try.prog 45 #[.slice bo s.length capb, .int .i64 x] w fun e w' => e = .returned (.bool (decide (x ∈ s))) ∧ w = w') := fun x => scontains_any hs hsl x
  have HB : Hid (∀ k, k ≤ N → ∀ x, Calls Try.prog 45 #[.slice ao k cap, .int .i64 x] w fun e w' => e = .returned (.bool (decide (x ∈ l.take k))) ∧ w = w') := fun k hk x => by
    have h1 := SRow.first hr k (by omega)
    have h2 := scontains_any h1 (by simp; omega) x
    have h3 : (l.take k).length = k := by simp; omega
    rw [h3] at h2
    exact h2
  have HF : Hid (∀ k, eachP (l.take k) s = false → eachP l s = false) := fun k h => by
    cases hq : eachP l s with
    | false => rfl
    | true => rw [each_take hq k] at h; cases h
  have HT : Hid (eachP (l.take N) s = eachP l s) := by show _ = _; rw [hN, List.take_length]
  obtain ⟨res, hres⟩ : ∃ r, r = eachP l s := ⟨_, rfl⟩
  rw [← hres] at HF HT ⊢
  rw [← hN] at hl hca ⊢
  clear hN hr hs hres hcap
  generalize s.length = M at *
  go_enter Try.func41, Try.ntmps41
  go_wp2_with fail
  go_loopw [9] (fun i wr => ∃ k : Nat, i = .int .i64 k ∧ k ≤ N ∧ eachP (l.take k) s = true ∧ wr = w) (fun i _ => N - (intOf i).toNat)
  case atStart => exact ⟨0, rfl, Nat.zero_le _, rfl, rfl⟩
  case round =>
    obtain ⟨k, rfl, hk, hrs, rfl⟩ := hrel
    by_cases hlt : k < N
    · have h1 : (k : Int) < N := by omega
      have h0 : (0 : Int) ≤ k := by omega
      have hkl : k < l.length := by rw [← HN.out]; exact hlt
      obtain ⟨g, off, rfl, hg, d0⟩ := HC.out k hkl
      have hst := each_snoc (s := s) hkl
      rw [hrs, Bool.true_and] at hst
      have ha := HA.out l[k]
      have hb := HB.out k (by omega) l[k]
      generalize l[k] = y at *
      generalize hp : decide (y ∈ s) = p at *
      generalize hq : decide (y ∈ l.take k) = q at *
      have HST : Hid _ := hst
      have hk2 : (k : Int) ≤ cap := by omega
      clear hp hq hst hrs HA HB
      cases p with
      | false =>
        go_wp2_with fail
        refine ha.mono ?_
        rintro e w1 ⟨rfl, rfl⟩
        clear ha
        go_wp2
        go_ret
        exact ⟨by rw [HF.out (k + 1) (by rw [HST.out]; rfl)]; rfl, rfl⟩
      | true =>
        go_wp2_with fail
        refine ha.mono ?_
        rintro e w1 ⟨rfl, rfl⟩
        clear ha
        go_wp2_with fail
        refine hb.mono ?_
        rintro e w1 ⟨rfl, rfl⟩
        clear hb
        cases q with
        | true =>
          go_wp2
          go_ret
          exact ⟨by rw [HF.out (k + 1) (by rw [HST.out]; rfl)]; rfl, rfl⟩
        | false =>
          go_wp2
          go_roundw
          case rel => exact ⟨k + 1, by go_num, by omega, by rw [HST.out]; rfl, by simp⟩
          case measure => simp [intOf]; omega
    · obtain rfl : k = N := by omega
      rw [HT.out] at hrs
      have HR : Hid _ := hrs
      clear hrs
      go_wp2
      go_ret
      exact ⟨by rw [HR.out]; rfl, rfl⟩

def heapOk (h : List Int) : Bool := h.all rightB && decide (h.length ≤ 12)
set_option maxRecDepth 100000 in
set_option maxHeartbeats 2000000 in
theorem isHeap_any {w : World} {v : Value} {h : List Int} (hr : VRow w v h) (hl : h.length ≤ 9223372036854775807) :
    Calls Try.prog 40 #[v] w fun e w' => e = .returned (.bool (heapOk h)) ∧ w = w' := by
  obtain ⟨ao, cap, rfl⟩ := hr.form
  obtain ⟨N, hN⟩ : ∃ N, N = h.length := ⟨_, rfl⟩
  have HN : Hid _ := hN
  have HC : Hid (∀ k (hk : k < h.length), ∃ g off, ao = some ⟨g, off, none⟩ ∧ g < w.heap.size ∧ w.cell? ⟨g, off + k, none⟩ = some (.int .u64 h[k])) := fun k hk => VRow.one hr k hk
  obtain ⟨res, hres⟩ : ∃ r, r = heapOk h := ⟨_, rfl⟩
  have HRES : Hid _ := hres
  rw [← hres]
  rw [← hN] at hl ⊢
  clear hN hr hres
  go_enter Try.func40, Try.ntmps40
  go_wp2_with fail
  go_loopw [7] (fun i wr => ∃ k : Nat, i = .int .i64 k ∧ k ≤ N ∧ (∀ x ∈ h.take k, rightB x = true) ∧ wr = w) (fun i _ => N - (intOf i).toNat)
  case atStart => exact ⟨0, rfl, Nat.zero_le _, by simp, rfl⟩
  case round =>
    obtain ⟨k, rfl, hk, hrs, rfl⟩ := hrel
    have HRS : Hid (∀ x ∈ h.take k, rightB x = true) := hrs
    clear hrs
    by_cases hlt : k < N
    · have h1 : (k : Int) < N := by omega
      have h0 : (0 : Int) ≤ k := by omega
      have hkl : k < h.length := by rw [← HN.out]; exact hlt
      obtain ⟨g, off, rfl, hg, d0⟩ := HC.out k hkl
      have hrt := right_any h[k]
      obtain ⟨y, hy⟩ : ∃ y, y = h[k] := ⟨_, rfl⟩
      rw [← hy] at d0 hrt
      have HY : Hid _ := hy
      clear hy
      cases hq : rightB y with
      | false =>
        rw [hq] at hrt
        have HQ : Hid _ := hq
        clear hq
        go_wp2_with fail
        refine (hrt _).mono ?_
        rintro e w1 ⟨rfl, rfl⟩
        clear hrt
        go_wp2
        go_ret
        refine ⟨?_, rfl⟩
        have : heapOk h = false := by
          unfold heapOk
          rw [Bool.and_eq_false_iff]
          left
          rw [List.all_eq_false]
          exact ⟨h[k], List.getElem_mem hkl, by rw [← HY.out, HQ.out]; simp⟩
        rw [HRES.out, this]; rfl
      | true =>
        rw [hq] at hrt
        have HQ : Hid _ := hq
        clear hq
        go_wp2_with fail
        refine (hrt _).mono ?_
        rintro e w1 ⟨rfl, rfl⟩
        clear hrt
        go_wp2
        go_roundw
        case rel =>
          refine ⟨k + 1, by go_num, by omega, ?_, by simp⟩
          intro x hx
          rw [take_snoc hkl] at hx
          rcases List.mem_append.1 hx with h2 | h2
          · exact HRS.out x h2
          · rw [List.mem_singleton.1 h2, ← HY.out]; exact HQ.out
        case measure => simp [intOf]; omega
    · obtain rfl : k = N := by omega
      have hall : h.all rightB = true := by
        rw [List.all_eq_true]
        intro x hx
        exact HRS.out x (by rw [HN.out, List.take_length]; exact hx)
      have HR : Hid (res = decide (k ≤ 12)) := by show _ = _; rw [HRES.out]; unfold heapOk; rw [hall, Bool.true_and, ← HN.out]
      clear hall
      by_cases h12 : k ≤ 12
      · have h13 : (k : Int) ≤ 12 := by omega
        go_wp2
        go_ret
        exact ⟨by rw [HR.out]; simp [h12, h13], rfl⟩
      · have h13 : ¬ (k : Int) ≤ 12 := by omega
        go_wp2
        go_ret
        exact ⟨by rw [HR.out]; simp [h12, h13], rfl⟩

/-! ### Clone -/
theorem eqNilO (w : World) (a : Option Addr) (n c : Nat) : (binOp .eql 23 (.slice a n c) (.slice none 0 0)).run Try.prog w = .ok (.bool a.isNone) w := Lib.run_eql_slice_nil w _ _ a n c 0 0 Try.underlying23
theorem eqNilI (w : World) (a : Option Addr) (n c : Nat) : (binOp .eql 24 (.slice a n c) (.slice none 0 0)).run Try.prog w = .ok (.bool a.isNone) w := Lib.run_eql_slice_nil w _ _ a n c 0 0 Try.underlying24
attribute [local go_sem] eqNilO eqNilI
theorem info_partsO {P : Program} {t : TypeId} {z : Value} {s b : Nat} (h : (P.info? t).map (fun i => (i.zero, i.size, i.bytes)) = some (some z, s, b)) : ∃ i, P.info? t = some i ∧ i.zero = some z ∧ i.size = s ∧ i.bytes = b := by
  cases hi : P.info? t with
  | none => rw [hi] at h; cases h
  | some i => rw [hi] at h; simp at h; exact ⟨i, rfl, h.1, h.2.1, h.2.2⟩

/-- A new row of numbers. -/
def IntsPost (w : World) (l : List Int) (e : Ending) (w' : World) : Prop := ∃ v, e = .returned v ∧ intOwn w' w.heap.size v l ∧ Touch w w' []
def ValsP (w : World) (l : List Int) (e : Ending) (w' : World) : Prop := ∃ v, e = .returned v ∧ valOwn w' w.heap.size v l ∧ Touch w w' []

set_option maxRecDepth 100000 in
set_option maxHeartbeats 1000000 in
theorem iclone_any {w : World} {v : Value} {l : List Int} (hr : IRow w v l) (hl : l.length ≤ 100000) :
    Calls Try.prog 68 #[v] w (IntsPost w l) := by
  obtain ⟨ao, cap, rfl⟩ := hr.form
  cases ao with
  | none =>
    have hl0 : l = [] := by
      rcases l with _ | ⟨x, l⟩
      · rfl
      · obtain ⟨g, off, e, _⟩ := hr.at 0 (by simp); cases e
    subst hl0
    clear hr
    go_enter Try.func68, Try.ntmps68
    go_wp2
    go_ret
    exact ⟨_, rfl, World.ownsRow_nil _ _ _ _, Touch.refl _ _⟩
  | some a =>
    have t0 := (Touch.refl w []).alloc (.cells #[] 3)
    obtain ⟨i0, hi, hz0, hz1, hz2⟩ := info_partsO Try.info_int
    obtain ⟨v', w2, h1, h2, h3, h4⟩ := run_app (P := Try.prog) (cells := fun x : Int => [Value.int .i64 x]) 24 24 3 i0 _ 1 8 Try.underlying24 hi hz0 hz1 hz2 rfl (by decide) (fun _ => rfl) (by simp [Value.oneCell']) (empty_row w 3 1) (SRow.keep hr t0 (by simp)) (by omega) (by decide) (by simp)
    rw [Nat.zero_add, List.nil_append, flat_one] at h2
    have HT : Hid (Touch w w2 []) := t0.grown h3 (by intro k hk; cases hk; exact .inr (Nat.le_refl _))
    obtain ⟨ao', cap', rfl⟩ := owns_slice h2
    have H2 : Hid _ := h2
    clear hr h2 h3 t0 h4
    generalize hn : l.length = n at h1 ⊢
    have HN : Hid _ := hn
    clear hn hl
    go_enter Try.func68, Try.ntmps68
    go_wp2_with (at_builtin; refine Lib.wpList_append_run _ rfl _ _ _ _ rfl _ _ rfl rfl _ _ h1 ?_)
    go_ret
    refine ⟨_, rfl, ?_, HT.out⟩
    have := H2.out
    rw [HN.out] at this
    show World.ownsRow _ _ _ _ _ _ _
    rw [HN.out]
    exact this

set_option maxRecDepth 100000 in
set_option maxHeartbeats 1000000 in
theorem oclone_any {w : World} {v : Value} {l : List Int} (hr : VRow w v l) (hl : l.length ≤ 100000) :
    Calls Try.prog 44 #[v] w (ValsP w l) := by
  obtain ⟨ao, cap, rfl⟩ := hr.form
  cases ao with
  | none =>
    have hl0 : l = [] := by
      rcases l with _ | ⟨x, l⟩
      · rfl
      · obtain ⟨g, off, e, _⟩ := hr.at 0 (by simp); cases e
    subst hl0
    clear hr
    go_enter Try.func44, Try.ntmps44
    go_wp2
    go_ret
    exact ⟨_, rfl, World.ownsRow_nil _ _ _ _, Touch.refl _ _⟩
  | some a =>
    have t0 := (Touch.refl w []).alloc (.cells #[] 49)
    obtain ⟨i0, hi, hz0, hz1, hz2⟩ := info_partsO Try.info_valO
    obtain ⟨v', w2, h1, h2, h3, h4⟩ := run_app (P := Try.prog) (cells := fun x : Int => [Value.int .u64 x]) 23 23 49 i0 _ 1 8 Try.underlying23 hi hz0 hz1 hz2 rfl (by decide) (fun _ => rfl) (by simp [Value.oneCell']) (empty_row w 49 1) (SRow.keep hr t0 (by simp)) (by omega) (by decide) (by simp)
    rw [Nat.zero_add, List.nil_append, flat_one] at h2
    have HT : Hid (Touch w w2 []) := t0.grown h3 (by intro k hk; cases hk; exact .inr (Nat.le_refl _))
    obtain ⟨ao', cap', rfl⟩ := owns_slice h2
    have H2 : Hid _ := h2
    clear hr h2 h3 t0 h4
    generalize hn : l.length = n at h1 ⊢
    have HN : Hid _ := hn
    clear hn hl
    go_enter Try.func44, Try.ntmps44
    go_wp2_with (at_builtin; refine Lib.wpList_append_run _ rfl _ _ _ _ rfl _ _ rfl rfl _ _ h1 ?_)
    go_ret
    refine ⟨_, rfl, ?_, HT.out⟩
    have := H2.out
    rw [HN.out] at this
    show World.ownsRow _ _ _ _ _ _ _
    rw [HN.out]
    exact this

end Go.Proofs.Ytjacclbifeoclaa

/-
  package code: taken, OF THE BYTES OF ONE RIGHT INSTRUCTION, BY ITS CONTRACT.
-/
import Derived.Test.YtoaajheneojfjaaDoorCdEncode
namespace Go.Proofs.YtoaajheneojfjaaDoor
set_option linter.unusedVariables false
set_option linter.unusedSimpArgs false
open Go.RowKit
attribute [local go_sem] Oper.semAt_some

theorem BRow.one {w : World} {ao : Option Addr} {cap : Nat} {l : List Int} (h : BRow w (.slice ao l.length cap) l) (k : Nat) (hk : k < l.length) :
    ∃ g off, ao = some ⟨g, off, none⟩ ∧ g < w.heap.size ∧ w.cell? ⟨g, off + k, none⟩ = some (.int .u8 l[k]) := by
  obtain ⟨g, off, e, hlt, hc⟩ := h.at k hk
  exact ⟨g, off, e, hlt, by simpa using hc 0 (by omega)⟩

/-- What a right one is. -/
theorem right_arg {i : InsD} (h : rightI i = true) (hp : argP i.op = true) : 0 ≤ i.arg ∧ i.arg ≤ 63 ∧ i.val = 0 := by
  have hv := arg_val hp
  simp only [rightI, Bool.and_eq_true, decide_eq_true_eq, Bool.or_eq_true] at h
  obtain ⟨⟨⟨⟨⟨h1, h2⟩, h3⟩, h4⟩, h5⟩, h6⟩ := h
  rw [hv] at h3
  have : highP i.op ≤ 63 := by unfold highP; split <;> (try split) <;> omega
  exact ⟨h4, by omega, by simpa using h3⟩
theorem right_none {i : InsD} (h : rightI i = true) (hp : argP i.op = false) : i.arg = 0 := by
  simp only [rightI, Bool.and_eq_true, decide_eq_true_eq, Bool.or_eq_true] at h
  obtain ⟨⟨⟨⟨⟨h1, h2⟩, h3⟩, h4⟩, h5⟩, h6⟩ := h
  rw [hp] at h2
  simpa using h2
theorem right_noval {i : InsD} (h : rightI i = true) (hp : valP i.op = false) : i.val = 0 := by
  simp only [rightI, Bool.and_eq_true, decide_eq_true_eq, Bool.or_eq_true] at h
  obtain ⟨⟨⟨⟨⟨h1, h2⟩, h3⟩, h4⟩, h5⟩, h6⟩ := h
  rw [hp] at h3
  simpa using h3

/-- The bytes of a Val, one by one. -/
theorem val_step (n k : Nat) (hk : k < 8) (hn : n < 18446744073709551616) : n / 2 ^ (8 * (8 - (k + 1))) = n / 2 ^ (8 * (8 - k)) * 256 + n / 2 ^ (8 * (7 - k)) % 256 := by
  have e1 : 8 * (8 - (k + 1)) = 8 * (7 - k) := by omega
  have e2 : 2 ^ (8 * (8 - k)) = 2 ^ (8 * (7 - k)) * 256 := by
    have : 8 * (8 - k) = 8 * (7 - k) + 8 := by omega
    rw [this, Nat.pow_add]
  rw [e1, e2, ← Nat.div_div_eq_div_mul]
  omega
theorem or_byte (m b : Nat) (hm : m < 72057594037927936) (hb : b < 256) : bits .or .u64 ((m * 256 : Nat) : Int) (b : Int) = ((m * 256 + b : Nat) : Int) := by
  rw [u64_or_nat (m * 256) b (by omega) (by omega)]
  congr 1
  have h := Nat.two_pow_add_eq_or_of_lt (i := 8) (b := b) (by omega) m
  have e : 2 ^ 8 * m = m * 256 := by omega
  rw [e] at h
  omega

theorem res_cell {fn : Func} {p : Tmp} {ty : TypeId} (h : fn.results = #[.cell p ty]) (tmps : Array Value) (P : Program) (w : World) :
    (results fn tmps).run P w = ((asAddr (tmps.getD p undef)).run P w).andThen fun a w₁ => (loadVar ty a).run P w₁ := by
  simp only [results, h]
  simp [Sem.run_bind, Result.andThen]

/-- What bytes can say, right or not. -/
structure FitI (i : InsD) : Prop where
  arg : argP i.op = true → 0 ≤ i.arg ∧ i.arg ≤ 255 ∧ i.val = 0
  none : argP i.op = false → i.arg = 0
  noval : valP i.op = false → i.val = 0
theorem fit_of {i : InsD} (h : rightI i = true) : FitI i := ⟨fun hp => by have := right_arg h hp; omega, right_none h, right_noval h⟩

set_option maxRecDepth 100000 in
set_option maxHeartbeats 1000000 in
theorem taken_fit {w : World} {ao : Option Addr} {cap : Nat} (i : InsD) (hr : BRow w (.slice ao (encI i).length cap) (encI i)) (hi : FitI i) (hw : i.Wf) (hc : (encI i).length ≤ cap) :
    Calls Tryd.prog 38 #[.slice ao (encI i).length cap] w fun e w' => e = .returned i.v ∧ Touch w w' [] := by
  obtain ⟨g, off, rfl, hg, d0⟩ := hr.one 0 (by simp [encI])
  have d0' : w.cell? ⟨g, off, none⟩ = some (.int .u8 i.op) := by simpa [encI] using d0
  have HU : Hid (∀ W, HidC _ _ _ W _) := fun W => ⟨uses_any i.op W⟩
  have hopw := hw.op
  have h255 : IntKind.u8.wrap i.op = i.op := by rw [byte_of]; omega
  clear d0
  cases hap : argP i.op with
  | true =>
    have hvp := arg_val hap
    obtain ⟨ha0, ha1, hv0⟩ := hi.arg hap
    have hen : encI i = [i.op, i.arg % 256] := by unfold encI; rw [hap, hvp]; rfl
    have hmod : i.arg % 256 = i.arg := by omega
    rw [hmod] at hen
    rw [hap, hvp] at HU
    rw [hen] at hr hc ⊢
    obtain ⟨g', off', e', hg', d1⟩ := hr.one 1 (by simp)
    simp only [Option.some.injEq, Addr.mk.injEq] at e'
    obtain ⟨rfl, rfl, _⟩ := e'
    have d1' : w.cell? ⟨g, off + 1, none⟩ = some (.int .u8 i.arg) := by simpa using d1
    obtain ⟨o, a, x⟩ := i
    simp only at d0' d1' ha0 ha1 hv0 HU hopw h255 ⊢
    subst hv0
    simp only [InsD.v, List.length_cons, List.length_nil, Nat.zero_add]
    have hwa : IntKind.i64.wrap a = a := by rw [IntKind.wrap_i64]; omega
    have hq : g ≠ w.heap.size := by omega
    have hq1 : g ≠ w.heap.size + 1 := by omega
    clear hr hi hw hen hmod d1 hap hvp hc
    go_enter Tryd.func38, Tryd.ntmps38
    go_wp2_with fail
    refine (HU.out _).out.mono ?_
    rintro e w2 ⟨rfl, rfl⟩
    go_wp2
    refine bodyPost_ret (v := .agg #[.int .u8 o, .int .i64 a, .int .u64 0]) ?_ rfl ⟨rfl, ((Touch.refl w []).alloc _).alloc _⟩
    rw [res_cell rfl]
    go_simp
  | false =>
    have ha0 := hi.none hap
    cases hvp : valP i.op with
    | false =>
      have hv0 := hi.noval hvp
      have hen : encI i = [i.op] := by unfold encI; rw [hap, hvp]; rfl
      rw [hap, hvp] at HU
      rw [hen] at hr hc ⊢
      obtain ⟨o, a, x⟩ := i
      simp only at d0' ha0 hv0 HU hopw h255 ⊢
      subst hv0 ha0
      simp only [InsD.v, List.length_cons, List.length_nil, Nat.zero_add]
      have hq : g ≠ w.heap.size := by omega
      clear hr hi hw hen hap hvp hc
      go_enter Tryd.func38, Tryd.ntmps38
      go_wp2_with fail
      refine (HU.out _).out.mono ?_
      rintro e w2 ⟨rfl, rfl⟩
      go_wp2
      refine bodyPost_ret (v := .agg #[.int .u8 o, .int .i64 0, .int .u64 0]) ?_ rfl ⟨rfl, ((Touch.refl w []).alloc _).alloc _⟩
      rw [res_cell rfl]
      go_simp
    | true =>
      have hen : encI i = i.op :: valB i.val.toNat 8 := by unfold encI; rw [hap, hvp]; rfl
      rw [hap, hvp] at HU
      rw [hen] at hr hc ⊢
      have hwv := hw.val
      obtain ⟨o, a, x⟩ := i
      simp only at d0' ha0 HU hopw h255 hr hc hwv ⊢
      subst ha0
      obtain ⟨n, rfl⟩ := Int.eq_ofNat_of_zero_le hwv.1
      have hn64 : n < 18446744073709551616 := by have := hwv.2; omega
      simp only [Int.toNat_natCast] at hr hc ⊢
      have hl9 : (o :: valB n 8).length = 9 := by simp [valB_len]
      have HBY : Hid (∀ k, k < 8 → w.cell? ⟨g, off + 1 + k, none⟩ = some (.int .u8 ((n / 2 ^ (8 * (7 - k)) % 256 : Nat) : Int))) := fun k hk => by
        obtain ⟨g', off', e', hg', d1⟩ := hr.one (1 + k) (by omega)
        simp only [Option.some.injEq, Addr.mk.injEq] at e'
        obtain ⟨rfl, rfl, _⟩ := e'
        rw [← Nat.add_assoc] at d1
        rw [d1]
        have : (o :: valB n 8)[1 + k]'(by omega) = ((n / 2 ^ (8 * (7 - k)) % 256 : Nat) : Int) := by
          simp [Nat.add_comm 1 k, valB]
        rw [this]
      rw [hl9] at hc
      simp only [hl9, InsD.v]
      have hc9 : (9 : Int) ≤ cap := by omega
      have hq : g ≠ w.heap.size := by omega
      clear hr hi hw hen hap hvp hl9 hwv
      go_enter Tryd.func38, Tryd.ntmps38
      go_wp2_with fail
      refine (HU.out _).out.mono ?_
      rintro e w2 ⟨rfl, rfl⟩
      have hcne : ¬ cap = 1 := by omega
      have HB0 : Hid (((w.alloc (Obj.cells #[.int .u8 0, .int .i64 0, .int .u64 0] 26)).alloc (Obj.cells #[.int .u8 o, .int .i64 0, .int .u64 0] 26)).heap[w.heap.size + 1]? = some (.cells #[.int .u8 o, .int .i64 0, .int .u64 0] 26 (0, 0))) := by
        have := heap_alloc_new (w.alloc (Obj.cells #[.int .u8 0, .int .i64 0, .int .u64 0] 26)) (Obj.cells #[.int .u8 o, .int .i64 0, .int .u64 0] 26)
        rw [World.size_alloc] at this
        exact this
      have HR0 : Hid (((w.alloc (Obj.cells #[.int .u8 0, .int .i64 0, .int .u64 0] 26)).alloc (Obj.cells #[.int .u8 o, .int .i64 0, .int .u64 0] 26)).heap[w.heap.size]? = some (.cells #[.int .u8 0, .int .i64 0, .int .u64 0] 26 (0, 0))) := by
        have h1 := heap_alloc_old (w.alloc (Obj.cells #[.int .u8 0, .int .i64 0, .int .u64 0] 26)) (Obj.cells #[.int .u8 o, .int .i64 0, .int .u64 0] 26) (r := w.heap.size) (by simp)
        exact h1.trans (heap_alloc_new w _)
      have HT0 : Hid (Touch w ((w.alloc (Obj.cells #[.int .u8 0, .int .i64 0, .int .u64 0] 26)).alloc (Obj.cells #[.int .u8 o, .int .i64 0, .int .u64 0] 26)) []) := ((Touch.refl w []).alloc _).alloc _
      go_wp2_with fail
      go_loopw [28] (fun i wr => ∃ k : Nat, i = .int .i64 k ∧ k ≤ 8 ∧ wr.heap[w.heap.size + 1]? = some (.cells #[.int .u8 o, .int .i64 0, .int .u64 ((n / 2 ^ (8 * (8 - k)) : Nat) : Int)] 26 (0, 0)) ∧ wr.heap[w.heap.size]? = some (.cells #[.int .u8 0, .int .i64 0, .int .u64 0] 26 (0, 0)) ∧ Touch w wr []) (fun i _ => 8 - (intOf i).toNat)
      case atStart =>
        refine ⟨0, rfl, by omega, ?_, HR0.out, HT0.out⟩
        have e : n / 2 ^ (8 * (8 - 0)) = 0 := Nat.div_eq_of_lt (by show n < 18446744073709551616; exact hn64)
        rw [e]
        exact HB0.out
      case round =>
        obtain ⟨k, rfl, hk, hb, hz, hT⟩ := hrel
        by_cases hlt : k < 8
        · have h1 : (k : Int) < 8 := by omega
          have h0 : (0 : Int) ≤ k := by omega
          have dk := (hT.cell (p := ⟨g, off + 1 + k, none⟩) hg (by simp)).trans (HBY.out k hlt)
          have hst := val_step n k hlt hn64
          have hm : n / 2 ^ (8 * (8 - k)) < 72057594037927936 := by
            have h5 : n / 2 ^ (8 * (8 - k)) ≤ n / 256 := Nat.div_le_div_left (by have : 2 ^ 8 ≤ 2 ^ (8 * (8 - k)) := Nat.pow_le_pow_right (by decide) (by omega); exact this) (by decide)
            omega
          have hby : n / 2 ^ (8 * (7 - k)) % 256 < 256 := Nat.mod_lt _ (by decide)
          have hor := or_byte _ _ hm hby
          rw [← hst] at hor
          generalize hm2 : n / 2 ^ (8 * (8 - (k + 1))) = m2 at *
          have HM2 : Hid _ := hm2
          clear hm2
          generalize n / 2 ^ (8 * (8 - k)) = m1 at *
          generalize n / 2 ^ (8 * (7 - k)) % 256 = y at *
          have c0 : wr.cell? ⟨w.heap.size + 1, 2, none⟩ = some (.int .u64 (m1 : Int)) := by unfold World.cell?; rw [hb]; rfl
          have f0 : wr.frozen? ⟨w.heap.size + 1, 2, none⟩ = false := by unfold World.frozen?; rw [hb]; rfl
          have HB : Hid _ := hb
          have HZ : Hid _ := hz
          have HT : Hid _ := hT
          clear hb hz hT
          have hor' : bits .or .u64 ((m1 : Int) * 256) (y : Int) = (m2 : Int) := by rw [← hor]; congr 1
          have HOR : Hid _ := hor'
          clear hor hor' hst
          go_wp2
          go_roundw
          case rel =>
            refine ⟨k + 1, by go_num, by omega, ?_, ?_, ?_⟩
            · rw [HOR.out, HM2.out]
              exact heap_setCell_same _ _ _ _ _ _ HB.out
            · have t4 : Touch wr (wr.setCell ⟨w.heap.size + 1, 2, none⟩ (.int .u64 (bits .or .u64 ((m1 : Int) * 256) (y : Int)))) [w.heap.size + 1] := (Touch.refl wr _).setCell (.inl (by simp)) _
              exact (t4.block _ (lt_of_heap HZ.out) (by simp)).trans HZ.out
            · exact HT.out.setCell (.inr (by simp)) _
          case measure => simp [intOf]; omega
        · obtain rfl : k = 8 := by omega
          have e : n / 2 ^ (8 * (8 - 8)) = n := by simp
          rw [e] at hb
          have c0 : wr.cell? ⟨w.heap.size + 1, 0, none⟩ = some (.int .u8 o) ∧ wr.cell? ⟨w.heap.size + 1, 1, none⟩ = some (.int .i64 0) ∧ wr.cell? ⟨w.heap.size + 1, 2, none⟩ = some (.int .u64 (n : Int)) := ⟨by unfold World.cell?; rw [hb]; rfl, by unfold World.cell?; rw [hb]; rfl, by unfold World.cell?; rw [hb]; rfl⟩
          obtain ⟨c0, c1, c2⟩ := c0
          have z0 : wr.cell? ⟨w.heap.size, 0, none⟩ = some (.int .u8 0) ∧ wr.cell? ⟨w.heap.size, 1, none⟩ = some (.int .i64 0) ∧ wr.cell? ⟨w.heap.size, 2, none⟩ = some (.int .u64 0) := ⟨by unfold World.cell?; rw [hz]; rfl, by unfold World.cell?; rw [hz]; rfl, by unfold World.cell?; rw [hz]; rfl⟩
          obtain ⟨z0, z1, z2⟩ := z0
          have f0 : ∀ j, wr.frozen? ⟨w.heap.size, j, none⟩ = false := fun j => by unfold World.frozen?; rw [hz]; simp
          have f00 := f0 0
          have f01 := f0 1
          have f02 := f0 2
          have HT : Hid _ := hT
          have HZ : Hid _ := hz
          clear hT hb hz e f0
          go_wp2
          refine bodyPost_ret (v := .agg #[.int .u8 o, .int .i64 0, .int .u64 (n : Int)]) ?_ rfl ⟨rfl, ((HT.out.setCell (.inr (Nat.le_refl _)) _).setCell (.inr (Nat.le_refl _)) _).setCell (.inr (Nat.le_refl _)) _⟩
          rw [res_cell rfl]
          go_simp

theorem taken_any {w : World} {ao : Option Addr} {cap : Nat} (i : InsD) (hr : BRow w (.slice ao (encI i).length cap) (encI i)) (hi : rightI i = true) (hw : i.Wf) (hc : (encI i).length ≤ cap) :
    Calls Tryd.prog 38 #[.slice ao (encI i).length cap] w fun e w' => e = .returned i.v ∧ Touch w w' [] := taken_fit i hr (fit_of hi) hw hc

end Go.Proofs.YtoaajheneojfjaaDoor

/-
  package spec: exchange BY ITS CONTRACT.
-/
import Derived.Test.YtlndbligbpfdpaaSpReck
import Derived.Deep.RegionLaw
import Derived.Lib.SliceRun
namespace Go.Proofs.Ytlndbligbpfdpaa
set_option linter.unusedVariables false
set_option linter.unusedSimpArgs false
open Go.RowKit
attribute [local go_sem] Oper.semAt_some

theorem info_partsE {P : Program} {t : TypeId} {z : Value} {s b : Nat} (h : (P.info? t).map (fun i => (i.zero, i.size, i.bytes)) = some (some z, s, b)) : ∃ i, P.info? t = some i ∧ i.zero = some z ∧ i.size = s ∧ i.bytes = b := by
  cases hi : P.info? t with
  | none => rw [hi] at h; cases h
  | some i => rw [hi] at h; simp at h; exact ⟨i, rfl, h.1, h.2.1, h.2.2⟩
theorem Try.info_val : (Try.prog.info? 25).map (fun i => (i.zero, i.size, i.bytes)) = some (some (.int .u64 0), 1, 8) := by kernel_rfl

theorem step_append_run {P : Program} {w : World} {ops : Array Oper} {o : Oper} {a : Act} {K : Act → World → Prop} {Q : Exit → Act → World → Prop} {E : Prop} (hgd : o.guard = none) (s x : Operand) (t ty : TypeId)
    (ho : o.op = .call { callee := .builtin .append, args := #[s, x], argTypes := #[t, t] }) (hty : o.type = ty) (v1 v2 v3 : Value) (w3 : World) (hs : a.eval s = v1) (hx : a.eval x = v2)
    (hr : (Builtin.append_ #[t, t] ty #[v1, v2]).run P w = .ok v3 w3) (h : K (a.put o.dst v3) w3) : if Region.wanted o (yielded ops a.tmps) = true then Oper.wp P o a w K Q else E := by
  have hw : Region.wanted o (yielded ops a.tmps) = true := by simp [Region.wanted, hgd]
  rw [if_pos hw]
  subst hty
  unfold Oper.wp execOp
  simp only [ho, resolve, invoke, builtin, Sem.run_bind, Sem.run_pure, Result.andThen_ok, List.map_toArray, List.map_cons, List.map_nil, hs, hx, hr]
  exact h
/-- The lower values of a stack. -/
theorem own_take {w : World} {B : Nat} {ao : Option Addr} {n cap : Nat} {l : List Int} (h : valOwn w B (.slice ao n cap) l) (q : Nat) (hq : q ≤ n) : valOwn w B (.slice ao q cap) (l.take q) := by
  have hl : l.length = n := by
    obtain ⟨a2, c2, e⟩ := owns_slice h
    simp only [Value.slice.injEq] at e
    exact e.2.1.symm
  have hlq : (l.take q).length = q := by rw [List.length_take]; omega
  refine ⟨by simp, ?_⟩
  rcases h.2 with ⟨e5, h5⟩ | ⟨g5, cap5, cur5, e5, hb5, hg5, hn5, hm5, hs5, ht5⟩
  · simp only [Value.slice.injEq] at e5
    obtain ⟨rfl, rfl, rfl⟩ := e5
    have hq0 : q = 0 := by omega
    subst hq0
    exact .inl ⟨rfl, by simp⟩
  · simp only [Value.slice.injEq] at e5
    obtain ⟨rfl, e6, rfl⟩ := e5
    refine .inr ⟨g5, cap, cur5, by rw [hlq], hb5, hg5, by rw [hlq]; omega, hm5, hs5, ?_⟩
    rw [hlq, List.map_take, ← ht5, List.take_take]
    congr 1
    omega
theorem val_app {w : World} {B : Nat} {v : Value} {xs : List Int} (h : valOwn w B v xs) (hl : xs.length ≤ 1000) (hB : B ≤ w.heap.size) {ao : Option Addr} {n cap : Nat} {l : List Int} (hr : VRow w (.slice ao n cap) l) (hn : n = l.length) (hm : n ≤ 1000) (ty : TypeId) :
    ∃ ao' cap' w', (Builtin.append_ #[23, 23] ty #[v, .slice ao n cap]).run Try.prog w = .ok (.slice ao' (xs.length + n) cap') w' ∧ valOwn w' B (.slice ao' (xs.length + n) cap') (xs ++ l) ∧ Touch w w' v.ownBlock.toList ∧ (∀ g, (Value.slice ao' (xs.length + n) cap').ownBlock = some g → v.ownBlock = some g ∨ w.heap.size ≤ g) := by
  obtain ⟨i0, hi, hz0, hz1, hz2⟩ := info_partsE Try.info_val
  subst hn
  obtain ⟨v', w', h1, h2, h3, h4⟩ := run_app (P := Try.prog) (cells := vcell) 23 ty 25 i0 _ 1 8 Try.underlying23 hi hz0 hz1 hz2 rfl (by decide) (fun _ => rfl) (by simp [vcell, Value.oneCell']) h (l := l) hr (by omega) (by decide) hB
  have h2' : valOwn w' B v' (xs ++ l) := by
    show w'.ownsRow _ _ _ _ _ _
    rw [flat_one] at h2
    rw [List.length_append, List.map_append]
    exact h2
  obtain ⟨ao', cap', rfl⟩ := owns_slice h2'
  simp only [List.length_append] at h1 h2' h4
  refine ⟨ao', cap', w', h1, h2', (Touch.refl w _).grown h3 (fun k hk => .inl (by simp [hk])), ?_⟩
  intro g hg
  rcases h4 with h4 | h4
  · left; rw [← h4]; exact hg
  · right; rw [h4] at hg; simp at hg; omega

/-- Behind exchange. -/
def ExchP (w : World) (b B : Nat) (T : TypeId) (tl : List Value) (vs vo vp : Value) (D : WD) (e : Ending) (w' : World) : Prop :=
  e = .returned (.tuple #[]) ∧ ∃ v', WObj w' b T tl v' vo vp D ∧ valOwn w' B v' D.st ∧ Touch w w' (b :: vs.ownBlock.toList) ∧ (∀ g, v'.ownBlock = some g → vs.ownBlock = some g ∨ w.heap.size ≤ g)

set_option maxRecDepth 100000 in
set_option maxHeartbeats 2000000 in
theorem exchange_any {w : World} {b B : Nat} {T : TypeId} {tl : List Value} {vo vp : Value} {ao : Option Addr} {n cap : Nat} {D : WD} (h : WObj w b T tl (.slice ao n cap) vo vp D) (hv : valOwn w B (.slice ao n cap) D.st) (hB : B ≤ w.heap.size) (hb : ∀ g, (Value.slice ao n cap).ownBlock = some g → g ≠ b) (hn : n ≤ 1000) (p : Nat) (hp : p ≤ n) {a2 : Option Addr} {m c2 : Nat} {pu : List Int} (hpu : VRow w (.slice a2 m c2) pu) (hm : m = pu.length) (hm2 : m ≤ 1000) :
    Calls Try.prog 46 #[.pointer (some ⟨b, 0, none⟩), .int .i64 (p : Int), .slice a2 m c2] w (ExchP w b B T tl (.slice ao n cap) vo vp { D with st := D.st.take (n - p) ++ pu }) := by
  have td : Touch w w.drew [] := (Touch.refl w []).drew
  obtain ⟨a3, c3, w3, hrun, ho3, t3, hb3⟩ := val_app (ownsRow_touch (own_take hv (n - p) (by omega)) td (by simp)) (by rw [List.length_take]; omega) hB (SRow.keep hpu td (by simp)) hm hm2 23
  have hlen : D.st.length = n := by
    obtain ⟨a5, c5, e⟩ := owns_slice hv
    simp only [Value.slice.injEq] at e
    exact e.2.1.symm
  have hlt : (D.st.take (n - p)).length = n - p := by rw [List.length_take]; omega
  rw [hlt] at hrun ho3 hb3
  have hob : ∀ g, (Value.slice ao n cap).ownBlock = some g → B ≤ g := fun g hg => by
    rcases hv.2 with ⟨e5, h5⟩ | ⟨g5, cap5, cur5, e5, hb5, _⟩
    · rw [e5] at hg; simp [Value.ownBlock] at hg
    · rw [e5] at hg; simp [Value.ownBlock] at hg; omega
  have hobe : (Value.slice ao (n - p) cap).ownBlock = (Value.slice ao n cap).ownBlock := by cases ao <;> rfl
  rw [hobe] at t3 hb3
  have hbn : b ∉ (Value.slice ao n cap).ownBlock.toList := fun hx => hb b (by simpa using hx) rfl
  have h3 : WObj w3 b T tl (.slice ao n cap) vo vp D := (h.touch td (by simp)).touch t3 hbn
  have c1 := h.cells.c1
  have c31 := h3.cells.c1
  have f31 := h3.fr 1
  have HW : Hid _ := h3.set1 (.slice a3 (n - p + m) c3) (D.st.take (n - p) ++ pu)
  have HT : Hid (Touch w (w3.setCell ⟨b, 1, none⟩ (.slice a3 (n - p + m) c3)) (b :: (Value.slice ao n cap).ownBlock.toList)) := ((td.mono (by simp)).trans t3 (fun x hx => .inl (by simp at hx ⊢; exact .inr hx))).setCell (.inl (by simp)) _
  have hnb3 : (Value.slice a3 (n - p + m) c3).ownBlock ≠ some b := fun hx => by
    rcases hb3 b hx with q | q
    · exact hb b q rfl
    · have h5 := h.lt
      have h6 : w.drew.heap.size = w.heap.size := rfl
      omega
  have HO : Hid (valOwn (w3.setCell ⟨b, 1, none⟩ (.slice a3 (n - p + m) c3)) B (.slice a3 (n - p + m) c3) (D.st.take (n - p) ++ pu)) := ownsRow_touch ho3 ((Touch.refl w3 [b]).setCell (.inl (by simp)) _) (fun g hg hs => by simp at hs; subst hs; exact hnb3 hg)
  have HBK : Hid (∀ g, (Value.slice a3 (n - p + m) c3).ownBlock = some g → (Value.slice ao n cap).ownBlock = some g ∨ w.heap.size ≤ g) := hb3
  have hcap : n ≤ cap ∧ cap ≤ 9223372036854775807 := by
    rcases hv.2 with ⟨e5, h5⟩ | ⟨g5, cap5, cur5, e5, hb5, _, hn5, hm5, _⟩
    · simp only [Value.slice.injEq] at e5; omega
    · simp only [Value.slice.injEq] at e5; unfold maxLen at hm5; omega
  obtain ⟨q, hq⟩ : ∃ q, q = n - p := ⟨_, rfl⟩
  rw [← hq] at hrun HW HT HO HBK ⊢
  have hqi : IntKind.i64.wrap ((n : Int) - p) = (q : Int) := by rw [IntKind.wrap_i64]; omega
  have hqi2 : (n : Int) - p = (q : Int) := by omega
  have hwq : IntKind.i64.wrap (q : Int) = (q : Int) := by rw [IntKind.wrap_i64]; omega
  have hnil : ao = none → n = 0 ∧ cap = 0 := fun e => by
    rcases hv.2 with ⟨e5, h5⟩ | ⟨g5, cap5, cur5, e5, _⟩
    · simp only [Value.slice.injEq] at e5; exact ⟨e5.2.1, e5.2.2⟩
    · simp only [Value.slice.injEq] at e5; rw [e] at e5; cases e5.1
  have hqn : q ≤ n := by omega
  have hpn : p ≤ n := hp
  have hqc : (q : Int) ≤ cap := by omega
  have hq0 : (0 : Int) ≤ q := by omega
  have hqc2 : q ≤ cap := by omega
  clear h hv hpu hlen hlt hob hobe hbn hb h3 hnb3 hb3 ho3 t3 hcap hq hm hm2 hp hn hqi
  have c1d : w.drew.cell? ⟨b, 1, none⟩ = some (.slice ao n cap) := c1
  cases ao with
  | none =>
    obtain ⟨rfl, rfl⟩ := hnil rfl
    obtain rfl : p = 0 := by omega
    obtain rfl : q = 0 := by omega
    clear hnil hwq hqi2 hqc hq0 hqc2 hqn hpn
    have h0w : IntKind.i64.wrap (0 : Int) = 0 := by rw [IntKind.wrap_i64]; rfl
    simp only [Nat.zero_add] at hrun HW HO HT HBK
    go_enter Try.func46, Try.ntmps46
    go_wp2_with fail
    go_region_law (first | (refine step_append_run (by rfl) (.tmp 20) (.tmp 21) 23 23 (by rfl) (by rfl) (.slice none 0 0) (.slice a2 m c2) (.slice a3 m c3) w3 (by rfl) (by rfl) hrun ?_))
    all_goals
      go_wp2
      go_end0
      exact ⟨rfl, _, HW.out, HO.out, HT.out, HBK.out⟩
  | some ad =>
    obtain ⟨ag, aoff, af⟩ := ad
    go_enter Try.func46, Try.ntmps46
    go_wp2_with fail
    go_region_law (first | (refine step_append_run (by rfl) (.tmp 20) (.tmp 21) 23 23 (by rfl) (by rfl) (.slice (some ⟨ag, aoff, af⟩) q cap) (.slice a2 m c2) (.slice a3 (q + m) c3) w3 (by rfl) (by rfl) hrun ?_))
    all_goals
      go_wp2
      go_end0
      exact ⟨rfl, _, HW.out, HO.out, HT.out, HBK.out⟩

end Go.Proofs.Ytlndbligbpfdpaa

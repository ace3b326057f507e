/-
  Over of both logs BY ITS CONTRACT, AND WritesOver, WALKED.
-/
import Derived.Test.YtijnepbmkkdpnaaWritesLaws
import Derived.Test.YtijnepbmkkdpnaaValsOpen
import Derived.Lib.SliceRun
import Derived.Lib.AppendZeros
namespace Go.Proofs.Ytijnepbmkkdpnaa
set_option linter.unusedVariables false
set_option linter.unusedSimpArgs false
open Go.RowKit Go.Maps Go.Shelf
attribute [local go_sem] Oper.semAt_some

/-! ### Values with what was written -/
def setP (l : List Int) (p : Int × Int) : List Int := l.set p.1.toNat p.2
def ovP (h : List Int) (ps : List (Int × Int)) : List Int := ps.foldl setP h
theorem ovP_len (ps : List (Int × Int)) : ∀ h : List Int, (ovP h ps).length = h.length := by
  induction ps with
  | nil => intro h; rfl
  | cons p ps ih => intro h; unfold ovP at ih ⊢; rw [List.foldl_cons, ih]; simp [setP]
theorem ovP_snoc (h : List Int) (ps : List (Int × Int)) (p : Int × Int) : ovP h (ps ++ [p]) = setP (ovP h ps) p := by
  unfold ovP; rw [List.foldl_append]; rfl
theorem ovP_far : ∀ (ps : List (Int × Int)) (h : List Int), (∀ p ∈ ps, h.length ≤ p.1.toNat) → ovP h ps = h
  | [], h, _ => rfl
  | p :: ps, h, hf => by
    have h1 : setP h p = h := by unfold setP; exact List.set_eq_of_length_le (hf p (by simp))
    unfold ovP
    rw [List.foldl_cons, h1]
    exact ovP_far ps h (fun q hq => hf q (List.mem_cons_of_mem _ hq))
theorem ovP_app (h : List Int) (a b : List (Int × Int)) : ovP h (a ++ b) = ovP (ovP h a) b := by unfold ovP; rw [List.foldl_append]

theorem allK_mem {G : Int → Option Int} {k : Nat} {p : Int × Int} (h : p ∈ allK G k) : ∃ i : Nat, i < k ∧ p.1 = i := by
  unfold allK at h
  rw [List.mem_filterMap] at h
  obtain ⟨i, hi, e⟩ := h
  cases hq : G i with
  | none => rw [hq] at e; cases e
  | some v => rw [hq] at e; simp at e; exact ⟨i, List.mem_range.1 hi, by rw [← e]⟩
/-- Behind a place all are behind. -/
theorem allK_rest (G : Int → Option Int) (k : Nat) : ∀ n, ∃ l, allK G (k + n) = allK G k ++ l ∧ ∀ p ∈ l, (k : Int) ≤ p.1
  | 0 => ⟨[], by simp, by simp⟩
  | n + 1 => by
    obtain ⟨l, hl, hp⟩ := allK_rest G k n
    cases hq : G ((k + n : Nat) : Int) with
    | none => exact ⟨l, by rw [← Nat.add_assoc, allK_none hq, hl], hp⟩
    | some v => exact ⟨l ++ [(((k + n : Nat) : Int), v)], by rw [← Nat.add_assoc, allK_some hq, hl, List.append_assoc], by
        intro p h
        rw [List.mem_append] at h
        rcases h with h | h
        · exact hp p h
        · simp at h; rw [h]; simp only; omega⟩

/-- As far as the heap goes. -/
theorem ov_end {G : Int → Option Int} (hG : ∀ t, 12 ≤ t → G t = none) (h : List Int) (n : Nat) (hn : h.length ≤ n) : ovP h (allK G n) = ovP h (allK G 12) := by
  by_cases h12 : n ≤ 12
  · obtain ⟨l, hl, hp⟩ := allK_rest G n (12 - n)
    rw [show n + (12 - n) = 12 by omega] at hl
    rw [hl, ovP_app, ovP_far l _ (fun p hq => by have := hp p hq; rw [ovP_len]; omega)]
  · obtain ⟨l, hl, hp⟩ := allK_rest G 12 (n - 12)
    rw [show 12 + (n - 12) = n by omega] at hl
    have : ∀ m, allK G (12 + m) = allK G 12 := by
      intro m
      induction m with
      | zero => rfl
      | succ m ih => rw [← Nat.add_assoc, allK_none (hG _ (by omega)), ih]
    have := this (n - 12)
    rw [show 12 + (n - 12) = n by omega] at this
    rw [this]

theorem getF_far {Fs : List Fr} (hok : ∀ f ∈ Fs, FrOk f) (t : Int) (h : 12 ≤ t) : getF Fs t = none := by
  refine getF_none fun f hf => ?_
  cases hq : fget f t with
  | none => rfl
  | some v => have := fget_range (hok f hf) hq; omega

abbrev valC (l : List Int) : List Value := l.map (Value.int .u64)
theorem Try.info_val : (Try.prog.info? 38).map (fun i => (i.zero, i.size, i.bytes)) = some (some (.int .u64 0), 1, 8) := by kernel_rfl

/-- A row of values of one's own. -/
def ValsPost (w : World) (ls : List Int) (e : Ending) (w' : World) : Prop := ∃ v, e = .returned v ∧ w'.ownsRow w.heap.size 38 1 v ls.length (valC ls) ∧ Touch w w' []

/-- One value of a row is another one. -/
theorem vals_set {w : World} {B g cap : Nat} {ls : List Int} (h : w.ownsRow B 38 1 (.slice (some ⟨g, 0, none⟩) ls.length cap) ls.length (valC ls)) (i : Nat) (x : Int) :
    (w.setCell ⟨g, i, none⟩ (.int .u64 x)).ownsRow B 38 1 (.slice (some ⟨g, 0, none⟩) ls.length cap) ls.length (valC (ls.set i x)) := by
  refine ⟨by simp [valC], .inr ?_⟩
  rcases h.2 with ⟨e, _⟩ | ⟨g', cap', cur, e, hB, hg, h1, h2, h3, h4⟩
  · simp at e
  · simp only [Value.slice.injEq, Option.some.injEq, Addr.mk.injEq] at e
    obtain ⟨⟨rfl, _⟩, _, rfl⟩ := e
    refine ⟨g, cap, _, rfl, hB, heap_setCell_same _ _ _ _ _ _ hg, h1, h2, by simpa using h3, ?_⟩
    rw [valC, List.map_set, ← valC, ← h4]
    simp only [Array.toList_setIfInBounds, Nat.mul_one]
    rw [List.take_set]

/-! ### append of all of them to a row of one's own -/
theorem run_vals {w : World} (ty : TypeId) {g0 B : Nat} (hown : w.ownsRow B 38 1 (.slice (some ⟨g0, 0, none⟩) 0 0) 0 []) (ao : Option Addr) (cap : Nat) (l : List Int) (hr : ValRow w (.slice ao l.length cap) l) (hl : l.length ≤ 20) (hB : B ≤ w.heap.size) :
    ∃ g cap' w', (Builtin.append_ #[23, 23] ty #[.slice (some ⟨g0, 0, none⟩) 0 0, .slice ao l.length cap]).run Try.prog w = .ok (.slice (some ⟨g, 0, none⟩) l.length cap') w' ∧
      w'.ownsRow B 38 1 (.slice (some ⟨g, 0, none⟩) l.length cap') l.length (valC l) ∧ w.grownBy w' (some g0) := by
  obtain ⟨i0, hi, hz0, hz1, hz2⟩ := info_parts Try.info_val
  cases ao with
  | none =>
    have hl0 : l = [] := by
      rcases l with _ | ⟨x, l⟩
      · rfl
      · obtain ⟨g, off, e, _⟩ := hr.one 0 (by simp); cases e
    subst hl0
    refine ⟨g0, 0, w, ?_, hown, ⟨rfl, rfl, rfl, Nat.le_refl _, fun _ _ _ => rfl⟩⟩
    have hu := run_underlying (P := Try.prog) (w := w) Try.underlying23
    simp [Builtin.append_, hu, sizeOf, typeInfo, hi, Builtin.lenOf, Builtin.firstCells, storeCells]
  | some a =>
    have hn : ∀ j u, (valC l)[j]? = some u → w.cell? (a.add j) = some u := by
      intro j u hu
      have hj : j < l.length := by
        have := (List.getElem?_eq_some_iff.1 hu).1
        simpa using this
      obtain ⟨g, off, e, _, hc⟩ := hr.one j hj
      cases e
      rw [Addr.add_lit, hc]
      simp only [valC, List.getElem?_map, List.getElem?_eq_getElem hj, Option.map_some] at hu
      exact hu
    obtain ⟨v', w', h1, h2, h3, h4, h5⟩ := run_append_own_at (P := Try.prog) w B 23 ty 38 i0 _ 1 8 Try.underlying23 hi hz0 hz1 hz2 rfl (by decide) _ 0 [] hown a l.length cap (valC l) (by simp) hn (by simp [valC, Value.oneCell']) (by unfold maxLen; omega) (by omega) hB
    have hne : v' ≠ .slice none 0 0 := fun e => by have := (h4.1 e).1; simp at this
    rcases h2.2 with ⟨e, _⟩ | ⟨g, cap', cur, rfl, _, hg, _⟩
    · exact absurd e hne
    · rw [Nat.zero_add, List.nil_append] at h2
      rw [Nat.zero_add] at h1
      exact ⟨g, cap', w', h1, h2, h3⟩

theorem eqNilVal (w : World) (a : Option Addr) (n c : Nat) : (binOp .eql 23 (.slice a n c) (.slice none 0 0)).run Try.prog w = .ok (.bool a.isNone) w := Lib.run_eql_slice_nil w _ _ a n c 0 0 Try.underlying23
attribute [local go_sem] eqNilVal

theorem owns_none (w : World) (B : Nat) : w.ownsRow B 38 1 (.slice none 0 0) 0 (valC []) := World.ownsRow_nil _ _ _ _

set_option maxRecDepth 100000 in
set_option maxHeartbeats 1000000 in
theorem vclone_any (w : World) (ao : Option Addr) (cap : Nat) (l : List Int) (hr : ValRow w (.slice ao l.length cap) l) (hl : l.length ≤ 20) :
    Calls Try.prog 23 #[.slice ao l.length cap] w (ValsPost w l) := by
  cases ao with
  | none =>
    have hl0 : l = [] := by
      rcases l with _ | ⟨x, l⟩
      · rfl
      · obtain ⟨g, off, e, _⟩ := hr.one 0 (by simp); cases e
    subst hl0
    clear hr
    go_enter Try.func23, Try.ntmps23
    go_wp2
    go_ret
    exact ⟨_, rfl, owns_none _ _, Touch.refl _ _⟩
  | some a =>
    have t0 := (Touch.refl w []).alloc (.cells #[] 38)
    obtain ⟨g, cap', w2, h1, h2, h3⟩ := run_vals 23 (empty_row w 38 1) (some a) cap l (SRow.keep hr t0 (by simp)) hl (by simp)
    have H2 : Hid _ := h2
    have HT : Hid (Touch w w2 []) := t0.grown h3 (by intro k hk; cases hk; exact .inr (Nat.le_refl _))
    clear hr h2 h3 t0
    generalize hn : l.length = n at h1 ⊢
    have HN : Hid _ := hn
    clear hn hl
    go_enter Try.func23, Try.ntmps23
    go_wp2_with (at_builtin; refine Lib.wpList_append_run _ rfl _ _ _ _ rfl _ _ rfl rfl _ _ h1 ?_)
    go_ret
    refine ⟨_, rfl, ?_, HT.out⟩
    have := H2.out
    rw [HN.out] at this ⊢
    exact this

/-! ### What is behind the heap's end -/
theorem allK_rise (G : Int → Option Int) (k : Nat) : (allK G k).Pairwise fun a b => a.1 < b.1 := by
  unfold allK
  rw [List.pairwise_filterMap]
  refine List.pairwise_lt_range.imp ?_
  intro a b hab x hx y hy
  cases h1 : G a with
  | none => rw [h1] at hx; cases hx
  | some u =>
    cases h2 : G b with
    | none => rw [h2] at hy; cases hy
    | some v =>
      rw [h1] at hx; rw [h2] at hy
      simp at hx hy
      rw [← hx, ← hy]
      simp only
      omega
theorem ov_cut {G : Int → Option Int} {k : Nat} (hk : k < (allK G 12).length) (l : List Int) (h : (l.length : Int) ≤ ((allK G 12)[k]).1) : ovP l (allK G 12) = ovP l ((allK G 12).take k) := by
  have hp := allK_rise G 12
  have hd : allK G 12 = (allK G 12).take k ++ (allK G 12).drop k := (List.take_append_drop _ _).symm
  have hdc : (allK G 12).drop k = (allK G 12)[k] :: (allK G 12).drop (k + 1) := List.drop_eq_getElem_cons hk
  have hp2 : ((allK G 12).drop k).Pairwise fun a b => a.1 < b.1 := hp.sublist (List.drop_sublist _ _)
  rw [hdc, List.pairwise_cons] at hp2
  conv => lhs; rw [hd]
  rw [ovP_app, ovP_far]
  intro p hpm
  rw [hdc] at hpm
  rw [ovP_len]
  rcases List.mem_cons.1 hpm with rfl | hm
  · omega
  · have := hp2.1 p hm
    omega

/-- What Over keeps between two rounds. -/
structure OverI (w : World) (bx b : Nat) (v : Value) (l xs : List Int) (W : World) : Prop where
  box : Boxed W bx 23 v
  row : W.ownsRow w.heap.size 38 1 v l.length (valC xs)
  one : One W (bx + 1) (ptr b) 24
  t : Touch w W []

theorem OverI.keep {w W W' : World} {bx b : Nat} {v : Value} {l xs : List Int} {S : List Nat} (h : OverI w bx b v l xs W) (t : Touch W W' S) (hS : ∀ x ∈ S, w.heap.size ≤ x ∧ ∃ o, W.heap[x]? = some o ∧ o.isCells = false) : OverI w bx b v l xs W' := by
  have h1 : bx ∉ S := fun hs => by obtain ⟨_, o, ho, hc⟩ := hS _ hs; have := h.box; unfold Boxed at this; rw [this] at ho; cases ho; simp [Obj.isCells] at hc
  have h2 : bx + 1 ∉ S := fun hs => by obtain ⟨_, o, ho, hc⟩ := hS _ hs; have := h.one; unfold One at this; rw [this] at ho; cases ho; simp [Obj.isCells] at hc
  refine ⟨(t.block _ h.box.lt h1).trans h.box, ownsRow_touch h.row t (fun k hk hs => ?_), One.touch h.one t h2, h.t.trans t (fun x hx => .inr (hS x hx).1)⟩
  obtain ⟨_, o, ho, hc⟩ := hS _ hs
  rcases h.row.2 with ⟨rfl, _⟩ | ⟨g, cap, cur, rfl, _, hg, _⟩
  · simp [Value.ownBlock] at hk
  · obtain rfl : g = k := by simpa [Value.ownBlock] using hk
    rw [hg] at ho
    cases ho
    simp [Obj.isCells] at hc
theorem OverI.alloc {w W : World} {bx b : Nat} {v : Value} {l xs : List Int} (h : OverI w bx b v l xs W) (o : Obj) : OverI w bx b v l xs (W.alloc o) := h.keep (S := []) ((Touch.refl W []).alloc o) (by simp)

set_option maxRecDepth 100000 in
set_option maxHeartbeats 1000000 in
theorem over_any {B : Nat} {w : World} {b : Nat} {ch : List (Nat × Nat)} {Fs : List Fr} (h : PLog B w b ch Fs) (ao : Option Addr) (cap : Nat) (l : List Int) (hr : ValRow w (.slice ao l.length cap) l) (hl : l.length ≤ 20) :
    Calls Try.prog 9 #[ptr b, .slice ao l.length cap] w (ValsPost w (ovP l (allK (getF Fs) 12))) := by
  have hG : ∀ W, Touch w W [] → GetIs (ptr b) (getF Fs) W := fun W t => getIs_log (h.touch t)
  have hc := vclone_any w ao cap l hr hl
  clear h hr
  generalize getF Fs = G at *
  generalize hn : l.length = n at hc ⊢
  have HN : Hid _ := hn
  have HG : Hid _ := hG
  clear hn hG
  refine (callsIn_wide (n := 5)).1 ?_
  refine callsIn_of_wp_marks Try.func9 rfl trivial ?_ rfl
  simp only [Try.ntmps9, List.size_toArray, List.length_cons, List.length_nil, Nat.reduceAdd, Nat.reduceSub, Array.replicate_succ, Array.replicate_zero, List.push_toArray, List.append_toArray, List.nil_append, List.cons_append]
  gi_wp2_with fail
  refine ⟨trivial, ?_⟩
  refine (callsIn_wide.2 hc).mono ?_
  rintro e w1 ⟨v, rfl, ho, t1⟩
  clear hc
  rw [HN.out] at ho
  obtain ⟨ao2, cap2, e2⟩ := owns_form ho
  subst e2
  have HO : Hid _ := ho
  clear ho
  gi_wp2_with fail
  refine ⟨trivial, ?_⟩
  refine (callsIn_wide.2 (written_any (some ⟨b, 0, none⟩) _)).mono ?_
  rintro e w2 ⟨rfl, hw2⟩
  gi_wp2_with fail
  refine wpIn_name fun W1 hW1 => ?_
  have hsz : W1.heap.size = w1.heap.size + 2 := by rw [hW1]; simp
  have HI0 : Hid (OverI w w1.heap.size b (.slice ao2 n cap2) l (ovP l ((allK G 12).take 0)) W1) := by
    refine ⟨?_, ?_, ?_, ?_⟩
    · rw [hW1]; exact (Boxed.new w1 _ _).alloc _
    · rw [hW1, HN.out]; exact (World.ownsRow.alloc (World.ownsRow.alloc HO.out _) _)
    · rw [hW1]
      have := one_new (w1.alloc (.cells #[.slice ao2 n cap2] 23)) (ptr b) 24
      rw [World.size_alloc] at this
      exact this
    · rw [hW1]; exact (t1.alloc _).alloc _
  have hsw := t1.size
  clear hW1 hw2 w2 HO t1
  have hle := allK_le G 12
  refine rangeFunc_laid (by omega) (gf := 38) (lb := #[ptr (w1.heap.size + 1)]) rfl (enters_of Try.func38 (by kernel_rfl) rfl) rfl
    (pairAt G) (some 0) (fun j => OverI w w1.heap.size b (.slice ao2 n cap2) l (ovP l ((allK G 12).take j))) (OverI w w1.heap.size b (.slice ao2 n cap2) l (ovP l (allK G 12))) (allK G 12).length ?put ?putX ?new HI0.out
    (fun k s => { tmps := #[ptr b, .slice ao n cap, undef, undef, .slice none 0 0, ptr w1.heap.size, ptr s, ptr b, .bool false, .slice ao n cap, .slice ao2 n cap2, ptr b, .func (.func 38) #[] #[ptr (w1.heap.size + 1)], pairAt G k, undef, undef, undef, undef, undef, undef, undef, undef, undef, undef, undef, undef], defers := [] }) (fun k => .cells #[.int .i64 ((allK G 12).getD k (0, 0)).1, .int .u64 ((allK G 12).getD k (0, 0)).2] 40 (0, 0)) ?seq ?assign ?body ?done ?left
  case put =>
    rintro k W l1 o1 o' hI hl1 ho hc
    exact hI.keep ((Touch.refl W [l1]).putObj (.inl (by simp)) o') (by intro x hx; simp at hx; subst hx; exact ⟨by omega, _, ho, hc⟩)
  case putX =>
    rintro W l1 o1 o' hI hl1 ho hc
    exact hI.keep ((Touch.refl W [l1]).putObj (.inl (by simp)) o') (by intro x hx; simp at hx; subst hx; exact ⟨by omega, _, ho, hc⟩)
  case new => exact fun k W o' h => h.alloc o'
  case seq =>
    intro J Y W hJI hJT hJ0 hJY
    refine written1_in 4 (by omega) _ (w1.heap.size + 1) (some ⟨b, 0, none⟩) G J Y ?_ ?_ hJY W hJ0
    · intro k W hJ
      exact ⟨One.cell (hJI k W hJ).one, HG.out W (hJI k W hJ).t⟩
    · intro k W W' hJ t
      exact hJT k W W' hJ ((hJI k W hJ).keep t (by simp)) t
  case assign =>
    intro l k W K hK
    gi_wp2
    exact hK
  case body =>
    rintro l1 k s W hk hI hs hs2
    unfold pairAt
    have hq0 : (allK G 12).getD k (0, 0) = (allK G 12)[k] := by rw [List.getD_eq_getElem?_getD, List.getElem?_eq_getElem hk]; rfl
    obtain ⟨i, hi12, hqi⟩ := allK_mem (List.getElem_mem hk)
    have hsn : ovP l ((allK G 12).take (k + 1)) = setP (ovP l ((allK G 12).take k)) (allK G 12)[k] := by rw [List.take_succ_eq_append_getElem hk, ovP_snoc]
    have hcut := ov_cut hk l
    obtain ⟨q, hq⟩ : ∃ q, q = (allK G 12)[k] := ⟨_, rfl⟩
    rw [hq0, ← hq] at hs ⊢
    rw [← hq] at hqi hsn hcut
    have HSN : Hid _ := hsn
    have HCUT : Hid _ := hcut
    clear hsn hcut hq0 hq
    obtain ⟨a, c⟩ := q
    simp only at hs hqi
    subst hqi
    have m0 : W.cell? ⟨s, 0, none⟩ = some (.int .i64 i) := by simp [World.cell?, hs]
    have m1 : W.cell? ⟨s, 1, none⟩ = some (.int .u64 c) := by simp [World.cell?, hs]
    have hc := hI.box.cell
    have HI : Hid _ := hI
    have hnl := HN.out
    rw [hnl] at hl
    clear hI hnl
    by_cases hin : n ≤ i
    · have hin' : ((i : Nat) : Int) ≥ (n : Int) := by omega
      gi_wp2
      refine ⟨KeepsOthers.refl _, .inr ⟨rfl, ?_⟩⟩
      have := HCUT.out (by rw [HN.out]; simpa using hin')
      rw [this]
      exact HI.out
    · have hin' : ¬ ((i : Nat) : Int) ≥ (n : Int) := by omega
      have hrow := HI.out.row
      rcases hrow.2 with ⟨e, e0⟩ | ⟨g, cap', cur, e, hgB, hg, hx5⟩
      · rw [HN.out] at e0; omega
      · simp only [Value.slice.injEq] at e
        obtain ⟨rfl, en, rfl⟩ := e
        clear en
        have hcg : ∃ u, W.cell? ⟨g, i, none⟩ = some u := by
          have := hrow.cells (g := g) rfl i ((valC (ovP l ((allK G 12).take k)))[i]'(by simp [ovP_len]; rw [HN.out]; omega)) (List.getElem?_eq_getElem _)
          rw [Addr.add_lit] at this
          exact ⟨_, by simpa using this⟩
        obtain ⟨u, hcg⟩ := hcg
        have hfg : W.frozen? ⟨g, i, none⟩ = false := by simp [World.frozen?, hg]
        have hne : g ≠ w1.heap.size := fun e => by have := HI.out.box; unfold Boxed at this; rw [← e, hg] at this; cases this
        have hne2 : g ≠ w1.heap.size + 1 := fun e => by have := HI.out.one; unfold One at this; rw [← e, hg] at this; cases this
        have h0i : (0 : Int) ≤ i := by omega
        have hrow' : W.ownsRow w.heap.size 38 1 (.slice (some ⟨g, 0, none⟩) (ovP l ((allK G 12).take k)).length cap2) (ovP l ((allK G 12).take k)).length (valC (ovP l ((allK G 12).take k))) := by
          rw [ovP_len]; rw [← HN.out] at hrow; exact hrow
        have hset := vals_set hrow' i c
        rw [ovP_len, HN.out] at hset
        have HSET : Hid _ := hset
        have HG' : Hid _ := hg
        clear hrow hrow' hset hg hs hx5
        gi_wp2
        have tt : Touch W (W.setCell ⟨g, i, none⟩ (.int .u64 c)) [g] := (Touch.refl W [g]).setCell (.inl (by simp)) _
        refine ⟨keeps_of_touch tt (by intro x hx; simp at hx; subst hx; exact ⟨_, _, _, HG'.out⟩), .inl ⟨rfl, ?_⟩⟩
        show OverI w w1.heap.size b _ l (ovP l ((allK G 12).take (k + 1))) _
        rw [HSN.out]
        refine ⟨(tt.block _ HI.out.box.lt (by simp; omega)).trans HI.out.box, ?_, One.touch HI.out.one tt (by simp; omega), HI.out.t.trans tt (by intro x hx; simp at hx; subst hx; exact .inr hgB)⟩
        rw [HN.out]
        exact HSET.out
  case done =>
    rintro W hI hd
    rw [List.take_length] at hI
    have c2 := hI.box.cell
    have HI : Hid _ := hI
    have HSZ : Hid _ := hsz
    clear hI hsz
    gi_wp2
    refine ⟨by simp, .inl ⟨_, _, rfl, run_takeDeferred hd, ?_⟩⟩
    have tp : Touch W (W.putObj W1.heap.size (.deferred none)) [W1.heap.size] := (Touch.refl W [W1.heap.size]).putObj (.inl (by simp)) _
    have hk := HI.out.keep tp (by intro x hx; simp at hx; subst hx; exact ⟨by have := HSZ.out; omega, _, hd, rfl⟩)
    refine ⟨_, results_tmp rfl _ _ _, _, rfl, ?_, hk.t⟩
    rw [ovP_len]
    exact hk.row
  case left =>
    rintro W hI hd
    show (Code.exit 0).wpIn _ _ _ _ _ _
    have c2 := hI.box.cell
    have HI : Hid _ := hI
    have HSZ : Hid _ := hsz
    clear hI hsz
    gi_wp2
    refine ⟨by simp, .inl ⟨_, _, rfl, run_takeDeferred hd, ?_⟩⟩
    have tp : Touch W (W.putObj W1.heap.size (.deferred none)) [W1.heap.size] := (Touch.refl W [W1.heap.size]).putObj (.inl (by simp)) _
    have hk := HI.out.keep tp (by intro x hx; simp at hx; subst hx; exact ⟨by have := HSZ.out; omega, _, hd, rfl⟩)
    refine ⟨_, results_tmp rfl _ _ _, _, rfl, ?_, hk.t⟩
    rw [ovP_len]
    exact hk.row

end Go.Proofs.Ytijnepbmkkdpnaa

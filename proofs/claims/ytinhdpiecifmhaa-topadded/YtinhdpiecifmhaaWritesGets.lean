/-
  package writes: Depth, Len, Get BY THEIR CONTRACTS: loops over the function that yields.
-/
import Derived.Test.YtinhdpiecifmhaaWritesObj
namespace Go.Proofs.Ytinhdpiecifmhaa
set_option linter.unusedVariables false
set_option linter.unusedSimpArgs false
open Go.RowKit Go.Maps Go.Shelf
attribute [local go_sem] Oper.semAt_some

theorem lenF_snoc {Fs : List Fr} {k : Nat} (hk : k < Fs.length) : lenF (Fs.take (k + 1)) = lenF (Fs.take k) + fcnt Fs[k] := by
  unfold lenF
  rw [List.take_succ_eq_append_getElem hk, List.map_append, List.sum_append]
  simp
theorem lenF_le {B : Nat} {w : World} {b : Nat} {ch : List (Nat × Nat)} {Fs : List Fr} (h : PLog B w b ch Fs) (k : Nat) : lenF (Fs.take k) ≤ 60 := by
  have h5 : Fs.length ≤ 5 := by rw [← h.len]; exact h.le
  have : ∀ l : List Fr, (∀ f ∈ l, FrOk f) → lenF l ≤ 12 * l.length := by
    intro l
    induction l with
    | nil => intro _; simp [lenF]
    | cons a l ih =>
      intro hh
      have h1 := ih (fun f hf => hh f (List.mem_cons_of_mem _ hf))
      have h2 := fcnt_le (hh a (by simp))
      simp only [lenF, List.map_cons, List.sum_cons, List.length_cons] at h1 ⊢
      omega
  have h2 := this (Fs.take k) (fun f hf => by
    obtain ⟨i, hi, rfl⟩ := List.getElem_of_mem (List.mem_of_mem_take hf)
    exact (h.fr i (by rw [h.len]; exact hi) hi).ok)
  have h3 : (Fs.take k).length ≤ 5 := by rw [List.length_take]; omega
  omega

/-- What Len keeps between two rounds. -/
structure LenI (w : World) (s0 : Nat) (ch : List (Nat × Nat)) (Fs : List Fr) (k : Nat) (W : World) : Prop where
  bn : One W s0 (.int .i64 (lenF (Fs.take k) : Nat)) 3
  bc : One W (s0 + 1) (hp ch) 112
  t : Touch w W []

set_option maxRecDepth 100000 in
set_option maxHeartbeats 1000000 in
theorem len_any {B : Nat} {w : World} {b : Nat} {ch : List (Nat × Nat)} {Fs : List Fr} (h : PLog B w b ch Fs) : Calls Try.prog 75 #[ptr b] w fun e w' => e = .returned (.int .i64 (lenF Fs : Nat)) ∧ Touch w w' [] := by
  refine (callsIn_wide (n := 5)).1 ?_
  refine callsIn_of_wp_marks Try.func75 rfl trivial ?_ rfl
  simp only [Try.ntmps75, List.size_toArray, List.length_cons, List.length_nil, Nat.reduceAdd, Nat.reduceSub, Array.replicate_succ, Array.replicate_zero, List.push_toArray, List.append_toArray, List.nil_append, List.cons_append]
  have c0 : ∀ o, (w.alloc o).cell? ⟨b, 0, none⟩ = some (hp ch) := fun o => ((h.touch ((Touch.refl w []).alloc o)).cell)
  have HO : Hid _ := h
  clear h
  gi_wp2_with fail
  refine ⟨trivial, ?_⟩
  refine (callsIn_wide.2 (down_any ch _)).mono ?_
  rintro e w1 ⟨rfl, hw1⟩
  gi_wp2_with fail
  refine wpIn_name fun W1 hW1 => ?_
  have hsz : W1.heap.size = w.heap.size + 1 + 1 := by rw [hW1]; simp
  have HI0 : Hid (LenI w w.heap.size ch Fs 0 W1) := by
    refine ⟨?_, ?_, by rw [hW1]; exact ((Touch.refl w []).alloc _).alloc _⟩
    · rw [hW1]; exact (one_new w _ _).alloc _
    · rw [hW1]
      have := one_new (w.alloc (.cells #[.int .i64 0] 3)) (hp ch) 112
      rw [World.size_alloc] at this
      exact this
  clear hW1 hw1
  have hput : ∀ k W l o o', LenI w w.heap.size ch Fs k W → (l = W1.heap.size ∨ l = W1.heap.size + 1) → W.heap[l]? = some o → o.isCells = false → LenI w w.heap.size ch Fs k (W.putObj l o') := by
    intro k W l o1 o' hi hl _ _
    have t1 : Touch W (W.putObj l o') [l] := (Touch.refl W [l]).putObj (.inl (by simp)) o'
    exact ⟨hi.bn.touch t1 (by simp; omega), hi.bc.touch t1 (by simp; omega), hi.t.trans t1 (by intro x hx; simp at hx; exact .inr (by omega))⟩
  refine rangeFunc_gen (by omega) (gf := 69) (lb := #[ptr (w.heap.size + 1)]) rfl (enters_of Try.func69 (by kernel_rfl) rfl) rfl
    (mapAt ch) none (LenI w w.heap.size ch Fs) (fun _ => False) ch.length hput (fun _ _ _ _ h => h.elim) ?new HI0.out
    (fun k => { tmps := #[ptr b, undef, .int .i64 0, ptr w.heap.size, mapAt ch k, ptr b, .bool false, ptr b, ptr b, ptr b, hp ch, .func (.func 69) #[] #[ptr (w.heap.size + 1)], mapAt ch k, undef, undef, undef, undef, undef], defers := [] }) ?seq ?assign ?body ?done (fun _ h => h.elim)
  case new => exact fun k W o hi => ⟨hi.bn.alloc _, hi.bc.alloc _, hi.t.alloc _⟩
  case seq =>
    intro J Y W hJI hJT hJ0 hJY
    refine down1_in 4 (by omega) _ (w.heap.size + 1) ch HO.out.ndn J Y ?_ hJY W hJ0
    intro k W hJ
    exact ⟨(hJI k W hJ).bc.cell, (HO.out.touch (hJI k W hJ).t).nodes⟩
  case assign =>
    intro l k W K hK
    gi_wp2
    exact hK
  case body =>
    intro l k W hk hi
    have hk' : k < Fs.length := by rw [← HO.out.len]; exact hk
    have hl : ∀ ty, (Builtin.len_ #[114] ty #[mapAt ch k]).run Try.prog W = .ok (.int .i64 (fcnt Fs[k])) W := fun ty => ((HO.out.touch hi.t).at hk hk').len ty
    have c2 := hi.bn.cell
    have f2 := hi.bn.frozen
    have hsn := lenF_snoc hk'
    have hle := lenF_le HO.out (k + 1)
    have HI : Hid _ := hi
    generalize mapAt ch k = mv at *
    generalize fcnt Fs[k] = c at *
    clear hi
    gi_wp2
    have e3 : IntKind.i64.wrap ((lenF (Fs.take k) : Int) + (c : Int)) = ((lenF (Fs.take (k + 1)) : Nat) : Int) := by rw [hsn, IntKind.wrap_i64] <;> omega
    have e4 : ((lenF (Fs.take k) : Int) + (c : Int)) = ((lenF (Fs.take (k + 1)) : Nat) : Int) := by rw [hsn]; omega
    have h0 := HI.out
    first | rw [e3] | rw [e4]
    have t1 : Touch W (W.setCell ⟨w.heap.size, 0, none⟩ (.int .i64 ((lenF (Fs.take (k + 1)) : Nat) : Int))) [w.heap.size] := (Touch.refl _ _).setCell (.inl (by simp)) _
    exact ⟨keeps_of_touch t1 (by intro x hx; simp at hx; subst hx; exact ⟨_, _, _, h0.bn⟩), .inl ⟨rfl, h0.bn.set _, h0.bc.touch t1 (by simp), h0.t.trans t1 (by intro x hx; simp at hx; exact .inr (by omega))⟩⟩
  case done =>
    intro W hi hd
    have c2 := hi.bn.cell
    have HI : Hid _ := hi
    clear hi
    gi_wp2
    refine ⟨by simp, .inl ⟨_, _, rfl, run_takeDeferred hd, ?_⟩⟩
    refine ⟨_, results_tmp rfl _ _ _, ?_, ?_⟩
    · rw [HO.out.len, List.take_length]; rfl
    · exact HI.out.t.trans ((Touch.refl _ [W1.heap.size]).putObj (.inl (by simp)) _) (by intro x hx; simp at hx; exact .inr (by omega))

/-- What Depth keeps between two rounds. -/
structure DepI (w : World) (s0 : Nat) (ch : List (Nat × Nat)) (k : Nat) (W : World) : Prop where
  bn : One W s0 (.int .i64 (k : Nat)) 3
  bc : One W (s0 + 1) (hp ch) 112
  t : Touch w W []

set_option maxRecDepth 100000 in
set_option maxHeartbeats 1000000 in
theorem depth_any {B : Nat} {w : World} {b : Nat} {ch : List (Nat × Nat)} {Fs : List Fr} (h : PLog B w b ch Fs) : Calls Try.prog 50 #[ptr b] w fun e w' => e = .returned (.int .i64 ((Fs.length - 1 : Nat) : Int)) ∧ Touch w w' [] := by
  refine (callsIn_wide (n := 5)).1 ?_
  refine callsIn_of_wp_marks Try.func50 rfl trivial ?_ rfl
  simp only [Try.ntmps50, List.size_toArray, List.length_cons, List.length_nil, Nat.reduceAdd, Nat.reduceSub, Array.replicate_succ, Array.replicate_zero, List.push_toArray, List.append_toArray, List.nil_append, List.cons_append]
  have hpos := h.pos
  obtain ⟨ct, hct⟩ : ∃ ct, ct = ch.drop 1 := ⟨_, rfl⟩
  have HCT : Hid (ct = ch.drop 1) := hct
  obtain ⟨n0, hn0⟩ : ∃ n0, hp ch = ptr n0 := by
    have := hp_drop (k := 0) h.pos
    exact ⟨_, by simpa using this⟩
  have c0 : ∀ o, (w.alloc o).cell? ⟨b, 0, none⟩ = some (ptr n0) := fun o => ((h.touch ((Touch.refl w []).alloc o)).cell).trans (by rw [hn0])
  have c1 : ∀ o, (w.alloc o).cell? ⟨n0, 1, none⟩ = some (hp ct) := fun o => by
    rw [hct]
    have hN := (h.touch ((Touch.refl w []).alloc o)).nodes 0 h.pos
    have e : n0 = ch[0].1 := by
      have := hp_drop (k := 0) h.pos
      rw [List.drop_zero, hn0] at this
      simpa using this
    simp only [World.cell?, e, hN]
    rfl
  have hnd : (ct.map Prod.fst).Nodup := by rw [hct, List.map_drop]; exact List.Pairwise.drop h.ndn
  have HO : Hid _ := h
  clear h hct
  gi_wp2_with fail
  refine ⟨trivial, ?_⟩
  refine (callsIn_wide.2 (down_any ct _)).mono ?_
  rintro e w1 ⟨rfl, hw1⟩
  gi_wp2_with fail
  refine wpIn_name fun W1 hW1 => ?_
  have hsz : W1.heap.size = w.heap.size + 1 + 1 := by rw [hW1]; simp
  have HI0 : Hid (DepI w w.heap.size ct 0 W1) := by
    refine ⟨?_, ?_, by rw [hW1]; exact ((Touch.refl w []).alloc _).alloc _⟩
    · rw [hW1]; exact (one_new w _ _).alloc _
    · rw [hW1]
      have := one_new (w.alloc (.cells #[.int .i64 0] 3)) (hp ct) 112
      rw [World.size_alloc] at this
      exact this
  clear hW1 hw1
  have hput : ∀ k W l o o', DepI w w.heap.size ct k W → (l = W1.heap.size ∨ l = W1.heap.size + 1) → W.heap[l]? = some o → o.isCells = false → DepI w w.heap.size ct k (W.putObj l o') := by
    intro k W l o1 o' hi hl _ _
    have t1 : Touch W (W.putObj l o') [l] := (Touch.refl W [l]).putObj (.inl (by simp)) o'
    exact ⟨hi.bn.touch t1 (by simp; omega), hi.bc.touch t1 (by simp; omega), hi.t.trans t1 (by intro x hx; simp at hx; exact .inr (by omega))⟩
  refine rangeFunc_gen (by omega) (gf := 69) (lb := #[ptr (w.heap.size + 1)]) rfl (enters_of Try.func69 (by kernel_rfl) rfl) rfl
    (mapAt ct) none (DepI w w.heap.size ct) (fun _ => False) ct.length hput (fun _ _ _ _ h => h.elim) ?new HI0.out
    (fun k => { tmps := #[ptr b, undef, .int .i64 0, ptr w.heap.size, ptr b, .bool false, ptr b, ptr b, ptr b, ptr n0, ptr n0, .pointer (some ⟨n0, 1, none⟩), hp ct, .func (.func 69) #[] #[ptr (w.heap.size + 1)], mapAt ct k, undef, undef, undef], defers := [] }) ?seq ?assign ?body ?done (fun _ h => h.elim)
  case new => exact fun k W o hi => ⟨hi.bn.alloc _, hi.bc.alloc _, hi.t.alloc _⟩
  case seq =>
    intro J Y W hJI hJT hJ0 hJY
    refine down1_in 4 (by omega) _ (w.heap.size + 1) ct hnd J Y ?_ hJY W hJ0
    intro k W hJ
    exact ⟨(hJI k W hJ).bc.cell, by have := (HO.out.touch (hJI k W hJ).t).nodes.drop 1; rw [← HCT.out] at this; exact this⟩
  case assign =>
    intro l k W K hK
    gi_wp2
    simpa using hK
  case body =>
    intro l k W hk hi
    have c2 := hi.bn.cell
    have f2 := hi.bn.frozen
    have h5 := HO.out.le
    have hcl : ct.length = ch.length - 1 := by rw [HCT.out, List.length_drop]
    have HI : Hid _ := hi
    generalize mapAt ct k = mv at *
    clear hi
    gi_wp2
    have h0 := HI.out
    have e4 : (k : Int) + 1 = ((k + 1 : Nat) : Int) := by omega
    have e3 : IntKind.i64.wrap ((k : Int) + 1) = ((k + 1 : Nat) : Int) := by rw [IntKind.wrap_i64] <;> omega
    first | rw [e3] | rw [e4]
    have t1 : Touch W (W.setCell ⟨w.heap.size, 0, none⟩ (.int .i64 ((k + 1 : Nat) : Int))) [w.heap.size] := (Touch.refl _ _).setCell (.inl (by simp)) _
    exact ⟨keeps_of_touch t1 (by intro x hx; simp at hx; subst hx; exact ⟨_, _, _, h0.bn⟩), .inl ⟨rfl, h0.bn.set _, h0.bc.touch t1 (by simp), h0.t.trans t1 (by intro x hx; simp at hx; exact .inr (by omega))⟩⟩
  case done =>
    intro W hi hd
    have c2 := hi.bn.cell
    have HI : Hid _ := hi
    have hcl : ct.length = Fs.length - 1 := by rw [HCT.out, List.length_drop, HO.out.len]
    rw [hcl] at c2
    clear hi
    gi_wp2
    refine ⟨by simp, .inl ⟨_, _, rfl, run_takeDeferred hd, ?_⟩⟩
    refine ⟨_, results_tmp rfl _ _ _, ?_, ?_⟩
    · rfl
    · exact HI.out.t.trans ((Touch.refl _ [W1.heap.size]).putObj (.inl (by simp)) _) (by intro x hx; simp at hx; exact .inr (by omega))

theorem getF_hit {Fs : List Fr} {t v : Int} {k : Nat} (hk : k < Fs.length) (hno : ∀ f ∈ Fs.take k, fget f t = none) (hv : fget Fs[k] t = some v) : getF Fs t = some v := by
  unfold getF
  conv => lhs; rw [show Fs = Fs.take k ++ (Fs[k] :: Fs.drop (k + 1)) by rw [← List.drop_eq_getElem_cons hk, List.take_append_drop]]
  rw [List.findSome?_append, List.findSome?_eq_none_iff.2 hno, List.findSome?_cons, hv]
  rfl
theorem getF_none {Fs : List Fr} {t : Int} (hno : ∀ f ∈ Fs, fget f t = none) : getF Fs t = none := List.findSome?_eq_none_iff.2 hno

/-- What Get keeps between two rounds. -/
structure GetI (w : World) (s0 : Nat) (ch : List (Nat × Nat)) (Fs : List Fr) (t : Int) (v : Int) (is : Bool) (W : World) : Prop where
  bt : One W s0 (.int .i64 t) 3
  b1 : One W (s0 + 1) (.int .u64 v) 26
  b2 : One W (s0 + 1 + 1) (.bool is) 4
  bc : One W (s0 + 1 + 1 + 1) (hp ch) 112
  t : Touch w W []

theorem GetI.touch {w : World} {s0 : Nat} {ch : List (Nat × Nat)} {Fs : List Fr} {t v : Int} {is : Bool} {W W' : World} {S : List Nat} (h : GetI w s0 ch Fs t v is W) (T : Touch W W' S) (hS : ∀ x ∈ S, s0 + 4 ≤ x) (hw : w.heap.size ≤ s0) : GetI w s0 ch Fs t v is W' :=
  have n (j : Nat) (hj : j < s0 + 4) : j ∉ S := fun hh => by have := hS j hh; omega
  ⟨h.bt.touch T (n _ (by omega)), h.b1.touch T (n _ (by omega)), h.b2.touch T (n _ (by omega)), h.bc.touch T (n _ (by omega)), h.t.trans T (fun x hx => .inr (by have := hS x hx; omega))⟩

/-- The results of a Get are written. -/
theorem GetI.set {w : World} {s0 : Nat} {ch : List (Nat × Nat)} {Fs : List Fr} {t v : Int} {is : Bool} {W : World} (h : GetI w s0 ch Fs t v is W) (hw : w.heap.size ≤ s0) (v' : Int) (is' : Bool) :
    GetI w s0 ch Fs t v' is' ((W.setCell ⟨s0 + 1, 0, none⟩ (.int .u64 v')).setCell ⟨s0 + 1 + 1, 0, none⟩ (.bool is')) ∧ Touch W ((W.setCell ⟨s0 + 1, 0, none⟩ (.int .u64 v')).setCell ⟨s0 + 1 + 1, 0, none⟩ (.bool is')) [s0 + 1, s0 + 1 + 1] := by
  have t1 : Touch W (W.setCell ⟨s0 + 1, 0, none⟩ (.int .u64 v')) [s0 + 1] := (Touch.refl _ _).setCell (.inl (by simp)) _
  have t2 : Touch (W.setCell ⟨s0 + 1, 0, none⟩ (.int .u64 v')) ((W.setCell ⟨s0 + 1, 0, none⟩ (.int .u64 v')).setCell ⟨s0 + 1 + 1, 0, none⟩ (.bool is')) [s0 + 1 + 1] := (Touch.refl _ _).setCell (.inl (by simp)) _
  have t3 := (t1.mono (R := [s0 + 1, s0 + 1 + 1]) (by simp)).trans t2 (by simp)
  exact ⟨⟨h.bt.touch t3 (by simp <;> omega), (h.b1.set _).touch t2 (by simp), (h.b2.touch t1 (by simp)).set _, h.bc.touch t3 (by simp <;> omega), h.t.trans t3 (by intro x hx; simp at hx; exact .inr (by omega))⟩, t3⟩

theorem results_cell2 {fn : Func} {p q : Tmp} {ty tz : TypeId} (h : fn.results = #[.cell p ty, .cell q tz]) (tmps : Array Value) (P : Program) (w : World) :
    (results fn tmps).run P w = ((asAddr (tmps.getD p undef)).run P w).andThen fun a w₁ => ((loadVar ty a).run P w₁).andThen fun v w₂ => ((asAddr (tmps.getD q undef)).run P w₂).andThen fun b w₃ => ((loadVar tz b).run P w₃).andThen fun u w₄ => .ok (.tuple #[v, u]) w₄ := by
  simp only [results, h]
  simp [Sem.run_bind, Result.andThen]

set_option maxRecDepth 100000 in
set_option maxHeartbeats 1000000 in
theorem get_any {B : Nat} {w : World} {b : Nat} {ch : List (Nat × Nat)} {Fs : List Fr} (h : PLog B w b ch Fs) (t : Int) (ht : -9223372036854775808 ≤ t ∧ t ≤ 9223372036854775807) :
    Calls Try.prog 33 #[ptr b, .int .i64 t] w fun e w' => e = .returned (.tuple #[.int .u64 ((getF Fs t).getD 0), .bool (getF Fs t).isSome]) ∧ Touch w w' [] := by
  refine (callsIn_wide (n := 5)).1 ?_
  refine callsIn_of_wp_marks Try.func33 rfl trivial ?_ rfl
  simp only [Try.ntmps33, List.size_toArray, List.length_cons, List.length_nil, Nat.reduceAdd, Nat.reduceSub, Array.replicate_succ, Array.replicate_zero, List.push_toArray, List.append_toArray, List.nil_append, List.cons_append]
  have c0 : ∀ W, Touch w W [] → W.cell? ⟨b, 0, none⟩ = some (hp ch) := fun W t => (h.touch t).cell
  have c1 := c0 _ ((((Touch.refl w []).alloc (.cells #[.int .i64 t] 3)).alloc (.cells #[.int .u64 0] 26)).alloc (.cells #[.bool false] 4))
  have HO : Hid _ := h
  clear h c0
  gi_wp2_with fail
  refine ⟨trivial, ?_⟩
  refine (callsIn_wide.2 (down_any ch _)).mono ?_
  rintro e w1 ⟨rfl, hw1⟩
  gi_wp2_with fail
  refine wpIn_name fun W1 hW1 => ?_
  have hsz : W1.heap.size = w.heap.size + 1 + 1 + 1 + 1 := by rw [hW1]; simp
  have HI0 : Hid (GetI w w.heap.size ch Fs t 0 false W1) := by
    refine ⟨?_, ?_, ?_, ?_, by rw [hW1]; exact ((((Touch.refl w []).alloc _).alloc _).alloc _).alloc _⟩
    · rw [hW1]; exact (((one_new w _ _).alloc _).alloc _).alloc _
    · rw [hW1]
      have := one_new (w.alloc (.cells #[.int .i64 t] 3)) (.int .u64 0) 26
      rw [World.size_alloc] at this
      exact (this.alloc _).alloc _
    · rw [hW1]
      have := one_new ((w.alloc (.cells #[.int .i64 t] 3)).alloc (.cells #[.int .u64 0] 26)) (.bool false) 4
      rw [World.size_alloc, World.size_alloc] at this
      exact this.alloc _
    · rw [hW1]
      have := one_new (((w.alloc (.cells #[.int .i64 t] 3)).alloc (.cells #[.int .u64 0] 26)).alloc (.cells #[.bool false] 4)) (hp ch) 112
      rw [World.size_alloc, World.size_alloc, World.size_alloc] at this
      exact this
  clear hW1 hw1 c1
  have hput : ∀ {v is W l o'}, GetI w w.heap.size ch Fs t v is W → (l = W1.heap.size ∨ l = W1.heap.size + 1) → GetI w w.heap.size ch Fs t v is (W.putObj l o') := by
    intro v is W l o' hi hl
    exact hi.touch ((Touch.refl W [l]).putObj (.inl (by simp)) o') (by intro x hx; simp at hx; omega) (Nat.le_refl _)
  refine rangeFunc_gen (by omega) (gf := 69) (lb := #[ptr (w.heap.size + 1 + 1 + 1)]) rfl (enters_of Try.func69 (by kernel_rfl) rfl) rfl
    (mapAt ch) none (fun k W => GetI w w.heap.size ch Fs t 0 false W ∧ ∀ f ∈ Fs.take k, fget f t = none) (fun W => ∃ v, getF Fs t = some v ∧ GetI w w.heap.size ch Fs t v true W) ch.length
    (fun k W l o1 o' hi hl _ _ => ⟨hput hi.1 hl, hi.2⟩) (fun W l o1 o' hx hl _ _ => by obtain ⟨v, hv, hi⟩ := hx; exact ⟨v, hv, hput hi hl⟩) ?new ⟨HI0.out, by simp⟩
    (fun k => { tmps := #[ptr b, .int .i64 t, undef, ptr w.heap.size, ptr (w.heap.size + 1), ptr (w.heap.size + 1 + 1), mapAt ch k, undef, undef, ptr b, .bool false, ptr b, ptr b, ptr b, hp ch, .func (.func 69) #[] #[ptr (w.heap.size + 1 + 1 + 1)], mapAt ch k, undef, undef, undef, undef, undef, undef, undef, undef], defers := [] }) ?seq ?assign ?body ?done ?left
  case new => exact fun k W o hi => ⟨hi.1.touch ((Touch.refl W []).alloc o) (by simp) (Nat.le_refl _), hi.2⟩
  case seq =>
    intro J Y W hJI hJT hJ0 hJY
    refine down1_in 4 (by omega) _ (w.heap.size + 1 + 1 + 1) ch HO.out.ndn J Y ?_ hJY W hJ0
    intro k W hJ
    exact ⟨(hJI k W hJ).1.bc.cell, (HO.out.touch (hJI k W hJ).1.t).nodes⟩
  case assign =>
    intro l k W K hK
    gi_wp2
    exact hK
  case body =>
    rintro l k W hk ⟨hi, hno⟩
    have hk' : k < Fs.length := by rw [← HO.out.len]; exact hk
    have hlk : (Instr.lookup 114 (mapAt ch k) (.int .i64 t) true).run Try.prog W = _ := ((HO.out.touch hi.t).at hk hk').look ht
    have c0 := hi.bt.cell
    have HI : Hid _ := hi
    have HN : Hid _ := hno
    clear hno
    generalize mapAt ch k = mv at *
    cases hq : fget Fs[k] t with
    | none =>
      rw [hq] at hlk
      simp only [Option.getD_none, Option.isSome_none] at hlk
      have HQ : Hid _ := hq
      clear hi hq
      gi_wp2
      refine ⟨keeps_of_touch (Touch.refl W []) (by simp), .inl ⟨rfl, HI.out, ?_⟩⟩
      intro f hf
      rw [List.take_succ_eq_append_getElem hk', List.mem_append] at hf
      rcases hf with hf | hf
      · exact HN.out f hf
      · simp at hf; rw [hf]; exact HQ.out
    | some v =>
      rw [hq] at hlk
      simp only [Option.getD_some, Option.isSome_some] at hlk
      have HQ : Hid _ := getF_hit hk' HN.out hq
      have c1 := hi.b1.cell
      have f1 := hi.b1.frozen
      have c2 := hi.b2.cell
      have f2 := hi.b2.frozen
      have t1 : Touch W (W.setCell ⟨w.heap.size + 1, 0, none⟩ (.int .u64 v)) [w.heap.size + 1] := (Touch.refl _ _).setCell (.inl (by simp)) _
      have g2 := ((hi.b2.touch t1 (by simp)).cell)
      have e2 := ((hi.b2.touch t1 (by simp)).frozen)
      clear hi hq
      gi_wp2
      obtain ⟨hs, t3⟩ := HI.out.set (Nat.le_refl _) v true
      exact ⟨keeps_of_touch t3 (by intro x hx; simp at hx; rcases hx with rfl | rfl; exact ⟨_, _, _, HI.out.b1⟩; exact ⟨_, _, _, HI.out.b2⟩), .inr ⟨rfl, v, HQ.out, hs⟩⟩
  case done =>
    rintro W ⟨hi, hno⟩ hd
    have HI : Hid _ := hi
    have HN : Hid (getF Fs t = none) := getF_none (by rw [HO.out.len, List.take_length] at hno; exact hno)
    have c1 := hi.b1.cell
    have f1 := hi.b1.frozen
    have t1 : Touch W (W.setCell ⟨w.heap.size + 1, 0, none⟩ (.int .u64 0)) [w.heap.size + 1] := (Touch.refl _ _).setCell (.inl (by simp)) _
    have g2 := ((hi.b2.touch t1 (by simp)).cell)
    have e2 := ((hi.b2.touch t1 (by simp)).frozen)
    have HT1 : Hid _ := t1
    obtain ⟨hs, t3⟩ := hi.set (Nat.le_refl _) 0 false
    have hd' := (t3.block _ (lt_of_heap hd) (by simp; omega)).trans hd
    have HS : Hid _ := hs
    have HD : Hid _ := hd'
    clear hno hi t1 hs t3 hd hd'
    gi_wp2
    have hd := HD.out
    refine ⟨by simp, .inl ⟨_, _, rfl, run_takeDeferred hd, ?_⟩⟩
    have t4 : Touch (W.setCell ⟨w.heap.size + 1, 0, none⟩ (.int .u64 0) |>.setCell ⟨w.heap.size + 1 + 1, 0, none⟩ (.bool false)) (World.putObj (W.setCell ⟨w.heap.size + 1, 0, none⟩ (.int .u64 0) |>.setCell ⟨w.heap.size + 1 + 1, 0, none⟩ (.bool false)) W1.heap.size (.deferred none)) [W1.heap.size] := (Touch.refl _ _).putObj (.inl (by simp)) _
    have hf := HS.out.touch t4 (by intro x hx; simp at hx; omega) (Nat.le_refl _)
    clear t4
    revert hf
    generalize World.putObj _ W1.heap.size (.deferred none) = Wf
    intro hf
    have k1 := hf.b1.cell
    have k2 := hf.b2.cell
    refine ⟨.tuple #[.int .u64 ((getF Fs t).getD 0), .bool (getF Fs t).isSome], ?_, rfl, hf.t⟩
    rw [results_cell2 rfl]
    go_simp
    try simp [HN.out]

  case left =>
    rintro W ⟨v, hv, hi⟩ hd
    have HI : Hid _ := hi
    have HSZ : Hid _ := hsz
    clear hi hsz
    unfold jC
    gi_wp2
    have hsz := HSZ.out
    refine ⟨by simp, .inl ⟨_, _, rfl, run_takeDeferred hd, ?_⟩⟩
    have t4 : Touch W (World.putObj W W1.heap.size (.deferred none)) [W1.heap.size] := (Touch.refl _ _).putObj (.inl (by simp)) _
    have hf := HI.out.touch t4 (by intro x hx; simp at hx; omega) (Nat.le_refl _)
    clear t4
    revert hf
    generalize World.putObj _ W1.heap.size (.deferred none) = Wf
    intro hf
    have k1 := hf.b1.cell
    have k2 := hf.b2.cell
    refine ⟨.tuple #[.int .u64 ((getF Fs t).getD 0), .bool (getF Fs t).isSome], ?_, rfl, hf.t⟩
    rw [results_cell2 rfl]
    go_simp
    try simp [hv]


end Go.Proofs.Ytinhdpiecifmhaa

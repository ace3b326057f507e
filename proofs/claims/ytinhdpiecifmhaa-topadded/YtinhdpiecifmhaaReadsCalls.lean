/-
  package reads' calls BY THEIR CONTRACTS: New, wrong, lacking, join, Add.
-/
import Derived.Test.YtinhdpiecifmhaaReadsBase
namespace Go.Proofs.Ytinhdpiecifmhaa.Rd
set_option linter.unusedVariables false
set_option linter.unusedSimpArgs false
open Go.RowKit Go.Maps

set_option maxRecDepth 100000 in
theorem rdnew_any (w : World) : Calls Try.prog 22 #[] w fun x w' => ∃ b m, x = .returned (.pointer (some ⟨b, 0, none⟩)) ∧ RdSet w.heap.size w' b m (.slice none 0 0) [] ∧ Touch w w' [] := by
  have hmm := @run_makeMap Try.prog
  go_enter Try.func22, Try.ntmps22
  go_wp2
  go_ret
  refine ⟨w.heap.size + 1, w.heap.size, by simp, ⟨by omega, Nat.le_refl _, ?_, World.ownsRow_nil _ _ _ _, ⟨_, (World.ownsMap_made w _ _ _).alloc _, Idx.nil⟩, SetL.nil⟩, ((Touch.refl w []).alloc _).alloc _⟩
  have := heap_alloc_new (w.alloc (.map #[] 0)) (.cells #[.slice none 0 0, .map (some w.heap.size)] 111)
  simpa using this

set_option maxRecDepth 100000 in
theorem wrong_any (e : EntD) (w : World) : Calls Try.prog 85 #[e.v] w fun x w' => x = .returned (.int .i64 (wrongE e)) ∧ Touch w w' [] := by
  obtain ⟨t, v, r⟩ := e
  have hr := right_any v
  unfold wrongE
  simp only
  by_cases h0 : 0 ≤ t
  · by_cases h1 : t < 12
    · by_cases h2 : r ≤ 1099511627776
      · rw [if_neg (by simp [h0, h1, h2])]
        cases hv : rightB v
        all_goals
          rw [hv] at hr
          go_enter Try.func85, Try.ntmps85
          go_wp2_with fail
          refine (hr _).mono ?_
          rintro x w1 ⟨rfl, rfl⟩
          clear hr
          go_wp2
          go_ret
          exact ⟨by simp, (Touch.refl _ _).alloc _⟩
      · rw [if_pos (by simp [h0, h1, h2])]
        go_enter Try.func85, Try.ntmps85
        go_wp2
        go_ret
        exact ⟨rfl, (Touch.refl _ _).alloc _⟩
    · rw [if_pos (by simp [h0, h1])]
      go_enter Try.func85, Try.ntmps85
      go_wp2
      go_ret
      exact ⟨rfl, (Touch.refl _ _).alloc _⟩
  · rw [if_pos (by simp [h0])]
    go_enter Try.func85, Try.ntmps85
    go_wp2
    go_ret
    exact ⟨rfl, (Touch.refl _ _).alloc _⟩

/-- Those whose variable is not there. -/
def lackE (L l : List EntD) : List EntD := l.filter fun e => !hasT L e.tvar

theorem Try.info_ent : (Try.prog.info? 142).map (fun i => (i.zero, i.size, i.bytes)) = some (some (.agg #[.int .i64 0, .int .u64 0, .int .u64 0]), 3, 24) := by kernel_rfl

theorem lackE_snoc {L l : List EntD} {k : Nat} (hk : k < l.length) : lackE L (l.take (k + 1)) = lackE L (l.take k) ++ (if hasT L l[k].tvar then [] else [l[k]]) := by
  unfold lackE
  rw [List.take_succ_eq_append_getElem hk, List.filter_append]
  cases h : hasT L l[k].tvar <;> simp [List.filter, h]

set_option maxRecDepth 100000 in
set_option maxHeartbeats 1000000 in
theorem lacking_any {B : Nat} {w : World} {b m : Nat} {vl : Value} {L : List EntD} (h : RdSet B w b m vl L) (ao : Option Addr) (cap : Nat) (l : List EntD) (hl : EntRow w (.slice ao l.length cap) l) (hn : l.length ≤ 1000) (hwf : ∀ e ∈ l, e.Wf) :
    Calls Try.prog 93 #[.pointer (some ⟨b, 0, none⟩), .slice ao l.length cap] w fun x w' => ∃ v, x = .returned v ∧ w'.ownsRow w.heap.size 142 3 v (lackE L l).length ((lackE L l).flatMap EntD.cells) ∧ Touch w w' [] := by
  obtain ⟨i0, hi, hz0, hz1, hz2⟩ := info_parts Try.info_ent
  obtain ⟨N, hN⟩ : ∃ N, N = l.length := ⟨_, rfl⟩
  have HN : Hid (N = l.length) := hN
  have HS : Hid _ := h
  rw [← hN] at hn ⊢
  clear h hN
  go_enter Try.func93, Try.ntmps93
  go_wp2_with fail
  go_loopw [5, 12] (fun v i wr => ∃ k : Nat, i = .int .i64 k ∧ k ≤ N ∧ wr.ownsRow w.heap.size 142 3 v (lackE L (l.take k)).length ((lackE L (l.take k)).flatMap EntD.cells) ∧ Touch w wr []) (fun _ i _ => N - (intOf i).toNat)
  case atStart => exact ⟨0, rfl, by omega, World.ownsRow_nil _ _ _ _, Touch.refl _ _⟩
  case round =>
    obtain ⟨k, rfl, hk, hrow, hT⟩ := hrel
    by_cases hlt : k < N
    · have hlt' : (k : Int) < N := by omega
      have hkl : k < l.length := by rw [← HN.out]; exact hlt
      obtain ⟨g, off, rfl, hg, M0, M1, M2⟩ := EntRow.three hl k hkl
      have m0 := (hT.cell (p := ⟨g, off + k * 3, none⟩) hg (by simp)).trans M0
      have m1 := (hT.cell (p := ⟨g, off + k * 3 + 1, none⟩) hg (by simp)).trans M1
      have m2 := (hT.cell (p := ⟨g, off + k * 3 + 2, none⟩) hg (by simp)).trans M2
      have hw1 := (hwf l[k] (List.getElem_mem hkl)).t
      have hsn := lackE_snoc (L := L) hkl
      obtain ⟨e, he⟩ : ∃ e, e = l[k] := ⟨_, rfl⟩
      rw [← he] at m0 m1 m2 hw1 hsn
      obtain ⟨t, x, r⟩ := e
      simp only at m0 m1 m2 hw1 hsn
      have HSN : Hid _ := hsn
      have HT : Hid _ := hT
      have HR : Hid _ := hrow
      clear M0 M1 M2 hsn he hrow hT hl
      go_wp2_with fail
      refine wp_name fun W hW => ?_
      have tW : Touch wr W [] := by rw [hW]; exact (Touch.refl wr []).alloc _
      have eW : W.heap[wr.heap.size]? = some (.cells #[.int .i64 t, .int .u64 x, .int .u64 r] 142 (0, 0)) := by rw [hW]; exact heap_alloc_new wr _
      clear hW
      have hSW := HS.out.keep (HT.out.trans tW (by simp)) (by simp)
      obtain ⟨c0, c1, _, _⟩ := hSW.cells
      have e0 : W.cell? ⟨wr.heap.size, 0, none⟩ = some (.int .i64 t) := by simp [World.cell?, eW]
      obtain ⟨c, hlk0, _⟩ := hSW.look t hw1
      have hlk := fun n : Nat => hlk0 (W.drewN n) ((Touch.refl W []).drewN n)
      have HW : Hid _ := And.intro tW (And.intro eW hSW)
      clear tW eW hSW hlk0
      go_quiet (fail)
      clear hlk
      obtain ⟨tW, eW, hSW⟩ := HW.out
      have eN : (W.drewN nq).heap[wr.heap.size]? = some (.cells #[.int .i64 t, .int .u64 x, .int .u64 r] 142 (0, 0)) := eW
      have tN : Touch wr (W.drewN nq) [] := tW.drewN nq
      have hszN : (W.drewN nq).heap.size = W.heap.size := rfl
      generalize W.drewN nq = V at *
      clear HW tW eW hSW hszN c0 c1 e0
      cases hh : hasT L t
      · have HSN2 : Hid (lackE L (l.take (k + 1)) = lackE L (l.take k) ++ [⟨t, x, r⟩])   := by
          show _ = _
          have := HSN.out
          rw [hh] at this
          simpa using this
        have e0 : V.cell? ⟨wr.heap.size, 0, none⟩ = some (.int .i64 t) := by simp [World.cell?, eN]
        have e1 : V.cell? ⟨wr.heap.size, 1, none⟩ = some (.int .u64 x) := by simp [World.cell?, eN]
        have e2 : V.cell? ⟨wr.heap.size, 2, none⟩ = some (.int .u64 r) := by simp [World.cell?, eN]
        have hrow : V.ownsRow w.heap.size 142 3 u5 (lackE L (l.take k)).length ((lackE L (l.take k)).flatMap EntD.cells) := ownsRow_touch HR.out tN (by simp)
        have hlen : (lackE L (l.take k)).length ≤ 1000 := by
          have h1 := List.length_filter_le (fun e => !hasT L e.tvar) (l.take k)
          rw [List.length_take] at h1
          unfold lackE
          omega
        have HH : Hid (hasT L t = false) := hh
        have hsV := tN.size
        have hsT := HT.out.size
        clear HR HSN
        go_wp2_with (at_builtin; refine wpList_append_own_at _ rfl _ _ 109 rfl w.heap.size 142 i0 _ 3 24 Try.underlying109 hi hz0 hz1 hz2 rfl (by decide) _ _ _ rfl (hrow.alloc _) ⟨V.heap.size, 0, none⟩ 1 1 [.int .i64 t, .int .u64 x, .int .u64 r] rfl rfl (World.news_of_block (cs := #[.int .i64 t, .int .u64 x, .int .u64 r]) (t := 142) (fr := (0, 0)) (heap_alloc_new V _)) (by simp [Value.oneCell']) (by unfold maxLen; omega) (by omega) (by simp; omega) ?_)
        intro v' w2 hown' hgrow _ _
        have t2 : Touch w w2 [] := ((HT.out.trans tN (by simp)).alloc _).grown hgrow (fun q hq => .inr (hrow.lt q hq).1)
        have HR2 : Hid (w2.ownsRow w.heap.size 142 3 _ _ _) := hown'
        clear hown' hgrow hrow
        go_wp2
        go_roundw
        case rel => exact ⟨k + 1, by go_num, by omega, by rw [HSN2.out, List.length_append, List.flatMap_append]; exact HR2.out, t2⟩
        case measure => simp [intOf]; omega
      · have HSN2 : Hid (lackE L (l.take (k + 1)) = lackE L (l.take k))   := by
          show _ = _
          have := HSN.out
          rw [hh] at this
          simpa using this
        have HR2 : Hid (V.ownsRow w.heap.size 142 3 u5 (lackE L (l.take k)).length ((lackE L (l.take k)).flatMap EntD.cells)) := ownsRow_touch HR.out tN (by simp)
        have t2 : Touch w V [] := HT.out.trans tN (by simp)
        clear HR HSN
        go_wp2
        go_roundw
        case rel => exact ⟨k + 1, by go_num, by omega, by rw [HSN2.out]; exact HR2.out, t2⟩
        case measure => simp [intOf]; omega
    · obtain rfl : k = N := by omega
      have he : l.take k = l := List.take_of_length_le (by rw [← HN.out]; exact Nat.le_refl _)
      have HR2 : Hid (wr.ownsRow w.heap.size 142 3 u5 (lackE L l).length ((lackE L l).flatMap EntD.cells)) := by rw [he] at hrow; exact hrow
      clear hrow he
      go_wp2
      go_ret
      exact ⟨_, rfl, HR2.out, hT⟩

/-- What join leaves. -/
def JoinPost (B : Nat) (w : World) (b m : Nat) (vl : Value) (L F : List EntD) (x : Ending) (w' : World) : Prop :=
  if 8 < L.length + F.length then x = .returned (.int .i64 4) ∧ Touch w w' [] else
    ∃ vl', x = .returned (.int .i64 0) ∧ RdSet B w' b m vl' (L ++ F) ∧ Touch w w' (rdfoot b m vl) ∧ ∀ q ∈ rdfoot b m vl', q ∈ rdfoot b m vl ∨ w.heap.size ≤ q

/-- What may be joined. -/
structure Joins (L F : List EntD) : Prop where
  ok : ∀ e ∈ F, e.Ok
  nodup : ((L ++ F).map EntD.tvar).Nodup

theorem RdSet.owns_form {w : World} {B : Nat} {e : TypeId} {size : Nat} {v : Value} {n : Nat} {xs : List Value} (h : w.ownsRow B e size v n xs) : ∃ ao cap, v = .slice ao n cap := by
  rcases h.2 with ⟨rfl, h0⟩ | ⟨g, cap, cur, rfl, _⟩
  · exact ⟨none, 0, by rw [h0]⟩
  · exact ⟨_, cap, rfl⟩

theorem joins_not {L F : List EntD} (h : Joins L F) {k : Nat} (hk : k < F.length) {t : Int} (ht : t = F[k].tvar) : hasT (L ++ F.take k) t = false := by
  apply Classical.byContradiction
  intro hc
  have hh : hasT (L ++ F.take k) t = true := by simpa using hc
  unfold hasT at hh
  rw [List.any_eq_true] at hh
  obtain ⟨z, hz, hzt⟩ := hh
  have hzt' : z.tvar = F[k].tvar := by rw [← ht]; simpa using hzt
  have hn := h.nodup
  rw [show L ++ F = (L ++ F.take k) ++ F.drop k by rw [List.append_assoc, List.take_append_drop], List.map_append, List.nodup_append] at hn
  refine hn.2.2 z.tvar (List.mem_map_of_mem hz) F[k].tvar (List.mem_map_of_mem ?_) hzt'
  rw [List.mem_iff_getElem]
  exact ⟨0, by simp; omega, by simp⟩

set_option maxRecDepth 100000 in
set_option maxHeartbeats 1000000 in
theorem join_any {B : Nat} {w : World} {b m : Nat} {vl : Value} {L : List EntD} (h : RdSet B w b m vl L) (hB : B ≤ w.heap.size) (ao : Option Addr) (cap : Nat) (l : List EntD) (hl : EntRow w (.slice ao l.length cap) l) (hn : l.length ≤ 1000) (hwf : ∀ e ∈ l, e.Wf) (hJ : Joins L (lackE L l)) :
    Calls Try.prog 86 #[.pointer (some ⟨b, 0, none⟩), .slice ao l.length cap] w (JoinPost B w b m vl L (lackE L l)) := by
  have hk := lacking_any h ao cap l hl hn hwf
  obtain ⟨i0, hi, hz0, hz1, hz2⟩ := info_parts Try.info_ent
  have hFl : (lackE L l).length ≤ 1000 := by
    have h1 := List.length_filter_le (fun e => !hasT L e.tvar) l
    unfold lackE
    omega
  generalize lackE L l = F at *
  have hL8 := h.sl.len
  obtain ⟨N, hN⟩ : ∃ N, N = F.length := ⟨_, rfl⟩
  have HN : Hid (N = F.length) := hN
  unfold JoinPost
  obtain ⟨al, cl, rfl⟩ := RdSet.owns_form h.own
  clear hl hwf hn
  by_cases hbig : 8 < L.length + F.length
  · simp only [if_pos hbig]
    rw [← hN] at hFl hk hbig
    clear hN
    have hbig' : (8 : Int) < L.length + N := by omega
    go_enter Try.func86, Try.ntmps86
    go_wp2_with fail
    refine hk.mono ?_
    rintro x w1 ⟨v, rfl, ho, t1⟩
    clear hk
    obtain ⟨af, cf, rfl⟩ := RdSet.owns_form ho
    obtain ⟨c0, c1, f0, f1⟩ := (h.keep t1 (by simp)).cells
    go_wp2
    go_ret
    exact ⟨rfl, t1⟩
  · simp only [if_neg hbig]
    rw [← hN] at hFl hk hbig
    clear hN
    have hbig' : ¬ (8 : Int) < L.length + N := by omega
    go_enter Try.func86, Try.ntmps86
    go_wp2_with fail
    refine hk.mono ?_
    rintro x w1 ⟨v, rfl, ho, t1⟩
    clear hk
    obtain ⟨af, cf, rfl⟩ := RdSet.owns_form ho
    have h1 := h.keep t1 (by simp)
    obtain ⟨c0, c1, f0, f1⟩ := h1.cells
    have H1 : Hid _ := h1
    have HO : Hid (w1.ownsRow w.heap.size 142 3 (.slice af N cf) N (F.flatMap EntD.cells)) := ho
    have HH : Hid _ := h
    clear h1 ho h
    go_wp2_with fail
    clear c0 c1 f0 f1
    go_loopw [22] (fun i wr => ∃ (k : Nat) (vl' : Value), i = .int .i64 k ∧ k ≤ N ∧ RdSet B wr b m vl' (L ++ F.take k) ∧ Touch w1 wr (rdfoot b m (.slice al L.length cl)) ∧ ∀ q ∈ rdfoot b m vl', q ∈ rdfoot b m (.slice al L.length cl) ∨ w1.heap.size ≤ q) (fun i _ => N - (intOf i).toNat)
    case atStart => exact ⟨0, _, rfl, Nat.zero_le _, by simpa using H1.out, Touch.refl _ _, fun q hq => .inl hq⟩
    case round =>
      obtain ⟨k, vl', rfl, hk, hS, hT, hf⟩ := hrel
      by_cases hlt : k < N
      · have hlt' : (k : Int) < N := by omega
        have hkl : k < F.length := by rw [← HN.out]; exact hlt
        have hFk : wr.ownsRow w.heap.size 142 3 (.slice af N cf) N (F.flatMap EntD.cells) := ownsRow_touch HO.out hT (fun q hq hm => by have h1 := (HO.out.lt q hq).1; have h2 := (HH.out.foot_lt q hm).2; omega)
        have hRow := EntRow.of_owns (w := wr) (B := w.heap.size) (v := .slice af F.length cf) (l := F) (by rw [← HN.out]; exact hFk)
        obtain ⟨g, off, rfl, hg, m0, m1, m2⟩ := EntRow.three hRow k hkl
        obtain ⟨e, he⟩ : ∃ e, e = F[k] := ⟨_, rfl⟩
        rw [← he] at m0 m1 m2
        obtain ⟨t, x, r⟩ := e
        simp only at m0 m1 m2
        have HS : Hid _ := hS
        have HT : Hid _ := hT
        have HE : Hid _ := he
        clear hRow hFk hS hT he
        go_wp2_with fail
        refine wp_name fun W hW => ?_
        have tW : Touch wr W [] := by rw [hW]; exact (Touch.refl wr []).alloc _
        have eW : W.heap[wr.heap.size]? = some (.cells #[.int .i64 t, .int .u64 x, .int .u64 r] 142 (0, 0)) := by rw [hW]; exact heap_alloc_new wr _
        clear hW
        have hSW := HS.out.keep tW (by simp)
        have hOk : EntD.Ok ⟨t, x, r⟩ := by rw [HE.out]; exact hJ.ok _ (List.getElem_mem hkl)
        obtain ⟨al', cl', rfl⟩ := RdSet.owns_form hSW.own
        obtain ⟨c0, c1, f0, f1⟩ := hSW.cells
        have e0 : W.cell? ⟨wr.heap.size, 0, none⟩ = some (.int .i64 t) := by simp [World.cell?, eW]
        have hlen8 := hSW.sl.len
        obtain ⟨M, hM⟩ : ∃ M, M = (L ++ F.take k).length := ⟨_, rfl⟩
        have HM : Hid (M = (L ++ F.take k).length) := hM
        have hrg := hOk.range
        simp only at hrg
        have hM8 : M ≤ 8 := by omega
        have hml : M < maxLen := by unfold maxLen; omega
        obtain ⟨D, hD, hI⟩ := hSW.map
        obtain ⟨w2, hrun, hD2, hturn⟩ := (ownsMap_touch hD (Touch.refl W []).drew (by simp)).store law_int Try.underlying108 (by rw [← hM]; exact hml) (keyOf_int_mk Try.underlying3 (wf_i64_mk (x := t) (by omega))) (plainElem_int Try.underlying3 (wf_i64_mk (x := (M : Int)) (by omega)))
        rw [← hM] at c0
        have HD2 : Hid _ := And.intro hD2 (And.intro hturn (And.intro hI (And.intro hSW (And.intro tW eW))))
        clear hD2 hturn hI hSW tW eW hD hM
        apply once
        case body =>
          intro hall
          go_region_law (fail)
          all_goals exact hall
        obtain ⟨hD2, hturn, hI, hSW, tW, eW⟩ := HD2.out
        have t2 : Touch W w2 [m] := (Touch.refl W [m]).drew.grown hturn.grown (fun q hq => .inl (by simpa using hq.symm))
        obtain ⟨hbm, hvb, hvm⟩ := hSW.apart
        have hbl := lt_of_heap hSW.st
        have he2 := lt_of_heap eW
        have hmS : m < wr.heap.size := (HS.out.foot_lt m (by simp [rdfoot])).2
        have hbS := lt_of_heap HS.out.st
        have st2 := (t2.block b hbl (by simpa using hbm)).trans hSW.st
        have e2 := (t2.block wr.heap.size he2 (by simp; omega)).trans eW
        have row2 := ownsRow_touch hSW.own t2 (fun q hq => by simp; rintro rfl; exact hvm hq)
        rw [← HM.out] at st2 row2
        obtain ⟨v3, w3, hr3, ho3, hg3, hn3, ha3⟩ := run_append_own_at (P := Try.prog) ((w2.alloc (.cells #[.int .i64 t, .int .u64 x, .int .u64 r] 142)).drew) B 109 109 142 i0 _ 3 24 Try.underlying109 hi hz0 hz1 hz2 rfl (by decide) _ M _ ((row2.alloc _).drew) ⟨w2.heap.size, 0, none⟩ 1 1 [.int .i64 t, .int .u64 x, .int .u64 r] rfl (World.news_of_block (cs := #[.int .i64 t, .int .u64 x, .int .u64 r]) (t := 142) (fr := (0, 0)) (heap_alloc_new w2 _)) (by simp [Value.oneCell']) (by unfold maxLen; omega) (by omega) (by simp; have := t2.size; have := tW.size; have := HT.out.size; have := t1.size; omega)
        obtain ⟨a3, c3, rfl⟩ := RdSet.owns_form ho3
        have tw3 : Touch w2 w3 (Value.slice al' M cl').ownBlock.toList := (((Touch.refl w2 _).alloc _).drew).grown hg3 (fun q hq => .inl (by simp [hq]))
        have d0 : w2.cell? ⟨b, 0, none⟩ = some (.slice al' M cl') := by simp [World.cell?, st2]
        have g0 : w2.frozen? ⟨b, 0, none⟩ = false := by simp [World.frozen?, st2]
        have k0 : w2.cell? ⟨wr.heap.size, 0, none⟩ = some (.int .i64 t) := by simp [World.cell?, e2]
        have k1 : w2.cell? ⟨wr.heap.size, 1, none⟩ = some (.int .u64 x) := by simp [World.cell?, e2]
        have k2 : w2.cell? ⟨wr.heap.size, 2, none⟩ = some (.int .u64 r) := by simp [World.cell?, e2]
        have hb2 := lt_of_heap st2
        have dz : ∀ o, (w2.alloc o).cell? ⟨b, 0, none⟩ = some (.slice al' M cl') := fun o => (World.cell?_alloc_past _ _ _ hb2).trans d0
        rw [← HM.out] at hvb
        have st3 := (tw3.block b (lt_of_heap st2) (by simpa using hvb)).trans st2
        have d3 : w3.cell? ⟨b, 0, none⟩ = some (.slice al' M cl') := by simp [World.cell?, st3]
        have g3 : w3.frozen? ⟨b, 0, none⟩ = false := by simp [World.frozen?, st3]
        have hnew : Hid _ := And.intro tw3 (And.intro ho3 (And.intro ha3 (And.intro t2 (And.intro hD2 (And.intro hI (And.intro hSW tW))))))
        clear tw3 ho3 ha3 t2 hD2 hI hSW tW hg3 hn3 HD2 hturn st3 st2 e2 row2 eW c0 c1 f0 f1 e0 hrun
        have HR3 : Hid _ := hr3
        clear hr3
        go_wp2_with fail
        apply once
        case body =>
          intro hall
          go_region_law (refine step_append_run (by rfl) _ _ _ 109 (by rfl) (by rfl) _ _ (.slice a3 (M + 1) c3) w3 (by rfl) (by rfl) HR3.out ?_)
          all_goals exact hall
        obtain ⟨tw3, ho3, ha3, t2, hD2, hI, hSW, tW⟩ := hnew.out
        have hMk : M = L.length + k := by have := HM.out; rw [List.length_append, List.length_take, Nat.min_eq_left (by omega)] at this; exact this
        have hno : hasT (L ++ F.take k) t = false := joins_not hJ hkl (by rw [← HE.out])
        have hs2 := t2.size
        have hw2 : wr.heap.size ≤ w2.heap.size := Nat.le_trans tW.size hs2
        rw [HM.out] at hD2 ho3 tw3 ha3
        obtain ⟨R1, R2, R3⟩ := hSW.snoc (e := ⟨t, x, r⟩) hI t2 hD2 tw3 (by simpa [EntD.cells] using ho3) (ha3.imp id (fun h q hq => by rw [h] at hq; simp at hq; omega)) hOk hno (by rw [← HM.out]; omega)
        have hFk : L ++ F.take (k + 1) = (L ++ F.take k) ++ [⟨t, x, r⟩] := by rw [List.take_succ_eq_append_getElem hkl, ← HE.out, List.append_assoc]
        rw [← hFk] at R1
        have HR : Hid _ := And.intro R1 (And.intro R2 (And.intro R3 tW))
        clear R1 R2 R3 tw3 ho3 ha3 t2 hD2 hI hSW tW hnew hFk hMk
        go_wp2
        go_roundw
        case rel =>
          obtain ⟨R1, R2, R3, tW⟩ := HR.out
          have hs1 := HT.out.size
          have hs2 := tW.size
          refine ⟨k + 1, .slice a3 (M + 1) c3, by go_num, by omega, ?_, ?_, ?_⟩
          · simpa [HM.out] using R1
          · have := (HT.out.trans tW (by simp)).trans R2 hf
            simpa [HM.out] using this
          · intro q hq
            rcases R3 q (by rw [HM.out] at hq; exact hq) with h1 | h1
            · exact hf q h1
            · exact .inr (by omega)
        case measure => simp [intOf]; omega
      · obtain rfl : k = N := by omega
        have he : F.take k = F := List.take_of_length_le (by rw [← HN.out]; exact Nat.le_refl _)
        rw [he] at hS
        have HS : Hid _ := hS
        clear hS he
        go_wp2
        go_ret
        exact ⟨vl', rfl, HS.out, (t1.mono (by simp)).trans hT (fun x hx => .inl hx), fun q hq => (hf q hq).imp id (fun h => Nat.le_trans t1.size h)⟩

end Go.Proofs.Ytinhdpiecifmhaa.Rd

/-
  package history: readings, Reads, Own BY THEIR CONTRACTS.
-/
import Derived.Test.YtjacclbifeoclaaHistWrites
import Derived.Test.YtjacclbifeoclaaRangeGen2
namespace Go.Proofs.Ytjacclbifeoclaa
set_option linter.unusedVariables false
set_option linter.unusedSimpArgs false
open Go.RowKit Go.Maps Go.Shelf
attribute [local go_sem] Oper.semAt_some

set_option maxRecDepth 100000 in
theorem new_at (w : World) : Calls Try.prog 56 #[] w fun e w' => ∃ ch, e = .returned (ptr (w.heap.size + 2)) ∧ PLog w.heap.size w' (w.heap.size + 2) ch [f0] ∧ Touch w w' [] := by
  have hmm := @run_makeMap Try.prog
  go_enter Try.func56, Try.ntmps56
  go_wp2
  go_ret
  have hm : FrAt (((w.alloc (.map #[] 0)).alloc (.cells #[.map (some w.heap.size), .pointer none] 118)).alloc (.cells #[ptr (w.heap.size + 1)] 120)) w.heap.size f0 :=
    FrAt.mk' (n := 0) (((World.ownsMap_made w _ _ _).alloc _).alloc _) FrOk.f0
  have hn := heap_alloc_new (w.alloc (.map #[] 0)) (.cells #[.map (some w.heap.size), .pointer none] 118)
  have hb := heap_alloc_new ((w.alloc (.map #[] 0)).alloc (.cells #[.map (some w.heap.size), .pointer none] 118)) (.cells #[ptr (w.heap.size + 1)] 120)
  rw [World.size_alloc] at hn
  rw [World.size_alloc, World.size_alloc] at hb
  refine ⟨[(w.heap.size + 1, w.heap.size)], by simp, ⟨by omega, by simp, hb, ?_, rfl, ?_, by simp, by simp, by simp, by simp⟩, (((Touch.refl w []).alloc _).alloc _).alloc _⟩
  · intro k hk
    obtain rfl : k = 0 := by simpa using hk
    exact (heap_alloc_old _ _ (lt_of_heap hn)).trans hn
  · intro k hk hk'
    obtain rfl : k = 0 := by simpa using hk
    exact hm

/-- A log's blocks are none of another type's. -/
theorem PLog.untyped {B : Nat} {w : World} {b : Nat} {ch : List (Nat × Nat)} {Fs : List Fr} (h : PLog B w b ch Fs) {T : TypeId} (h1 : T ≠ 120) (h2 : T ≠ 118) :
    ∀ x ∈ pfoot b ch, ∀ (cs : Array Value) (fr : Nat × Nat), w.heap[x]? ≠ some (Obj.cells cs T fr) := by
  intro x hx cs fr e
  simp only [pfoot, List.mem_cons, List.mem_append, List.mem_map] at hx
  rcases hx with rfl | ⟨p, hp, rfl⟩ | ⟨p, hp, rfl⟩
  · rw [h.st] at e; cases e; exact h1 rfl
  · obtain ⟨i, hi, rfl⟩ := List.getElem_of_mem hp
    have := h.nodes i hi
    rw [this] at e
    simp only [nodeC, Option.some.injEq, Obj.cells.injEq] at e
    exact h2 e.2.1.symm
  · obtain ⟨i, hi, rfl⟩ := List.getElem_of_mem hp
    obtain ⟨es, c, hm⟩ := (h.fr i hi (by rw [← h.len]; exact hi)).isMap
    rw [hm] at e
    cases e

theorem evOwn.keepE {W W' : World} {B : Nat} {v : Value} {l : List EvD} (h : evOwn W B v l) (k : KeepsE 51 W W') : evOwn W' B v l := by
  refine ⟨h.1, ?_⟩
  rcases h.2 with hn | ⟨g, cap, cur, e, hb, hg, r⟩
  · exact .inl hn
  · exact .inr ⟨g, cap, cur, e, hb, k g cur _ hg, r⟩

/-- The log of what goes through an attempt's events. -/
def LogAt (S0 : Nat) (c : List EvD) (k : Nat) (W : World) : Prop := k = 0 ∨ ∃ ch, PLog (S0 + 2) W (S0 + 4) ch (noteAll [f0] (c.take (k - 1)))

theorem readings_any (ao : Option Addr) (n cap : Nat) (a : Int) (w : World) : Calls Try.prog 100 #[.slice ao n cap, .int .i64 a] w fun e w' => e = .returned (.func (.func 110) #[] #[ptr w.heap.size, ptr (w.heap.size + 1)]) ∧ w' = (w.alloc (.cells #[.slice ao n cap] 22)).alloc (.cells #[.int .i64 a] 3) := by
  go_enter Try.func100, Try.ntmps100
  go_wp2
  go_ret
  exact ⟨by simp, rfl⟩

set_option maxRecDepth 100000 in
set_option maxHeartbeats 2000000 in
theorem readings1_in (n : Nat) (hn : 1 ≤ n) (yl p q S0 : Nat) (ao : Option Addr) (cap : Nat) (l : List EvD) (a : Int) (hl : l.length ≤ 1000) (hwf : ∀ e ∈ l, e.Wf) (J : Nat → World → Prop) (X : World → Prop)
    (h0 : ∀ W, J 0 W → W.cell? ⟨p, 0, none⟩ = some (.slice ao l.length cap) ∧ W.cell? ⟨q, 0, none⟩ = some (.int .i64 a) ∧ EvRow W (.slice ao l.length cap) l)
    (hL : ∀ m W, J (m + 1) W → ∃ ch, PLog (S0 + 2) W (S0 + 4) ch (noteAll [f0] ((cutS a l).take m)))
    (hA : ∀ k k' W W' S, J k W → (k' = k ∨ (k' = k + 1 ∧ ∀ m (hm : m < (cutS a l).length), k = m + 1 → (cutS a l)[m].k ≠ 2)) → Touch W W' S → (∀ x ∈ S, S0 + 2 ≤ x ∧ ∀ (cs : Array Value) (fr : Nat × Nat), W.heap[x]? ≠ some (Obj.cells cs 113 fr)) → LogAt S0 (cutS a l) k' W' → J k' W')
    (hY : ∀ m W (hm : m < (cutS a l).length), (cutS a l)[m].k = 2 → J (m + 1) W → YieldAt Fence.wide (n - 1) Try.prog yl #[(cutS a l)[m].val, ptr (S0 + 4)] W (YPostE 51 J X (m + 1) W))
    (W : World) (hW : W.heap.size = S0 + 2) (hJ : J 0 W) :
    CallsIn Fence.wide n Try.prog 110 #[.func (.yield yl) #[] #[], ptr p, ptr q] W fun e W' => (∃ v, e = .returned v) ∧ (J ((cutS a l).length + 1) W' ∨ X W') := by
  obtain ⟨c0, c1, hr⟩ := h0 W hJ
  have hcut := fun W' (t : Touch W W' []) => cut_any (SRow.keep hr t (by simp)) hl a
  have hcl := Nat.le_trans (cutS_le a l) hl
  have HCW : Hid _ := cutS_wf hwf a
  have HL : Hid _ := hL
  have HA : Hid _ := hA
  have HY : Hid _ := hY
  have HJ : Hid _ := hJ
  have HW : Hid _ := hW
  have hpl := World.block_lt_of_cell? W _ c0
  have hql := World.block_lt_of_cell? W _ c1
  clear h0 hL hA hY hJ hr hl hwf hW
  generalize l.length = N at *
  generalize cutS a l = c at *
  refine callsIn_of_wp Try.func110 rfl trivial ?_ rfl
  simp only [Try.ntmps110, List.size_toArray, List.length_cons, List.length_nil, Nat.reduceAdd, Nat.reduceSub, Array.replicate_succ, Array.replicate_zero, List.push_toArray, List.append_toArray, List.nil_append, List.cons_append]
  gi_wp2_with fail
  refine ⟨trivial, ?_⟩
  refine (callsIn_wide.2 (new_at W)).mono ?_
  rintro x w1 ⟨ch, rfl, hp, t1⟩
  have d0 := (t1.cell (p := ⟨p, 0, none⟩) hpl (by simp)).trans c0
  have d1 := (t1.cell (p := ⟨q, 0, none⟩) hql (by simp)).trans c1
  have hc1 := hcut w1 t1
  rw [HW.out] at hp ⊢
  rw [show S0 + 2 + 2 = S0 + 4 from rfl] at hp ⊢
  have HP : Hid _ := hp
  clear hcut hp c0 c1
  gi_wp2_with fail
  refine ⟨trivial, ?_⟩
  refine (callsIn_wide.2 hc1).mono ?_
  rintro x w2 ⟨v2, rfl, hrow, t2⟩
  have HROW : Hid _ := hrow
  obtain ⟨ao2, cap2, rfl, _⟩ := ev_form hrow
  obtain ⟨M, hM⟩ : ∃ M, M = c.length := ⟨_, rfl⟩
  have HM : Hid _ := hM
  rw [← hM] at hcl ⊢
  have HJ1 : Hid (J 1 w2) := HA.out 0 1 W w2 [] HJ.out (.inr ⟨rfl, fun m hm h => by omega⟩) (t1.trans t2 (by simp)) (by simp) (.inr ⟨ch, HP.out.touch t2⟩)
  clear hc1 hrow t1 t2 HP hM d0 d1 HJ
  gi_wp2_with fail
  gi_loopw [12] (fun i wr => ∃ j : Nat, i = .int .i64 j ∧ j ≤ M ∧ evOwn wr w1.heap.size (.slice ao2 M cap2) c ∧ J (j + 1) wr) (fun i _ => M - (intOf i).toNat)
  case atStart => exact ⟨0, rfl, Nat.zero_le _, by rw [HM.out]; exact HROW.out, HJ1.out⟩
  case round =>
    obtain ⟨j, rfl, hj, hrow, hJ⟩ := hrel
    clear HROW HJ1
    by_cases hjt : j < M
    · have h1 : (j : Int) < M := by omega
      have h0 : (0 : Int) ≤ j := by omega
      have hjl : j < c.length := by rw [← HM.out]; exact hjt
      have hrow' : evOwn wr w1.heap.size (.slice ao2 c.length cap2) c := by rw [← HM.out]; exact hrow
      obtain ⟨ao3, cap3, e3, hcell⟩ := ev_form hrow'
      simp only [Value.slice.injEq, true_and] at e3
      obtain ⟨rfl, rfl⟩ := e3
      obtain ⟨g, rfl, hgB, hg, d0, d1, d2, d3⟩ := hcell j hjl
      have hwe := HCW.out _ (List.getElem_mem hjl)
      have hsn := noteAll_snoc (Fs := [f0]) hjl
      obtain ⟨e, he⟩ : ∃ e, e = c[j] := ⟨_, rfl⟩
      rw [← he] at d0 d1 d2 d3 hwe hsn
      have HE : Hid _ := he
      have T1 : Touch wr (wr.alloc e.obj) [] := (Touch.refl wr []).alloc _
      obtain ⟨ch1, hp1⟩ := HL.out j wr hJ
      have hJ1 : J (j + 1) (wr.alloc e.obj) := HA.out _ _ _ _ [] hJ (.inl rfl) T1 (by simp) (.inr ⟨ch1, hp1.touch T1⟩)
      have HR1 : Hid (evOwn (wr.alloc e.obj) w1.heap.size (.slice (some ⟨g, 0, none⟩) M cap2) c) := hrow.keepE (KeepsE.alloc _ _)
      have hE1 : (wr.alloc e.obj).heap[wr.heap.size]? = some e.obj := heap_alloc_new wr _
      have HJ2 : Hid _ := hJ1
      have HP1 : Hid _ := hp1.touch T1
      have HSN : Hid _ := hsn
      have HE1 : Hid _ := hE1
      clear hcell hrow hrow' hJ hJ1 hsn he hp1 hE1 T1
      by_cases hk2 : e.k = 2
      · have p2 : (e.k == 2) = true := by simpa using hk2
        have hyy := HY.out j _ hjl (by rw [← HE.out]; exact hk2) HJ2.out
        rw [← HE.out] at hyy
        obtain ⟨fn, tmps, assign, body, hy, hR⟩ := hyy
        have hns : noteS (noteAll [f0] (c.take j)) e = (0, noteAll [f0] (c.take j)) := by unfold noteS; rw [if_neg (by omega), if_neg (by omega), if_neg (by omega), if_neg (by omega)]
        rw [hns] at HSN
        have HNS : Hid _ := hns
        have HK2 : Hid _ := hk2
        clear hk2 hns HJ2
        gi_wp2
        refine hR.mono ?_
        rintro x W3 (⟨rfl, hJ3, hke⟩ | ⟨rfl, hX⟩)
        · have hE3 := hke _ _ _ HE1.out
          have m0 : W3.cell? ⟨wr.heap.size, 0, none⟩ = some (.int .u8 e.k) := by simp [World.cell?, hE3]
          have m1 : W3.cell? ⟨wr.heap.size, 1, none⟩ = some (.int .i64 e.a) := by simp [World.cell?, hE3]
          have m2 : W3.cell? ⟨wr.heap.size, 2, none⟩ = some (.int .i64 e.t) := by simp [World.cell?, hE3]
          have m3 : W3.cell? ⟨wr.heap.size, 3, none⟩ = some (.int .u64 e.v) := by simp [World.cell?, hE3]
          obtain ⟨ch3, hp3⟩ := HL.out (j + 1) W3 hJ3
          have hno := note_any hp3 e hwe
          have hns3 : noteS (noteAll [f0] (c.take (j + 1))) e = (0, noteAll [f0] (c.take (j + 1))) := by rw [HSN.out]; exact HNS.out
          rw [hns3] at hno
          have HJ3 : Hid _ := hJ3
          have HP3 : Hid _ := hp3
          have HR3 : Hid (evOwn W3 w1.heap.size (.slice (some ⟨g, 0, none⟩) M cap2) c) := HR1.out.keepE hke
          clear hJ3 hp3 hke hE3 hy hR d0 d1 d2 d3 hns3
          gi_wp2_with fail
          refine ⟨trivial, ?_⟩
          refine (callsIn_wide.2 hno).mono ?_
          rintro x w4 ⟨ch4, rfl, p4, t4, f4⟩
          have HJ4 : Hid (J (j + 1 + 1) w4) := HA.out _ _ _ _ _ HJ3.out (.inl rfl) t4 (fun x hx => ⟨(HP3.out.foot_lt x hx).1, HP3.out.untyped (by decide) (by decide) x hx⟩) (.inr ⟨ch4, p4⟩)
          have HR4 : Hid (evOwn w4 w1.heap.size (.slice (some ⟨g, 0, none⟩) M cap2) c) := HR3.out.keepE (KeepsE.touch t4 (HP3.out.untyped (by decide) (by decide)))
          clear hno p4 t4 f4 m0 m1 m2 m3
          gi_wp2
          go_roundw
          case rel => exact ⟨j + 1, by go_num, by omega, HR4.out, HJ4.out⟩
          case measure => simp [intOf]; omega
        · have HX : Hid _ := hX
          clear hX hy hR
          gi_wp2
          refine bodyPost_ret (v := .tuple #[]) ?_ rfl ⟨⟨_, rfl⟩, .inr HX.out⟩
          simp [results, Try.results110]
      · have p2 : (e.k == 2) = false := by simpa using hk2
        have hno := note_any HP1.out e hwe
        have HK2 : Hid _ := hk2
        clear hk2
        generalize noteS (noteAll [f0] (c.take j)) e = nr at *
        obtain ⟨z, Gs⟩ := nr
        gi_wp2_with fail
        refine ⟨fun _ h => (by cases h), ?_⟩
        gi_wp2_with fail
        refine ⟨trivial, ?_⟩
        refine (callsIn_wide.2 hno).mono ?_
        rintro x w4 ⟨ch4, rfl, p4, t4, f4⟩
        have hnr : ∀ m (hm : m < c.length), j + 1 = m + 1 → c[m].k ≠ 2 := by
          intro m hm h
          obtain rfl : m = j := by omega
          rw [← HE.out]; exact HK2.out
        have HJ4 : Hid (J (j + 1 + 1) w4) := HA.out _ _ _ _ _ HJ2.out (.inr ⟨rfl, hnr⟩) t4 (fun x hx => ⟨(HP1.out.foot_lt x hx).1, HP1.out.untyped (by decide) (by decide) x hx⟩) (.inr ⟨ch4, by show PLog _ _ _ _ (noteAll [f0] (c.take (j + 1))); rw [HSN.out]; exact p4⟩)
        have HR4 : Hid (evOwn w4 w1.heap.size (.slice (some ⟨g, 0, none⟩) M cap2) c) := HR1.out.keepE (KeepsE.touch t4 (HP1.out.untyped (by decide) (by decide)))
        clear hno p4 t4 f4 hnr
        gi_wp2
        go_roundw
        case rel => exact ⟨j + 1, by go_num, by omega, HR4.out, HJ4.out⟩
        case measure => simp [intOf]; omega
    · obtain rfl : j = M := by omega
      have HJJ : Hid (J (j + 1) wr) := hJ
      clear hJ hrow hjt
      gi_wp2
      go_end0
      exact ⟨⟨_, rfl⟩, .inl (by rw [← HM.out]; exact HJJ.out)⟩

/-! ### Reads -/
def readsS (c : List EvD) : Nat → List (Int × Int)
  | 0 => []
  | m + 1 => match c[m]? with
    | some e => if e.k = 2 ∧ getF (noteAll [f0] (c.take m)) e.t = none then readsS c m ++ [(e.t, e.v)] else readsS c m
    | none => readsS c m
theorem readsS_le (c : List EvD) : ∀ m, (readsS c m).length ≤ m
  | 0 => by simp [readsS]
  | m + 1 => by
    have ih := readsS_le c m
    unfold readsS
    split
    · split
      · simp; exact ih
      · omega
    · omega
theorem readsS_step {c : List EvD} {m : Nat} (hm : m < c.length) : readsS c (m + 1) = if c[m].k = 2 ∧ getF (noteAll [f0] (c.take m)) c[m].t = none then readsS c m ++ [(c[m].t, c[m].v)] else readsS c m := by
  conv => lhs; unfold readsS
  rw [List.getElem?_eq_getElem hm]

/-- What Reads keeps between two rounds. -/
structure RdI (w : World) (ao : Option Addr) (cap : Nat) (l : List EvD) (a : Int) (k : Nat) (W : World) : Prop where
  box : ∃ v, Boxed W w.heap.size 110 v ∧ pairRow W w.heap.size v (readsS (cutS a l) (k - 1))
  p : One W (w.heap.size + 1) (.slice ao l.length cap) 22
  q : One W (w.heap.size + 2) (.int .i64 a) 3
  t : Touch w W []
  log : LogAt (w.heap.size + 3) (cutS a l) k W
theorem pair_block {W : World} {B : Nat} {v : Value} {ls : List (Int × Int)} (h : pairRow W B v ls) {x : Nat} (hx : v.ownBlock = some x) : ∃ cs, W.heap[x]? = some (Obj.cells cs 113 (0, 0)) := by
  rcases h.2 with ⟨rfl, _⟩ | ⟨g, cap, cur, rfl, _, hg, _⟩
  · simp [Value.ownBlock] at hx
  · obtain rfl : g = x := by simpa [Value.ownBlock] using hx
    exact ⟨cur, hg⟩
theorem RdI.go {w W W' : World} {ao : Option Addr} {cap : Nat} {l : List EvD} {a : Int} {k k' : Nat} {S : List Nat} (h : RdI w ao cap l a k W) (hk : readsS (cutS a l) (k' - 1) = readsS (cutS a l) (k - 1)) (t : Touch W W' S)
    (hS : ∀ x ∈ S, w.heap.size + 3 ≤ x ∧ ∀ (cs : Array Value) (fr : Nat × Nat), W.heap[x]? ≠ some (Obj.cells cs 113 fr)) (hlog : LogAt (w.heap.size + 3) (cutS a l) k' W') : RdI w ao cap l a k' W' := by
  obtain ⟨v, hb, hr⟩ := h.box
  have hn : ∀ y, y < w.heap.size + 3 → y ∉ S := fun y hy hs => by have := (hS y hs).1; omega
  refine ⟨⟨v, (t.block _ hb.lt (hn _ (by omega))).trans hb, ?_⟩, One.touch h.p t (hn _ (by omega)), One.touch h.q t (hn _ (by omega)), h.t.trans t (fun x hx => .inr (by have := (hS x hx).1; omega)), hlog⟩
  rw [hk]
  exact ownsRow_touch hr t (fun x hx hs => by obtain ⟨cs, hc⟩ := pair_block hr hx; exact (hS x hs).2 cs _ hc)
theorem LogAt.touch {S0 k : Nat} {c : List EvD} {W W' : World} {S : List Nat} (h : LogAt S0 c k W) (t : Touch W W' S) (hS : ∀ x ∈ S, x < S0 + 2 ∨ W.heap.size ≤ x ∨ ∃ cs ty fr, W.heap[x]? = some (Obj.cells cs ty fr) ∧ ty ≠ 120 ∧ ty ≠ 118) : LogAt S0 c k W' := by
  rcases h with h | ⟨ch, hp⟩
  · exact .inl h
  · refine .inr ⟨ch, hp.keep t (fun x hx hs => ?_)⟩
    have h1 := hp.foot_lt x hx
    rcases hS x hs with h2 | h2 | ⟨cs, ty, fr, e, n1, n2⟩
    · omega
    · omega
    · exact hp.untyped n1 n2 x hx cs fr e

theorem noteAll_read {c : List EvD} {m : Nat} (hm : m < c.length) (h : c[m].k = 2) : noteAll [f0] (c.take (m + 1)) = noteAll [f0] (c.take m) := by
  rw [noteAll_snoc hm]
  unfold noteS
  rw [if_neg (by omega), if_neg (by omega), if_neg (by omega), if_neg (by omega)]
theorem LogAt.read {S0 m : Nat} {c : List EvD} {W : World} (h : LogAt S0 c (m + 1) W) (hm : m < c.length) (hk : c[m].k = 2) : LogAt S0 c (m + 1 + 1) W := by
  rcases h with h | ⟨ch, hp⟩
  · omega
  · refine .inr ⟨ch, ?_⟩
    show PLog _ _ _ _ (noteAll [f0] (c.take (m + 1)))
    rw [noteAll_read hm hk]
    exact hp

set_option maxRecDepth 100000 in
set_option maxHeartbeats 2000000 in
theorem reads_any {w : World} {ao : Option Addr} {cap : Nat} {l : List EvD} (hr : EvRow w (.slice ao l.length cap) l) (hl : l.length ≤ 1000) (hwf : ∀ e ∈ l, e.Wf) (a : Int) :
    Calls Try.prog 86 #[.slice ao l.length cap, .int .i64 a] w (PairsPost w (readsS (cutS a l) (cutS a l).length)) := by
  refine (callsIn_wide (n := 5)).1 ?_
  refine callsIn_of_wp_marks Try.func86 rfl trivial ?_ rfl
  simp only [Try.ntmps86, List.size_toArray, List.length_cons, List.length_nil, Nat.reduceAdd, Nat.reduceSub, Array.replicate_succ, Array.replicate_zero, List.push_toArray, List.append_toArray, List.nil_append, List.cons_append]
  obtain ⟨N, hN⟩ : ∃ N, N = l.length := ⟨_, rfl⟩
  have HN : Hid (N = l.length) := hN
  have HR : Hid (EvRow w (.slice ao l.length cap) l) := hr
  have HW : Hid _ := hwf
  have HL : Hid _ := hl
  rw [← hN]
  clear hN hr hwf hl
  gi_wp2_with fail
  refine ⟨trivial, ?_⟩
  refine (callsIn_wide.2 (readings_any ao N cap a _)).mono ?_
  rintro x w1 ⟨rfl, hw1⟩
  gi_wp2_with fail
  refine wpIn_name fun W1 hW1 => ?_
  have hsz : W1.heap.size = w.heap.size + 3 := by rw [hW1]; simp
  have HI0 : Hid (RdI w ao cap l a 0 W1) := by
    refine ⟨⟨.slice none 0 0, ?_, World.ownsRow_nil _ _ _ _⟩, ?_, ?_, ?_, .inl rfl⟩
    · rw [hW1]; exact ((Boxed.new w _ _).alloc _).alloc _
    · rw [hW1, ← HN.out]
      have := (one_new (w.alloc (.cells #[.slice none 0 0] 110)) (.slice ao N cap) 22).alloc (.cells #[.int .i64 a] 3)
      rw [World.size_alloc] at this
      exact this
    · rw [hW1]
      have := one_new ((w.alloc (.cells #[.slice none 0 0] 110)).alloc (.cells #[.slice ao N cap] 22)) (.int .i64 a) 3
      rw [World.size_alloc, World.size_alloc] at this
      exact this
    · rw [hW1]; exact (((Touch.refl w []).alloc _).alloc _).alloc _
  clear hW1 hw1
  have HCL : Hid ((cutS a l).length ≤ 1000) := Nat.le_trans (cutS_le a l) HL.out
  obtain ⟨c, hc⟩ : ∃ c, c = cutS a l := ⟨_, rfl⟩
  rw [← hc] at HCL ⊢
  have HC : Hid _ := hc
  clear hc
  obtain ⟨ev, hev⟩ : ∃ ev : Nat → EvD, ∀ m (hm : m < c.length), ev (m + 1) = c[m] := ⟨fun k => c.getD (k - 1) ⟨0, 0, 0, 0⟩, fun m hm => by simp [List.getD_eq_getElem?_getD, hm]⟩
  refine rangeFunc_evs (by omega) (gf := 110) (lb := #[ptr (w.heap.size + 1), ptr (w.heap.size + 2)]) rfl (enters_of Try.func110 (by kernel_rfl) rfl)
    (fun k => #[(ev k).val, ptr (w.heap.size + 3 + 4)]) (fun _ => rfl) none 51 (fun k => ∃ m, k = m + 1 ∧ ∃ hm : m < c.length, c[m].k = 2) (RdI w ao cap l a) (fun _ => False) (c.length + 1) ?put (fun _ _ _ _ h => h.elim) ?new HI0.out
    (fun k s => { tmps := #[.slice ao N cap, .int .i64 a, undef, undef, .slice none 0 0, ptr w.heap.size, ptr s, ptr (w.heap.size + 3 + 4), undef, undef, .slice ao N cap, .int .i64 a, .func (.func 110) #[] #[ptr (w.heap.size + 1), ptr (w.heap.size + 2)], (ev k).val, ptr (w.heap.size + 3 + 4), undef, undef, undef, undef, undef, undef, undef, undef, undef, undef, undef, undef, undef, undef, undef, undef, undef, undef], defers := [] }) (fun k => (ev k).obj) ?seq ?assign ?body ?done (fun _ h => h.elim)
  case put =>
    rintro k W l1 o1 o' hI hl1 ho hc1
    refine hI.go rfl ((Touch.refl W [l1]).putObj (.inl (by simp)) o') (fun x hx => ?_) (hI.log.touch ((Touch.refl W [l1]).putObj (.inl (by simp)) o') (fun x hx => .inl (by simp at hx; omega)))
    simp at hx
    subst hx
    exact ⟨by omega, fun cs fr h => by rw [ho] at h; cases h; simp [Obj.isCells] at hc1⟩
  case new => exact fun k W o' h => h.go rfl ((Touch.refl W []).alloc o') (by simp) (h.log.touch ((Touch.refl W []).alloc o') (by simp))
  case seq =>
    intro J Y W hJI hJT hWs hJ0 hJY
    have hc := HC.out
    rw [hsz] at hWs hJT hJY
    have := readings1_in 4 (by omega) (W1.heap.size + 1) (w.heap.size + 1) (w.heap.size + 2) (w.heap.size + 3) ao cap l a HL.out HW.out J Y ?_ ?_ ?_ ?_ W hWs hJ0
    · rw [← hc] at this; exact this
    · intro W hJ
      have h := hJI 0 W hJ
      exact ⟨h.p.cell, h.q.cell, SRow.keep HR.out h.t (by simp)⟩
    · intro m W hJ
      rcases (hJI _ W hJ).log with h | ⟨ch, h⟩
      · omega
      · exact ⟨ch, h⟩
    · intro k k' W W' S hJ hst t hS hlog
      refine hJT k k' W W' S hJ ((hJI k W hJ).go ?_ t (fun x hx => ⟨by have := (hS x hx).1; omega, (hS x hx).2⟩) hlog) t (fun h => by have := (hS _ h).1; omega) (fun h => by have := (hS _ h).1; omega)
      rcases hst with rfl | ⟨rfl, hnr⟩
      · rfl
      · cases k with
        | zero => rfl
        | succ m =>
          by_cases hm : m < (cutS a l).length
          · show readsS (cutS a l) (m + 1) = readsS (cutS a l) m
            rw [readsS_step hm, if_neg (fun h => hnr m hm rfl h.1)]
          · show readsS (cutS a l) (m + 1) = readsS (cutS a l) m
            conv => lhs; unfold readsS
            rw [List.getElem?_eq_none (by omega)]
    · intro m W hm hk2 hJ
      have := hJY (m + 1) W ⟨m, rfl, by rw [hc]; exact hm, by simp only [hc]; exact hk2⟩ hJ
      have hg : ev (m + 1) = (cutS a l)[m] := by rw [hev m (by rw [hc]; exact hm)]; simp only [hc]
      rw [hg] at this
      rw [hsz]
      exact this
  case assign =>
    intro l k W K hK
    gi_wp2
    exact hK
  case body =>
    rintro l1 k s W ⟨m, rfl, hm, hk2⟩ hI hs hs2
    have hg := hev m hm
    have HL2 : Hid (∀ W, LogAt (w.heap.size + 3) c (m + 1) W → LogAt (w.heap.size + 3) c (m + 1 + 1) W) := fun W h => h.read hm hk2
    have hst : readsS c (m + 1) = if getF (noteAll [f0] (c.take m)) c[m].t = none then readsS c m ++ [(c[m].t, c[m].v)] else readsS c m := by rw [readsS_step hm]; simp [hk2]
    have hle := readsS_le c m
    obtain ⟨e, he⟩ : ∃ e, e = c[m] := ⟨_, rfl⟩
    have hwe : e.Wf := by rw [he]; exact cutS_wf HW.out a _ (by rw [← HC.out]; exact List.getElem_mem _)
    rw [← he] at hg hst
    have hml : m < 1000 := by have := HCL.out; omega
    simp only [hg] at hs ⊢
    have hIl := hI.log
    rw [← HC.out] at hIl
    obtain ⟨ch, hp⟩ : ∃ ch, PLog (w.heap.size + 3 + 2) W (w.heap.size + 3 + 4) ch (noteAll [f0] (c.take m)) := by
      rcases hIl with h | h
      · omega
      · exact h
    obtain ⟨v, hv, hrow⟩ := hI.box
    rw [← HC.out] at hrow
    have hrow : pairRow W w.heap.size v (readsS c m) := hrow
    have hgt := get_any hp e.t hwe.t
    have e2 : W.cell? ⟨s, 2, none⟩ = some (.int .i64 e.t) := by simp [World.cell?, hs]
    have e3 : W.cell? ⟨s, 3, none⟩ = some (.int .u64 e.v) := by simp [World.cell?, hs]
    have hslt := lt_of_heap hs
    have HS : Hid _ := hs
    have HI : Hid _ := hI
    have HST : Hid _ := hst
    clear hs hI hst hIl hp hk2 he
    cases hq : getF (noteAll [f0] (c.take m)) e.t with
    | some u =>
      rw [hq] at hgt
      simp only [Option.getD_some, Option.isSome_some] at hgt
      have HST2 : Hid (readsS c (m + 1) = readsS c m) := by show _ = _; rw [HST.out, if_neg (by rw [hq]; simp)]
      clear hrow hv hq
      gi_wp2_with fail
      refine ⟨trivial, ?_⟩
      refine (callsIn_wide.2 hgt).mono ?_
      rintro x w2 ⟨rfl, t2⟩
      clear hgt
      gi_wp2
      refine ⟨keeps_of_touch t2 (by simp), .inl ⟨rfl, ?_, KeepsE.touch t2 (by simp)⟩⟩
      have hI := HI.out
      refine hI.go ?_ t2 (by simp) ?_
      · rw [← HC.out]; exact HST2.out
      · rw [← HC.out]; exact HL2.out _ (by have := hI.log; rw [← HC.out] at this; exact this.touch t2 (by simp))
    | none =>
      rw [hq] at hgt
      simp only [Option.getD_none, Option.isSome_none] at hgt
      have HST2 : Hid (readsS c (m + 1) = readsS c m ++ [(e.t, e.v)]) := by show _ = _; rw [HST.out, if_pos hq]
      obtain ⟨i0, hi, hz0, hz1, hz2⟩ := info_parts Try.info_pair
      generalize readsS c m = ls at *
      clear hq
      gi_wp2_with fail
      refine ⟨trivial, ?_⟩
      refine (callsIn_wide.2 hgt).mono ?_
      rintro x w2 ⟨rfl, t2⟩
      clear hgt
      have hv2 : Boxed w2 w.heap.size 110 v := (t2.block _ hv.lt (by simp)).trans hv
      have hrow2 : w2.ownsRow w.heap.size 113 2 v ls.length (ls.flatMap pairC) := ownsRow_touch hrow t2 (by simp)
      have g2 := (t2.cell (p := ⟨s, 2, none⟩) hslt (by simp)).trans e2
      have g3 := (t2.cell (p := ⟨s, 3, none⟩) hslt (by simp)).trans e3
      have hc := hv2.cell
      have hts := t2.size
      have hts0 := HI.out.t.size
      have HV : Hid _ := hv
      have HROW : Hid (pairRow W w.heap.size v ls) := hrow
      clear hv hrow e2 e3
      gi_wp2_with (gi_at_builtin; refine wpListIn_append_own _ rfl _ _ 110 rfl w.heap.size 113 i0 _ 2 16 Try.underlying110 hi hz0 hz1 hz2 rfl (by decide) _ _ _ rfl (hrow2.alloc _) ⟨w2.heap.size, 0, none⟩ 1 1 [.int .i64 e.t, .int .u64 e.v] rfl rfl (World.news_of_block (cs := #[.int .i64 e.t, .int .u64 e.v]) (t := 113) (fr := (0, 0)) (heap_alloc_new w2 _)) (by simp [Value.oneCell']) (by unfold maxLen; omega) (by omega) (by simp; omega) ?_; intro v' w3 hown' hgrow _; obtain ⟨g', cap', rfl⟩ := ownsRow_succ hown'; obtain ⟨hv1, hv3, hr3, hk3, hb3⟩ := hv2.appended (by decide) hrow2 (Nat.le_trans hts0 hts) (Nat.le_refl _) hown' hgrow; have hc1 := hv1.cell; have hf1 := hv1.frozen)
      have tt : Touch W (w3.setCell ⟨w.heap.size, 0, none⟩ (.slice (some ⟨g', 0, none⟩) (ls.length + 1) cap')) (w.heap.size :: v.ownBlock.toList) :=
        ((((t2.mono (by simp)).alloc _).grown (row := v.ownBlock) hgrow (fun k hk => .inl (List.mem_cons_of_mem _ (by simp [hk]))))).setCell (.inl (by simp)) _
      have hbx : ∃ cs ty fr, W.heap[w.heap.size]? = some (Obj.cells cs ty fr) ∧ ty = 110 := ⟨_, _, _, HV.out, rfl⟩
      have hSty : ∀ x ∈ w.heap.size :: v.ownBlock.toList, ∃ cs ty fr, W.heap[x]? = some (Obj.cells cs ty fr) ∧ (ty = 110 ∨ ty = 113) := fun x hx => by
        rcases List.mem_cons.1 hx with rfl | hx
        · exact ⟨_, _, _, HV.out, .inl rfl⟩
        · obtain ⟨cs, hcs⟩ := pair_block HROW.out (by simpa using hx)
          exact ⟨cs, _, _, hcs, .inr rfl⟩
      refine ⟨keeps_of_touch tt (fun x hx => by obtain ⟨cs, ty, fr, h, _⟩ := hSty x hx; exact ⟨cs, ty, fr, h⟩), .inl ⟨rfl, ?_, KeepsE.touch tt (fun x hx cs fr h => by obtain ⟨cs', ty, fr', h', hty⟩ := hSty x hx; rw [h'] at h; cases h; rcases hty with h | h <;> exact absurd h (by decide))⟩⟩
      have hI := HI.out
      have hno : ∀ y ty u, One W y u ty → ty ≠ 110 → ty ≠ 113 → y ∉ w.heap.size :: v.ownBlock.toList := fun y ty u ho h1 h2 hs => by
        obtain ⟨cs, ty', fr, h, hty⟩ := hSty y hs
        have ho' : W.heap[y]? = _ := ho
        rw [ho'] at h
        cases h
        rcases hty with h | h
        · exact h1 h
        · exact h2 h
      refine ⟨⟨_, hv3, ?_⟩, One.touch hI.p tt (hno _ _ _ hI.p (by decide) (by decide)), One.touch hI.q tt (hno _ _ _ hI.q (by decide) (by decide)), hI.t.trans tt ?_, ?_⟩
      · rw [← HC.out]
        show pairRow _ _ _ (readsS c (m + 1))
        unfold pairRow
        rw [HST2.out, List.length_append, List.flatMap_append]
        simpa [pairC] using hr3
      · intro x hx
        rcases List.mem_cons.1 hx with rfl | hx
        · exact .inr (Nat.le_refl _)
        · exact .inr (HROW.out.lt x (by simpa using hx)).1
      · rw [← HC.out]
        refine HL2.out _ ?_
        have hlg := hI.log
        rw [← HC.out] at hlg
        exact hlg.touch tt (fun x hx => by obtain ⟨cs, ty, fr, h, hty⟩ := hSty x hx; exact .inr (.inr ⟨cs, ty, fr, h, by rcases hty with h | h <;> (rw [h]; decide), by rcases hty with h | h <;> (rw [h]; decide)⟩))
  case done =>
    rintro W hI hd
    obtain ⟨v, hv, hrow⟩ := hI.box
    rw [← HC.out] at hrow
    have hrow : pairRow W w.heap.size v (readsS c c.length) := hrow
    have c2 := hv.cell
    obtain ⟨ao3, cap3, rfl⟩ : ∃ ao cap, v = .slice ao (readsS c c.length).length cap := by
      rcases hrow.2 with ⟨rfl, h0⟩ | ⟨g, cap, cur, rfl, _⟩
      · exact ⟨none, 0, by rw [h0]⟩
      · exact ⟨_, _, rfl⟩
    have HROW : Hid (pairRow W w.heap.size (.slice ao3 (readsS c c.length).length cap3) (readsS c c.length)) := hrow
    have HT : Hid _ := hI.t
    have HSZ : Hid _ := hsz
    clear hrow hI hsz hv
    gi_wp2
    refine ⟨by simp, .inl ⟨_, _, rfl, run_takeDeferred hd, ?_⟩⟩
    have t1 : Touch W (W.putObj W1.heap.size (.deferred none)) [W1.heap.size] := (Touch.refl W [W1.heap.size]).putObj (.inl (by simp)) _
    refine ⟨_, results_tmp rfl _ _ _, _, rfl, ?_, HT.out.trans t1 (by intro x hx; simp at hx; have := HSZ.out; exact .inr (by omega))⟩
    rw [← HC.out]
    exact ownsRow_other HROW.out t1 hd rfl

end Go.Proofs.Ytjacclbifeoclaa

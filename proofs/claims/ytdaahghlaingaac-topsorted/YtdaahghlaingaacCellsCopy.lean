/-
  copy OF ELEMENTS OF MORE THAN ONE CELL, as a law for the walk; copied, Words, Log BY THEIR CONTRACTS.
-/
import Derived.Test.YtdaahghlaingaacCellsNew
namespace Go.Proofs.Ytdaahghlaingaac
set_option linter.unusedVariables false
set_option linter.unusedSimpArgs false
open Go.RowKit

theorem run_copy_full {P : Program} (w : World) (dT sT ty elem : TypeId) (size g n dCap : Nat) (v : Value) (base : Nat) (xs : List Value) (cur : Array Value)
    (hu : P.underlying dT = some (.slice elem)) (hs : (P.info? elem).map (·.size) = some size) (hown : w.ownsRow base elem size v n xs)
    (hg : w.heap[g]? = some (.cells cur elem (0, 0))) (hc : cur.size = n * size) (h1 : ∀ u ∈ xs, u.oneCell' = true) :
    (Builtin.copy_ #[dT, sT] ty #[.slice (some ⟨g, 0, none⟩) n dCap, v]).run P w = .ok (goInt n) (w.setRow g xs.toArray) := by
  have hst := run_storeCells_at P g 0 elem xs 0 cur w hg (by rw [hown.1, hc]; omega) h1
  have e : (cur.toList.take (0 + 0) ++ xs ++ cur.toList.drop (0 + 0 + xs.length)) = xs := by
    rw [List.drop_eq_nil_of_le (by rw [hown.1]; simp [hc])]
    simp
  rw [e] at hst
  cases hq : P.info? elem with
  | none => simp [hq] at hs
  | some i =>
    have hi : i.size = size := by simpa [hq] using hs
    rcases hown.2 with ⟨rfl, h0⟩ | ⟨g', cap, cur', rfl, _⟩
    · subst h0
      have hx : xs = [] := List.eq_nil_of_length_eq_zero (by simpa using hown.1)
      subst hx
      simp [Builtin.copy_, run_underlying hu, Builtin.lenOf, Builtin.firstCells, sizeOf, typeInfo, hq, hi, hst]
    · have hl := run_firstCells_some (P := P) w size n ⟨g', 0, none⟩ n cap xs hown.1 (hown.cells (g := g') rfl)
      simp [Builtin.copy_, run_underlying hu, Builtin.lenOf, sizeOf, typeInfo, hq, hi, hl, hst]

theorem wpList_copy_full {P : Program} {w : World} {ops : Array Oper} {rest : List Oper} {o : Oper} {a : Act} {Q : Exit → Act → World → Prop} (hgd : o.guard = none) (d s : Operand) (dT sT : TypeId)
    (ho : o.op = .call { callee := .builtin .copy, args := #[d, s], argTypes := #[dT, sT] }) (elem : TypeId) (size g n dCap : Nat) (v : Value) (base : Nat) (xs : List Value) (cur : Array Value)
    (hd : a.eval d = .slice (some ⟨g, 0, none⟩) n dCap) (hv : a.eval s = v)
    (hu : P.underlying dT = some (.slice elem)) (hs : (P.info? elem).map (·.size) = some size) (hown : w.ownsRow base elem size v n xs)
    (hg : w.heap[g]? = some (.cells cur elem (0, 0))) (hc : cur.size = n * size) (h1 : ∀ u ∈ xs, u.oneCell' = true)
    (h : wpList P ops Q rest (a.put o.dst (goInt n)) (w.setRow g xs.toArray)) : wpList P ops Q (o :: rest) a w := by
  refine wpList_plain hgd fun K hK => ?_
  have hrun := run_copy_full (P := P) w dT sT o.type elem size g n dCap v base xs cur hu hs hown hg hc h1
  unfold Oper.wp
  simp [execOp, ho, resolve, invoke, builtin, hd, hv, hrun, Result.andThen]
  exact hK _ _ h

/-- append OF A WHOLE SLICE (nil or not) TO A ROW OF THE CALL's OWN THAT IS NOT nil: the value written out, and where it lies. -/
theorem run_append_src {P : Program} (w : World) (t ty e : TypeId) (base : Nat) (i : TypeInfo) (z : Value) (size bytes : Nat) (ht : P.underlying t = some (.slice e)) (hi : P.info? e = some i) (hz : i.zero = some z)
    (hsize : i.size = size) (hby : i.bytes = bytes) (hzs : z.cells.size = size) (hsz : 0 < size)
    (g0 n c0 : Nat) (xs : List Value) (hown : w.ownsRow base e size (.slice (some ⟨g0, 0, none⟩) n c0) n xs)
    (v2 : Value) (base2 m : Nat) (news : List Value) (hsrc : w.ownsRow base2 e size v2 m news) (h1 : ∀ u ∈ news, u.oneCell' = true)
    (h63 : n + m ≤ maxLen) (hbytes : (n + m) * bytes ≤ 140737488355328) (hbase : base ≤ w.heap.size) :
    ∃ g cap w', (Builtin.append_ #[t, t] ty #[.slice (some ⟨g0, 0, none⟩) n c0, v2]).run P w = .ok (.slice (some ⟨g, 0, none⟩) (n + m) cap) w' ∧
      w'.ownsRow base e size (.slice (some ⟨g, 0, none⟩) (n + m) cap) (n + m) (xs ++ news) ∧ w.grownBy w' (some g0) ∧ (g = g0 ∨ g = w.heap.size) ∧ g < w'.heap.size := by
  rcases hsrc.2 with ⟨rfl, h0⟩ | ⟨g2, cap2, cur2, rfl, _⟩
  · subst h0
    have hx : news = [] := List.eq_nil_of_length_eq_zero (by simpa using hsrc.1)
    subst hx
    have hrun := run_append_owned_none (P := P) (w := w) base t ty e i size ht hi _ n xs hown
    refine ⟨g0, c0, w, hrun, by simpa using hown, ⟨rfl, rfl, rfl, Nat.le_refl _, fun _ _ _ => rfl⟩, .inl rfl, ?_⟩
    exact (hown.lt g0 rfl).2
  · obtain ⟨v', w', hr, h2, h3, h4, h5⟩ := run_append_own_at (P := P) w base t ty e i z size bytes ht hi hz hsize hby hzs hsz _ n xs hown ⟨g2, 0, none⟩ m cap2 news hsrc.1 (hsrc.cells (g := g2) rfl) h1 h63 hbytes hbase
    have hne : v' ≠ .slice none 0 0 := fun e => by have := h4.1 e; simp at this
    rcases h2.2 with ⟨e, _⟩ | ⟨g, cap, cur, rfl, _, hg, _⟩
    · exact absurd e hne
    · refine ⟨g, cap, w', hr, h2, h3, ?_, lt_of_heap hg⟩
      rcases h5 with h5 | h5
      · left; simpa [Value.ownBlock] using h5
      · right; simpa [Value.ownBlock] using h5

theorem wp_append_src {P : Program} {w : World} {o : Oper} {a : Act} {K : Act → World → Prop} {Q : Exit → Act → World → Prop} (s x : Operand) (t : TypeId)
    (ho : o.op = .call { callee := .builtin .append, args := #[s, x], argTypes := #[t, t] })
    (base : Nat) (e : TypeId) (i : TypeInfo) (z : Value) (size bytes : Nat) (ht : P.underlying t = some (.slice e)) (hi : P.info? e = some i) (hz : i.zero = some z)
    (hsize : i.size = size) (hby : i.bytes = bytes) (hzs : z.cells.size = size) (hsz : 0 < size)
    (g0 n c0 : Nat) (xs : List Value) (hs : a.eval s = .slice (some ⟨g0, 0, none⟩) n c0) (hown : w.ownsRow base e size (.slice (some ⟨g0, 0, none⟩) n c0) n xs)
    (v2 : Value) (base2 m : Nat) (news : List Value) (hx : a.eval x = v2) (hsrc : w.ownsRow base2 e size v2 m news) (h1 : ∀ u ∈ news, u.oneCell' = true)
    (h63 : n + m ≤ maxLen) (hbytes : (n + m) * bytes ≤ 140737488355328) (hbase : base ≤ w.heap.size)
    (h : ∀ g cap w', w'.ownsRow base e size (.slice (some ⟨g, 0, none⟩) (n + m) cap) (n + m) (xs ++ news) → w.grownBy w' (some g0) → (g = g0 ∨ g = w.heap.size) → g < w'.heap.size → K (a.put o.dst (.slice (some ⟨g, 0, none⟩) (n + m) cap)) w') : o.wp P a w K Q := by
  obtain ⟨g, cap, w', hr, h2, h3, h4, h5⟩ := run_append_src (P := P) w t o.type e base i z size bytes ht hi hz hsize hby hzs hsz g0 n c0 xs hown v2 base2 m news hsrc h1 h63 hbytes hbase
  unfold Oper.wp execOp
  simp only [ho, resolve, invoke, builtin, Sem.run_bind, Sem.run_pure, Result.andThen_ok, List.map_toArray, List.map_cons, List.map_nil, hs, hx, hr]
  exact h g cap w' h2 h3 h4 h5

theorem wpList_append_src {P : Program} {w : World} {ops : Array Oper} {rest : List Oper} {o : Oper} {a : Act} {Q : Exit → Act → World → Prop} (hgd : o.guard = none) (s x : Operand) (t : TypeId)
    (ho : o.op = .call { callee := .builtin .append, args := #[s, x], argTypes := #[t, t] })
    (base : Nat) (e : TypeId) (i : TypeInfo) (z : Value) (size bytes : Nat) (ht : P.underlying t = some (.slice e)) (hi : P.info? e = some i) (hz : i.zero = some z)
    (hsize : i.size = size) (hby : i.bytes = bytes) (hzs : z.cells.size = size) (hsz : 0 < size)
    (g0 n c0 : Nat) (xs : List Value) (hs : a.eval s = .slice (some ⟨g0, 0, none⟩) n c0) (hown : w.ownsRow base e size (.slice (some ⟨g0, 0, none⟩) n c0) n xs)
    (v2 : Value) (base2 m : Nat) (news : List Value) (hx : a.eval x = v2) (hsrc : w.ownsRow base2 e size v2 m news) (h1 : ∀ u ∈ news, u.oneCell' = true)
    (h63 : n + m ≤ maxLen) (hbytes : (n + m) * bytes ≤ 140737488355328) (hbase : base ≤ w.heap.size)
    (h : ∀ g cap w', w'.ownsRow base e size (.slice (some ⟨g, 0, none⟩) (n + m) cap) (n + m) (xs ++ news) → w.grownBy w' (some g0) → (g = g0 ∨ g = w.heap.size) → g < w'.heap.size → wpList P ops Q rest (a.put o.dst (.slice (some ⟨g, 0, none⟩) (n + m) cap)) w') : wpList P ops Q (o :: rest) a w :=
  wpList_plain hgd fun _ hK => wp_append_src s x t ho base e i z size bytes ht hi hz hsize hby hzs hsz g0 n c0 xs hs hown v2 base2 m news hx hsrc h1 h63 hbytes hbase fun g cap w' h2 h3 h4 h5 => hK _ _ (h g cap w' h2 h3 h4 h5)

theorem step_append_src {P : Program} {w : World} {ops : Array Oper} {o : Oper} {a : Act} {K : Act → World → Prop} {Q : Exit → Act → World → Prop} {E : Prop} (hgd : o.guard = none) (s x : Operand) (t : TypeId)
    (ho : o.op = .call { callee := .builtin .append, args := #[s, x], argTypes := #[t, t] })
    (base : Nat) (e : TypeId) (i : TypeInfo) (z : Value) (size bytes : Nat) (ht : P.underlying t = some (.slice e)) (hi : P.info? e = some i) (hz : i.zero = some z)
    (hsize : i.size = size) (hby : i.bytes = bytes) (hzs : z.cells.size = size) (hsz : 0 < size)
    (g0 n c0 : Nat) (xs : List Value) (hs : a.eval s = .slice (some ⟨g0, 0, none⟩) n c0) (hown : w.ownsRow base e size (.slice (some ⟨g0, 0, none⟩) n c0) n xs)
    (v2 : Value) (base2 m : Nat) (news : List Value) (hx : a.eval x = v2) (hsrc : w.ownsRow base2 e size v2 m news) (h1 : ∀ u ∈ news, u.oneCell' = true)
    (h63 : n + m ≤ maxLen) (hbytes : (n + m) * bytes ≤ 140737488355328) (hbase : base ≤ w.heap.size)
    (h : ∀ g cap w', w'.ownsRow base e size (.slice (some ⟨g, 0, none⟩) (n + m) cap) (n + m) (xs ++ news) → w.grownBy w' (some g0) → (g = g0 ∨ g = w.heap.size) → g < w'.heap.size → K (a.put o.dst (.slice (some ⟨g, 0, none⟩) (n + m) cap)) w') :
    if Region.wanted o (yielded ops a.tmps) = true then Oper.wp P o a w K Q else E := by
  have hw : Region.wanted o (yielded ops a.tmps) = true := by simp [Region.wanted, hgd]
  rw [if_pos hw]
  exact wp_append_src s x t ho base e i z size bytes ht hi hz hsize hby hzs hsz g0 n c0 xs hs hown v2 base2 m news hx hsrc h1 h63 hbytes hbase h

/-- A copy in new memory. -/
def CopyPost (E size : Nat) (w : World) (n : Nat) (xs : List Value) (e : Ending) (w' : World) : Prop :=
  e = .returned (.slice (some ⟨w.heap.size, 0, none⟩) n n) ∧ w'.ownsRow w.heap.size E size (.slice (some ⟨w.heap.size, 0, none⟩) n n) n xs ∧ Touch w w' []

theorem copy_made (w : World) (E size n : Nat) (cur : Array Value) (xs : List Value) (hx : xs.length = n * size) (hn : n ≤ maxLen) :
    ((w.alloc (.cells cur E)).setRow w.heap.size xs.toArray).ownsRow w.heap.size E size (.slice (some ⟨w.heap.size, 0, none⟩) n n) n xs ∧ Touch w ((w.alloc (.cells cur E)).setRow w.heap.size xs.toArray) [] := by
  refine ⟨⟨hx, .inr ⟨w.heap.size, n, xs.toArray, rfl, Nat.le_refl _, setRow_heap _ _ cur _ E _ (heap_alloc_new w _), Nat.le_refl _, hn, by simpa using hx, ?_⟩⟩, ?_⟩
  · rw [← hx]; simp
  · refine ((Touch.refl w []).alloc (.cells cur E)).trans (R := [w.heap.size]) ⟨rfl, rfl, rfl, by simp [World.setRow], fun k _ hk => setRow_other _ _ _ _ (by simpa using hk)⟩ (by simp)

theorem make_done (n : Nat) (hn : n ≤ 1000) (w : World) : ∃ cur, cur.size = n * 6 ∧ (Instr.makeSlice 45 (.int .i64 n) (.int .i64 n)).run Try.prog w = .ok (.slice (some ⟨w.heap.size, 0, none⟩) n n) (w.alloc (.cells cur 35)) := by
  obtain ⟨i, hi, hz, hs, hb⟩ := info_parts Try.info_done
  have e := run_make (P := Try.prog) w 45 35 i _ Try.underlying45 hi hz .i64 .i64 n n (by omega) (by omega) (by rw [hb]; omega) (by omega)
  rw [hs, Int.toNat_natCast] at e
  exact ⟨_, size_madeCells _ _, e⟩

theorem done_one {l : List DoneD} : ∀ u ∈ l.flatMap DoneD.cells, u.oneCell' = true := by
  intro u hu
  rw [List.mem_flatMap] at hu
  obtain ⟨d, _, hd⟩ := hu
  simp only [DoneD.cells, List.mem_cons, List.not_mem_nil, or_false] at hd
  rcases hd with rfl | rfl | rfl | rfl | rfl | rfl <;> rfl

theorem length_done {l : List DoneD} : (l.flatMap DoneD.cells).length = l.length * 6 := by
  induction l with
  | nil => rfl
  | cons d l ih => rw [List.flatMap_cons, List.length_append, ih, List.length_cons]; simp [DoneD.cells]; omega

set_option maxRecDepth 100000 in
theorem copied_u64 (B n : Nat) (v : Value) (zs : List Int) (w : World) (hn : n ≤ 1000) (hown : w.ownsRow B 31 1 v n (zs.map (Value.int .u64))) :
    Calls Try.prog 25 #[v] w (CopyPost 31 1 w n (zs.map (Value.int .u64))) := by
  obtain ⟨ao, cap, hv⟩ : ∃ ao cap, v = .slice ao n cap := by
    rcases hown.2 with ⟨rfl, h0⟩ | ⟨g, cap, cur, rfl, _⟩
    · exact ⟨none, 0, by rw [h0]⟩
    · exact ⟨_, _, rfl⟩
  have hmk := make_u64 n hn
  have HC : Hid _ := copy_made w 31 1 n (Array.replicate n (.int .u64 0)) (zs.map (Value.int .u64)) hown.1 (by unfold maxLen; omega)
  have h1 : Hid (∀ u ∈ zs.map (Value.int .u64), u.oneCell' = true) := by
    intro u hu
    rw [List.mem_map] at hu
    obtain ⟨x, _, rfl⟩ := hu
    rfl
  generalize zs.map (Value.int .u64) = xs at *
  subst hv
  go_enter Try.func25, Try.ntmps25
  go_wp2_with (refine wpList_copy_full rfl (.tmp 7) (.tmp 8) 43 43 rfl 31 1 w.heap.size n n _ B xs (Array.replicate n (.int .u64 0)) rfl rfl Try.underlying43 (by kernel_rfl) (hown.alloc _) (heap_alloc_new w _) (by simp) h1.out ?_)
  go_ret
  exact ⟨rfl, HC.out.1, HC.out.2⟩

set_option maxRecDepth 100000 in
theorem copied_done (B n : Nat) (v : Value) (l : List DoneD) (w : World) (hn : n ≤ 1000) (hown : w.ownsRow B 35 6 v n (l.flatMap DoneD.cells)) :
    Calls Try.prog 26 #[v] w (CopyPost 35 6 w n (l.flatMap DoneD.cells)) := by
  obtain ⟨ao, cap, hv⟩ : ∃ ao cap, v = .slice ao n cap := by
    rcases hown.2 with ⟨rfl, h0⟩ | ⟨g, cap, cur, rfl, _⟩
    · exact ⟨none, 0, by rw [h0]⟩
    · exact ⟨_, _, rfl⟩
  obtain ⟨cur, hcur, hmk⟩ := make_done n hn w
  have HC : Hid _ := copy_made w 35 6 n cur (l.flatMap DoneD.cells) hown.1 (by unfold maxLen; omega)
  have h1 : Hid (∀ u ∈ l.flatMap DoneD.cells, u.oneCell' = true) := done_one
  have HCU : Hid _ := hcur
  generalize l.flatMap DoneD.cells = xs at *
  subst hv
  clear hcur
  go_enter Try.func26, Try.ntmps26
  go_wp2_with (refine wpList_copy_full rfl (.tmp 7) (.tmp 8) 45 45 rfl 35 6 w.heap.size n n _ B xs cur rfl rfl Try.underlying45 (by kernel_rfl) (hown.alloc _) (heap_alloc_new w _) HCU.out h1.out ?_)
  go_ret
  exact ⟨rfl, HC.out.1, HC.out.2⟩

theorem words_any {B b : Nat} {w : World} {vw vl : Value} {ws : List Int} {lg : List DoneD} (h : CObj 66 B w b vw vl ws lg) (hn : ws.length ≤ 1000) :
    Calls Try.prog 15 #[.pointer (some ⟨b, 0, none⟩)] w (CopyPost 31 1 w ws.length (ws.map (Value.int .u64))) := by
  have hc := copied_u64 B ws.length vw ws w hn h.own
  obtain ⟨g, cap, hvw, _⟩ := h.words
  obtain ⟨s0, s1, f0, f1⟩ := cells_two h.st
  rw [hvw] at s0 hc
  go_enter Try.func15, Try.ntmps15
  go_wp2_with fail
  refine hc.mono ?_
  rintro e w' ⟨rfl, ho, t⟩
  clear hc
  go_wp2
  go_ret
  exact ⟨rfl, ho, t⟩

theorem log_any {B b : Nat} {w : World} {vw vl : Value} {ws : List Int} {lg : List DoneD} (h : CObj 66 B w b vw vl ws lg) (hn : lg.length ≤ 1000) :
    Calls Try.prog 16 #[.pointer (some ⟨b, 0, none⟩)] w (CopyPost 35 6 w lg.length (lg.flatMap DoneD.cells)) := by
  have hc := copied_done B lg.length vl lg w hn h.log
  obtain ⟨s0, s1, f0, f1⟩ := cells_two h.st
  obtain ⟨ao, cap, hvl⟩ := h.logForm
  rw [hvl] at s1 hc
  go_enter Try.func16, Try.ntmps16
  go_wp2_with fail
  refine hc.mono ?_
  rintro e w' ⟨rfl, ho, t⟩
  clear hc
  go_wp2
  go_ret
  exact ⟨rfl, ho, t⟩

end Go.Proofs.Ytdaahghlaingaac

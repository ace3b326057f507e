/-
  TopSorted: THE WALK.
-/
import Derived.Test.YtdaahghlaingaacCellsPlain
import Derived.Test.YtdaahghlaingaacValueLess
import Derived.Deep.CutBlock
import Derived.Deep.DeepCutAuto
import Derived.Deep.RegionLaw
import Derived.Deep.QuietTactic
import Derived.BigQuiet
namespace Go.Proofs.Ytdaahghlaingaac
set_option linter.unusedVariables false
set_option linter.unusedSimpArgs false
open Go.RowKit

/-- Each does not come ahead of the one before it. -/
def Rise : List Nat → Prop
  | [] => True
  | [_] => True
  | a :: b :: t => lessB b a = false ∧ Rise (b :: t)

theorem Rise.ins {v : Nat} : ∀ (xs : List Nat) (k : Nat), k ≤ xs.length → Rise xs → (∀ j (h : j < xs.length), j < k → lessB v xs[j] = false) → (∀ (h : k < xs.length), lessB v xs[k] = true) → Rise (xs.take k ++ v :: xs.drop k)
  | [], k, hk, _, _, _ => by
    have : k = 0 := by simpa using hk
    subst this; simp [Rise]
  | a :: t, 0, _, hr, _, h2 => by
    simp only [List.take_zero, List.drop_zero, List.nil_append]
    exact ⟨less_asym _ _ (h2 (by simp)), hr⟩
  | a :: t, k + 1, hk, hr, h1, h2 => by
    have ih := Rise.ins t k (by simpa using hk) (by cases t with | nil => trivial | cons b t => exact hr.2) (fun j hj hjk => by have := h1 (j + 1) (by simpa using hj) (by omega); simpa using this) (fun h => by have := h2 (by simpa using h); simpa using this)
    simp only [List.take_succ_cons, List.drop_succ_cons, List.cons_append]
    have h0 : lessB v a = false := by have := h1 0 (by simp) (by omega); simpa using this
    cases k with
    | zero => simp only [List.take_zero, List.drop_zero, List.nil_append] at ih ⊢; exact ⟨h0, ih⟩
    | succ k =>
      cases t with
      | nil => simp at hk
      | cons b t => simp only [List.take_succ_cons, List.cons_append] at ih ⊢; exact ⟨hr.1, ih⟩

theorem Rise.at : ∀ (xs : List Nat), Rise xs → ∀ k (h : k + 1 < xs.length), lessB xs[k + 1] xs[k] = false
  | a :: b :: t, hr, 0, _ => hr.1
  | a :: b :: t, hr, k + 1, h => by
    have := Rise.at (b :: t) hr.2 k (by simpa using h)
    simpa using this
  | [a], _, k, h => by simp at h
  | [], _, k, h => by simp at h

theorem Try.info_val : (Try.prog.info? 57).map (fun i => (i.zero, i.size, i.bytes)) = some (some (.int .u64 0), 1, 8) := by kernel_rfl

/-- The words of a list of bits. -/
def vals (xs : List Nat) : List Value := xs.map fun (x : Nat) => Value.int .u64 (x : Int)

theorem vals_one (xs : List Nat) : ∀ u ∈ vals xs, u.oneCell' = true := by
  intro u hu
  simp only [vals, List.mem_map] at hu
  obtain ⟨x, _, rfl⟩ := hu
  rfl

theorem ins_can {xs : List Nat} {v j : Nat} (h : ∀ x ∈ xs, ofB x = x ∧ x < 18446744073709551616) (hv : ofB v = v) (hl : v < 18446744073709551616) : ∀ x ∈ xs.take j ++ v :: xs.drop j, ofB x = x ∧ x < 18446744073709551616 := by
  intro x hx
  simp only [List.mem_append, List.mem_cons] at hx
  rcases hx with hx | rfl | hx
  · exact h x (List.mem_of_mem_take hx)
  · exact ⟨hv, hl⟩
  · exact h x (List.mem_of_mem_drop hx)

/-- A slice whose elements (of one cell each) can be read. -/
def Src (w : World) (v : Value) (m : Nat) (news : List Value) : Prop :=
  news.length = m ∧ ((v = .slice none 0 0 ∧ m = 0) ∨ ∃ ad c, v = .slice (some ad) m c ∧ ∀ j u, news[j]? = some u → w.cell? (ad.add j) = some u)

theorem run_append_any {P : Program} (w : World) (t ty e : TypeId) (base : Nat) (i : TypeInfo) (z : Value) (bytes : Nat) (ht : P.underlying t = some (.slice e)) (hi : P.info? e = some i) (hz : i.zero = some z)
    (hsize : i.size = 1) (hby : i.bytes = bytes) (hzs : z.cells.size = 1)
    (g0 n c0 : Nat) (xs : List Value) (hown : w.ownsRow base e 1 (.slice (some ⟨g0, 0, none⟩) n c0) n xs)
    (v2 : Value) (m : Nat) (news : List Value) (hsrc : Src w v2 m news) (h1 : ∀ u ∈ news, u.oneCell' = true)
    (h63 : n + m ≤ maxLen) (hbytes : (n + m) * bytes ≤ 140737488355328) (hbase : base ≤ w.heap.size) :
    ∃ g cap w', (Builtin.append_ #[t, t] ty #[.slice (some ⟨g0, 0, none⟩) n c0, v2]).run P w = .ok (.slice (some ⟨g, 0, none⟩) (n + m) cap) w' ∧
      w'.ownsRow base e 1 (.slice (some ⟨g, 0, none⟩) (n + m) cap) (n + m) (xs ++ news) ∧ w.grownBy w' (some g0) ∧ (g = g0 ∨ g = w.heap.size) ∧ g < w'.heap.size := by
  obtain ⟨hlen, hs⟩ := hsrc
  rcases hs with ⟨rfl, h0⟩ | ⟨ad, c, rfl, hc⟩
  · subst h0
    have hx : news = [] := List.eq_nil_of_length_eq_zero hlen
    subst hx
    have hrun := run_append_owned_none (P := P) (w := w) base t ty e i 1 ht hi _ n xs hown
    exact ⟨g0, c0, w, hrun, by simpa using hown, ⟨rfl, rfl, rfl, Nat.le_refl _, fun _ _ _ => rfl⟩, .inl rfl, (hown.lt g0 rfl).2⟩
  · obtain ⟨v', w', hr, h2, h3, h4, h5⟩ := run_append_own_at (P := P) w base t ty e i z 1 bytes ht hi hz hsize hby hzs (by omega) _ n xs hown ad m c news (by omega) hc h1 h63 hbytes hbase
    have hne : v' ≠ .slice none 0 0 := fun e => by have := h4.1 e; simp at this
    rcases h2.2 with ⟨e, _⟩ | ⟨g, cap, cur, rfl, _, hg, _⟩
    · exact absurd e hne
    · refine ⟨g, cap, w', hr, h2, h3, ?_, lt_of_heap hg⟩
      rcases h5 with h5 | h5
      · left; simpa [Value.ownBlock] using h5
      · right; simpa [Value.ownBlock] using h5

theorem step_append_any {P : Program} {w : World} {ops : Array Oper} {o : Oper} {a : Act} {K : Act → World → Prop} {Q : Exit → Act → World → Prop} {E : Prop} (hgd : o.guard = none) (s x : Operand) (t : TypeId)
    (ho : o.op = .call { callee := .builtin .append, args := #[s, x], argTypes := #[t, t] })
    (base : Nat) (e : TypeId) (i : TypeInfo) (z : Value) (bytes : Nat) (ht : P.underlying t = some (.slice e)) (hi : P.info? e = some i) (hz : i.zero = some z)
    (hsize : i.size = 1) (hby : i.bytes = bytes) (hzs : z.cells.size = 1)
    (g0 n c0 : Nat) (xs : List Value) (hs : a.eval s = .slice (some ⟨g0, 0, none⟩) n c0) (hown : w.ownsRow base e 1 (.slice (some ⟨g0, 0, none⟩) n c0) n xs)
    (v2 : Value) (m : Nat) (news : List Value) (hx : a.eval x = v2) (hsrc : Src w v2 m news) (h1 : ∀ u ∈ news, u.oneCell' = true)
    (h63 : n + m ≤ maxLen) (hbytes : (n + m) * bytes ≤ 140737488355328) (hbase : base ≤ w.heap.size)
    (h : ∀ g cap w', w'.ownsRow base e 1 (.slice (some ⟨g, 0, none⟩) (n + m) cap) (n + m) (xs ++ news) → w.grownBy w' (some g0) → (g = g0 ∨ g = w.heap.size) → g < w'.heap.size → K (a.put o.dst (.slice (some ⟨g, 0, none⟩) (n + m) cap)) w') :
    if Region.wanted o (yielded ops a.tmps) = true then Oper.wp P o a w K Q else E := by
  have hw : Region.wanted o (yielded ops a.tmps) = true := by simp [Region.wanted, hgd]
  rw [if_pos hw]
  obtain ⟨g, cap, w', hr, h2, h3, h4, h5⟩ := run_append_any (P := P) w t o.type e base i z bytes ht hi hz hsize hby hzs g0 n c0 xs hown v2 m news hsrc h1 h63 hbytes hbase
  unfold Oper.wp execOp
  simp only [ho, resolve, invoke, builtin, Sem.run_bind, Sem.run_pure, Result.andThen_ok, List.map_toArray, List.map_cons, List.map_nil, hs, hx, hr]
  exact h g cap w' h2 h3 h4 h5

theorem src_one {w : World} {E : Nat} {v : Value} {t : TypeId} (h : w.heap[E]? = some (.cells #[v] t (0, 0))) : Src w (.slice (some ⟨E, 0, none⟩) 1 1) 1 [v] :=
  ⟨rfl, .inr ⟨⟨E, 0, none⟩, 1, rfl, World.news_of_block (cs := #[v]) h⟩⟩

/-- A readable slice stays so. -/
theorem Src.touch {w w' : World} {v : Value} {m : Nat} {news : List Value} (h : Src w v m news) (t : Touch w w' []) : Src w' v m news := by
  refine ⟨h.1, h.2.imp id ?_⟩
  rintro ⟨ad, c, e, hc⟩
  exact ⟨ad, c, e, fun j u hu => (t.cell (World.block_lt_of_cell? w _ (hc j u hu)) (by simp)).trans (hc j u hu)⟩

/-- What the insertion leaves. -/
def Ins (w wr : World) (xs : List Nat) (v j : Nat) (s : Value) (wx : World) : Prop :=
  wx.ownsRow w.heap.size 57 1 s (xs.length + 1) (vals (xs.take j ++ v :: xs.drop j)) ∧ Touch wr wx []

set_option maxRecDepth 100000 in
set_option maxHeartbeats 3200000 in
theorem sorted_any (ao : Option Addr) (N cap : Nat) (w : World) (ls : List Nat) (hN : ls.length = N) (hNm : N ≤ maxLen) (hls : ∀ x ∈ ls, x < 18446744073709551616) (hr : 0 < N → ∃ g off, ao = some ⟨g, off, none⟩ ∧ g < w.heap.size ∧ ∀ k (h : k < ls.length), w.cell? ⟨g, off + k, none⟩ = some (.int .u64 (ls[k] : Nat))) :
    Calls Try.prog 6 #[.slice ao N cap] w fun e w' => e = .returned (.bool true) ∧ Below w.heap.size w w' := by
  unfold maxLen at hNm
  go_enter Try.func6, Try.ntmps6
  go_wp2_with fail
  go_loopw [3, 4] (fun s i wr => ∃ (k : Nat) (xs : List Nat), i = .int .i64 k ∧ k ≤ N ∧ k ≤ 20 ∧ xs.length = k ∧ Rise xs ∧ (∀ x ∈ xs, ofB x = x ∧ x < 18446744073709551616) ∧ wr.ownsRow w.heap.size 57 1 s k (vals xs) ∧ Touch w wr []) (fun _ i _ => 20 - (intOf i).toNat)
  case atStart => exact ⟨0, [], rfl, Nat.zero_le _, by omega, rfl, trivial, by simp, World.ownsRow_nil _ _ _ _, Touch.refl _ _⟩
  case round =>
    obtain ⟨k, xs, rfl, hk, hk20, hxl, hrise, hcan, hown, t⟩ := hrel
    by_cases hlt : k < N ∧ k < 20
    · obtain ⟨hlt, hlt2⟩ := hlt
      have hlt' : (k : Int) < N := by omega
      have hlt2' : (k : Int) < 20 := by omega
      obtain ⟨g0, off, rfl, hg0, hp⟩ := hr (by omega)
      have hc0 := (t.cell (p := ⟨g0, off + k, none⟩) hg0 (by simp)).trans (hp k (by omega))
      have hcan0 := canon_any (ls[k]'(by omega) : Nat) wr
      rw [Int.toNat_natCast] at hcan0
      obtain ⟨v, hv⟩ : ∃ v, v = ofB (ls[k]'(by omega)) := ⟨_, rfl⟩
      have hvc : ofB v = v := by rw [hv]; exact ofB_idem _
      have hvl : v < 18446744073709551616 := by rw [hv]; exact ofB_lt _ (hls _ (List.getElem_mem _))
      rw [← hv] at hcan0
      generalize (ls[k]'(by omega) : Nat) = lk at *
      have HR : Hid _ := hrise
      have HCN : Hid _ := hcan
      have HVC : Hid (ofB v = v) := hvc
      clear hv hp hr hrise hcan hvc
      go_wp2_with fail
      refine hcan0.mono ?_
      rintro e w1 ⟨rfl, rfl⟩
      clear hcan0
      obtain ⟨so, sc, hs, hsc⟩ : ∃ (so : Option Addr) (sc : Nat), u3 = .slice so k sc ∧ ((so = none ∧ k = 0 ∧ sc = 0) ∨ ∃ g, so = some ⟨g, 0, none⟩ ∧ k ≤ sc ∧ sc ≤ maxLen) := by
        rcases hown.2 with ⟨rfl, h0⟩ | ⟨g, cap', cur, rfl, hgb, hg, h1, h2, _⟩
        · exact ⟨none, 0, by rw [h0], .inl ⟨rfl, h0, rfl⟩⟩
        · exact ⟨_, cap', rfl, .inr ⟨g, rfl, h1, h2⟩⟩
      subst hs
      have HOW : Hid (wr.ownsRow w.heap.size 57 1 (.slice so k sc) k (vals xs)) := hown
      have HSC : Hid _ := hsc
      clear hown hsc
      go_upto_block 2 with fail
      go_cut [6] (fun i wx => ∃ j : Nat, i = .int .i64 j ∧ j ≤ k ∧ (∀ q (h : q < xs.length), q < j → lessB v xs[q] = false) ∧ (∀ h : j < xs.length, lessB v xs[j] = true) ∧ wr = wx)
      case first =>
        go_wp2_with fail
        go_loop [6] (fun i => ∃ j : Nat, i = .int .i64 j ∧ j ≤ k ∧ ∀ q (h : q < xs.length), q < j → lessB v xs[q] = false) (fun i => k - (intOf i).toNat)
        case atStart => exact ⟨0, rfl, Nat.zero_le _, fun q h h' => by omega⟩
        case round =>
          obtain ⟨j, rfl, hj, hno⟩ := hrel
          by_cases hjk : j < k
          · have hjk' : (j : Int) < k := by omega
            obtain ⟨g, rfl, _, _⟩ : ∃ g, so = some ⟨g, 0, none⟩ ∧ k ≤ sc ∧ sc ≤ maxLen := by
              rcases HSC.out with ⟨_, h, _⟩ | h
              · omega
              · exact h
            have hcj : wr.cell? ⟨g, j, none⟩ = some (.int .u64 ((xs[j]'(by omega) : Nat) : Int)) := by
              rw [HOW.out.cellAt j (by omega)]; simp [vals, show j < xs.length by omega]
            have hle := less_any v (xs[j]'(by omega) : Nat) wr
            rw [Int.toNat_natCast, Int.toNat_natCast, HVC.out, (HCN.out _ (List.getElem_mem (show j < xs.length by omega))).1] at hle
            go_wp2_with fail
            refine hle.mono ?_
            rintro e w1 ⟨rfl, rfl⟩
            clear hle
            cases hq : lessB v (xs[j]'(by omega)) with
            | false =>
              have hno' : ∀ q (h : q < xs.length), q < j + 1 → lessB v xs[q] = false := fun q h h' => by
                rcases Nat.lt_or_ge q j with h1 | h1
                · exact hno q h h1
                · have : q = j := by omega
                  subst this; exact hq
              have HNO : Hid _ := hno'
              clear hno hno' hcj
              go_wp2
              go_round
              case rel => exact ⟨j + 1, by go_num, by omega, HNO.out⟩
              case measure => simp [intOf] <;> omega
            | true =>
              have HNO : Hid _ := hno
              have HQ : Hid _ := hq
              clear hno hcj
              go_wp2
              go_meet
              case rel => exact ⟨j, rfl, by omega, HNO.out, fun h => HQ.out, rfl⟩
          · have HNO : Hid _ := hno
            clear hno
            go_wp2
            go_meet
            case rel => exact ⟨j, rfl, by omega, HNO.out, fun h => by omega, rfl⟩
      case rest =>
        obtain ⟨j, rfl, hj, hno, hyes, rfl⟩ := hcut
        have HNEW : Hid (Rise (xs.take j ++ v :: xs.drop j)) := Rise.ins (v := v) xs j (by omega) HR.out hno hyes
        clear hno hyes
        go_upto_region 9 with fail
        obtain ⟨i0, hi0, hz0, hz1, hz2⟩ := info_parts Try.info_val
        have hBw : w.heap.size ≤ wr.heap.size := t.size
        have H1 : Hid (∀ u ∈ vals (xs.take j), u.oneCell' = true) := vals_one _
        have H2 : Hid (∀ u ∈ vals (xs.drop j), u.oneCell' = true) := vals_one _
        have OE : ∀ (X : World) (c : Array Value), c.size = 0 → w.heap.size ≤ X.heap.size → (X.alloc (.cells c 57)).ownsRow w.heap.size 57 1 (.slice (some ⟨X.heap.size, 0, none⟩) 0 0) 0 [] := fun X c hc hX => World.ownsRow_made X c 0 hX (by decide) (by simpa using hc)
        have OE' : ∀ (o : Obj) (c : Array Value), c.size = 0 → ((wr.alloc o).alloc (.cells c 57)).ownsRow w.heap.size 57 1 (.slice (some ⟨wr.heap.size + 1, 0, none⟩) 0 0) 0 [] := fun o c hc => by
          have := OE (wr.alloc o) c hc (by simp; omega)
          simpa using this
        have hl1 : 0 + j ≤ maxLen := by unfold maxLen; omega
        have hl2 : (0 + j) * 8 ≤ 140737488355328 := by omega
        have hl3 : j + 1 ≤ maxLen := by unfold maxLen; omega
        have hl4 : (j + 1) * 8 ≤ 140737488355328 := by omega
        have hl5 : j + 1 + (k - j) ≤ maxLen := by unfold maxLen; omega
        have hl6 : (j + 1 + (k - j)) * 8 ≤ 140737488355328 := by omega
        rcases HSC.out with ⟨rfl, rfl, rfl⟩ | ⟨g, rfl, hks, hsm⟩
        · have hj0 : j = 0 := by omega
          subst hj0
          have hx0 : xs = [] := List.eq_nil_of_length_eq_zero hxl
          have HS1 : Hid (∀ X, Touch wr X [] → Src X (.slice none 0 0) 0 (vals (xs.take 0))) := fun X tX => ⟨rfl, .inl ⟨rfl, rfl⟩⟩
          have HS2 : Hid (∀ X, Touch wr X [] → Src X (.slice none 0 0) (0 - 0) (vals (xs.drop 0))) := fun X tX => ⟨by rw [hx0]; rfl, .inl ⟨rfl, rfl⟩⟩
          -- nil
          go_region_law (first | (refine step_append_any (by rfl) (.tmp 38) (.tmp 41) 56 (by rfl) w.heap.size 57 i0 _ 8 Try.underlying56 hi0 hz0 hz1 hz2 rfl (wr.heap.size) 0 0 [] (by rfl) (OE wr #[] rfl hBw).drew _ 0 (vals (xs.take 0)) (by rfl) (HS1.out _ (((Touch.refl wr []).alloc _).drew)) H1.out hl1 hl2 (by simp; omega) ?_; intro g1 cap1 w1 hown1 hgrow1 hat1 hlt1; (try simp only [Nat.zero_add, List.nil_append] at hown1); have tw : Touch wr w1 [] := ((Touch.refl wr []).alloc _).drew.grown hgrow1 (fun q hq => .inr (by (try simp at hq); omega)); have hg1 : wr.heap.size ≤ g1 := hat1.elim (fun e => by omega) (fun e => by (try simp at e); omega)) | (refine step_append_any (by rfl) (.tmp 38) (.tmp 41) 56 (by rfl) w.heap.size 57 i0 _ 8 Try.underlying56 hi0 hz0 hz1 hz2 rfl (wr.heap.size) 0 0 [] (by rfl) ((OE wr #[] rfl hBw).alloc _).drew _ 0 (vals (xs.take 0)) (by rfl) (HS1.out _ ((((Touch.refl wr []).alloc _).alloc _).drew)) H1.out hl1 hl2 (by simp; omega) ?_; intro g1 cap1 w1 hown1 hgrow1 hat1 hlt1; (try simp only [Nat.zero_add, List.nil_append] at hown1); have tw : Touch wr w1 [] := (((Touch.refl wr []).alloc _).alloc _).drew.grown hgrow1 (fun q hq => .inr (by (try simp at hq); omega)); have hg1 : wr.heap.size ≤ g1 := hat1.elim (fun e => by omega) (fun e => by (try simp at e); omega); have hE : w1.heap[wr.heap.size + 1]? = _ := (hgrow1.block (wr.heap.size + 1) (by simp) (by simp)).trans (heap_two wr _ _).2) | (refine step_append_any (by rfl) (.tmp 38) (.tmp 41) 56 (by rfl) w.heap.size 57 i0 _ 8 Try.underlying56 hi0 hz0 hz1 hz2 rfl (wr.heap.size + 1) 0 0 [] (by rfl) (OE' _ #[] rfl).drew _ 0 (vals (xs.take 0)) (by rfl) (HS1.out _ ((((Touch.refl wr []).alloc _).alloc _).drew)) H1.out hl1 hl2 (by simp; omega) ?_; intro g1 cap1 w1 hown1 hgrow1 hat1 hlt1; (try simp only [Nat.zero_add, List.nil_append] at hown1); have tw : Touch wr w1 [] := (((Touch.refl wr []).alloc _).alloc _).drew.grown hgrow1 (fun q hq => .inr (by (try simp at hq); omega)); have hg1 : wr.heap.size ≤ g1 := hat1.elim (fun e => by omega) (fun e => by (try simp at e); omega); have hE : w1.heap[wr.heap.size]? = _ := (hgrow1.block wr.heap.size (by simp <;> omega) (by simp <;> omega)).trans (heap_two wr _ _).1) | (have hB1 : w.heap.size ≤ (w1.alloc (.cells #[.int .u64 (v : Int)] 57)).heap.size := (by have := tw.size; simp; omega); refine step_append_any (by rfl) (.tmp 42) (.tmp 44) 56 (by rfl) w.heap.size 57 i0 _ 8 Try.underlying56 hi0 hz0 hz1 hz2 rfl (g1) 0 cap1 (vals (xs.take 0)) (by rfl) (hown1.alloc _) (.slice (some ⟨w1.heap.size, 0, none⟩) 1 1) 1 [.int .u64 (v : Int)] (by rfl) (src_one (heap_alloc_new w1 _)) (by simp [Value.oneCell']) hl3 hl4 hB1 ?_; intro g2 cap2 w2 hown2 hgrow2 hat2 hlt2; have tw2 : Touch wr w2 [] := (tw.alloc _).grown hgrow2 (fun q hq => .inr (by (try simp at hq); omega)); have hg2 : wr.heap.size ≤ g2 := hat2.elim (fun e => by omega) (fun e => by have := tw.size; (try simp at e); omega)) | (have hB1 : w.heap.size ≤ w1.heap.size := Nat.le_trans hBw tw.size; refine step_append_any (by rfl) (.tmp 42) (.tmp 44) 56 (by rfl) w.heap.size 57 i0 _ 8 Try.underlying56 hi0 hz0 hz1 hz2 rfl (g1) 0 cap1 (vals (xs.take 0)) (by rfl) hown1 (.slice (some ⟨wr.heap.size + 1, 0, none⟩) 1 1) 1 [.int .u64 (v : Int)] (by rfl) (src_one hE) (by simp [Value.oneCell']) hl3 hl4 hB1 ?_; intro g2 cap2 w2 hown2 hgrow2 hat2 hlt2; have tw2 : Touch wr w2 [] := tw.grown hgrow2 (fun q hq => .inr (by (try simp at hq); omega)); have hg2 : wr.heap.size ≤ g2 := hat2.elim (fun e => by omega) (fun e => by have := tw.size; (try simp at e); omega)) | (have hB1 : w.heap.size ≤ w1.heap.size := Nat.le_trans hBw tw.size; refine step_append_any (by rfl) (.tmp 42) (.tmp 44) 56 (by rfl) w.heap.size 57 i0 _ 8 Try.underlying56 hi0 hz0 hz1 hz2 rfl (g1) 0 cap1 (vals (xs.take 0)) (by rfl) hown1 (.slice (some ⟨wr.heap.size, 0, none⟩) 1 1) 1 [.int .u64 (v : Int)] (by rfl) (src_one hE) (by simp [Value.oneCell']) hl3 hl4 hB1 ?_; intro g2 cap2 w2 hown2 hgrow2 hat2 hlt2; have tw2 : Touch wr w2 [] := tw.grown hgrow2 (fun q hq => .inr (by (try simp at hq); omega)); have hg2 : wr.heap.size ≤ g2 := hat2.elim (fun e => by omega) (fun e => by have := tw.size; (try simp at e); omega)) | (have hB2 : w.heap.size ≤ w2.heap.size := Nat.le_trans hBw tw2.size; refine step_append_any (by rfl) (.tmp 45) (.tmp 48) 56 (by rfl) w.heap.size 57 i0 _ 8 Try.underlying56 hi0 hz0 hz1 hz2 rfl (g2) (0 + 1) cap2 (vals (xs.take 0) ++ [.int .u64 (v : Int)]) (by rfl) hown2 _ (0 - 0) (vals (xs.drop 0)) (by rfl) (HS2.out _ tw2) H2.out hl5 hl6 hB2 ?_; intro g3 cap3 w3 hown3 hgrow3 hat3 hlt3; have tw3 : Touch wr w3 [] := tw2.grown hgrow3 (fun q hq => .inr (by (try simp at hq); omega))))
          all_goals
            have hfin : w3.ownsRow w.heap.size 57 1 (.slice (some ⟨g3, 0, none⟩) (0 + 1) cap3) (0 + 1) (vals (xs.take 0 ++ v :: xs.drop 0)) := by
              have e2 : vals (xs.take 0) ++ [.int .u64 (v : Int)] ++ vals (xs.drop 0) = vals (xs.take 0 ++ v :: xs.drop 0) := by simp [vals]
              rw [e2] at hown3
              exact hown3
            have HF : Hid _ := hfin
            have HT3 : Hid (Touch w w3 []) := t.trans tw3 (by simp)
            clear hfin hown1 hown2 hown3 hgrow1 hgrow2 hgrow3 tw tw2 tw3 OE OE'
            go_wp2
            go_roundw
            case rel => exact ⟨0 + 1, xs.take 0 ++ v :: xs.drop 0, by go_num, by omega, by omega, by simp; omega, HNEW.out, ins_can HCN.out HVC.out hvl, HF.out, HT3.out⟩
            case measure => simp [intOf] <;> omega
        · unfold maxLen at hsm
          have hj1 : (0 : Int) ≤ (j : Int) := by omega
          have hj2 : (j : Int) ≤ (k : Int) := by omega
          have hj3 : j ≤ sc := by omega
          have hcell : ∀ q (h : q < xs.length), wr.cell? ⟨g, q, none⟩ = some (.int .u64 (xs[q] : Nat)) := fun q h => by
            rw [HOW.out.cellAt q (by omega)]; simp [vals, h]
          obtain ⟨A, hA, hAc⟩ : ∃ A : Addr, (if sc = j then some (⟨g, 0, none⟩ : Addr) else some ⟨g, j, none⟩) = some A ∧ Hid (∀ q u, (vals (xs.drop j))[q]? = some u → wr.cell? (A.add q) = some u) := by
            by_cases h : sc = j
            · refine ⟨⟨g, 0, none⟩, by simp [h], fun q u hu => ?_⟩
              rw [List.drop_eq_nil_of_le (by omega)] at hu
              simp [vals] at hu
            · refine ⟨⟨g, j, none⟩, by simp [h], fun q u hu => ?_⟩
              simp only [vals, List.getElem?_map, List.getElem?_drop, Option.map_eq_some_iff] at hu
              obtain ⟨x, hx, rfl⟩ := hu
              obtain ⟨hlt3, hx'⟩ := List.getElem?_eq_some_iff.1 hx
              rw [Addr.add_lit, hcell _ hlt3, hx']
          have HS1 : Hid (∀ X, Touch wr X [] → Src X (.slice (some ⟨g, 0, none⟩) j sc) j (vals (xs.take j))) := fun X tX => Src.touch ⟨by simp [vals]; omega, .inr ⟨⟨g, 0, none⟩, sc, rfl, fun q u hu => by
            simp only [vals, List.getElem?_map, List.getElem?_take, Option.map_eq_some_iff] at hu
            obtain ⟨x, hx, rfl⟩ := hu
            split at hx
            · obtain ⟨hlt3, hx'⟩ := List.getElem?_eq_some_iff.1 hx
              rw [Addr.add_lit, Nat.zero_add, hcell _ hlt3, hx']
            · cases hx⟩⟩ tX
          have HS2 : Hid (∀ X, Touch wr X [] → Src X (.slice (some A) (k - j) (sc - j)) (k - j) (vals (xs.drop j))) := fun X tX => Src.touch ⟨by simp [vals]; omega, .inr ⟨A, sc - j, rfl, hAc.out⟩⟩ tX
          clear hcell hAc
          go_region_law (first | (refine step_append_any (by rfl) (.tmp 38) (.tmp 41) 56 (by rfl) w.heap.size 57 i0 _ 8 Try.underlying56 hi0 hz0 hz1 hz2 rfl (wr.heap.size) 0 0 [] (by rfl) (OE wr #[] rfl hBw).drew _ j (vals (xs.take j)) (by rfl) (HS1.out _ (((Touch.refl wr []).alloc _).drew)) H1.out hl1 hl2 (by simp; omega) ?_; intro g1 cap1 w1 hown1 hgrow1 hat1 hlt1; (try simp only [Nat.zero_add, List.nil_append] at hown1); have tw : Touch wr w1 [] := ((Touch.refl wr []).alloc _).drew.grown hgrow1 (fun q hq => .inr (by (try simp at hq); omega)); have hg1 : wr.heap.size ≤ g1 := hat1.elim (fun e => by omega) (fun e => by (try simp at e); omega)) | (refine step_append_any (by rfl) (.tmp 38) (.tmp 41) 56 (by rfl) w.heap.size 57 i0 _ 8 Try.underlying56 hi0 hz0 hz1 hz2 rfl (wr.heap.size) 0 0 [] (by rfl) ((OE wr #[] rfl hBw).alloc _).drew _ j (vals (xs.take j)) (by rfl) (HS1.out _ ((((Touch.refl wr []).alloc _).alloc _).drew)) H1.out hl1 hl2 (by simp; omega) ?_; intro g1 cap1 w1 hown1 hgrow1 hat1 hlt1; (try simp only [Nat.zero_add, List.nil_append] at hown1); have tw : Touch wr w1 [] := (((Touch.refl wr []).alloc _).alloc _).drew.grown hgrow1 (fun q hq => .inr (by (try simp at hq); omega)); have hg1 : wr.heap.size ≤ g1 := hat1.elim (fun e => by omega) (fun e => by (try simp at e); omega); have hE : w1.heap[wr.heap.size + 1]? = _ := (hgrow1.block (wr.heap.size + 1) (by simp) (by simp)).trans (heap_two wr _ _).2) | (refine step_append_any (by rfl) (.tmp 38) (.tmp 41) 56 (by rfl) w.heap.size 57 i0 _ 8 Try.underlying56 hi0 hz0 hz1 hz2 rfl (wr.heap.size + 1) 0 0 [] (by rfl) (OE' _ #[] rfl).drew _ j (vals (xs.take j)) (by rfl) (HS1.out _ ((((Touch.refl wr []).alloc _).alloc _).drew)) H1.out hl1 hl2 (by simp; omega) ?_; intro g1 cap1 w1 hown1 hgrow1 hat1 hlt1; (try simp only [Nat.zero_add, List.nil_append] at hown1); have tw : Touch wr w1 [] := (((Touch.refl wr []).alloc _).alloc _).drew.grown hgrow1 (fun q hq => .inr (by (try simp at hq); omega)); have hg1 : wr.heap.size ≤ g1 := hat1.elim (fun e => by omega) (fun e => by (try simp at e); omega); have hE : w1.heap[wr.heap.size]? = _ := (hgrow1.block wr.heap.size (by simp <;> omega) (by simp <;> omega)).trans (heap_two wr _ _).1) | (have hB1 : w.heap.size ≤ (w1.alloc (.cells #[.int .u64 (v : Int)] 57)).heap.size := (by have := tw.size; simp; omega); refine step_append_any (by rfl) (.tmp 42) (.tmp 44) 56 (by rfl) w.heap.size 57 i0 _ 8 Try.underlying56 hi0 hz0 hz1 hz2 rfl (g1) j cap1 (vals (xs.take j)) (by rfl) (hown1.alloc _) (.slice (some ⟨w1.heap.size, 0, none⟩) 1 1) 1 [.int .u64 (v : Int)] (by rfl) (src_one (heap_alloc_new w1 _)) (by simp [Value.oneCell']) hl3 hl4 hB1 ?_; intro g2 cap2 w2 hown2 hgrow2 hat2 hlt2; have tw2 : Touch wr w2 [] := (tw.alloc _).grown hgrow2 (fun q hq => .inr (by (try simp at hq); omega)); have hg2 : wr.heap.size ≤ g2 := hat2.elim (fun e => by omega) (fun e => by have := tw.size; (try simp at e); omega)) | (have hB1 : w.heap.size ≤ w1.heap.size := Nat.le_trans hBw tw.size; refine step_append_any (by rfl) (.tmp 42) (.tmp 44) 56 (by rfl) w.heap.size 57 i0 _ 8 Try.underlying56 hi0 hz0 hz1 hz2 rfl (g1) j cap1 (vals (xs.take j)) (by rfl) hown1 (.slice (some ⟨wr.heap.size + 1, 0, none⟩) 1 1) 1 [.int .u64 (v : Int)] (by rfl) (src_one hE) (by simp [Value.oneCell']) hl3 hl4 hB1 ?_; intro g2 cap2 w2 hown2 hgrow2 hat2 hlt2; have tw2 : Touch wr w2 [] := tw.grown hgrow2 (fun q hq => .inr (by (try simp at hq); omega)); have hg2 : wr.heap.size ≤ g2 := hat2.elim (fun e => by omega) (fun e => by have := tw.size; (try simp at e); omega)) | (have hB1 : w.heap.size ≤ w1.heap.size := Nat.le_trans hBw tw.size; refine step_append_any (by rfl) (.tmp 42) (.tmp 44) 56 (by rfl) w.heap.size 57 i0 _ 8 Try.underlying56 hi0 hz0 hz1 hz2 rfl (g1) j cap1 (vals (xs.take j)) (by rfl) hown1 (.slice (some ⟨wr.heap.size, 0, none⟩) 1 1) 1 [.int .u64 (v : Int)] (by rfl) (src_one hE) (by simp [Value.oneCell']) hl3 hl4 hB1 ?_; intro g2 cap2 w2 hown2 hgrow2 hat2 hlt2; have tw2 : Touch wr w2 [] := tw.grown hgrow2 (fun q hq => .inr (by (try simp at hq); omega)); have hg2 : wr.heap.size ≤ g2 := hat2.elim (fun e => by omega) (fun e => by have := tw.size; (try simp at e); omega)) | (have hB2 : w.heap.size ≤ w2.heap.size := Nat.le_trans hBw tw2.size; refine step_append_any (by rfl) (.tmp 45) (.tmp 48) 56 (by rfl) w.heap.size 57 i0 _ 8 Try.underlying56 hi0 hz0 hz1 hz2 rfl (g2) (j + 1) cap2 (vals (xs.take j) ++ [.int .u64 (v : Int)]) (by rfl) hown2 _ (k - j) (vals (xs.drop j)) (by rfl) (HS2.out _ tw2) H2.out hl5 hl6 hB2 ?_; intro g3 cap3 w3 hown3 hgrow3 hat3 hlt3; have tw3 : Touch wr w3 [] := tw2.grown hgrow3 (fun q hq => .inr (by (try simp at hq); omega))))
          all_goals
            have hfin : w3.ownsRow w.heap.size 57 1 (.slice (some ⟨g3, 0, none⟩) (k + 1) cap3) (k + 1) (vals (xs.take j ++ v :: xs.drop j)) := by
              have e1 : j + 1 + (k - j) = k + 1 := by omega
              have e2 : vals (xs.take j) ++ [.int .u64 (v : Int)] ++ vals (xs.drop j) = vals (xs.take j ++ v :: xs.drop j) := by simp [vals]
              rw [e1, e2] at hown3
              exact hown3
            have e1 : j + 1 + (k - j) = k + 1 := by omega
            have HF : Hid _ := hfin
            have HT3 : Hid (Touch w w3 []) := t.trans tw3 (by simp)
            clear hfin hown1 hown2 hown3 hgrow1 hgrow2 hgrow3 tw tw2 tw3 OE OE'
            go_wp2
            go_roundw
            case rel => exact ⟨k + 1, xs.take j ++ v :: xs.drop j, by go_num, by omega, by omega, by simp; omega, HNEW.out, ins_can HCN.out HVC.out hvl, by first | exact HF.out | (rw [e1]; exact HF.out), HT3.out⟩
            case measure => simp [intOf] <;> omega
    · have hex : ¬ ((k : Int) < N ∧ (k : Int) < 20) := by omega
      obtain ⟨so, sc, hs, hsc⟩ : ∃ (so : Option Addr) (sc : Nat), u3 = .slice so k sc ∧ ((so = none ∧ k = 0 ∧ sc = 0) ∨ ∃ g, so = some ⟨g, 0, none⟩ ∧ k ≤ sc ∧ sc ≤ maxLen) := by
        rcases hown.2 with ⟨rfl, h0⟩ | ⟨g, cap', cur, rfl, hgb, hg, h1, h2, _⟩
        · exact ⟨none, 0, by rw [h0], .inl ⟨rfl, h0, rfl⟩⟩
        · exact ⟨_, cap', rfl, .inr ⟨g, rfl, h1, h2⟩⟩
      subst hs
      have HR : Hid _ := hrise
      have HCN : Hid _ := hcan
      have HOW : Hid (wr.ownsRow w.heap.size 57 1 (.slice so k sc) k (vals xs)) := hown
      have HSC : Hid _ := hsc
      clear hown hsc hrise hcan hr
      obtain ⟨W0, hW0⟩ : ∃ W0, W0 = wr := ⟨_, rfl⟩
      subst hW0
      by_cases hkN : (k : Int) < N
      all_goals
        try have hk20' : ¬ ((k : Int) < 20) := by omega
        go_wp2_with fail
        go_loopw [7] (fun i wx => ∃ p n : Nat, i = .int .i64 ((p : Int) + 1) ∧ (p + 1 ≤ k ∨ p = 0) ∧ wx = W0.drewN n) (fun i _ => 21 - (intOf i).toNat)
        case atStart => exact ⟨0, 0, rfl, .inr rfl, rfl⟩
        case round =>
          obtain ⟨p, n, rfl, hm2, hwx⟩ := hrel
          by_cases hmk : p + 1 < k
          · have hmk' : (p : Int) + 1 < k := by omega
            have hm1' : (0 : Int) ≤ (p : Int) + 1 := by omega
            have hm2' : (p : Int) < k := by omega
            obtain ⟨g, rfl, _, _⟩ : ∃ g, so = some ⟨g, 0, none⟩ ∧ k ≤ sc ∧ sc ≤ maxLen := by
              rcases HSC.out with ⟨_, h, _⟩ | h
              · omega
              · exact h
            have hca : wr.cell? ⟨g, p + 1, none⟩ = some (.int .u64 ((xs[p + 1]'(by omega) : Nat) : Int)) := by
              rw [hwx, World.cell?_drewN, HOW.out.cellAt (p + 1) (by omega)]; simp [vals, show p + 1 < xs.length by omega]
            have hcb : wr.cell? ⟨g, p, none⟩ = some (.int .u64 ((xs[p]'(by omega) : Nat) : Int)) := by
              rw [hwx, World.cell?_drewN, HOW.out.cellAt p (by omega)]; simp [vals, show p < xs.length by omega]
            have hle := Rise.at xs HR.out p (by omega)
            have ha := HCN.out _ (List.getElem_mem (show p + 1 < xs.length by omega))
            have hb := HCN.out _ (List.getElem_mem (show p < xs.length by omega))
            generalize (xs[p + 1]'(by omega) : Nat) = a at hca hle ha
            generalize (xs[p]'(by omega) : Nat) = b at hcb hle hb
            have hp : ((p : Int) + 1).toNat = p + 1 := by omega
            have hwp : IntKind.i64.wrap (p : Int) = p := by rw [IntKind.wrap_i64]; omega
            have HL : ∀ W : World, Calls Try.prog 21 #[.int .u64 (a : Int), .int .u64 (b : Int)] W fun e w' => e = .returned (.bool false) ∧ w' = W := fun W => by
              have := less_any a b W
              rw [Int.toNat_natCast, Int.toNat_natCast, ha.1, hb.1, hle] at this
              exact this.mono fun e w' h => ⟨h.1, h.2.symm⟩
            obtain ⟨cl, hcl⟩ : ∃ cl : Nat → Int, ∀ x, cl x = classB (ofB x) := ⟨_, fun _ => rfl⟩
            have HC : ∀ (x : Nat) (W : World), Calls Try.prog 22 #[.int .u64 (x : Int)] W fun e w' => e = .returned (.int .u8 (cl x)) ∧ w' = W := fun x W => by
              have := classOf_is x W
              rw [Int.toNat_natCast, ← hcl] at this
              exact this
            have hcla : cl a = classB a := by rw [hcl, ha.1]
            have hclb : cl b = classB b := by rw [hcl, hb.1]
            clear hcl
            have hNaN : nanB b = true → nanB a = true := fun h => by
              cases q : nanB a with
              | true => rfl
              | false => rw [less_nan a b q h] at hle; cases hle
            have hZ : a = 9223372036854775808 → b ≠ 0 := fun h1 h2 => by
              rw [h1, h2, zero_first] at hle; cases hle
            have hI : a = 18442240474082181120 → b = a := fun h1 => by
              by_cases q : b = 18442240474082181120
              · rw [h1, q]
              · rw [h1, inf_first b hb.2 q] at hle; cases hle
            clear hle ha hb
            have HWX : Hid _ := hwx
            clear hwx
            cases hnb : nanB b with
            | true =>
              rw [classB_nan b hnb] at hclb
              rw [classB_nan a (hNaN hnb)] at hcla
              clear hNaN hnb
              go_wp2_with fail
              go_quiet ((first | (go_at_call 21; exact Calls.quiet_of_same (HL _)) | (go_at_call 22; exact Calls.quiet_of_same (HC _ _))))
              go_wp2_with fail
              refine wp_name fun W hW => ?_
              have hcaW : W.cell? ⟨g, p + 1, none⟩ = some (.int .u64 (a : Int)) := by first | (rw [hW]; simpa using hca) | (rw [← hW]; simpa using hca)
              have hcbW : W.cell? ⟨g, p, none⟩ = some (.int .u64 (b : Int)) := by first | (rw [hW]; simpa using hcb) | (rw [← hW]; simpa using hcb)
              have HWD : Hid (∃ n', W = W0.drewN n') := by first | (rw [hW, HWX.out]; exact ⟨_, World.drewN_drewN _ _ _⟩) | (rw [← hW, HWX.out]; exact ⟨_, World.drewN_drewN _ _ _⟩)
              clear hca hcb hW HWX
              by_cases ha : a = 9223372036854775808
              · subst ha
                have hb0 := hZ rfl
                have hb1 : ((b : Int) == 0) = false := by simpa using hb0
                have hb2 : decide ((b : Int) = 0) = false := by simpa using hb0
                clear hZ hI
                go_quiet ((go_at_call 23; exact Calls.quiet_of_same (neg_same _)))
                go_wp2
                go_roundw
                case rel =>
                  obtain ⟨n', rfl⟩ := HWD.out
                  exact ⟨p + 1, _, by go_num, .inl (by omega), World.drewN_drewN _ _ _⟩
                case measure => simp [intOf] <;> omega
              · have ha1 : ((a : Int) == 9223372036854775808) = false := by simp; omega
                have ha2 : decide ((a : Int) = 9223372036854775808) = false := by simp; omega
                by_cases hai : a = 18442240474082181120
                · have hba := hI hai
                  subst hba
                  subst hai
                  clear hZ hI
                  go_quiet ((go_at_call 23; exact Calls.quiet_of_same (neg_same _)))
                  go_wp2
                  go_roundw
                  case rel =>
                    obtain ⟨n', rfl⟩ := HWD.out
                    exact ⟨p + 1, _, by go_num, .inl (by omega), World.drewN_drewN _ _ _⟩
                  case measure => simp [intOf] <;> omega
                · have ha3 : ((a : Int) == 18442240474082181120) = false := by simp; omega
                  have ha4 : decide ((a : Int) = 18442240474082181120) = false := by simp; omega
                  clear hZ hI
                  go_quiet ((go_at_call 23; exact Calls.quiet_of_same (neg_same _)))
                  go_wp2
                  go_roundw
                  case rel =>
                    obtain ⟨n', rfl⟩ := HWD.out
                    exact ⟨p + 1, _, by go_num, .inl (by omega), World.drewN_drewN _ _ _⟩
                  case measure => simp [intOf] <;> omega
            | false =>
              have hc3 := classB_num b hnb
              rw [← hclb] at hc3
              have hc4 : (cl b == 3) = false := by simpa using hc3
              have hc5 : decide (cl b = 3) = false := by simpa using hc3
              clear hcla hclb
              clear hNaN hnb
              go_wp2_with fail
              go_quiet ((first | (go_at_call 21; exact Calls.quiet_of_same (HL _)) | (go_at_call 22; exact Calls.quiet_of_same (HC _ _))))
              go_wp2_with fail
              refine wp_name fun W hW => ?_
              have hcaW : W.cell? ⟨g, p + 1, none⟩ = some (.int .u64 (a : Int)) := by first | (rw [hW]; simpa using hca) | (rw [← hW]; simpa using hca)
              have hcbW : W.cell? ⟨g, p, none⟩ = some (.int .u64 (b : Int)) := by first | (rw [hW]; simpa using hcb) | (rw [← hW]; simpa using hcb)
              have HWD : Hid (∃ n', W = W0.drewN n') := by first | (rw [hW, HWX.out]; exact ⟨_, World.drewN_drewN _ _ _⟩) | (rw [← hW, HWX.out]; exact ⟨_, World.drewN_drewN _ _ _⟩)
              clear hca hcb hW HWX
              by_cases ha : a = 9223372036854775808
              · subst ha
                have hb0 := hZ rfl
                have hb1 : ((b : Int) == 0) = false := by simpa using hb0
                have hb2 : decide ((b : Int) = 0) = false := by simpa using hb0
                clear hZ hI
                go_quiet ((go_at_call 23; exact Calls.quiet_of_same (neg_same _)))
                go_wp2
                go_roundw
                case rel =>
                  obtain ⟨n', rfl⟩ := HWD.out
                  exact ⟨p + 1, _, by go_num, .inl (by omega), World.drewN_drewN _ _ _⟩
                case measure => simp [intOf] <;> omega
              · have ha1 : ((a : Int) == 9223372036854775808) = false := by simp; omega
                have ha2 : decide ((a : Int) = 9223372036854775808) = false := by simp; omega
                by_cases hai : a = 18442240474082181120
                · have hba := hI hai
                  subst hba
                  subst hai
                  clear hZ hI
                  go_quiet ((go_at_call 23; exact Calls.quiet_of_same (neg_same _)))
                  go_wp2
                  go_roundw
                  case rel =>
                    obtain ⟨n', rfl⟩ := HWD.out
                    exact ⟨p + 1, _, by go_num, .inl (by omega), World.drewN_drewN _ _ _⟩
                  case measure => simp [intOf] <;> omega
                · have ha3 : ((a : Int) == 18442240474082181120) = false := by simp; omega
                  have ha4 : decide ((a : Int) = 18442240474082181120) = false := by simp; omega
                  clear hZ hI
                  go_quiet ((go_at_call 23; exact Calls.quiet_of_same (neg_same _)))
                  go_wp2
                  go_roundw
                  case rel =>
                    obtain ⟨n', rfl⟩ := HWD.out
                    exact ⟨p + 1, _, by go_num, .inl (by omega), World.drewN_drewN _ _ _⟩
                  case measure => simp [intOf] <;> omega
          · have hmk' : ¬ ((p : Int) + 1 < k) := by omega
            have HWX : Hid (Touch w wr []) := by rw [hwx]; exact t.drewN n
            clear hwx
            have hl1 := less_any 18442240474082181120 9223372036854775808 wr
            rw [show lessB (ofB (18442240474082181120 : Int).toNat) (ofB (9223372036854775808 : Int).toNat) = true by decide +kernel] at hl1
            have hl2 := less_any 9218868437227405312 9221120237041090560 wr
            rw [show lessB (ofB (9218868437227405312 : Int).toNat) (ofB (9221120237041090560 : Int).toNat) = true by decide +kernel] at hl2
            go_wp2_with fail
            refine (neg_inf wr).mono ?_
            rintro e w1 ⟨rfl, rfl⟩
            go_wp2_with fail
            refine hl1.mono ?_
            rintro e w1 ⟨rfl, rfl⟩
            go_wp2_with fail
            refine hl2.mono ?_
            rintro e w1 ⟨rfl, rfl⟩
            clear hl1 hl2
            go_wp2
            go_ret
            exact ⟨rfl, HWX.out.below (Nat.le_refl _) (by simp)⟩

end Go.Proofs.Ytdaahghlaingaac

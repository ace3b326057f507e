/-
  package waits: THE OBJECT; New, forAny, Of, Asleep BY THEIR CONTRACTS.
-/
import Derived.Test.YteffdibdnoppjabWtDel
namespace Go.Proofs.Yteffdibdnoppjab
set_option linter.unusedVariables false
set_option linter.unusedSimpArgs false
open Go.RowKit Go.Maps
attribute [local go_sem] Oper.semAt_some

/-- One that waits: who, for which variables (bits), asleep or not. -/
structure WD where
  th : Int
  s : Nat
  sl : Bool
def WD.val (x : WD) : Value := .agg #[.int .u32 (x.s : Int), .bool x.sl]
def findW (L : List WD) (t : Int) : Option WD := L.find? (fun x => x.th == t)
def mapW (L : List WD) : Int → Option Value := fun t => (findW L t).map WD.val

/-- What lists always are. -/
structure WWf (L : List WD) : Prop where
  nod : (L.map WD.th).Nodup
  rng : ∀ x ∈ L, 0 ≤ x.th ∧ x.th < 4 ∧ x.s < 4096 ∧ x.s ≠ 0

theorem nodup_le : ∀ (n : Nat) (l : List Int), l.Nodup → (∀ x ∈ l, 0 ≤ x ∧ x < n) → l.length ≤ n
  | 0, l, _, h => by
    cases l with
    | nil => simp
    | cons x l => have := h x (by simp); omega
  | n + 1, l, hn, h => by
    by_cases hm : (n : Int) ∈ l
    · have h1 := nodup_le n (l.erase (n : Int)) (hn.erase _) (fun x hx => by
        have h2 := (hn.mem_erase_iff).1 hx
        have := h x h2.2
        have := h2.1
        omega)
      rw [List.length_erase_of_mem hm] at h1
      omega
    · have h1 := nodup_le n l hn (fun x hx => by
        have := h x hx
        have : x ≠ (n : Int) := fun e => hm (e ▸ hx)
        omega)
      omega
theorem WWf.len {L : List WD} (h : WWf L) : L.length ≤ 4 := by
  have := nodup_le 4 (L.map WD.th) h.nod (fun x hx => by
    obtain ⟨y, hy, rfl⟩ := List.mem_map.1 hx
    have := h.rng y hy
    omega)
  simpa using this
theorem WWf.nil : WWf [] := ⟨by simp, by simp⟩
theorem findW_none {L : List WD} {t : Int} : findW L t = none ↔ t ∉ L.map WD.th := by
  unfold findW
  rw [List.find?_eq_none]
  constructor
  · intro h hm
    obtain ⟨y, hy, rfl⟩ := List.mem_map.1 hm
    have := h y hy
    simp at this
  · intro h x hx hh
    exact h (List.mem_map.2 ⟨x, hx, by simpa using hh⟩)
theorem findW_some {L : List WD} {t : Int} {x : WD} (h : findW L t = some x) : x ∈ L ∧ x.th = t := by
  unfold findW at h
  exact ⟨List.mem_of_find?_eq_some h, by have := List.find?_some h; simpa using this⟩
theorem findW_mem : ∀ {L : List WD} (hn : (L.map WD.th).Nodup) {x : WD} (hx : x ∈ L), findW L x.th = some x
  | y :: L, hn, x, hx => by
    rw [List.map_cons, List.nodup_cons] at hn
    unfold findW
    rw [List.find?_cons]
    rcases List.mem_cons.1 hx with rfl | h
    · simp
    · have : (y.th == x.th) = false := by
        have : x.th ∈ L.map WD.th := List.mem_map.2 ⟨x, h, rfl⟩
        have hne : y.th ≠ x.th := fun e => hn.1 (e ▸ this)
        simpa using hne
      rw [this]
      exact findW_mem hn.2 h

structure WObj (w : World) (b mb : Nat) (vo : Value) (n : Nat) (L : List WD) : Prop where
  st : w.heap[b]? = some (.cells #[.map (some mb), vo] 38 (0, 0))
  map : MapF w mb n (mapW L)
  ord : intOwn w 0 vo (L.map WD.th)
  n0 : b ≠ mb
  n1 : ∀ g, vo.ownBlock = some g → g ≠ b ∧ g ≠ mb
  wf : WWf L

/-- The object at b, its blocks F, at most k stores of its map. -/
def WAt (w : World) (b : Nat) (F : List Nat) (k : Nat) (L : List WD) : Prop := ∃ mb vo n, F = b :: mb :: vo.ownBlock.toList ∧ WObj w b mb vo n L ∧ n ≤ k

theorem WObj.lt {w : World} {b mb n : Nat} {vo : Value} {L : List WD} (h : WObj w b mb vo n L) : ∀ x ∈ b :: mb :: vo.ownBlock.toList, x < w.heap.size := by
  intro x hx
  simp only [List.mem_cons] at hx
  rcases hx with rfl | rfl | hx
  · exact lt_of_heap h.st
  · exact h.map.lt
  · exact (int_lt h.ord x (by simpa using hx)).2
theorem WAt.lt {w : World} {b k : Nat} {F : List Nat} {L : List WD} (h : WAt w b F k L) : ∀ x ∈ F, x < w.heap.size := by
  obtain ⟨mb, vo, n, rfl, ho, _⟩ := h; exact ho.lt
theorem WObj.touch {w w' : World} {b mb n : Nat} {vo : Value} {L : List WD} {S : List Nat} (h : WObj w b mb vo n L) (t : Touch w w' S) (hS : ∀ x ∈ b :: mb :: vo.ownBlock.toList, x ∉ S) : WObj w' b mb vo n L :=
  ⟨(t.block b (lt_of_heap h.st) (hS b (by simp))).trans h.st, h.map.touch t (hS mb (by simp)), ownsRow_touch h.ord t (fun k hk => hS k (by simp [hk])), h.n0, h.n1, h.wf⟩
theorem WAt.touch {w w' : World} {b k : Nat} {F S : List Nat} {L : List WD} (h : WAt w b F k L) (t : Touch w w' S) (hS : ∀ x ∈ F, x ∉ S) : WAt w' b F k L := by
  obtain ⟨mb, vo, n, rfl, ho, hk⟩ := h
  exact ⟨mb, vo, n, rfl, ho.touch t hS, hk⟩
theorem WAt.wf {w : World} {b k : Nat} {F : List Nat} {L : List WD} (h : WAt w b F k L) : WWf L := by
  obtain ⟨mb, vo, n, rfl, ho, _⟩ := h; exact ho.wf
theorem WObj.cells {w : World} {b mb n : Nat} {vo : Value} {L : List WD} (h : WObj w b mb vo n L) : w.cell? ⟨b, 0, none⟩ = some (.map (some mb)) ∧ w.cell? ⟨b, 1, none⟩ = some vo ∧ w.frozen? ⟨b, 1, none⟩ = false := by
  simp [World.cell?, World.frozen?, h.st]

theorem Try.zero_wait (w : World) : (zeroValue 43).run Try.prog w = .ok (.agg #[.int .u32 0, .bool false]) w := Try.zeroValue43 w
theorem fields_wait (x0 x1 : Value) (w : World) : (Instr.field 43 (.agg #[x0, x1]) 0).run Try.prog w = .ok x0 w ∧ (Instr.field 43 (.agg #[x0, x1]) 1).run Try.prog w = .ok x1 w := by
  refine ⟨?_, ?_⟩
  all_goals
    simp only [Instr.field, Sem.run_bind, run_underlying Try.underlying43, Result.andThen_ok]
    go_simp
    rfl
theorem th64 {L : List WD} (h : WWf L) : ∀ x ∈ L, W64 x.th := fun x hx => by have := h.rng x hx; exact ⟨by omega, by omega⟩

set_option maxRecDepth 100000 in
theorem new_any (w : World) : Calls Try.prog 4 #[] w fun e w' => ∃ b F, e = .returned (ptr b) ∧ WAt w' b F 0 [] ∧ Touch w w' [] ∧ ∀ x ∈ F, w.heap.size ≤ x := by
  have hmm := @run_makeMap Try.prog
  have hm := MapF.made w
  go_enter Try.func4, Try.ntmps4
  go_wp2
  go_ret
  have t2 := (Touch.refl (w.alloc (.map #[] 0)) []).alloc (.cells #[.map (some w.heap.size), .slice none 0 0] 38)
  refine ⟨_, _, rfl, ⟨w.heap.size, .slice none 0 0, 0, rfl, ⟨?_, hm.touch t2 (by simp), World.ownsRow_nil _ _ _ _, by simp, by simp [Value.ownBlock], WWf.nil⟩, Nat.le_refl _⟩, ((Touch.refl w []).alloc _).alloc _, ?_⟩
  · have := heap_alloc_new (w.alloc (.map #[] 0)) (.cells #[.map (some w.heap.size), .slice none 0 0] 38)
    simpa using this
  · simp [Value.ownBlock]

/-- Those that wait for one of the variables. -/
def forP (L : List WD) (s : Nat) : List Int := (L.filter (fun x => decide (x.s &&& s ≠ 0))).map WD.th
theorem forP_snoc {L : List WD} {k : Nat} (hk : k < L.length) (s : Nat) : forP (L.take (k + 1)) s = if L[k].s &&& s ≠ 0 then forP (L.take k) s ++ [L[k].th] else forP (L.take k) s := by
  unfold forP
  rw [List.take_succ_eq_append_getElem hk, List.filter_append, List.map_append]
  by_cases h : L[k].s &&& s = 0
  · simp [h]
  · simp [h]
theorem forP_len (L : List WD) (s : Nat) : (forP L s).length ≤ L.length := by
  unfold forP; rw [List.length_map]; exact List.length_filter_le _ _

set_option maxRecDepth 100000 in
set_option maxHeartbeats 2000000 in
theorem forAny_any {w : World} {b k : Nat} {F : List Nat} {L : List WD} (h : WAt w b F k L) (s : Nat) (hs : s < 4096) : Calls Try.prog 14 #[ptr b, .int .u32 (s : Int)] w (IntsPost w (forP L s)) := by
  obtain ⟨mb, vo, n, rfl, ho, hn⟩ := h
  obtain ⟨ao, cap, rfl, hc⟩ := int_form ho.ord
  obtain ⟨c0, c1, f1⟩ := ho.cells
  have hlen := ho.wf.len
  have hbl := lt_of_heap ho.st
  have HO : Hid _ := ho
  have HC : Hid _ := hc
  obtain ⟨N, hN⟩ : ∃ N, N = L.length := ⟨_, rfl⟩
  have hN' : (L.map WD.th).length = N := by rw [hN, List.length_map]
  have HN : Hid _ := hN
  rw [← hN] at hlen
  simp only [hN'] at c1 ⊢
  clear hN hc ho hN'
  go_enter Try.func14, Try.ntmps14
  go_wp2_with fail
  go_loopw [5, 15] (fun v i wr => ∃ j : Nat, i = .int .i64 j ∧ j ≤ N ∧ intOwn wr w.heap.size v (forP (L.take j) s) ∧ Touch w wr []) (fun _ i _ => N - (intOf i).toNat)
  case atStart => exact ⟨0, rfl, Nat.zero_le _, World.ownsRow_nil _ _ _ _, Touch.refl _ _⟩
  case round =>
    obtain ⟨j, rfl, hj, hrow, hT⟩ := hrel
    have HT : Hid _ := hT
    have hsz := hT.size
    by_cases hlt : j < N
    · have h1 : (j : Int) < N := by omega
      have h0 : (0 : Int) ≤ j := by omega
      have hjl : j < L.length := by rw [← HN.out]; exact hlt
      obtain ⟨g, rfl, hg, d0⟩ := HC.out j (by simpa using hjl)
      rw [List.getElem_map] at d0
      have hx := List.getElem_mem hjl
      have hsn := forP_snoc hjl s
      have hll := forP_len (L.take j) s
      rw [List.length_take] at hll
      have hwf := HO.out.wf
      have hfd := findW_mem hwf.nod hx
      have hmp := HO.out.map.touch hT (by simp)
      have h64 := th64 hwf _ hx
      have hlk := hmp.look Try.underlying36 (Try.zero_wait _) h64
      have hs2 := (hwf.rng _ hx).2.2.1
      have hmw : mapW L L[j].th = some L[j].val := by unfold mapW; rw [hfd]; rfl
      rw [hmw] at hlk
      simp only [Option.getD_some, WD.val] at hlk
      have e0 := (hT.cell (p := ⟨b, 0, none⟩) hbl (by simp)).trans c0
      have e1 := (hT.cell (p := ⟨g, j, none⟩) hg (by simp)).trans d0
      have han := u32_and_nat L[j].s s (by omega) (by omega)
      obtain ⟨ao2, cap2, rfl⟩ := owns_slice hrow
      generalize L[j] = x at *
      generalize hM : (forP (L.take j) s).length = M at *
      have HSN : Hid _ := hsn
      clear hmw hmp hfd hwf hx d0
      by_cases hz : x.s &&& s = 0
      · have hdec : (bits .and .u32 (x.s : Int) (s : Int) != 0) = false := by rw [han, hz]; rfl
        have HS2 : Hid (forP (L.take (j + 1)) s = forP (L.take j) s) := by show _ = _; rw [HSN.out, if_neg (by simpa using hz)]
        have HR : Hid _ := hrow
        clear han hsn hz hrow hT
        have hf0 := fun w => (fields_wait (.int .u32 (x.s : Int)) (.bool x.sl) w).1
        go_wp2
        go_roundw
        case rel => exact ⟨j + 1, by go_num, by omega, by rw [HS2.out]; exact HR.out, HT.out⟩
        case measure => simp [intOf]; omega
      · have hdec : (bits .and .u32 (x.s : Int) (s : Int) != 0) = true := by rw [han]; simpa using hz
        have HS2 : Hid (forP (L.take (j + 1)) s = forP (L.take j) s ++ [x.th]) := by show _ = _; rw [HSN.out, if_pos hz]
        obtain ⟨ao', cap', w', hrun, hown, ht, hbl2⟩ := run_push hrow (by omega) hsz x.th 31
        rw [hM] at hrun hown hbl2
        have HT2 : Hid (Touch w w' []) := HT.out.trans ht (fun y hy => .inr (by have := int_lt hrow y (by simpa [hM] using hy); omega))
        have HR : Hid _ := hown
        clear han hsn hz hrow hT hown ht hbl2
        have hf0 := fun w => (fields_wait (.int .u32 (x.s : Int)) (.bool x.sl) w).1
        go_wp2_with (at_builtin; refine Lib.wpList_append_run _ rfl _ _ _ _ rfl _ _ rfl rfl _ _ hrun ?_)
        go_wp2
        go_roundw
        case rel => exact ⟨j + 1, by go_num, by omega, by rw [HS2.out]; exact HR.out, HT2.out⟩
        case measure => simp [intOf]; omega
    · obtain rfl : j = N := by omega
      have hall : L.take j = L := by rw [HN.out, List.take_length]
      rw [hall] at hrow
      have HR : Hid _ := hrow
      obtain ⟨ao2, cap2, rfl⟩ := owns_slice hrow
      clear hrow hT
      go_wp2
      go_ret
      exact ⟨_, rfl, HR.out, HT.out⟩

/-- Those that a thread waits for; whether it sleeps. -/
def ofP (L : List WD) (t : Int) : Nat := ((findW L t).map WD.s).getD 0
def slP (L : List WD) (t : Int) : Bool := ((findW L t).map WD.sl).getD false
theorem mapW_get (L : List WD) (t : Int) : (mapW L t).getD (.agg #[.int .u32 0, .bool false]) = .agg #[.int .u32 (ofP L t : Int), .bool (slP L t)] := by
  unfold mapW ofP slP
  cases findW L t <;> rfl
theorem ofP_lt {L : List WD} (h : WWf L) (t : Int) : ofP L t < 4096 := by
  unfold ofP
  cases hf : findW L t with
  | none => simp
  | some x => exact (h.rng x (findW_some hf).1).2.2.1

set_option maxRecDepth 100000 in
theorem of_any {w : World} {b k : Nat} {F : List Nat} {L : List WD} (h : WAt w b F k L) (t : Int) (ht : W64 t) : Calls Try.prog 8 #[ptr b, .int .i64 t] w (IntsPost w (listP (ofP L t))) := by
  obtain ⟨mb, vo, n, rfl, ho, hn⟩ := h
  obtain ⟨c0, c1, f1⟩ := ho.cells
  have hlk := ho.map.look Try.underlying36 (Try.zero_wait _) ht
  rw [mapW_get] at hlk
  have hl : HidC _ _ _ _ _ := ⟨slist_any (ofP L t) (ofP_lt ho.wf t) w⟩
  have hf0 := fun w => (fields_wait (.int .u32 (ofP L t : Int)) (.bool (slP L t)) w).1
  clear ho c1 f1
  go_enter Try.func8, Try.ntmps8
  go_wp2_with fail
  refine hl.out.mono ?_
  rintro e w1 ⟨v, rfl, hv, t1⟩
  have HV : Hid _ := hv
  have HT : Hid _ := t1
  obtain ⟨ao, cap, rfl⟩ := owns_slice hv
  clear hl hv t1 hlk c0 hf0
  go_wp2
  go_ret
  exact ⟨_, rfl, HV.out, HT.out⟩

set_option maxRecDepth 100000 in
theorem asleep_any {w : World} {b k : Nat} {F : List Nat} {L : List WD} (h : WAt w b F k L) (t : Int) (ht : W64 t) : Calls Try.prog 9 #[ptr b, .int .i64 t] w fun e w' => e = .returned (.bool (slP L t)) ∧ w = w' := by
  obtain ⟨mb, vo, n, rfl, ho, hn⟩ := h
  obtain ⟨c0, c1, f1⟩ := ho.cells
  have hlk := ho.map.look Try.underlying36 (Try.zero_wait _) ht
  rw [mapW_get] at hlk
  have hf0 := fun w => (fields_wait (.int .u32 (ofP L t : Int)) (.bool (slP L t)) w).2
  clear ho c1 f1
  go_enter Try.func9, Try.ntmps9
  go_wp2
  go_ret
  exact ⟨rfl, rfl⟩

end Go.Proofs.Yteffdibdnoppjab

/-
  package waits: remove, Wake BY THEIR CONTRACTS.
-/
import Derived.Test.YteffdibdnoppjabWtSleep
namespace Go.Proofs.Yteffdibdnoppjab
set_option linter.unusedVariables false
set_option linter.unusedSimpArgs false
open Go.RowKit Go.Maps
attribute [local go_sem] Oper.semAt_some

theorem MapF.del {w : World} {b n : Nat} {F : Int → Option Value} (h : MapF w b n F) {t e : TypeId} (ht : Try.prog.underlying t = some (.map 3 e)) {x : Int} (hx : W64 x) (ty : TypeId) :
    ∃ w', (Builtin.delete_ #[t, 3] ty #[.map (some b), .int .i64 x]).run Try.prog w = .ok (.tuple #[]) w' ∧ MapF w' b n (fun y => if y = x then none else F y) ∧ w.grownBy w' (some b) := by
  obtain ⟨D, hD, hm, hF⟩ := h
  obtain ⟨w', hr, hD', hg⟩ := hD.drop keyedI ht (keyI hx) ty
  refine ⟨w', hr, ⟨_, hD', hm.del _, fun y hy => ?_⟩, hg.grown⟩
  by_cases e : y = x
  · subst e
    simp only [if_true]
    exact ⟨has_del_same, fun z => atKey_del_same z⟩
  · simp only [e, if_false]
    exact ⟨by rw [has_del_other (lit_ne e)]; exact (hF y hy).1, fun z => by rw [atKey_del_other (lit_ne e)]; exact (hF y hy).2 z⟩

def outP (L : List WD) (p : Int → Bool) : List WD := L.filter (fun x => !p x.th)
theorem outP_th (L : List WD) (p : Int → Bool) : (outP L p).map WD.th = (L.map WD.th).filter (fun t => !p t) := by
  unfold outP; rw [List.filter_map]; rfl
theorem outP_wf {L : List WD} (h : WWf L) (p : Int → Bool) : WWf (outP L p) :=
  ⟨by rw [outP_th]; exact h.nod.filter _, fun x hx => h.rng x (List.mem_filter.1 hx).1⟩
theorem find_out (L : List WD) (p : Int → Bool) (t : Int) : findW (outP L p) t = if p t then none else findW L t := by
  unfold findW outP
  rw [List.find?_filter]
  by_cases h : p t = true
  · rw [if_pos h]
    rw [List.find?_eq_none]
    intro x _ hx
    simp at hx
    rw [hx.2] at hx
    rw [h] at hx
    simp at hx
  · rw [if_neg h]
    congr 1
    funext x
    by_cases e : x.th = t
    · simp [e, h]
    · simp [e]
theorem mapW_out (L : List WD) (th : Int) : mapW (outP L (fun t => t == th)) = fun y => if y = th then none else mapW L y := by
  funext t
  unfold mapW
  rw [find_out]
  by_cases h : t = th
  · simp [h]
  · simp [h]

theorem remove_end {w w2 w3 : World} {b mb n k : Nat} {vo v3 : Value} {L : List WD} {th : Int} (hO : WObj w b mb vo n L) (hn : n ≤ k) (ht2 : Touch w w2 [mb]) (hm2 : MapF w2 mb n (fun y => if y = th then none else mapW L y))
    (hv3 : intOwn w3 0 v3 ((L.map WD.th).filter (fun x => !(x == th)))) (t3 : Touch w2 w3 vo.ownBlock.toList) (hvb3 : v3.ownBlock = vo.ownBlock) :
    w3.cell? ⟨b, 1, none⟩ = some vo ∧ w3.frozen? ⟨b, 1, none⟩ = false ∧ WAt (w3.setCell ⟨b, 1, none⟩ v3) b (b :: mb :: vo.ownBlock.toList) k (outP L (fun t => t == th)) ∧ Touch w (w3.setCell ⟨b, 1, none⟩ v3) (b :: mb :: vo.ownBlock.toList) := by
  have hbl := lt_of_heap hO.st
  have hb3 : b ∉ vo.ownBlock.toList := fun hs => (hO.n1 b (by simpa using hs)).1 rfl
  have hm3 : mb ∉ vo.ownBlock.toList := fun hs => (hO.n1 mb (by simpa using hs)).2 rfl
  have hst3 : w3.heap[b]? = some (.cells #[.map (some mb), vo] 38 (0, 0)) := (t3.block b (Nat.lt_of_lt_of_le hbl ht2.size) hb3).trans ((ht2.block b hbl (by simpa using hO.n0)).trans hO.st)
  have t4 : Touch w3 (w3.setCell ⟨b, 1, none⟩ v3) [b] := (Touch.refl w3 [b]).setCell (.inl (by simp)) _
  refine ⟨by unfold World.cell?; rw [hst3]; rfl, by unfold World.frozen?; rw [hst3]; rfl, ⟨mb, v3, n, by rw [hvb3], ⟨heap_setCell_same _ _ _ _ _ _ hst3, ?_, ?_, hO.n0, fun g hg => hO.n1 g (by rw [← hvb3]; exact hg), outP_wf hO.wf _⟩, hn⟩, ?_⟩
  · rw [mapW_out]
    exact (hm2.touch t3 hm3).touch t4 (by simp; exact fun e => hO.n0 e.symm)
  · have := ownsRow_touch hv3 t4 (fun g hg hs => (hO.n1 g (by rw [← hvb3]; exact hg)).1 (by simpa using hs))
    show World.ownsRow _ _ _ _ _ _ _
    rw [outP_th]
    exact this
  · exact ((ht2.mono (R := b :: mb :: vo.ownBlock.toList) (by simp)).trans t3 (fun x hx => .inl (List.mem_cons_of_mem _ (List.mem_cons_of_mem _ hx)))).setCell (.inl (by simp)) _

set_option maxRecDepth 100000 in
set_option maxHeartbeats 1000000 in
theorem remove_any {w : World} {b k : Nat} {F : List Nat} {L : List WD} (h : WAt w b F k L) (th : Int) (h64 : W64 th) :
    Calls Try.prog 15 #[ptr b, .int .i64 th] w fun e w' => e = .returned (.tuple #[]) ∧ WAt w' b F k (outP L (fun t => t == th)) ∧ Touch w w' F := by
  obtain ⟨mb, vo, n, rfl, ho, hn⟩ := h
  obtain ⟨c0, c1, f1⟩ := ho.cells
  have hbl := lt_of_heap ho.st
  have hml := ho.map.lt
  have HO : Hid _ := ho
  have t1 : Touch w (w.alloc (.cells #[.int .i64 th] 3)).drew [] := ((Touch.refl w []).alloc _).drew
  obtain ⟨w2, hdel, hm2, hg2⟩ := (ho.map.touch t1 (by simp)).del Try.underlying36 h64 3
  have hdel : ∀ ty, (Builtin.delete_ #[36, 3] ty #[.map (some mb), .int .i64 th]).run Try.prog (w.alloc (.cells #[.int .i64 th] 3)).drew = .ok (.tuple #[]) w2 := fun ty => hdel
  have t2 : Touch w w2 [mb] := (t1.mono (by simp)).grown hg2 (by intro q hq; cases hq; exact .inl (by simp))
  have q0 : One (w.alloc (.cells #[.int .i64 th] 3)).drew w.heap.size (.int .i64 th) 3 := heap_alloc_new w _
  have hne : ¬ w.heap.size = mb := by omega
  have tt : Touch (w.alloc (.cells #[.int .i64 th] 3)).drew w2 [mb] := (Touch.refl _ [mb]).grown hg2 (by intro q hq; cases hq; exact .inl (by simp))
  have q2 : One w2 w.heap.size (.int .i64 th) 3 := q0.touch tt (by simpa using hne)
  have m0 : (w.alloc (.cells #[.int .i64 th] 3)).drew.cell? ⟨b, 0, none⟩ = some (.map (some mb)) := (t1.cell (p := ⟨b, 0, none⟩) hbl (by simp)).trans c0
  have e0 : w2.cell? ⟨b, 0, none⟩ = some (.map (some mb)) := (t2.cell (p := ⟨b, 0, none⟩) hbl (by simpa using ho.n0)).trans c0
  have e1 : w2.cell? ⟨b, 1, none⟩ = some vo := (t2.cell (p := ⟨b, 1, none⟩) hbl (by simpa using ho.n0)).trans c1
  have p0 := One.cell q0
  have p2 := One.cell q2
  have hord2 : intOwn w2 0 vo (L.map WD.th) := ownsRow_touch ho.ord t2 (fun q hq hs => (ho.n1 q hq).2 (by simpa using hs))
  have hlen := ho.wf.len
  have hd : HidC _ _ _ _ _ := ⟨delete_any q2 hord2 (by rw [List.length_map]; omega) (fun x hx => by obtain ⟨y, hy, rfl⟩ := List.mem_map.1 hx; exact th64 ho.wf y hy) (fun g hg => by have := (int_lt ho.ord g hg).2; omega)⟩
  have HT2 : Hid _ := t2
  have HM2 : Hid _ := hm2
  obtain ⟨l3, hl3⟩ : ∃ l3, l3 = (L.map WD.th).filter (fun x => !(x == th)) := ⟨_, rfl⟩
  rw [← hl3] at hd
  have HL3 : Hid _ := hl3
  obtain ⟨ao1, cap1, hvo⟩ := owns_slice ho.ord
  rw [hvo] at hd e1 c1
  have HVO : Hid _ := hvo
  generalize (L.map WD.th).length = N1 at *
  clear ho t1 hm2 hg2 tt t2 hord2 q0 q2 hl3 hvo
  go_enter Try.func15, Try.ntmps15
  go_wp2_with fail
  go_region_held3 (fun w' => w'.cell? ⟨b, 0, none⟩ = some (.map (some mb)) ∧ w'.cell? ⟨w.heap.size, 0, none⟩ = some (.int .i64 th)) (first | exact ⟨m0, p0⟩ | exact ⟨e0, p2⟩) (fail)
  clear hdel m0 p0
  go_wp2_with fail
  refine hd.out.mono ?_
  rintro e w3 ⟨v3, rfl, hv3, t3, hvb3⟩
  rw [← HVO.out] at t3 hvb3
  obtain ⟨r1, r2, r3, r4⟩ := remove_end HO.out hn HT2.out HM2.out (by rw [← HL3.out]; exact hv3) t3 hvb3
  obtain ⟨ao3, cap3, rfl⟩ := owns_slice hv3
  have H3 : Hid _ := r3
  have H4 : Hid _ := r4
  clear hv3 t3 hvb3 hd e0 e1 p2 r3 r4
  generalize l3.length = N3 at *
  go_wp2
  go_end0
  exact ⟨rfl, H3.out, H4.out⟩

/-- Woken. -/
def wakeL (L : List WD) (s : Nat) : List WD := L.filter (fun x => decide (x.s &&& s = 0))
theorem forP_mem {L : List WD} (h : WWf L) (s : Nat) {x : WD} (hx : x ∈ L) : x.th ∈ forP L s ↔ x.s &&& s ≠ 0 := by
  unfold forP
  rw [List.mem_map]
  constructor
  · rintro ⟨y, hy, e⟩
    have h1 := List.mem_filter.1 hy
    have h2 := findW_mem h.nod hx
    have h3 := findW_mem h.nod h1.1
    rw [e] at h3
    rw [h3] at h2
    cases h2
    simpa using h1.2
  · intro hs
    exact ⟨x, List.mem_filter.2 ⟨hx, by simpa using hs⟩, rfl⟩
theorem outP_wake {L : List WD} (h : WWf L) (s : Nat) : outP L (fun t => decide (t ∈ forP L s)) = wakeL L s := by
  unfold outP wakeL
  refine List.filter_congr fun x hx => ?_
  have := forP_mem h s hx
  by_cases h0 : x.s &&& s = 0
  · have : x.th ∉ forP L s := fun hm => this.1 hm h0
    simp [this, h0]
  · have : x.th ∈ forP L s := this.2 h0
    simp [this, h0]
theorem outP_snoc (L : List WD) (l : List Int) {j : Nat} (hj : j < l.length) : outP L (fun t => decide (t ∈ l.take (j + 1))) = outP (outP L (fun t => decide (t ∈ l.take j))) (fun t => t == l[j]) := by
  unfold outP
  rw [List.filter_filter]
  refine List.filter_congr fun x _ => ?_
  have hm : (x.th ∈ l.take (j + 1)) ↔ (x.th ∈ l.take j ∨ x.th = l[j]) := by rw [List.take_succ_eq_append_getElem hj]; simp only [List.mem_append, List.mem_singleton]
  rw [Bool.eq_iff_iff]
  simp only [hm, Bool.and_eq_true, Bool.not_eq_true', decide_eq_false_iff_not, beq_eq_false_iff_ne, ne_eq, not_or]
  exact And.comm

set_option maxRecDepth 100000 in
set_option maxHeartbeats 4000000 in
theorem wake_any {w : World} {b k : Nat} {F : List Nat} {L : List WD} (h : WAt w b F k L) {v : Value} {tv : List Int} (hr : IRow w v tv) (hl : tv.length ≤ 1000) :
    Calls Try.prog 7 #[ptr b, v] w fun e w' => ∃ u, e = .returned u ∧ intOwn w' w.heap.size u (forP L (setP tv)) ∧ WAt w' b F k (wakeL L (setP tv)) ∧ Touch w w' F := by
  have hset : HidC _ _ _ _ _ := ⟨setOf_any hr hl⟩
  have hfor : HidC _ _ _ _ _ := ⟨forAny_any h (setP tv) (setP_lt tv)⟩
  have hwf := h.wf
  have hwk := outP_wake hwf (setP tv)
  have hfl := forP_len L (setP tv)
  have hln := hwf.len
  have h64 : ∀ t ∈ forP L (setP tv), W64 t := fun t ht => by
    unfold forP at ht
    obtain ⟨y, hy, rfl⟩ := List.mem_map.1 ht
    exact th64 hwf y (List.mem_filter.1 hy).1
  have hFl := h.lt
  obtain ⟨ao, cap, rfl⟩ := hr.shape
  have HH : Hid _ := h
  have H64 : Hid _ := h64
  have HWK : Hid _ := hwk
  have HFL : Hid _ := hFl
  generalize setP tv = s at *
  generalize forP L s = l at *
  obtain ⟨N, hN⟩ : ∃ N, N = l.length := ⟨_, rfl⟩
  have HN : Hid _ := hN
  rw [← hN] at hfl
  clear hr h hwf hN h64 hwk hFl
  generalize tv.length = M at *
  go_enter Try.func7, Try.ntmps7
  go_wp2_with fail
  refine hset.out.mono ?_
  rintro e w1 ⟨rfl, rfl⟩
  clear hset
  go_wp2_with fail
  refine hfor.out.mono ?_
  rintro e w1 ⟨u, rfl, hu, t1⟩
  clear hfor
  obtain ⟨au, cu, rfl, hc⟩ := int_form hu
  have HC : Hid _ := hc
  have HU : Hid _ := hu
  have HT1 : Hid _ := t1
  have hub : ∀ g, au = some ⟨g, 0, none⟩ → w.heap.size ≤ g := fun g hg => (int_lt hu g (by rw [hg]; rfl)).1
  have HUB : Hid _ := hub
  have hnn : l.length = N := HN.out.symm
  have HL1 : Hid (WAt w1 b F k L) := WAt.touch HH.out t1 (by simp)
  simp only [hnn]
  clear hc hu t1 hub HH hnn
  go_wp2_with fail
  go_loopw [14] (fun i wr => ∃ j : Nat, i = .int .i64 j ∧ j ≤ N ∧ WAt wr b F k (outP L (fun t => decide (t ∈ l.take j))) ∧ Touch w1 wr F) (fun i _ => N - (intOf i).toNat)
  case atStart => exact ⟨0, rfl, Nat.zero_le _, by have : outP L (fun t => decide (t ∈ l.take 0)) = L := by simp [outP]
                                                   rw [this]; exact HL1.out, Touch.refl _ _⟩
  case round =>
    obtain ⟨j, rfl, hj, hat, hT⟩ := hrel
    have HT : Hid _ := hT
    by_cases hlt : j < N
    · have h1 : (j : Int) < N := by omega
      have h0 : (0 : Int) ≤ j := by omega
      have hjl : j < l.length := by rw [← HN.out]; exact hlt
      obtain ⟨g, rfl, hg, d0⟩ := HC.out j (by simpa using hjl)
      have hgF : g ∉ F := fun hs => by have := HFL.out g hs; have := HUB.out g rfl; omega
      have e0 := (hT.cell (p := ⟨g, j, none⟩) hg hgF).trans d0
      have hrm : HidC _ _ _ _ _ := ⟨remove_any hat l[j] (H64.out _ (List.getElem_mem hjl))⟩
      have hsn := outP_snoc L l hjl
      rw [← hsn] at hrm
      clear hsn hat hT
      generalize l[j] = y at *
      go_wp2_with fail
      refine hrm.out.mono ?_
      rintro e w2 ⟨rfl, h2, t2⟩
      have H2 : Hid _ := h2
      have HT2 : Hid _ := HT.out.trans t2 (fun x hx => .inl hx)
      clear hrm h2 t2
      go_wp2
      go_roundw
      case rel => exact ⟨j + 1, by go_num, by omega, H2.out, HT2.out⟩
      case measure => simp [intOf]; omega
    · obtain rfl : j = N := by omega
      have hall : l.take j = l := by rw [HN.out, List.take_length]
      rw [hall, HWK.out] at hat
      have H2 : Hid _ := hat
      clear hat hT hall
      go_wp2
      go_ret
      refine ⟨_, rfl, ?_, H2.out, (HT1.out.mono (by simp)).trans HT.out (fun x hx => .inl hx)⟩
      have := ownsRow_touch HU.out HT.out (fun g hg hs => by have := HFL.out g hs; have := (int_lt HU.out g hg).1; omega)
      have e : j = l.length := HN.out
      show wr.ownsRow w.heap.size 3 1 (.slice au j cu) l.length (l.map (Value.int .i64))
      rw [e]
      exact this

end Go.Proofs.Yteffdibdnoppjab

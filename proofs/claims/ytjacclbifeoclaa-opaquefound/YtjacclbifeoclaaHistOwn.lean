/-
  package history: Own BY ITS CONTRACT.
-/
import Derived.Test.YtjacclbifeoclaaHistReads
namespace Go.Proofs.Ytjacclbifeoclaa
set_option linter.unusedVariables false
set_option linter.unusedSimpArgs false
open Go.RowKit Go.Maps Go.Shelf
attribute [local go_sem] Oper.semAt_some

def sameB (a b : Int) : Bool := ((ofB a.toNat : Nat) : Int) == (ofB b.toNat : Nat)
def ownAt (c : List EvD) (m : Nat) : Bool := match c[m]? with
  | some e => if e.k = 2 then (match getF (noteAll [f0] (c.take m)) e.t with | some v => sameB e.v v | none => true) else true
  | none => true
def ownS (c : List EvD) : Bool := (List.range c.length).all (ownAt c)
theorem ownAt_is {c : List EvD} {m : Nat} (hm : m < c.length) (hk : c[m].k = 2) : ownAt c m = (match getF (noteAll [f0] (c.take m)) c[m].t with | some v => sameB c[m].v v | none => true) := by
  unfold ownAt
  rw [List.getElem?_eq_getElem hm]
  simp only [hk, if_true]
theorem ownAt_not {c : List EvD} {m : Nat} (h : ∀ hm : m < c.length, c[m].k ≠ 2) : ownAt c m = true := by
  unfold ownAt
  by_cases hm : m < c.length
  · rw [List.getElem?_eq_getElem hm]
    simp only [if_neg (h hm)]
  · rw [List.getElem?_eq_none (by omega)]

/-- What Own keeps between two rounds. -/
structure OwI (w : World) (ao : Option Addr) (cap : Nat) (l : List EvD) (a : Int) (k : Nat) (W : World) : Prop where
  b : One W w.heap.size (.bool false) 4
  p : One W (w.heap.size + 1) (.slice ao l.length cap) 22
  q : One W (w.heap.size + 2) (.int .i64 a) 3
  t : Touch w W []
  log : LogAt (w.heap.size + 3) (cutS a l) k W
  all : ∀ m, m < k - 1 → ownAt (cutS a l) m = true
theorem OwI.go {w W W' : World} {ao : Option Addr} {cap : Nat} {l : List EvD} {a : Int} {k k' : Nat} {S : List Nat} (h : OwI w ao cap l a k W) (hk : ∀ m, m < k' - 1 → m < k - 1 ∨ ownAt (cutS a l) m = true) (t : Touch W W' S)
    (hS : ∀ x ∈ S, w.heap.size + 3 ≤ x) (hlog : LogAt (w.heap.size + 3) (cutS a l) k' W') : OwI w ao cap l a k' W' := by
  have hn : ∀ y, y < w.heap.size + 3 → y ∉ S := fun y hy hs => by have := hS y hs; omega
  exact ⟨One.touch h.b t (hn _ (by omega)), One.touch h.p t (hn _ (by omega)), One.touch h.q t (hn _ (by omega)), h.t.trans t (fun x hx => .inr (by have := hS x hx; omega)), hlog, fun m hm => (hk m hm).elim (h.all m) id⟩

/-- .. and where it leaves. -/
structure OwX (w : World) (c : List EvD) (W : World) : Prop where
  b : One W w.heap.size (.bool false) 4
  t : Touch w W []
  no : ownS c = false

set_option maxRecDepth 100000 in
set_option maxHeartbeats 2000000 in
theorem own_any {w : World} {ao : Option Addr} {cap : Nat} {l : List EvD} (hr : EvRow w (.slice ao l.length cap) l) (hl : l.length ≤ 1000) (hwf : ∀ e ∈ l, e.Wf) (a : Int) :
    Calls Try.prog 89 #[.slice ao l.length cap, .int .i64 a] w fun e w' => e = .returned (.bool (ownS (cutS a l))) ∧ Touch w w' [] := by
  obtain ⟨res, hres⟩ : ∃ r, r = ownS (cutS a l) := ⟨_, rfl⟩
  rw [← hres]
  have HRES : Hid _ := hres
  clear hres
  refine (callsIn_wide (n := 5)).1 ?_
  refine callsIn_of_wp_marks Try.func89 rfl trivial ?_ rfl
  simp only [Try.ntmps89, List.size_toArray, List.length_cons, List.length_nil, Nat.reduceAdd, Nat.reduceSub, Array.replicate_succ, Array.replicate_zero, List.push_toArray, List.append_toArray, List.nil_append, List.cons_append]
  obtain ⟨N, hN⟩ : ∃ N, N = l.length := ⟨_, rfl⟩
  have HN : Hid (N = l.length) := hN
  have HR : Hid (EvRow w (.slice ao l.length cap) l) := hr
  have HW : Hid _ := hwf
  have HL : Hid _ := hl
  rw [← hN]
  clear hN hr hwf hl
  gi_wp2_with fail
  refine ⟨trivial, ?_⟩
  refine (callsIn_wide.2 (readings_any ao N cap a _)).mono ?_
  rintro x w1 ⟨rfl, hw1⟩
  gi_wp2_with fail
  refine wpIn_name fun W1 hW1 => ?_
  have hsz : W1.heap.size = w.heap.size + 3 := by rw [hW1]; simp
  have HI0 : Hid (OwI w ao cap l a 0 W1) := by
    refine ⟨?_, ?_, ?_, ?_, .inl rfl, fun m hm => by omega⟩
    · rw [hW1]; exact ((one_new w _ _).alloc _).alloc _
    · rw [hW1, ← HN.out]
      have := (one_new (w.alloc (.cells #[.bool false] 4)) (.slice ao N cap) 22).alloc (.cells #[.int .i64 a] 3)
      rw [World.size_alloc] at this
      exact this
    · rw [hW1]
      have := one_new ((w.alloc (.cells #[.bool false] 4)).alloc (.cells #[.slice ao N cap] 22)) (.int .i64 a) 3
      rw [World.size_alloc, World.size_alloc] at this
      exact this
    · rw [hW1]; exact (((Touch.refl w []).alloc _).alloc _).alloc _
  clear hW1 hw1
  have HCL : Hid ((cutS a l).length ≤ 1000) := Nat.le_trans (cutS_le a l) HL.out
  obtain ⟨c, hc⟩ : ∃ c, c = cutS a l := ⟨_, rfl⟩
  rw [← hc] at HCL HRES
  have HC : Hid _ := hc
  clear hc
  obtain ⟨ev, hev⟩ : ∃ ev : Nat → EvD, ∀ m (hm : m < c.length), ev (m + 1) = c[m] := ⟨fun k => c.getD (k - 1) ⟨0, 0, 0, 0⟩, fun m hm => by simp [List.getD_eq_getElem?_getD, hm]⟩
  refine rangeFunc_evs (by omega) (gf := 110) (lb := #[ptr (w.heap.size + 1), ptr (w.heap.size + 2)]) rfl (enters_of Try.func110 (by kernel_rfl) rfl)
    (fun k => #[(ev k).val, ptr (w.heap.size + 3 + 4)]) (fun _ => rfl) none 51 (fun k => ∃ m, k = m + 1 ∧ ∃ hm : m < c.length, c[m].k = 2) (OwI w ao cap l a) (OwX w c) (c.length + 1) ?put ?putX ?new HI0.out
    (fun k s => { tmps := #[.slice ao N cap, .int .i64 a, undef, undef, ptr w.heap.size, ptr s, ptr (w.heap.size + 3 + 4), undef, undef, .slice ao N cap, .int .i64 a, .func (.func 110) #[] #[ptr (w.heap.size + 1), ptr (w.heap.size + 2)], (ev k).val, ptr (w.heap.size + 3 + 4), undef, undef, undef, undef, undef, undef, undef, undef, undef, undef, undef, undef, undef, undef, undef], defers := [] }) (fun k => (ev k).obj) ?seq ?assign ?body ?done ?left
  case put =>
    rintro k W l1 o1 o' hI hl1 ho hc1
    refine hI.go (fun m hm => .inl hm) ((Touch.refl W [l1]).putObj (.inl (by simp)) o') (fun x hx => by simp at hx; omega) (hI.log.touch ((Touch.refl W [l1]).putObj (.inl (by simp)) o') (fun x hx => .inl (by simp at hx; omega)))
  case putX =>
    rintro W l1 o1 o' hI hl1 ho hc1
    have tp : Touch W (W.putObj l1 o') [l1] := (Touch.refl W [l1]).putObj (.inl (by simp)) o'
    exact ⟨One.touch hI.b tp (by simp; omega), hI.t.trans tp (fun x hx => .inr (by simp at hx; omega)), hI.no⟩
  case new => exact fun k W o' h => h.go (fun m hm => .inl hm) ((Touch.refl W []).alloc o') (by simp) (h.log.touch ((Touch.refl W []).alloc o') (by simp))
  case seq =>
    intro J Y W hJI hJT hWs hJ0 hJY
    have hc := HC.out
    rw [hsz] at hWs hJT hJY
    have := readings1_in 4 (by omega) (W1.heap.size + 1) (w.heap.size + 1) (w.heap.size + 2) (w.heap.size + 3) ao cap l a HL.out HW.out J Y ?_ ?_ ?_ ?_ W hWs hJ0
    · rw [← hc] at this; exact this
    · intro W hJ
      have h := hJI 0 W hJ
      exact ⟨h.p.cell, h.q.cell, SRow.keep HR.out h.t (by simp)⟩
    · intro m W hJ
      rcases (hJI _ W hJ).log with h | ⟨ch, h⟩
      · omega
      · exact ⟨ch, h⟩
    · intro k k' W W' S hJ hst t hS hlog
      refine hJT k k' W W' S hJ ((hJI k W hJ).go ?_ t (fun x hx => by have := (hS x hx).1; omega) hlog) t (fun h => by have := (hS _ h).1; omega) (fun h => by have := (hS _ h).1; omega)
      rcases hst with rfl | ⟨rfl, hnr⟩
      · exact fun m hm => .inl hm
      · intro m hm
        by_cases hmk : m < k - 1
        · exact .inl hmk
        · exact .inr (ownAt_not (fun hml => hnr m hml (by omega)))
    · intro m W hm hk2 hJ
      have := hJY (m + 1) W ⟨m, rfl, by rw [hc]; exact hm, by simp only [hc]; exact hk2⟩ hJ
      have hg : ev (m + 1) = (cutS a l)[m] := by rw [hev m (by rw [hc]; exact hm)]; simp only [hc]
      rw [hg] at this
      rw [hsz]
      exact this
  case assign =>
    intro l k W K hK
    gi_wp2
    exact hK
  case body =>
    rintro l1 k s W ⟨m, rfl, hm, hk2⟩ hI hs hs2
    have hg := hev m hm
    have HL2 : Hid (∀ W, LogAt (w.heap.size + 3) c (m + 1) W → LogAt (w.heap.size + 3) c (m + 1 + 1) W) := fun W h => h.read hm hk2
    have hst := ownAt_is hm hk2
    obtain ⟨e, he⟩ : ∃ e, e = c[m] := ⟨_, rfl⟩
    have hwe : e.Wf := by rw [he]; exact cutS_wf HW.out a _ (by rw [← HC.out]; exact List.getElem_mem _)
    rw [← he] at hg hst
    simp only [hg] at hs ⊢
    have hIl := hI.log
    rw [← HC.out] at hIl
    obtain ⟨ch, hp⟩ : ∃ ch, PLog (w.heap.size + 3 + 2) W (w.heap.size + 3 + 4) ch (noteAll [f0] (c.take m)) := by
      rcases hIl with h | h
      · omega
      · exact h
    have hgt := get_any hp e.t hwe.t
    have e2 : W.cell? ⟨s, 2, none⟩ = some (.int .i64 e.t) := by simp [World.cell?, hs]
    have e3 : W.cell? ⟨s, 3, none⟩ = some (.int .u64 e.v) := by simp [World.cell?, hs]
    have hslt := lt_of_heap hs
    have HI : Hid _ := hI
    have HST : Hid _ := hst
    have HWE : Hid _ := hwe
    have HP : Hid _ := hp
    have HM : Hid _ := hm
    clear hs hI hst hIl hp hk2 he hwe
    have hgo : ∀ w2, Touch W w2 [] → ownAt c m = true → OwI w ao cap l a (m + 1 + 1) w2 := fun w2 t2 ho => by
      refine HI.out.go (fun j hj => ?_) t2 (by simp) ?_
      · by_cases hjm : j < m + 1 - 1
        · exact .inl hjm
        · obtain rfl : j = m := by omega
          exact .inr (by rw [← HC.out]; exact ho)
      · rw [← HC.out]; exact HL2.out _ (by have := HI.out.log; rw [← HC.out] at this; exact this.touch t2 (by simp))
    have HGO : Hid _ := hgo
    clear hgo
    cases hq : getF (noteAll [f0] (c.take m)) e.t with
    | none =>
      rw [hq] at hgt
      simp only [Option.getD_none, Option.isSome_none] at hgt
      have HO : Hid (ownAt c m = true) := by show _ = _; rw [HST.out, hq]
      clear hq
      gi_wp2_with fail
      refine ⟨trivial, ?_⟩
      refine (callsIn_wide.2 hgt).mono ?_
      rintro x w2 ⟨rfl, t2⟩
      clear hgt
      gi_wp2
      refine ⟨trivial, ?_⟩
      gi_wp2
      refine ⟨keeps_of_touch t2 (by simp), .inl ⟨rfl, HGO.out w2 t2 HO.out, KeepsE.touch t2 (by simp)⟩⟩
    | some u =>
      rw [hq] at hgt
      simp only [Option.getD_some, Option.isSome_some] at hgt
      have hsm := same_any e.v u
      have hst2 : ownAt c m = sameB e.v u := by rw [HST.out, hq]
      unfold sameB at hst2
      have HO : Hid _ := hst2
      clear hq hst2
      generalize hz : (((ofB e.v.toNat : Nat) : Int) == (ofB u.toNat : Nat)) = z at *
      clear hz
      gi_wp2_with fail
      refine ⟨trivial, ?_⟩
      refine (callsIn_wide.2 hgt).mono ?_
      rintro x w2 ⟨rfl, t2⟩
      have g3 := (t2.cell (p := ⟨s, 3, none⟩) hslt (by simp)).trans e3
      have b2 := One.touch HI.out.b t2 (by simp)
      have cb := b2.cell
      have fb := b2.frozen
      clear hgt e2 e3
      gi_wp2_with fail
      refine ⟨trivial, ?_⟩
      refine (callsIn_wide.2 (hsm w2)).mono ?_
      rintro x w3 ⟨rfl, rfl⟩
      clear hsm
      cases z with
      | true =>
        gi_wp2
        refine ⟨keeps_of_touch t2 (by simp), .inl ⟨rfl, HGO.out w2 t2 HO.out, KeepsE.touch t2 (by simp)⟩⟩
      | false =>
        gi_wp2
        have tt : Touch W (w2.setCell ⟨w.heap.size, 0, none⟩ (.bool false)) [w.heap.size] := (t2.mono (by simp)).setCell (.inl (by simp)) _
        refine ⟨keeps_of_touch tt (fun x hx => by simp at hx; subst hx; exact ⟨_, _, _, HI.out.b⟩), .inr ⟨rfl, ⟨b2.set _, HI.out.t.trans tt (fun x hx => .inr (by simp at hx; omega)), ?_⟩⟩⟩
        unfold ownS
        rw [Bool.eq_false_iff]
        intro hall
        have := (List.all_eq_true.1 hall) m (by simpa using HM.out)
        rw [HO.out] at this
        cases this
  case done =>
    rintro W hI hd
    have cb := hI.b.cell
    have fb := hI.b.frozen
    have HI : Hid _ := hI
    have HSZ : Hid _ := hsz
    clear hI hsz
    gi_wp2
    have hd2 : (W.setCell ⟨w.heap.size, 0, none⟩ (.bool true)).heap[W1.heap.size]? = some (.deferred (some [])) := by
      have ts : Touch W (W.setCell ⟨w.heap.size, 0, none⟩ (.bool true)) [w.heap.size] := (Touch.refl W _).setCell (.inl (by simp)) _
      exact (ts.block _ (lt_of_heap hd) (by simp [HSZ.out])).trans hd
    have b2 : One (W.setCell ⟨w.heap.size, 0, none⟩ (.bool true)) w.heap.size (.bool true) 4 := HI.out.b.set _
    have t2 : Touch w (W.setCell ⟨w.heap.size, 0, none⟩ (.bool true)) [] := HI.out.t.setCell (.inr (Nat.le_refl _)) _
    generalize W.setCell ⟨w.heap.size, 0, none⟩ (.bool true) = W2 at *
    have tp : Touch W2 (W2.putObj W1.heap.size (.deferred none)) [W1.heap.size] := (Touch.refl W2 [W1.heap.size]).putObj (.inl (by simp)) _
    have b3 := (One.touch b2 tp (by simp [HSZ.out])).cell
    refine ⟨by simp, .inl ⟨_, _, rfl, run_takeDeferred hd2, ?_⟩⟩
    refine ⟨.bool true, ?_, ?_, t2.trans tp (by intro x hx; simp at hx; have := HSZ.out; exact .inr (by omega))⟩
    · simp [results, Try.results89, go_sem, b3]
    · rw [HRES.out]
      have : ownS c = true := by
        unfold ownS
        refine List.all_eq_true.2 (fun m hm => ?_)
        have := HI.out.all m (by simpa using hm)
        rw [← HC.out] at this
        exact this
      rw [this]
  case left =>
    rintro W hI hd
    have cb := hI.b.cell
    have HI : Hid _ := hI
    have HSZ : Hid _ := hsz
    clear hI hsz
    unfold jC
    gi_wp2
    have tp : Touch W (W.putObj W1.heap.size (.deferred none)) [W1.heap.size] := (Touch.refl W [W1.heap.size]).putObj (.inl (by simp)) _
    have b3 := (One.touch HI.out.b tp (by simp [HSZ.out])).cell
    refine ⟨by simp, .inl ⟨_, _, rfl, run_takeDeferred hd, ?_⟩⟩
    refine ⟨.bool false, ?_, ?_, HI.out.t.trans tp (by intro x hx; simp at hx; have := HSZ.out; exact .inr (by omega))⟩
    · simp [results, Try.results89, go_sem, b3]
    · rw [HRES.out, HI.out.no]

end Go.Proofs.Ytjacclbifeoclaa

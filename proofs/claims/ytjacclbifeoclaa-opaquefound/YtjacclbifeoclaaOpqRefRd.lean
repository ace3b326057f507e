/-
  package rowlockref08: Reads, Writes, Own BY THEIR CONTRACTS.
-/
import Derived.Test.YtjacclbifeoclaaHistRefLog
import Derived.Test.YtjacclbifeoclaaOpqFits
import Derived.Deep.RegionLaw
namespace Go.Proofs.Ytjacclbifeoclaa
set_option linter.unusedVariables false
set_option linter.unusedSimpArgs false
open Go.RowKit Go.Maps Go.Shelf
attribute [local go_sem] Oper.semAt_some

set_option maxRecDepth 100000 in
set_option maxHeartbeats 1000000 in
theorem rall_any {B : Nat} {w : World} {b : Nat} {vl : Value} {Fs : List Fr} (h : RLog B w b vl Fs.reverse) : Calls Try.prog 94 #[ptr b] w (AllE w (allK (getF Fs) 12)) := by
  obtain ⟨i0, hi, hz0, hz1, hz2⟩ := info_parts Try.info_pair
  have HS : Hid _ := h
  clear h
  go_enter Try.func94, Try.ntmps94
  go_wp2_with fail
  go_loopw [3, 4] (fun v i wr => ∃ k : Nat, i = .int .i64 k ∧ k ≤ 12 ∧ pairRow wr w.heap.size v (allK (getF Fs) k) ∧ Touch w wr []) (fun _ i _ => 12 - (intOf i).toNat)
  case atStart => exact ⟨0, rfl, by omega, World.ownsRow_nil _ _ _ _, Touch.refl _ _⟩
  case round =>
    obtain ⟨k, rfl, hk, hrow, hT⟩ := hrel
    have HT : Hid _ := hT
    have hts := hT.size
    by_cases hlt : k < 12
    · have hlt' : (k : Int) < 12 := by omega
      have hg := rget_any (HS.out.touch hT) k
      rw [List.reverse_reverse] at hg
      have hle := allK_le (getF Fs) k
      clear hT
      cases hq : getF Fs k with
      | none =>
        rw [hq] at hg
        simp only [Option.getD_none, Option.isSome_none] at hg
        have e1 := allK_none hq
        rw [← e1] at hrow
        have HR : Hid _ := hrow
        clear hrow hq e1
        go_wp2_with fail
        refine hg.mono ?_
        rintro e w1 ⟨rfl, t1⟩
        clear hg
        have HR1 : Hid _ := ownsRow_touch HR.out t1 (by simp)
        clear HR
        go_wp2
        go_roundw
        case rel => exact ⟨k + 1, by go_num, by omega, HR1.out, HT.out.trans t1 (by simp)⟩
        case measure => simp [intOf]; omega
      | some v =>
        rw [hq] at hg
        simp only [Option.getD_some, Option.isSome_some] at hg
        have e1 := allK_some hq
        have HE1 : Hid _ := e1
        have HR : Hid _ := hrow
        clear hrow hq e1
        go_wp2_with fail
        refine hg.mono ?_
        rintro e w1 ⟨rfl, t1⟩
        clear hg
        have hrow := ownsRow_touch HR.out t1 (by simp)
        have hts1 := t1.size
        clear HR
        go_wp2_with (at_builtin; refine wpList_append_own_at _ rfl _ _ 110 rfl w.heap.size 113 i0 _ 2 16 Try.underlying110 hi hz0 hz1 hz2 rfl (by decide) _ _ _ rfl (hrow.alloc _) ⟨w1.heap.size, 0, none⟩ 1 1 [.int .i64 (k : Int), .int .u64 v] rfl rfl (World.news_of_block (cs := #[.int .i64 (k : Int), .int .u64 v]) (t := 113) (fr := (0, 0)) (heap_alloc_new w1 _)) (by simp [Value.oneCell']) (by unfold maxLen; omega) (by omega) (by simp; omega) ?_)
        intro v' w2 hown' hgrow _ _
        have t2 : Touch w w2 [] := ((HT.out.trans t1 (by simp)).alloc _).grown hgrow (fun q hq => .inr (by
          rcases hrow.2 with ⟨e, _⟩ | ⟨g, cap, cur, e, hbg, _⟩
          · rw [e] at hq; simp [Value.ownBlock] at hq
          · rw [e] at hq; simp [Value.ownBlock] at hq; omega))
        have HR : Hid (pairRow w2 w.heap.size v' (allK (getF Fs) (k + 1))) := by
          show w2.ownsRow _ _ _ _ _ _
          rw [HE1.out, List.length_append, List.flatMap_append]
          exact hown'
        clear hown' hgrow hrow
        go_wp2
        go_roundw
        case rel => exact ⟨k + 1, by go_num, by omega, HR.out, t2⟩
        case measure => simp [intOf]; omega
    · obtain rfl : k = 12 := by omega
      have HR : Hid _ := hrow
      clear hrow hT
      go_wp2
      go_ret
      exact ⟨_, _, rfl, HR.out, Nat.le_refl _, HT.out⟩


/-! ### Plain data -/
theorem readsS_pre (c x : List EvD) : ∀ m, m ≤ c.length → readsS (c ++ x) m = readsS c m
  | 0, _ => rfl
  | m + 1, h => by
    rw [readsS_step (c := c ++ x) (by simp; omega), readsS_step (c := c) (by omega), readsS_pre c x m (by omega)]
    rw [List.getElem_append_left (by omega), List.take_append_of_le_length (by omega)]
theorem rd_snoc {l : List EvD} {a : Int} {k : Nat} (hk : k < l.length) : rdP (l.take (k + 1)) a = if l[k].a = a ∧ l[k].k = 2 ∧ getF (noteAll [f0] (cutS a (l.take k))) l[k].t = none then rdP (l.take k) a ++ [(l[k].t, l[k].v)] else rdP (l.take k) a := by
  unfold rdP
  rw [cutS_snoc hk]
  by_cases ha : l[k].a = a
  · rw [if_pos ha, List.length_append, List.length_singleton, readsS_step (by simp), readsS_pre _ _ _ (Nat.le_refl _)]
    simp only [List.getElem_append_right (Nat.le_refl _), Nat.sub_self, List.getElem_cons_zero, List.take_left']
    by_cases h2 : l[k].k = 2 ∧ getF (noteAll [f0] (cutS a (l.take k))) l[k].t = none
    · rw [if_pos h2, if_pos ⟨ha, h2⟩]
    · rw [if_neg h2, if_neg (fun h => h2 h.2)]
  · rw [if_neg ha, if_neg (fun h => ha h.1)]
/-- Values of frames are right. -/
def RtF (Fs : List Fr) : Prop := ∀ f ∈ Fs, ∀ v, some v ∈ f → rightB v = true
theorem RtF.f0 : RtF [Go.Proofs.Ytjacclbifeoclaa.f0] := by
  intro f hf v hv
  simp at hf
  subst hf
  simp [Go.Proofs.Ytjacclbifeoclaa.f0] at hv
theorem RtF.note {Fs : List Fr} (h : RtF Fs) (e : EvD) : RtF (noteS Fs e).2 := by
  unfold noteS
  split
  · cases Fs with
    | nil => exact h
    | cons f r =>
      simp only [putS]
      split
      · exact h
      · split
        · exact h
        · rename_i hv
          split
          · exact h
          · intro g hg u hu
            rcases List.mem_cons.1 hg with rfl | hg
            · unfold fput at hu
              rcases List.mem_or_eq_of_mem_set hu with h1 | h1
              · exact h f (by simp) u h1
              · cases h1; simpa using hv
            · exact h g (by simp [hg]) u hu
  · split
    · unfold pushS
      split
      · exact h
      · intro g hg u hu
        rcases List.mem_cons.1 hg with rfl | hg
        · simp [Go.Proofs.Ytjacclbifeoclaa.f0] at hu
        · exact h g hg u hu
    · split
      · unfold dropS
        split
        · intro g hg u hu; exact h g (by simp only [List.mem_cons] at hg ⊢; exact .inr hg) u hu
        · exact h
      · split
        · unfold mergeS
          split
          · rename_i f g r
            intro x hx u hu
            rcases List.mem_cons.1 hx with rfl | hx
            · obtain ⟨i, hi, e⟩ := List.getElem_of_mem hu
              simp only [fover, List.getElem_zipWith] at e
              simp only [fover, List.length_zipWith] at hi
              cases hf : f[i] with
              | none => rw [hf] at e; exact h g (by simp) u (by simp at e; rw [← e]; exact List.getElem_mem _)
              | some v => rw [hf] at e; simp at e; subst e; exact h f (by simp) _ (by rw [← hf]; exact List.getElem_mem _)
            · exact h x (by simp [hx]) u hu
          · exact h
        · exact h
theorem RtF.all (c : List EvD) : ∀ {Fs : List Fr}, RtF Fs → RtF (noteAll Fs c) := by
  induction c with
  | nil => intro Fs h; exact h
  | cons e c ih => intro Fs h; exact ih (h.note e)
theorem RtF.get {Fs : List Fr} (h : RtF Fs) {t v : Int} (hg : getF Fs t = some v) : rightB v = true := by
  unfold getF at hg
  obtain ⟨f, hf, e⟩ := List.exists_of_findSome?_eq_some hg
  unfold fget at e
  split at e
  · rw [List.getD_eq_getElem?_getD] at e
    cases hq : f[t.toNat]? with
    | none => rw [hq] at e; cases e
    | some o => rw [hq] at e; simp at e; subst e; exact h f hf v (List.mem_of_getElem? hq)
  · cases e
/-- Own, event by event, by the values' bits. -/
def ownL (l : List EvD) (a : Int) (k : Nat) : Bool := match l[k]? with
  | some e => if e.a = a ∧ e.k = 2 then (match getF (noteAll [f0] (cutS a (l.take k))) e.t with | some v => v == e.v | none => true) else true
  | none => true
def ownB (l : List EvD) (a : Int) : Bool := (List.range l.length).all (ownL l a)
theorem ownAt_pre (c x : List EvD) {m : Nat} (h : m < c.length) : ownAt (c ++ x) m = ownAt c m := by
  unfold ownAt
  rw [List.getElem?_append_left h, List.take_append_of_le_length (by omega)]
theorem ownS_snoc (c : List EvD) (e : EvD) : ownS (c ++ [e]) = (ownS c && if e.k = 2 then (match getF (noteAll [f0] c) e.t with | some v => sameB e.v v | none => true) else true) := by
  unfold ownS
  rw [List.length_append, List.length_singleton, List.range_succ, List.all_append]
  have h1 : (List.range c.length).all (ownAt (c ++ [e])) = (List.range c.length).all (ownAt c) := by
    rw [Bool.eq_iff_iff, List.all_eq_true, List.all_eq_true]
    constructor
    · intro h m hm; rw [← ownAt_pre c [e] (by simpa using hm)]; exact h m hm
    · intro h m hm; rw [ownAt_pre c [e] (by simpa using hm)]; exact h m hm
  have h2 : ownAt (c ++ [e]) c.length = if e.k = 2 then (match getF (noteAll [f0] c) e.t with | some v => sameB e.v v | none => true) else true := by
    unfold ownAt
    rw [List.getElem?_append_right (Nat.le_refl _), Nat.sub_self, List.take_left']
    · rfl
    · rfl
  rw [h1]
  simp only [List.all_cons, List.all_nil, Bool.and_true, h2]
theorem same_right' {a b : Int} (ha : rightB a = true) (hb : rightB b = true) : sameB a b = (b == a) := by
  unfold rightB at ha hb
  simp only [decide_eq_true_eq] at ha hb
  unfold sameB
  rw [ha, hb, Bool.eq_iff_iff]
  simp only [beq_iff_eq]
  exact ⟨fun h => h.symm, fun h => h.symm⟩
theorem own_take {l : List EvD} (hn : ∀ e ∈ l, namedS e = true) (a : Int) : ∀ k, k ≤ l.length → (List.range k).all (ownL l a) = ownS (cutS a (l.take k))
  | 0, _ => rfl
  | k + 1, h => by
    have hk : k < l.length := by omega
    rw [List.range_succ, List.all_append, own_take hn a k (by omega), cutS_snoc hk]
    have hl : ownL l a k = if l[k].a = a ∧ l[k].k = 2 then (match getF (noteAll [f0] (cutS a (l.take k))) l[k].t with | some v => v == l[k].v | none => true) else true := by
      unfold ownL
      rw [List.getElem?_eq_getElem hk]
    simp only [List.all_cons, List.all_nil, Bool.and_true]
    rw [hl]
    by_cases ha : l[k].a = a
    · rw [if_pos ha, ownS_snoc]
      congr 1
      by_cases h2 : l[k].k = 2
      · rw [if_pos ⟨ha, h2⟩, if_pos h2]
        cases hg : getF (noteAll [f0] (cutS a (l.take k))) l[k].t with
        | none => rfl
        | some v =>
          simp only
          rw [same_right' (named_range (hn _ (List.getElem_mem hk))).2.2 ((RtF.all _ RtF.f0).get hg)]
      · rw [if_neg (fun h => h2 h.2), if_neg h2]
    · rw [if_neg ha, if_neg (fun h => ha h.1), Bool.and_true]
theorem own_same {l : List EvD} (hn : ∀ e ∈ l, namedS e = true) (a : Int) : ownB l a = ownS (cutS a l) := by
  have := own_take hn a l.length (Nat.le_refl _)
  rw [List.take_length] at this
  exact this

theorem srow_newP (w : World) (t v : Int) : PRow (w.alloc (.cells #[.int .i64 t, .int .u64 v] 113)) (.slice (some ⟨w.heap.size, 0, none⟩) [(t, v)].length 1) [(t, v)] :=
  ⟨_, _, rfl, fun _ => ⟨w.heap.size, 0, rfl, by simp, fun k hk j hj => by
    have e1 : k = 0 := by simpa using hk
    subst e1
    have e2 : j = 0 ∨ j = 1 := by omega
    rcases e2 with rfl | rfl <;> exact cell_new _ _ _ _⟩⟩

set_option maxRecDepth 100000 in
theorem rwrites_any {w : World} {ao : Option Addr} {cap : Nat} {l : List EvD} (hr : EvRow w (.slice ao l.length cap) l) (hl : l.length ≤ 1000) (hwf : ∀ e ∈ l, e.Wf) (a : Int) :
    Calls Try.prog 74 #[.slice ao l.length cap, .int .i64 a] w (AllE w (wrP l a)) := by
  have ho := rown_any hr hl hwf l.length (Nat.le_refl _) a
  rw [List.take_length] at ho
  unfold wrP
  generalize noteAll [f0] (cutS a l) = Fs at *
  generalize l.length = N at *
  clear hr hl hwf
  go_enter Try.func74, Try.ntmps74
  go_wp2_with fail
  refine ho.mono ?_
  rintro e w1 ⟨b, vl, rfl, hlog, t1⟩
  clear ho
  have ha := rall_any hlog
  have HT : Hid (Touch w w1 []) := t1
  clear hlog t1
  go_wp2_with fail
  refine ha.mono ?_
  rintro e w2 ⟨v, B, rfl, hrow, hB, t2⟩
  clear ha
  have HR : Hid (pairRow w2 B v (allK (getF Fs) 12)) := hrow
  have HB : Hid (w.heap.size ≤ B) := Nat.le_trans HT.out.size hB
  obtain ⟨av, cv, rfl⟩ := owns_slice hrow
  clear hrow hB
  generalize hM : (allK (getF Fs) 12).length = M at HR ⊢
  go_wp2
  go_ret
  exact ⟨_, B, rfl, HR.out, HB.out, HT.out.trans t2 (by simp)⟩

end Go.Proofs.Ytjacclbifeoclaa

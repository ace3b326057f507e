/-
  package norec: THE LEDGER: note, enter, began, giveUp BY THEIR CONTRACTS.
-/
import Derived.Test.YtinhdpiecifmhaaNrBase
import Derived.Deep.AppendLies
import Derived.Deep.RegionLaw
namespace Go.Proofs.Ytinhdpiecifmhaa.Nr
set_option linter.unusedVariables false
set_option linter.unusedSimpArgs false
open Go.RowKit Go.Maps

/-- A row of the engine's is another one. -/
theorem EObj.setEv {w w' : World} {X : ELoc} {E : Eng} (h : EObj w X E) {v : Value} {l : List EvD} (t : Touch w w' (X.e :: X.ve.ownBlock.toList)) (hst : w'.heap[X.e]? = some (.cells (ecells { X with ve := v }) 63 (0, 0))) (hrow : evRow w' v l)
    (hat : v.ownBlock = X.ve.ownBlock ∨ ∀ q, v.ownBlock = some q → w.heap.size ≤ q) : EObj w' { X with ve := v } { E with ev := l } ∧ Next w X w' { X with ve := v } := by
  have hoth : ∀ c, c ≠ 1 → ({ X with ve := v } : ELoc).foot c = X.foot c := fun c hc => by
    match c, hc with
    | 0, hc => first | rfl | exact absurd rfl hc
    | 1, hc => first | rfl | exact absurd rfl hc
    | 2, hc => first | rfl | exact absurd rfl hc
    | 3, hc => first | rfl | exact absurd rfl hc
    | 4, hc => first | rfl | exact absurd rfl hc
    | j + 5, _ => rfl
  have hnew : ∀ x ∈ ({ X with ve := v } : ELoc).foot 1, x ∈ X.foot 1 ∨ w.heap.size ≤ x := fun x hx => by
    have hx' : v.ownBlock = some x := by simpa [ELoc.foot] using hx
    rcases hat with e | e
    · left
      simp only [ELoc.foot]
      rw [← e, hx']
      simp
    · exact .inr (e x hx')
  have hno : ∀ c, c ≠ 0 → c ≠ 1 → ∀ x ∈ X.foot c, x ∉ (X.e :: X.ve.ownBlock.toList) := fun c h0 h1 x hx hx' => by
    rcases List.mem_cons.1 hx' with e | e
    · exact h.ap c 0 h0 x hx (by simp [ELoc.foot, e])
    · exact h.ap c 1 h1 x hx e
  refine ⟨⟨hst, ?_, ?_, ?_, ?_, fun j => ?_, apart_upd h.ap h.lt 1 hoth hnew⟩, ?_⟩
  · first | exact hrow | (have hh := ownsRow_touch h.ev t (fun q hq => hno 1 (by omega) (by omega) q (by simp [ELoc.foot, hq])); exact hh)
  · first | exact hrow | (have hh := ownsRow_touch h.pg t (fun q hq => hno 2 (by omega) (by omega) q (by simp [ELoc.foot, hq])); exact hh)
  · first | exact hrow | (have hh := ownsRow_touch h.hp t (fun q hq => hno 3 (by omega) (by omega) q (by simp [ELoc.foot, hq])); exact hh)
  · exact h.lk.touch t (hno 4 (by omega) (by omega) _ (by simp [ELoc.foot]))
  · exact (h.at' j).keep t (hno (j + 5) (by omega) (by omega))
  · refine Next.of t (fun x hx => ?_) rfl (fun x ⟨c, hx⟩ => ?_)
    · rcases List.mem_cons.1 hx with e | e
      · exact .inl ⟨0, by simp [ELoc.foot, e]⟩
      · exact .inl ⟨1, e⟩
    · by_cases hc : c = 1
      · subst hc
        rcases hnew x hx with q | q
        · exact .inl ⟨1, q⟩
        · exact .inr q
      · rw [hoth c hc] at hx
        exact .inl ⟨c, hx⟩

/-- A row of the engine's is another one. -/
theorem EObj.setPg {w w' : World} {X : ELoc} {E : Eng} (h : EObj w X E) {v : Value} {l : List PgD} (t : Touch w w' (X.e :: X.vp.ownBlock.toList)) (hst : w'.heap[X.e]? = some (.cells (ecells { X with vp := v }) 63 (0, 0))) (hrow : pgRow w' v l)
    (hat : v.ownBlock = X.vp.ownBlock ∨ ∀ q, v.ownBlock = some q → w.heap.size ≤ q) : EObj w' { X with vp := v } { E with pg := l } ∧ Next w X w' { X with vp := v } := by
  have hoth : ∀ c, c ≠ 2 → ({ X with vp := v } : ELoc).foot c = X.foot c := fun c hc => by
    match c, hc with
    | 0, hc => first | rfl | exact absurd rfl hc
    | 1, hc => first | rfl | exact absurd rfl hc
    | 2, hc => first | rfl | exact absurd rfl hc
    | 3, hc => first | rfl | exact absurd rfl hc
    | 4, hc => first | rfl | exact absurd rfl hc
    | j + 5, _ => rfl
  have hnew : ∀ x ∈ ({ X with vp := v } : ELoc).foot 2, x ∈ X.foot 2 ∨ w.heap.size ≤ x := fun x hx => by
    have hx' : v.ownBlock = some x := by simpa [ELoc.foot] using hx
    rcases hat with e | e
    · left
      simp only [ELoc.foot]
      rw [← e, hx']
      simp
    · exact .inr (e x hx')
  have hno : ∀ c, c ≠ 0 → c ≠ 2 → ∀ x ∈ X.foot c, x ∉ (X.e :: X.vp.ownBlock.toList) := fun c h0 h1 x hx hx' => by
    rcases List.mem_cons.1 hx' with e | e
    · exact h.ap c 0 h0 x hx (by simp [ELoc.foot, e])
    · exact h.ap c 2 h1 x hx e
  refine ⟨⟨hst, ?_, ?_, ?_, ?_, fun j => ?_, apart_upd h.ap h.lt 2 hoth hnew⟩, ?_⟩
  · first | exact hrow | (have hh := ownsRow_touch h.ev t (fun q hq => hno 1 (by omega) (by omega) q (by simp [ELoc.foot, hq])); exact hh)
  · first | exact hrow | (have hh := ownsRow_touch h.pg t (fun q hq => hno 2 (by omega) (by omega) q (by simp [ELoc.foot, hq])); exact hh)
  · first | exact hrow | (have hh := ownsRow_touch h.hp t (fun q hq => hno 3 (by omega) (by omega) q (by simp [ELoc.foot, hq])); exact hh)
  · exact h.lk.touch t (hno 4 (by omega) (by omega) _ (by simp [ELoc.foot]))
  · exact (h.at' j).keep t (hno (j + 5) (by omega) (by omega))
  · refine Next.of t (fun x hx => ?_) rfl (fun x ⟨c, hx⟩ => ?_)
    · rcases List.mem_cons.1 hx with e | e
      · exact .inl ⟨0, by simp [ELoc.foot, e]⟩
      · exact .inl ⟨2, e⟩
    · by_cases hc : c = 2
      · subst hc
        rcases hnew x hx with q | q
        · exact .inl ⟨2, q⟩
        · exact .inr q
      · rw [hoth c hc] at hx
        exact .inl ⟨c, hx⟩

/-- A row of the engine's is another one. -/
theorem EObj.setHp {w w' : World} {X : ELoc} {E : Eng} (h : EObj w X E) {v : Value} {l : List Int} (t : Touch w w' (X.e :: X.vh.ownBlock.toList)) (hst : w'.heap[X.e]? = some (.cells (ecells { X with vh := v }) 63 (0, 0))) (hrow : hpRow w' v l)
    (hat : v.ownBlock = X.vh.ownBlock ∨ ∀ q, v.ownBlock = some q → w.heap.size ≤ q) : EObj w' { X with vh := v } { E with hp := l } ∧ Next w X w' { X with vh := v } := by
  have hoth : ∀ c, c ≠ 3 → ({ X with vh := v } : ELoc).foot c = X.foot c := fun c hc => by
    match c, hc with
    | 0, hc => first | rfl | exact absurd rfl hc
    | 1, hc => first | rfl | exact absurd rfl hc
    | 2, hc => first | rfl | exact absurd rfl hc
    | 3, hc => first | rfl | exact absurd rfl hc
    | 4, hc => first | rfl | exact absurd rfl hc
    | j + 5, _ => rfl
  have hnew : ∀ x ∈ ({ X with vh := v } : ELoc).foot 3, x ∈ X.foot 3 ∨ w.heap.size ≤ x := fun x hx => by
    have hx' : v.ownBlock = some x := by simpa [ELoc.foot] using hx
    rcases hat with e | e
    · left
      simp only [ELoc.foot]
      rw [← e, hx']
      simp
    · exact .inr (e x hx')
  have hno : ∀ c, c ≠ 0 → c ≠ 3 → ∀ x ∈ X.foot c, x ∉ (X.e :: X.vh.ownBlock.toList) := fun c h0 h1 x hx hx' => by
    rcases List.mem_cons.1 hx' with e | e
    · exact h.ap c 0 h0 x hx (by simp [ELoc.foot, e])
    · exact h.ap c 3 h1 x hx e
  refine ⟨⟨hst, ?_, ?_, ?_, ?_, fun j => ?_, apart_upd h.ap h.lt 3 hoth hnew⟩, ?_⟩
  · first | exact hrow | (have hh := ownsRow_touch h.ev t (fun q hq => hno 1 (by omega) (by omega) q (by simp [ELoc.foot, hq])); exact hh)
  · first | exact hrow | (have hh := ownsRow_touch h.pg t (fun q hq => hno 2 (by omega) (by omega) q (by simp [ELoc.foot, hq])); exact hh)
  · first | exact hrow | (have hh := ownsRow_touch h.hp t (fun q hq => hno 3 (by omega) (by omega) q (by simp [ELoc.foot, hq])); exact hh)
  · exact h.lk.touch t (hno 4 (by omega) (by omega) _ (by simp [ELoc.foot]))
  · exact (h.at' j).keep t (hno (j + 5) (by omega) (by omega))
  · refine Next.of t (fun x hx => ?_) rfl (fun x ⟨c, hx⟩ => ?_)
    · rcases List.mem_cons.1 hx with e | e
      · exact .inl ⟨0, by simp [ELoc.foot, e]⟩
      · exact .inl ⟨3, e⟩
    · by_cases hc : c = 3
      · subst hc
        rcases hnew x hx with q | q
        · exact .inl ⟨3, q⟩
        · exact .inr q
      · rw [hoth c hc] at hx
        exact .inl ⟨c, hx⟩

theorem Try.info_event : (Try.prog.info? 107).map (fun i => (i.zero, i.size, i.bytes)) = some (some (.agg #[.int .u8 0, .int .i64 0, .int .i64 0, .int .u64 0]), 4, 32) := by kernel_rfl
theorem Try.info_page : (Try.prog.info? 104).map (fun i => (i.zero, i.size, i.bytes)) = some (some (.agg #[.int .u64 0, .bool false, .int .u8 0]), 3, 16) := by kernel_rfl

def noteE (E : Eng) (e : EvD) : Eng := { E with ev := E.ev ++ [e] }

/-- What a call leaves that moves no attempt. -/
def LPost (w : World) (X : ELoc) (E : Eng) (v : Value) (x : Ending) (w' : World) : Prop := ∃ X', x = .returned v ∧ EObj w' X' E ∧ Next w X w' X' ∧ X'.at' = X.at' ∧ X'.lk = X.lk ∧ X'.vh = X.vh

theorem EObj.cells {w : World} {X : ELoc} {E : Eng} (h : EObj w X E) : w.cell? ⟨X.e, 0, none⟩ = some X.ve ∧ w.cell? ⟨X.e, 1, none⟩ = some X.vp ∧ w.cell? ⟨X.e, 2, none⟩ = some X.vh ∧ w.cell? ⟨X.e, 3, none⟩ = some (ptr X.lk) ∧ ∀ j, w.frozen? ⟨X.e, j, none⟩ = false := by
  refine ⟨?_, ?_, ?_, ?_, fun j => ?_⟩
  all_goals simp [World.cell?, World.frozen?, h.st, ecells]

theorem own_slice {w : World} {B : Nat} {e : TypeId} {size : Nat} {v : Value} {n : Nat} {xs : List Value} (h : w.ownsRow B e size v n xs) : ∃ ao cap, v = .slice ao n cap := by
  rcases h.2 with ⟨rfl, rfl⟩ | ⟨g, cap, cur, rfl, _⟩
  · exact ⟨none, 0, rfl⟩
  · exact ⟨_, _, rfl⟩

set_option maxRecDepth 100000 in
set_option maxHeartbeats 1600000 in
theorem note_any (X : ELoc) (E : Eng) (e : EvD) (w : World) (h : EObj w X E) (hl : E.ev.length < 100000) : Calls Try.prog 46 #[ptr X.e, e.val] w (LPost w X (noteE E e) (.tuple #[])) := by
  obtain ⟨k, a, t, v⟩ := e
  have tB : Touch w (w.alloc (.cells #[.int .u8 k, .int .i64 a, .int .i64 t, .int .u64 v] 107)) [] := (Touch.refl w []).alloc _
  have hB := h.fresh tB
  have eB : (w.alloc (.cells #[.int .u8 k, .int .i64 a, .int .i64 t, .int .u64 v] 107)).heap[w.heap.size]? = some (.cells #[.int .u8 k, .int .i64 a, .int .i64 t, .int .u64 v] 107 (0, 0)) := heap_alloc_new w _
  have hwB : w.heap.size < (w.alloc (.cells #[.int .u8 k, .int .i64 a, .int .i64 t, .int .u64 v] 107)).heap.size := by simp
  have HE0 : Hid (∀ c, ∀ x ∈ X.foot c, x < w.heap.size) := h.lt
  clear h
  simp only [EvD.val]
  go_enter Try.func46, Try.ntmps46
  go_wp2_with fail
  refine wp_name fun W hW => ?_
  rw [← hW] at hB eB hwB tB
  clear hW
  generalize hq : w.heap.size = q at *
  have hqw : w.heap.size ≤ W.heap.size := tB.size
  clear hq
  obtain ⟨i0, hi, hz0, hz1, hz2⟩ := info_parts Try.info_event
  obtain ⟨c0, _, _, _, fz⟩ := hB.cells
  have f0 := fz 0
  have hel := lt_of_heap hB.st
  obtain ⟨al, cl, hve⟩ := own_slice hB.ev
  obtain ⟨v3, w3, hr3, ho3, hg3, hn3, ha3⟩ := run_append_own_at (P := Try.prog) ((W.alloc (.cells #[.int .u8 k, .int .i64 a, .int .i64 t, .int .u64 v] 107)).drew) 0 56 56 107 i0 _ 4 32 Try.underlying56 hi hz0 hz1 hz2 rfl (by decide) _ E.ev.length _ ((hB.ev.alloc _).drew) ⟨W.heap.size, 0, none⟩ 1 1 [.int .u8 k, .int .i64 a, .int .i64 t, .int .u64 v] rfl (World.news_of_block (cs := #[.int .u8 k, .int .i64 a, .int .i64 t, .int .u64 v]) (t := 107) (fr := (0, 0)) (heap_alloc_new W _)) (by simp [Value.oneCell']) (by unfold maxLen; omega) (by omega) (by simp)
  obtain ⟨a3, c3, rfl⟩ := own_slice ho3
  have tw3 : Touch W w3 X.ve.ownBlock.toList := (((Touch.refl W _).alloc _).drew).grown hg3 (fun x hx => .inl (by simp [hx]))
  have hvb : X.e ∉ X.ve.ownBlock.toList := fun hx => hB.ap 1 0 (by decide) _ hx (by simp [ELoc.foot])
  have hqb : q ∉ X.ve.ownBlock.toList := fun hx => by have := HE0.out 1 q hx; omega
  have st3 := (tw3.block X.e hel hvb).trans hB.st
  have d3 : w3.cell? ⟨X.e, 0, none⟩ = some X.ve := by simp [World.cell?, st3, ecells]
  have g3 : w3.frozen? ⟨X.e, 0, none⟩ = false := by simp [World.frozen?, st3]
  have k0 : W.cell? ⟨q, 0, none⟩ = some (.int .u8 k) := by simp [World.cell?, eB]
  have k1 : W.cell? ⟨q, 1, none⟩ = some (.int .i64 a) := by simp [World.cell?, eB]
  have k2 : W.cell? ⟨q, 2, none⟩ = some (.int .i64 t) := by simp [World.cell?, eB]
  have k3 : W.cell? ⟨q, 3, none⟩ = some (.int .u64 v) := by simp [World.cell?, eB]
  have dz : ∀ o, (W.alloc o).cell? ⟨X.e, 0, none⟩ = some X.ve := fun o => (World.cell?_alloc_past _ _ _ hel).trans c0
  have HFIN : Hid (LPost w X (noteE E ⟨k, a, t, v⟩) (.tuple #[]) (.returned (.tuple #[])) (w3.setCell ⟨X.e, 0, none⟩ (.slice a3 (E.ev.length + 1) c3))) := by
    have hT : Touch W (w3.setCell ⟨X.e, 0, none⟩ (.slice a3 (E.ev.length + 1) c3)) (X.e :: X.ve.ownBlock.toList) := (tw3.mono (fun x hx => by simp at hx; simp [hx])).setCell (.inl (by simp)) _
    have hst' : (w3.setCell ⟨X.e, 0, none⟩ (.slice a3 (E.ev.length + 1) c3)).heap[X.e]? = some (.cells (ecells { X with ve := .slice a3 (E.ev.length + 1) c3 }) 63 (0, 0)) := by
      rw [heap_setCell_same _ _ _ _ _ _ st3]; rfl
    have hne : X.e ∉ (Value.slice a3 (E.ev.length + 1) c3).ownBlock.toList := fun hx => by
      rcases ha3 with q | q
      · rw [q] at hx; exact hvb hx
      · rw [q] at hx; simp at hx; omega
    have hrow : evRow (w3.setCell ⟨X.e, 0, none⟩ (.slice a3 (E.ev.length + 1) c3)) (.slice a3 (E.ev.length + 1) c3) (E.ev ++ [⟨k, a, t, v⟩]) := by
      have := ownsRow_touch ho3 ((Touch.refl w3 [X.e]).setCell (p := ⟨X.e, 0, none⟩) (.inl (by simp)) (.slice a3 (E.ev.length + 1) c3)) (fun x hx hs => by simp at hs; subst hs; exact hne (by simp [hx]))
      simpa [evRow, List.flatMap_append, EvD.cells] using this
    obtain ⟨r1, r2⟩ := hB.setEv hT hst' hrow (ha3.imp id (fun q x hx => by rw [q] at hx; simp at hx; omega))
    exact ⟨_, rfl, r1, Next.after tB r2, rfl, rfl, rfl⟩
  have HR3 : Hid _ := hr3
  clear hr3 ho3 hg3 hn3 ha3 tw3 st3 eB hB tB fz HE0 hqb hvb
  rw [hve] at HR3 c0 d3 dz
  clear hve
  apply Rd.once
  case body =>
    intro hall
    go_region_law (refine Rd.step_append_run (by rfl) _ _ _ 56 (by rfl) (by rfl) _ _ (.slice a3 (E.ev.length + 1) c3) w3 (by rfl) (by rfl) HR3.out ?_)
    all_goals exact hall
  go_wp2
  go_end0
  exact HFIN.out

end Go.Proofs.Ytinhdpiecifmhaa.Nr

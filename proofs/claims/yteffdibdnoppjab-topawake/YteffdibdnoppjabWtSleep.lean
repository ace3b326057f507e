/-
  package waits: Sleep, remove BY THEIR CONTRACTS.
-/
import Derived.Test.YteffdibdnoppjabWtOps
namespace Go.Proofs.Yteffdibdnoppjab
set_option linter.unusedVariables false
set_option linter.unusedSimpArgs false
open Go.RowKit Go.Maps
attribute [local go_sem] Oper.semAt_some

def slept (L : List WD) (th : Int) : List WD := L.map (fun y => if y.th = th then { y with sl := true } else y)
def sleepE (L : List WD) (th : Int) : Int × List WD :=
  if noTh th then (2, L) else if (findW L th).isSome = false ∨ slP L th then (8, L) else (0, slept L th)
theorem slept_th (L : List WD) (th : Int) : (slept L th).map WD.th = L.map WD.th := by
  unfold slept
  rw [List.map_map]
  refine List.map_congr_left fun y _ => ?_
  simp only [Function.comp]
  split <;> rfl
theorem slept_wf {L : List WD} (h : WWf L) (th : Int) : WWf (slept L th) := by
  refine ⟨by rw [slept_th]; exact h.nod, fun x hx => ?_⟩
  unfold slept at hx
  obtain ⟨y, hy, rfl⟩ := List.mem_map.1 hx
  have := h.rng y hy
  split
  · exact this
  · exact this
theorem find_slept (L : List WD) (th t : Int) : findW (slept L th) t = (findW L t).map (fun y => if y.th = th then { y with sl := true } else y) := by
  unfold findW slept
  rw [List.find?_map]
  congr 1
  congr 1
  funext y
  simp only [Function.comp]
  split <;> rfl
theorem mapW_slept {L : List WD} {th : Int} {x : WD} (hx : findW L th = some x) : mapW (slept L th) = updF (mapW L) th (.agg #[.int .u32 (x.s : Int), .bool true]) := by
  funext t
  unfold mapW updF
  rw [find_slept]
  by_cases ht : t = th
  · subst ht
    rw [hx, if_pos rfl]
    have := (findW_some hx).2
    simp [this, WD.val]
  · rw [if_neg ht]
    cases hf : findW L t with
    | none => simp [hf]
    | some y =>
      have := (findW_some hf).2
      simp only [Option.map_some, Option.some.injEq, hf]
      rw [if_neg (by rw [this]; exact ht)]

set_option maxRecDepth 100000 in
set_option maxHeartbeats 4000000 in
theorem sleep_any {w : World} {b k : Nat} {F : List Nat} {L : List WD} (h : WAt w b F k L) (hk : k ≤ 1000) (th : Int) (h64 : W64 th) :
    Calls Try.prog 6 #[ptr b, .int .i64 th] w fun e w' => e = .returned (.int .i64 (sleepE L th).1) ∧ WPost w b k F (sleepE L th).2 w' := by
  have HST : Hid _ := h.stay (Touch.refl w [])
  have HH : Hid _ := h
  have hnt : HidC _ _ _ _ _ := ⟨nothread_any th w⟩
  cases h1 : noTh th with
  | true =>
    have e1 : sleepE L th = (2, L) := by unfold sleepE; rw [if_pos h1]
    rw [e1]
    rw [h1] at hnt
    clear h1 e1 h
    go_enter Try.func6, Try.ntmps6
    go_wp2_with fail
    refine hnt.out.mono ?_
    rintro e w1 ⟨rfl, rfl⟩
    clear hnt
    go_wp2
    go_ret
    exact ⟨rfl, HST.out⟩
  | false =>
    rw [h1] at hnt
    obtain ⟨mb, vo, n, rfl, ho, hn⟩ := h
    obtain ⟨c0, c1, f1⟩ := ho.cells
    have hlk := ho.map.lookOk Try.underlying36 (Try.zero_wait _) h64
    rw [mapW_get] at hlk
    have hms : (mapW L th).isSome = (findW L th).isSome := by unfold mapW; rw [Option.isSome_map]
    rw [hms] at hlk
    have HO : Hid _ := ho
    have hbl := lt_of_heap ho.st
    by_cases h2 : (findW L th).isSome = false ∨ slP L th = true
    · have e1 : sleepE L th = (8, L) := by unfold sleepE; rw [if_neg (by rw [h1]; simp), if_pos h2]
      rw [e1]
      generalize hof : (ofP L th : Int) = o1 at hlk
      have HS2 : Hid (Touch w (w.alloc (.cells #[.int .u32 o1, .bool (slP L th)] 43)) []) := (Touch.refl w []).alloc _
      cases h4 : (findW L th).isSome with
      | false =>
        rw [h4] at hlk
        clear h1 h2 h4 e1 hms hof ho
        go_enter Try.func6, Try.ntmps6
        go_wp2_with fail
        refine hnt.out.mono ?_
        rintro e w1 ⟨rfl, rfl⟩
        clear hnt
        go_wp2
        go_ret
        exact ⟨rfl, WAt.stay HH.out HS2.out⟩
      | true =>
        have h5 : slP L th = true := h2.resolve_left (by rw [h4]; simp)
        rw [h4] at hlk
        rw [h5] at hlk HS2
        clear h1 h2 h4 h5 e1 hms hof ho
        go_enter Try.func6, Try.ntmps6
        go_wp2_with fail
        refine hnt.out.mono ?_
        rintro e w1 ⟨rfl, rfl⟩
        clear hnt
        go_wp2
        go_ret
        exact ⟨rfl, WAt.stay HH.out HS2.out⟩
    · have e1 : sleepE L th = (0, slept L th) := by unfold sleepE; rw [if_neg (by rw [h1]; simp), if_neg h2]
      rw [e1]
      have h4 : (findW L th).isSome = true := by cases hq : (findW L th).isSome; exact absurd (.inl hq) h2; rfl
      have h5 : slP L th = false := by cases hq : slP L th; rfl; exact absurd (.inr hq) h2
      obtain ⟨x, hx⟩ := Option.isSome_iff_exists.1 h4
      have hox : ofP L th = x.s := by unfold ofP; rw [hx]; rfl
      rw [h4, h5, hox] at hlk
      have HMW : Hid _ := mapW_slept hx
      have HWF : Hid _ := slept_wf ho.wf th
      have t1 : Touch w ((w.alloc (.cells #[.int .u32 (x.s : Int), .bool true] 43)).drew) [] := ((Touch.refl w []).alloc _).drew
      obtain ⟨w2, hstr, hm2, hg2⟩ := (ho.map.touch t1 (by simp)).store Try.underlying36 (by unfold maxLen; omega) h64 (.agg #[.int .u32 (x.s : Int), .bool true])
      have t2 : Touch w w2 [mb] := (t1.mono (by simp)).grown hg2 (by intro q hq; cases hq; exact .inl (by simp))
      have HT2 : Hid _ := t2
      have HM2 : Hid _ := hm2
      have m0 : (w.alloc (.cells #[.int .u32 (x.s : Int), .bool true] 43)).drew.cell? ⟨b, 0, none⟩ = some (.map (some mb)) := (t1.cell (p := ⟨b, 0, none⟩) hbl (by simp)).trans c0
      have hb1 : (w.alloc (.cells #[.int .u32 (x.s : Int), .bool true] 43)).heap[w.heap.size]? = some (.cells #[.int .u32 (x.s : Int), .bool true] 43 (0, 0)) := heap_alloc_new w _
      have m1 : (w.alloc (.cells #[.int .u32 (x.s : Int), .bool true] 43)).drew.cell? ⟨w.heap.size, 0, none⟩ = some (.int .u32 (x.s : Int)) ∧ (w.alloc (.cells #[.int .u32 (x.s : Int), .bool true] 43)).drew.cell? ⟨w.heap.size, 1, none⟩ = some (.bool true) := by
        have hb2 : (w.alloc (.cells #[.int .u32 (x.s : Int), .bool true] 43)).drew.heap[w.heap.size]? = some (.cells #[.int .u32 (x.s : Int), .bool true] 43 (0, 0)) := hb1
        exact ⟨by unfold World.cell?; rw [hb2]; rfl, by unfold World.cell?; rw [hb2]; rfl⟩
      have e0 : w2.cell? ⟨b, 0, none⟩ = some (.map (some mb)) := (t2.cell (p := ⟨b, 0, none⟩) hbl (by simpa using ho.n0)).trans c0
      have hne : ¬ w.heap.size = mb := fun e => by have := ho.map.lt; omega
      have e2 : w2.cell? ⟨w.heap.size, 0, none⟩ = some (.int .u32 (x.s : Int)) ∧ w2.cell? ⟨w.heap.size, 1, none⟩ = some (.bool true) := by
        have tt : Touch _ w2 [mb] := (Touch.refl _ [mb]).grown hg2 (by intro q hq; cases hq; exact .inl (by simp))
        refine ⟨(tt.cell (p := ⟨w.heap.size, 0, none⟩) ?_ (by simpa using hne)).trans m1.1, (tt.cell (p := ⟨w.heap.size, 1, none⟩) ?_ (by simpa using hne)).trans m1.2⟩
        · simp [World.drew, World.setCell]
        · simp [World.drew, World.setCell]
      generalize hxs : (x.s : Int) = xs at *
      clear h1 h2 h4 h5 e1 hms ho t2 hm2 hg2 hx hox t1 hb1
      go_enter Try.func6, Try.ntmps6
      go_wp2_with fail
      refine hnt.out.mono ?_
      rintro e w1 ⟨rfl, rfl⟩
      clear hnt
      go_wp2_with fail
      go_region_held3 (fun w' => w'.cell? ⟨b, 0, none⟩ = some (.map (some mb)) ∧ w'.cell? ⟨w.heap.size, 0, none⟩ = some (.int .u32 xs) ∧ w'.cell? ⟨w.heap.size, 1, none⟩ = some (.bool true)) (first | exact ⟨m0, m1⟩ | exact ⟨e0, e2⟩) (fail)
      clear hstr m0 m1
      go_wp2
      go_ret
      have hO : WObj w b mb vo n L := HO.out
      have ht2 := HT2.out
      have hm2 : MapF w2 mb (n + 1) _ := HM2.out
      refine ⟨rfl, b :: mb :: vo.ownBlock.toList, ⟨mb, vo, n + 1, rfl, ⟨(ht2.block b hbl (by simpa using hO.n0)).trans hO.st, by rw [HMW.out]; exact hm2, by show World.ownsRow _ _ _ _ _ _ _; rw [slept_th]; exact ownsRow_touch hO.ord ht2 (fun q hq hs => (hO.n1 q hq).2 (by simpa using hs)), hO.n0, hO.n1, HWF.out⟩, by omega⟩, ht2.mono (by simp), fun y hy => .inl hy⟩

end Go.Proofs.Yteffdibdnoppjab

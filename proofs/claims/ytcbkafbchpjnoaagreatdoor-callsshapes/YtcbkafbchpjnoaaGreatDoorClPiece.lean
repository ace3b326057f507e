/-
  package calls: row, ahead, block, answer BY THEIR CONTRACTS: pieces.
-/
import Derived.Test.YtcbkafbchpjnoaaGreatDoorClObj
import Derived.Test.YtcbkafbchpjnoaaGreatDoorFlCalls
namespace Go.Proofs.YtcbkafbchpjnoaaGreatDoor
set_option linter.unusedVariables false
set_option linter.unusedSimpArgs false
open Go.RowKit
attribute [local go_sem] Oper.semAt_some

theorem makeFunc_run (fn : Fn) (first cap : Array Value) (w : World) : (Instr.makeFunc fn first cap).run Tryz.prog w = .ok (.func fn first cap) w := rfl

/-- A call in a block of its own. -/
structure BoxK (W : World) (p : Nat) (o a v : Int) : Prop where
  st : W.heap[p]? = some (.cells #[.int .u8 o, .int .i64 a, .int .u64 v] 52 (0, 0))
theorem BoxK.touch {W W' : World} {p : Nat} {o a v : Int} {S : List Nat} (h : BoxK W p o a v) (t : Touch W W' S) (hS : p ∉ S) : BoxK W' p o a v := ⟨(t.block p (lt_of_heap h.st) hS).trans h.st⟩
theorem BoxK.cells {W : World} {p : Nat} {o a v : Int} (h : BoxK W p o a v) : W.cell? ⟨p, 0, none⟩ = some (.int .u8 o) ∧ W.cell? ⟨p, 1, none⟩ = some (.int .i64 a) ∧ W.cell? ⟨p, 2, none⟩ = some (.int .u64 v) :=
  ⟨by unfold World.cell?; rw [h.st]; rfl, by unfold World.cell?; rw [h.st]; rfl, by unfold World.cell?; rw [h.st]; rfl⟩
theorem BoxK.new (w : World) (o a v : Int) : BoxK (w.alloc (.cells #[.int .u8 o, .int .i64 a, .int .u64 v] 52)) w.heap.size o a v := ⟨heap_alloc_new w _⟩
theorem ins_nil (w : World) : InsIn w none 0 0 [] := ⟨rfl, ⟨none, 0, rfl, fun h => absurd rfl h⟩, Nat.le_refl _, by decide, fun i hi => by simp at hi⟩

/-- What a piece of a row answers. -/
theorem row1_any {p : Nat} {ao : Option Addr} {n cap : Nat} {L : List InsD} (W : World) (hc : W.cell? ⟨p, 0, none⟩ = some (.slice ao n cap)) (hi : InsIn W ao n cap L) (a : Int) :
    Calls Tryz.prog 95 #[.int .i64 a, .pointer (some ⟨p, 0, none⟩)] W (LkP W 0 L) := by
  have HI : Hid _ := hi
  have HL : Hid _ := hi.len
  clear hi
  go_enter Tryz.func95, Tryz.ntmps95
  go_wp2
  refine bodyPost_ret (v := .tuple #[.slice ao n cap, .int .i64 0]) (by simp [results, Tryz.results95, go_sem]) rfl (.inl ⟨rfl, ao, cap, by rw [← HL.out], by rw [← HL.out]; exact HI.out, Touch.refl _ _⟩)

/-- A row's piece. -/
def rowF (L : List InsD) : Int → Int × List InsD := fun _ => (0, L)
theorem InsIn.other {w w' : World} {ao : Option Addr} {n cap : Nat} {l : List InsD} {S : List Nat} (h : InsIn w ao n cap l) (t : Touch w w' S) (hS : ∀ x, (Value.slice ao n cap).ownBlock = some x → x ∉ S) : InsIn w' ao n cap l := by
  obtain ⟨h1, h2, h3, h4, h5⟩ := h
  subst h1
  exact ⟨rfl, SRow.keepB h2 t (fun _ => hS), h3, h4, h5⟩

set_option maxRecDepth 100000 in
theorem row_any {w : World} {ao : Option Addr} {n cap : Nat} {L : List InsD} (hi : InsIn w ao n cap L) (hL : L.length ≤ 100) {lo : Nat} (hlo : ∀ x, (Value.slice ao n cap).ownBlock = some x → lo ≤ x ∧ x < w.heap.size) (hl : lo ≤ w.heap.size) :
    Calls Tryz.prog 55 #[.slice ao n cap] w fun e w' => ∃ v, e = .returned v ∧ Touch w w' [] ∧ PcOk lo w'.heap.size w' v (rowF L) := by
  have HW : Hid (∀ hi', w.heap.size + 1 ≤ hi' → PcOk lo hi' (w.alloc (.cells #[.slice ao n cap] 25)) (.func (.func 95) #[] #[.pointer (some ⟨w.heap.size, 0, none⟩)]) (rowF L)) := by
    intro hh hhl
    refine ⟨95, #[.pointer (some ⟨w.heap.size, 0, none⟩)], rfl, fun a W => enter_of Tryz.func95 (by kernel_rfl) (by kernel_rfl) W, ?_⟩
    intro W S t hS a ha0 ha1
    refine ⟨hL, ?_⟩
    have hc : (w.alloc (.cells #[.slice ao n cap] 25)).cell? ⟨w.heap.size, 0, none⟩ = some (.slice ao n cap) := by unfold World.cell?; rw [heap_alloc_new]; rfl
    have hc' : W.cell? ⟨w.heap.size, 0, none⟩ = some (.slice ao n cap) := (t.cell (p := ⟨w.heap.size, 0, none⟩) (by simp) (fun e => by have := (hS _ e).2; simp only at this; omega)).trans hc
    have hi1 : InsIn (w.alloc (.cells #[.slice ao n cap] 25)) ao n cap L := hi.keep ((Touch.refl w []).alloc _)
    have hi2 := hi1.other t (fun x hx e => by have := (hS _ e).2; have := hlo x hx; omega)
    exact row1_any W hc' hi2 a
  have HT : Hid (Touch w (w.alloc (.cells #[.slice ao n cap] 25)) []) := (Touch.refl w []).alloc _
  clear hi hlo
  have hmf := makeFunc_run
  go_enter Tryz.func55, Tryz.ntmps55
  go_wp2
  go_ret
  exact ⟨_, rfl, HT.out, HW.out _ (by simp)⟩

theorem PcOk.later {lo hi hi2 : Nat} {w w2 : World} {v : Value} {f : Int → Int × List InsD} (h : PcOk lo hi w v f) (t : Touch w w2 []) (hh : hi ≤ hi2) : PcOk lo hi2 w2 v f := by
  obtain ⟨fn, caps, hv, hen, hc⟩ := h
  refine ⟨fn, caps, hv, hen, fun W S t2 hS a a0 a1 => hc W S ((t.mono (by simp)).trans t2 (fun x hx => .inl hx)) (fun x hx => by have := hS x hx; exact ⟨this.1, by omega⟩) a a0 a1⟩

set_option maxRecDepth 100000 in
theorem ahead_any {w : World} (k u v : Int) (hv : Wf64 v) {lo : Nat} (hl : lo ≤ w.heap.size) :
    Calls Tryz.prog 52 #[.agg #[.int .u8 k, .int .i64 u, .int .u64 v]] w fun e w' => ∃ p, e = .returned p ∧ Touch w w' [] ∧ PcOk lo w'.heap.size w' p (rowF (ahdC ⟨k, u, v⟩)) := by
  have hb : BoxK (w.alloc (.cells #[.int .u8 k, .int .i64 u, .int .u64 v] 52)) w.heap.size k u v := BoxK.new w k u v
  obtain ⟨x0, x1, x2⟩ := hb.cells
  have HT : Hid (Touch w (w.alloc (.cells #[.int .u8 k, .int .i64 u, .int .u64 v] 52)) []) := (Touch.refl w []).alloc _
  have hs : (w.alloc (.cells #[.int .u8 k, .int .i64 u, .int .u64 v] 52)).heap.size = w.heap.size + 1 := by simp
  clear hb
  by_cases h8 : k = 8
  · subst h8
    have e : ahdC ⟨8, u, v⟩ = [⟨1, 0, v⟩, insO 3 0] := by unfold ahdC; simp
    rw [e]
    have hwf : ∀ i ∈ [(⟨1, 0, v⟩ : InsD), insO 3 0], i.Wf := by
      intro i hi
      simp only [List.mem_cons, List.not_mem_nil, or_false] at hi
      rcases hi with rfl | rfl
      · exact ⟨⟨by show (0 : Int) ≤ 1; omega, by show (1 : Int) ≤ 255; omega⟩, ⟨by show (-9223372036854775808 : Int) ≤ 0; omega, by show (0 : Int) ≤ 9223372036854775807; omega⟩, hv⟩
      · exact insO_wf (by omega) (by omega) (by omega) (by omega)
    have HR : Hid (∀ W : World, lo ≤ W.heap.size → HidC Tryz.prog 55 #[.slice (some ⟨W.heap.size, 0, none⟩) 2 2] (W.alloc (.cells #[.int .u8 1, .int .i64 0, .int .u64 v, .int .u8 3, .int .i64 0, .int .u64 0] 78)) fun e w' => ∃ v', e = .returned v' ∧ Touch (W.alloc (.cells #[.int .u8 1, .int .i64 0, .int .u64 v, .int .u8 3, .int .i64 0, .int .u64 0] 78)) w' [] ∧ PcOk lo w'.heap.size w' v' (rowF [⟨1, 0, v⟩, insO 3 0])) := fun W hW => ⟨row_any (ins_lit W [⟨1, 0, v⟩, insO 3 0] _ rfl hwf (by simp)) (by simp) (fun x hx => by simp [Value.ownBlock] at hx ⊢; omega) (by simp; omega)⟩
    clear hwf e
    go_enter Tryz.func52, Tryz.ntmps52
    go_wp2_with fail
    have hr := (HR.out (w.alloc (.cells #[.int .u8 8, .int .i64 u, .int .u64 v] 52)) (by omega)).out
    rw [hs] at hr
    refine hr.mono ?_
    rintro e w1 ⟨p, rfl, t, hp⟩
    have HP : Hid _ := hp
    have HT2 : Hid _ := (HT.out.alloc _).trans t (by simp)
    clear hp t
    go_wp2
    go_ret
    exact ⟨p, rfl, HT2.out, HP.out⟩
  · have e : ahdC ⟨k, u, v⟩ = [] := by unfold ahdC; simp [h8]
    rw [e]
    have k8 : (k == 8) = false := by simpa using h8
    have HR : Hid (∀ W : World, lo ≤ W.heap.size → HidC Tryz.prog 55 #[.slice none 0 0] W fun e w' => ∃ v', e = .returned v' ∧ Touch W w' [] ∧ PcOk lo w'.heap.size w' v' (rowF [])) := fun W hW => ⟨row_any (ins_nil W) (by simp) (fun x hx => by simp [Value.ownBlock] at hx) hW⟩
    clear e
    go_enter Tryz.func52, Tryz.ntmps52
    go_wp2_with fail
    refine (HR.out _ (by omega)).out.mono ?_
    rintro e w1 ⟨p, rfl, t, hp⟩
    have HP : Hid _ := hp
    have HT2 : Hid _ := HT.out.trans t (by simp)
    clear hp t
    go_wp2
    go_ret
    exact ⟨p, rfl, HT2.out, HP.out⟩

end Go.Proofs.YtcbkafbchpjnoaaGreatDoor

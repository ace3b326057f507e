/-
  package writes: WHAT A LOG IS: frames that are linked from the uppermost on; the walk down.
-/
import Derived.Test.YtinhdpiecifmhaaWritesFrame
namespace Go.Proofs.Ytinhdpiecifmhaa
set_option linter.unusedVariables false
set_option linter.unusedSimpArgs false
open Go.RowKit Go.Maps Go.Shelf

abbrev ptr (b : Nat) : Value := .pointer (some ⟨b, 0, none⟩)
/-- The uppermost one. -/
def hp : List (Nat × Nat) → Value
  | [] => .pointer none
  | (n, _) :: _ => ptr n
abbrev nodeC (m : Nat) (below : Value) : Obj := .cells #[.map (some m), below] 116 (0, 0)

/-- Where the links lie. -/
def Nodes (w : World) (ch : List (Nat × Nat)) : Prop := ∀ k (h : k < ch.length), w.heap[ch[k].1]? = some (nodeC ch[k].2 (hp (ch.drop (k + 1))))
theorem Nodes.touch {w w' : World} {ch : List (Nat × Nat)} {S : List Nat} (h : Nodes w ch) (t : Touch w w' S) (hS : ∀ p ∈ ch, p.1 ∉ S) : Nodes w' ch :=
  fun k hk => (t.block _ (lt_of_heap (h k hk)) (hS _ (List.getElem_mem hk))).trans (h k hk)
theorem Nodes.drop {w : World} {ch : List (Nat × Nat)} (h : Nodes w ch) (j : Nat) : Nodes w (ch.drop j) := fun k hk => by
  have hk' : j + k < ch.length := by simp at hk; omega
  have := h (j + k) hk'
  simp only [List.getElem_drop, List.drop_drop]
  rw [show j + (k + 1) = j + k + 1 by omega]
  exact this

theorem hp_drop {ch : List (Nat × Nat)} {k : Nat} (h : k < ch.length) : hp (ch.drop k) = ptr ch[k].1 := by
  rw [List.drop_eq_getElem_cons h]; rfl
theorem hp_end {ch : List (Nat × Nat)} : hp (ch.drop ch.length) = .pointer none := by rw [List.drop_length]; rfl

def nodeOf : Value → Option Nat
  | .pointer (some a) => some a.block
  | _ => none
/-- How many are left. -/
def chLeft : List (Nat × Nat) → Value → Nat
  | [], _ => 0
  | (n, _) :: r, v => if nodeOf v = some n then r.length + 1 else chLeft r v
theorem nodeOf_hp (r : List (Nat × Nat)) (n : Nat) (h : n ∉ r.map Prod.fst) : nodeOf (hp r) ≠ some n := by
  cases r with
  | nil => intro e; cases e
  | cons a r => intro e; simp only [hp, nodeOf] at e; cases e; simp at h
theorem chLeft_drop : ∀ (ch : List (Nat × Nat)) (k : Nat), (ch.map Prod.fst).Nodup → chLeft ch (hp (ch.drop k)) = ch.length - k
  | [], k, _ => by simp [chLeft]
  | (n, m) :: r, 0, _ => by simp [chLeft, hp, nodeOf]
  | (n, m) :: r, k + 1, h => by
    simp only [List.map_cons, List.nodup_cons] at h
    simp only [List.drop_succ_cons, chLeft]
    rw [if_neg (nodeOf_hp _ _ (fun hm => h.1 (by
      rw [List.mem_map] at hm ⊢
      obtain ⟨p, hp, e⟩ := hm
      exact ⟨p, List.mem_of_mem_drop hp, e⟩))), chLeft_drop r k h.2]
    simp

/-- What is yielded. -/
abbrev mapAt (ch : List (Nat × Nat)) (k : Nat) : Value := .map (some (ch.getD k (0, 0)).2)

theorem hp_is (ch : List (Nat × Nat)) : ∃ p, hp ch = .pointer p := by cases ch <;> exact ⟨_, rfl⟩

theorem down_any (ch : List (Nat × Nat)) (w : World) : Calls Try.prog 52 #[hp ch] w fun e w' => e = .returned (.func (.func 69) #[] #[ptr w.heap.size]) ∧ w' = w.alloc (.cells #[hp ch] 112) := by
  obtain ⟨p, hp'⟩ := hp_is ch
  rw [hp']
  clear hp'
  go_enter Try.func52, Try.ntmps52
  go_wp2
  go_ret
  exact ⟨by simp, rfl⟩

set_option maxRecDepth 100000 in
set_option maxHeartbeats 1000000 in
theorem down1_in (n : Nat) (hn : 1 ≤ n) (l B0 : Nat) (ch : List (Nat × Nat)) (hnd : (ch.map Prod.fst).Nodup) (J : Nat → World → Prop) (X : World → Prop)
    (hT : ∀ k W, J k W → W.cell? ⟨B0, 0, none⟩ = some (hp ch) ∧ Nodes W ch)
    (hY : ∀ k W, k < ch.length → J k W → YieldAt Fence.wide (n - 1) Try.prog l #[mapAt ch k] W (YPost J X k))
    (W : World) (h0 : J 0 W) :
    CallsIn Fence.wide n Try.prog 69 #[.func (.yield l) #[] #[], ptr B0] W fun e W' => (∃ v, e = .returned v) ∧ (J ch.length W' ∨ X W') := by
  have HT : Hid _ := hT
  have HY : Hid _ := hY
  have HO : Hid _ := h0
  obtain ⟨c0, _⟩ := hT 0 W h0
  clear hT hY h0
  refine callsIn_of_wp Try.func69 rfl trivial ?_ rfl
  simp only [Try.ntmps69, List.size_toArray, List.length_cons, List.length_nil, Nat.reduceAdd, Nat.reduceSub, Array.replicate_succ, Array.replicate_zero, List.push_toArray, List.append_toArray, List.nil_append, List.cons_append]
  gi_wp2_with fail
  gi_loopw [3] (fun v wr => ∃ k : Nat, v = hp (ch.drop k) ∧ k ≤ ch.length ∧ J k wr) (fun v _ => chLeft ch v)
  case atStart => exact ⟨0, rfl, by omega, HO.out⟩
  case round =>
    obtain ⟨k, rfl, hk, hJ⟩ := hrel
    clear HO c0
    obtain ⟨_, hN⟩ := HT.out k wr hJ
    have HJ : Hid _ := hJ
    by_cases hlt : k < ch.length
    · have hm1 := chLeft_drop ch k hnd
      have hm2 := chLeft_drop ch (k + 1) hnd
      have hnk := hN k hlt
      rw [hp_drop hlt] at hm1 ⊢
      have d0 : wr.cell? ⟨ch[k].1, 0, none⟩ = some (mapAt ch k) := by
        simp [World.cell?, hnk, mapAt, List.getD_eq_getElem?_getD, List.getElem?_eq_getElem hlt]
      obtain ⟨fn, tmps, assign, body, hy, hR⟩ := HY.out k wr hlt hJ
      clear hN hnk hJ
      gi_wp2
      refine hR.mono ?_
      rintro e W3 (⟨rfl, hJ3⟩ | ⟨rfl, hX⟩)
      · obtain ⟨_, hN3⟩ := HT.out (k + 1) W3 hJ3
        have d1 : W3.cell? ⟨ch[k].1, 1, none⟩ = some (hp (ch.drop (k + 1))) := by
          simp [World.cell?, hN3 k hlt]
        have HJ3 : Hid _ := hJ3
        clear hJ3 hN3 hR hy
        gi_wp2
        go_roundw
        case rel => exact ⟨k + 1, rfl, by omega, HJ3.out⟩
        case measure => rw [hm1, hm2]; omega
      · have HX : Hid _ := hX
        clear hX hR hy
        gi_wp2
        refine bodyPost_ret (v := .tuple #[]) ?_ rfl ⟨⟨_, rfl⟩, .inr HX.out⟩
        simp [results, Try.results69]
    · obtain rfl : k = ch.length := by omega
      rw [hp_end]
      clear hN hJ
      gi_wp2
      go_end0
      exact ⟨⟨_, rfl⟩, .inl HJ.out⟩

/-- A log: frames from the uppermost on. -/
structure PLog (B : Nat) (w : World) (b : Nat) (ch : List (Nat × Nat)) (Fs : List Fr) : Prop where
  hb : B ≤ b
  hn : ∀ p ∈ ch, B ≤ p.1 ∧ B ≤ p.2
  st : w.heap[b]? = some (.cells #[hp ch] 118 (0, 0))
  nodes : Nodes w ch
  len : ch.length = Fs.length
  fr : ∀ k (h : k < ch.length) (h' : k < Fs.length), FrAt w ch[k].2 Fs[k]
  ndn : (ch.map Prod.fst).Nodup
  ndm : (ch.map Prod.snd).Nodup
  pos : 0 < ch.length
  le : ch.length ≤ 5
def pfoot (b : Nat) (ch : List (Nat × Nat)) : List Nat := b :: (ch.map Prod.fst ++ ch.map Prod.snd)

theorem PLog.keep {B : Nat} {w w' : World} {b : Nat} {ch : List (Nat × Nat)} {Fs : List Fr} {S : List Nat} (h : PLog B w b ch Fs) (t : Touch w w' S) (hS : ∀ x ∈ pfoot b ch, x ∉ S) : PLog B w' b ch Fs :=
  { h with
    st := (t.block _ (lt_of_heap h.st) (hS _ (by simp [pfoot]))).trans h.st
    nodes := h.nodes.touch t (fun p hp => hS _ (by simp only [pfoot, List.mem_cons, List.mem_append]; exact .inr (.inl (List.mem_map_of_mem hp))))
    fr := fun k hk hk' => (h.fr k hk hk').touch t (hS _ (by simp only [pfoot, List.mem_cons, List.mem_append]; exact .inr (.inr (List.mem_map_of_mem (List.getElem_mem hk))))) }
theorem PLog.foot_lt {B : Nat} {w : World} {b : Nat} {ch : List (Nat × Nat)} {Fs : List Fr} (h : PLog B w b ch Fs) : ∀ x ∈ pfoot b ch, B ≤ x ∧ x < w.heap.size := by
  intro x hx
  simp only [pfoot, List.mem_cons, List.mem_append, List.mem_map] at hx
  rcases hx with rfl | ⟨p, hp, rfl⟩ | ⟨p, hp, rfl⟩
  · exact ⟨h.hb, lt_of_heap h.st⟩
  · obtain ⟨i, hi, rfl⟩ := List.getElem_of_mem hp
    exact ⟨(h.hn _ hp).1, lt_of_heap (h.nodes i hi)⟩
  · obtain ⟨i, hi, rfl⟩ := List.getElem_of_mem hp
    exact ⟨(h.hn _ hp).2, (h.fr i hi (by rw [← h.len]; exact hi)).lt⟩
theorem PLog.cell {B : Nat} {w : World} {b : Nat} {ch : List (Nat × Nat)} {Fs : List Fr} (h : PLog B w b ch Fs) : w.cell? ⟨b, 0, none⟩ = some (hp ch) := by simp [World.cell?, h.st]
theorem PLog.frozen {B : Nat} {w : World} {b : Nat} {ch : List (Nat × Nat)} {Fs : List Fr} (h : PLog B w b ch Fs) : w.frozen? ⟨b, 0, none⟩ = false := by simp [World.frozen?, h.st]
theorem PLog.at {B : Nat} {w : World} {b : Nat} {ch : List (Nat × Nat)} {Fs : List Fr} (h : PLog B w b ch Fs) {k : Nat} (hk : k < ch.length) (hk' : k < Fs.length) : FrAt w (ch.getD k (0, 0)).2 Fs[k] := by
  have e : ch.getD k (0, 0) = ch[k] := by simp [List.getD_eq_getElem?_getD, List.getElem?_eq_getElem hk]
  rw [e]; exact h.fr k hk hk'
theorem PLog.touch {B : Nat} {w w' : World} {b : Nat} {ch : List (Nat × Nat)} {Fs : List Fr} (h : PLog B w b ch Fs) (t : Touch w w' []) : PLog B w' b ch Fs := h.keep t (by simp)

/-- What Get tells; how many values there are. -/
def getF (Fs : List Fr) (t : Int) : Option Int := Fs.findSome? fun f => fget f t
def lenF (Fs : List Fr) : Nat := (Fs.map fcnt).sum

end Go.Proofs.Ytinhdpiecifmhaa

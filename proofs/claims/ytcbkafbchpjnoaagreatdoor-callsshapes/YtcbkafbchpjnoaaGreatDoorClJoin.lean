/-
  package calls: joined BY ITS CONTRACT: pieces that are asked one by one, behind what is there.
-/
import Derived.Test.YtcbkafbchpjnoaaGreatDoorLkBlock
namespace Go.Proofs.YtcbkafbchpjnoaaGreatDoor
set_option linter.unusedVariables false
set_option linter.unusedSimpArgs false
open Go.RowKit
attribute [local go_sem] Oper.semAt_some

/-- What pieces come to behind what is there. -/
def jnP : List (Int → Int × List InsD) → List InsD → Option (List InsD)
  | [], xs => some xs
  | f :: fs, xs => if (f (xs.length : Nat)).1 ≠ 0 ∨ xs.length + (f (xs.length : Nat)).2.length > 64 then none else jnP fs (xs ++ (f (xs.length : Nat)).2)

/-- A piece: a closure that answers so, as long as the blocks from lo to hi are as they are. -/
def PcOk (lo hi : Nat) (w : World) (v : Value) (f : Int → Int × List InsD) : Prop :=
  ∃ fn caps, v = .func (.func fn) #[] caps ∧ (∀ a W, (callFunc fn (#[.int .i64 a] ++ caps)).run Tryz.prog W = .ok (.enter fn (#[.int .i64 a] ++ caps)) W) ∧
    ∀ W S, Touch w W S → (∀ x ∈ S, x ≠ 1 ∧ (x < lo ∨ hi ≤ x)) → ∀ a : Int, 0 ≤ a → a ≤ 64 → (f a).2.length ≤ 100 ∧ Calls Tryz.prog fn (#[.int .i64 a] ++ caps) W (LkP W (f a).1 (f a).2)
def PcsAt (lo hi : Nat) (w : World) (g : Nat) (fs : List (Int → Int × List InsD)) : Prop :=
  lo ≤ g ∧ g < hi ∧ ∀ k (hk : k < fs.length), ∃ v, w.cell? ⟨g, k, none⟩ = some v ∧ PcOk lo hi w v fs[k]

theorem ins_app2 {w : World} {B : Nat} {v : Value} {xs : List InsD} (h : insOwn w B v xs) (hl : xs.length ≤ 1000) (hB : B ≤ w.heap.size) {ao : Option Addr} {n cap : Nat} {l : List InsD} (hr : InsIn w ao n cap l) (hn : n ≤ 1000) (ty : TypeId) :
    ∃ ao' cap' w', (Builtin.append_ #[25, 25] ty #[v, .slice ao n cap]).run Tryz.prog w = .ok (.slice ao' (xs.length + n) cap') w' ∧ insOwn w' B (.slice ao' (xs.length + n) cap') (xs ++ l) ∧ Touch w w' v.ownBlock.toList ∧ ((Value.slice ao' (xs.length + n) cap').ownBlock = v.ownBlock ∨ (Value.slice ao' (xs.length + n) cap').ownBlock = some w.heap.size) := by
  obtain ⟨i0, hi, hz0, hz1, hz2⟩ := info_parts' Tryz.info_ins
  have hlen := hr.len
  subst hlen
  obtain ⟨v', w', h1, h2, h3, h4⟩ := run_app (P := Tryz.prog) (cells := InsD.cells) 25 ty 78 i0 _ 3 24 Tryz.underlying25 hi hz0 hz1 hz2 rfl (by decide) (fun _ => rfl) ins_one h (l := l) hr.row (by omega) (by decide) hB
  have h2' : insOwn w' B v' (xs ++ l) := by
    show w'.ownsRow _ _ _ _ _ _
    rw [List.length_append, List.flatMap_append]
    exact h2
  obtain ⟨ao', cap', rfl⟩ := owns_slice h2
  exact ⟨ao', cap', w', h1, h2', (Touch.refl w _).grown h3 (fun k hk => .inl (by simp [hk])), h4⟩

/-- What joined comes to. -/
def JnP (w : World) (B : Nat) (v0 : Value) (r : Option (List InsD)) (e : Ending) (w' : World) : Prop :=
  (r = none ∧ e = .returned (.tuple #[.slice none 0 0, .int .i64 4]) ∧ Touch w w' v0.ownBlock.toList) ∨
  (∃ P a c, r = some P ∧ e = .returned (.tuple #[.slice a P.length c, .int .i64 0]) ∧ insOwn w' B (.slice a P.length c) P ∧ (∀ i ∈ P, i.Wf) ∧ P.length ≤ 64 ∧ Touch w w' v0.ownBlock.toList ∧ (∀ x, (Value.slice a P.length c).ownBlock = some x → v0.ownBlock = some x ∨ w.heap.size ≤ x))

set_option maxRecDepth 100000 in
set_option maxHeartbeats 2000000 in
theorem joinedC_any {w : World} {B lo g cap c0 n0 N : Nat} {a0 : Option Addr} {xs0 : List InsD} {fs : List (Int → Int × List InsD)} {v0 : Value} (hv0 : v0 = .slice a0 n0 c0) (hn0 : n0 = xs0.length) (hN : N = fs.length) (hown : insOwn w B v0 xs0) (hwf : ∀ i ∈ xs0, i.Wf) (hx : xs0.length ≤ 64) (hB : B ≤ w.heap.size) (hv : ∀ x, v0.ownBlock = some x → x ≠ 1 ∧ x < lo) (hp : PcsAt lo w.heap.size w g fs) (hfs : fs.length ≤ 100) :
    Calls Tryz.prog 51 #[.slice a0 n0 c0, .slice (some ⟨g, 0, none⟩) N cap] w (JnP w B v0 (jnP fs xs0)) := by
  obtain ⟨R, hR⟩ : ∃ r, r = jnP fs xs0 := ⟨_, rfl⟩
  rw [← hR]
  have HN : Hid _ := hN
  have HP : Hid _ := hp
  have HOWN : Hid _ := hown
  have HWF : Hid _ := hwf
  have HV : Hid _ := hv
  have HV0 : Hid _ := hv0
  have HR : Hid _ := hR
  have HN0 : Hid _ := hn0
  rw [hN.symm] at hfs
  clear hown hwf hv hp hN hR hv0
  go_enter Tryz.func51, Tryz.ntmps51
  go_wp2_with fail
  go_loopw [0, 12] (fun v i wr => ∃ (k : Nat) (xs : List InsD) (a : Option Addr) (c : Nat), i = .int .i64 k ∧ k ≤ N ∧ v = .slice a xs.length c ∧ R = jnP (fs.drop k) xs ∧ insOwn wr B (.slice a xs.length c) xs ∧ (∀ i ∈ xs, i.Wf) ∧ xs.length ≤ 64 ∧ Touch w wr v0.ownBlock.toList ∧ (∀ x, (Value.slice a xs.length c).ownBlock = some x → v0.ownBlock = some x ∨ w.heap.size ≤ x)) (fun _ i _ => N - (intOf i).toNat)
  case atStart =>
    refine ⟨0, xs0, a0, c0, rfl, Nat.zero_le _, by rw [HN0.out], by rw [HR.out]; rfl, by rw [← HN0.out, ← HV0.out]; exact HOWN.out, HWF.out, by omega, Touch.refl _ _, fun x h => .inl (by rw [HV0.out, HN0.out]; exact h)⟩
  case round =>
    obtain ⟨k, xs, a, c, rfl, hk, rfl, hR, hown, hwf, hle, hT, hob⟩ := hrel
    have hsz := hT.size
    by_cases hlt : k < N
    · have h1 : (k : Int) < N := by omega
      have h0 : (0 : Int) ≤ k := by omega
      have hkl : k < fs.length := by rw [← HN.out]; exact hlt
      obtain ⟨hlo, hhi, hall⟩ := HP.out
      obtain ⟨pv, hc, fn, caps, rfl, hen, hcall⟩ := hall k hkl
      have hS0 : ∀ x ∈ v0.ownBlock.toList, x ≠ 1 ∧ (x < lo ∨ w.heap.size ≤ x) := by
        intro x hx
        cases hq : v0.ownBlock with
        | none => rw [hq] at hx; simp at hx
        | some y => rw [hq] at hx; simp at hx; subst hx; exact ⟨(HV.out _ hq).1, .inl (HV.out _ hq).2⟩
      have hcell : wr.cell? ⟨g, k, none⟩ = some (.func (.func fn) #[] caps) := (hT.cell (p := ⟨g, k, none⟩) hhi (fun e => by have := (hS0 _ e).2; simp only at this; omega)).trans hc
      obtain ⟨hL, hpc⟩ := hcall wr v0.ownBlock.toList hT hS0 (xs.length : Nat) (by omega) (by omega)
      have hdrop : fs.drop k = fs[k] :: fs.drop (k + 1) := List.drop_eq_getElem_cons hkl
      rw [hdrop] at hR
      generalize fs[k] = f at *
      simp only [jnP] at hR
      generalize hfx : f ((xs.length : Nat) : Int) = fr at *
      obtain ⟨er, L⟩ := fr
      simp only at hR hpc hL
      have HEN : Hid _ := hen
      have HPC : HidC _ _ _ _ _ := ⟨hpc⟩
      have HRR : Hid _ := hR
      have HOW : Hid _ := hown
      have HWX : Hid _ := hwf
      have HT : Hid _ := hT
      have HOB : Hid _ := hob
      clear hall hcall hc hpc hR hown hwf hT hob hdrop hfx hS0 hlo
      generalize hxl : xs.length = n at *
      go_wp2_with fail
      refine HPC.out.mono ?_
      rintro e w1 (⟨he, ao, cp, rfl, hi, t1⟩ | ⟨he, rfl, t1⟩)
      · have hw : IntKind.i64.wrap ((n : Int) + (L.length : Nat)) = (n : Int) + (L.length : Nat) := by rw [IntKind.wrap_i64]; omega
        by_cases h64 : n + L.length > 64
        · have HRN : Hid (R = none) := by show _ = _; rw [HRR.out, if_pos (.inr h64)]
          have HT2 : Hid (Touch w w1 v0.ownBlock.toList) := HT.out.trans t1 (by simp)
          have hg : (64 : Int) < (n : Int) + (L.length : Nat) := by omega
          subst he
          clear hi t1 h64 HRR hL HPC
          generalize L.length = m at *
          go_wp2
          exact bodyPost_ret (v := .tuple #[.slice none 0 0, .int .i64 4]) (by simp [results, Tryz.results51, go_sem]) rfl (.inl ⟨HRN.out, rfl, HT2.out⟩)
        · have HRR2 : Hid (R = jnP (List.drop (k + 1) fs) (xs ++ L)) := by show _ = _; rw [HRR.out, if_neg (by omega)]
          have hg : ¬ (64 : Int) < (n : Int) + (L.length : Nat) := by omega
          have how1 : insOwn w1 B (.slice a n c) xs := by
            show w1.ownsRow _ _ _ _ xs.length _
            rw [hxl]
            exact ownsRow_touch HOW.out t1 (by simp)
          have hsz1 := t1.size
          obtain ⟨a3, c3, w3, r3, o3, t3, b3⟩ := ins_app2 (v := .slice a n c) how1 (by omega) (by omega) hi (by omega) 25
          rw [hxl] at r3 o3 b3
          have hsz3 := t3.size
          have HO3 : Hid (insOwn w3 B (.slice a3 (n + L.length) c3) (xs ++ L)) := o3
          have HW3 : Hid (∀ i ∈ xs ++ L, i.Wf) := fun i hi' => (List.mem_append.1 hi').elim (HWX.out i) (hi.wf i)
          have hob1 : ∀ x ∈ (Value.slice a n c).ownBlock.toList, x ∈ v0.ownBlock.toList ∨ w.heap.size ≤ x := by
            intro x hx
            rcases HOB.out x (by simpa using hx) with h | h
            · exact .inl (by simp [h])
            · exact .inr h
          have HT3 : Hid (Touch w w3 v0.ownBlock.toList) := (HT.out.trans t1 (by simp)).trans t3 hob1
          have HOB3 : Hid (∀ x, (Value.slice a3 (n + L.length) c3).ownBlock = some x → v0.ownBlock = some x ∨ w.heap.size ≤ x) := by
            intro x hx
            rcases b3 with h | h
            · rw [h] at hx; exact HOB.out x hx
            · rw [h] at hx; cases hx; exact .inr (by omega)
          have hlen : (xs ++ L).length = n + L.length := by rw [List.length_append, hxl]
          subst he
          clear hi t1 HRR hL HPC how1 o3 t3 b3 hob1
          generalize L.length = m at *
          go_wp2_with (at_builtin; refine Lib.wpList_append_run _ rfl (.tmp 33) (.tmp 34) _ _ rfl _ _ rfl rfl _ _ r3 ?_)
          go_roundw
          case rel => exact ⟨k + 1, xs ++ L, a3, c3, by go_num, by omega, by rw [hlen], HRR2.out, by rw [hlen]; exact HO3.out, HW3.out, by omega, HT3.out, by rw [hlen]; exact HOB3.out⟩
          case measure => simp [intOf]; omega
      · have HRN : Hid (R = none) := by show _ = _; rw [HRR.out, if_pos (.inl he)]
        have HT2 : Hid (Touch w w1 v0.ownBlock.toList) := HT.out.trans t1 (by simp)
        clear t1 HRR hL HPC
        go_wp2
        exact bodyPost_ret (v := .tuple #[.slice none 0 0, .int .i64 4]) (by simp [results, Tryz.results51, go_sem]) rfl (.inl ⟨HRN.out, rfl, HT2.out⟩)
    · have h1 : ¬ (k : Int) < N := by omega
      have hkN : k = fs.length := by rw [← HN.out]; omega
      have HRR : Hid (R = some xs) := by show _ = _; rw [hR, hkN, List.drop_length]; rfl
      have HO : Hid _ := hown
      have HWX : Hid _ := hwf
      have HT : Hid _ := hT
      have HOB : Hid _ := hob
      clear hR hown hwf hT hob
      generalize hxl : xs.length = n at *
      have HO2 : Hid (insOwn wr B (.slice a n c) xs) := by
        show wr.ownsRow _ _ _ _ xs.length _
        rw [hxl]
        exact HO.out
      clear HO
      go_wp2
      refine bodyPost_ret (v := .tuple #[.slice a n c, .int .i64 0]) (by simp [results, Tryz.results51, go_sem]) rfl (.inr ⟨xs, a, c, HRR.out, by rw [hxl], by rw [hxl]; exact HO2.out, HWX.out, by omega, HT.out, by rw [hxl]; exact HOB.out⟩)

end Go.Proofs.YtcbkafbchpjnoaaGreatDoor

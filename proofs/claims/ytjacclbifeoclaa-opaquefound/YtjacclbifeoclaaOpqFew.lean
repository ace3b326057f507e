/-
  package rowlocklaw09: few, heaped; numbers that are the same BY THEIR CONTRACTS.
-/
import Derived.Test.YtjacclbifeoclaaOpqBase
namespace Go.Proofs.Ytjacclbifeoclaa
set_option linter.unusedVariables false
set_option linter.unusedSimpArgs false
open Go.RowKit Go.Maps
attribute [local go_sem] Oper.semAt_some

set_option maxRecDepth 100000 in
theorem ofew_any (ao : Option Addr) (cap : Nat) (l : List EvD) (w : World) (hc : l.length ≤ cap) :
    Calls Try.prog 8 #[.slice ao l.length cap] w fun e w' => e = .returned (.slice ao (l.take 50).length cap) ∧ w = w' := by
  by_cases h : 50 < l.length
  · have e : (l.take 50).length = 50 := by simp; omega
    rw [e]
    have h1 : (50 : Int) < (l.length : Int) := by omega
    have h2 : (50 : Int) ≤ cap := by omega
    clear e
    generalize l.length = N at *
    go_enter Try.func8, Try.ntmps8
    go_wp2
    go_ret
    exact ⟨rfl, rfl⟩
  · have e : (l.take 50).length = l.length := by simp; omega
    rw [e]
    have h1 : ¬ (50 : Int) < (l.length : Int) := by omega
    clear e
    generalize l.length = N at *
    go_enter Try.func8, Try.ntmps8
    go_wp2
    go_ret
    exact ⟨rfl, rfl⟩
set_option maxRecDepth 100000 in
theorem oheaped_any (ao : Option Addr) (cap : Nat) (l : List Int) (w : World) (hc : l.length ≤ cap) :
    Calls Try.prog 9 #[.slice ao l.length cap] w fun e w' => e = .returned (.slice ao (l.take 13).length cap) ∧ w = w' := by
  by_cases h : 13 < l.length
  · have e : (l.take 13).length = 13 := by simp; omega
    rw [e]
    have h1 : (13 : Int) < (l.length : Int) := by omega
    have h2 : (13 : Int) ≤ cap := by omega
    clear e
    generalize l.length = N at *
    go_enter Try.func9, Try.ntmps9
    go_wp2
    go_ret
    exact ⟨rfl, rfl⟩
  · have e : (l.take 13).length = l.length := by simp; omega
    rw [e]
    have h1 : ¬ (13 : Int) < (l.length : Int) := by omega
    clear e
    generalize l.length = N at *
    go_enter Try.func9, Try.ntmps9
    go_wp2
    go_ret
    exact ⟨rfl, rfl⟩

theorem SRow.takeN {α : Type} {n : Nat} {cells : α → List Value} {w : World} {ao : Option Addr} {cap : Nat} {l : List α} (h : SRow n cells w (.slice ao l.length cap) l) (m : Nat) : SRow n cells w (.slice ao (l.take m).length cap) (l.take m) := by
  by_cases hm : m ≤ l.length
  · exact SRow.first h m hm
  · rw [List.take_of_length_le (by omega)]; exact h
theorem own_cap {w : World} {B : Nat} {e : TypeId} {v : Value} {n : Nat} {xs : List Value} (h : w.ownsRow B e 1 v n xs) : ∀ ao m cap, v = .slice ao m cap → m ≤ cap := by
  intro ao m cap hv
  rcases h.2 with ⟨rfl, h0⟩ | ⟨g, c, cur, rfl, _, _, hle, _⟩
  · simp at hv; omega
  · simp at hv; omega


set_option maxRecDepth 100000 in
set_option maxHeartbeats 1600000 in
theorem sameI_any (va vb : Value) (xs : List Int) (w : World) (hn : xs.length ≤ 1000) (ha : IRow w va xs) (hb : IRow w vb xs) :
    Calls Try.prog 13 #[va, vb] w fun e w' => e = .returned (.bool true) ∧ Touch w w' [] := by
  obtain ⟨ao, ca, rfl⟩ := ha.form
  obtain ⟨bo, cb, rfl⟩ := hb.form
  have HA : Hid (IRow w (.slice ao xs.length ca) xs) := ha
  have HB : Hid (IRow w (.slice bo xs.length cb) xs) := hb
  obtain ⟨n, hN⟩ : ∃ n, n = xs.length := ⟨_, rfl⟩
  have HN : Hid (n = xs.length) := hN
  rw [← hN] at hn ⊢
  clear ha hb hN
  go_enter Try.func13, Try.ntmps13
  go_wp2_with fail
  go_loopw [5] (fun i wr => ∃ k : Nat, i = .int .i64 k ∧ k ≤ n ∧ Touch w wr []) (fun i _ => n - (intOf i).toNat)
  case atStart => exact ⟨0, rfl, Nat.zero_le _, Touch.refl _ _⟩
  case round =>
    obtain ⟨k, rfl, hk, t⟩ := hrel
    by_cases hlt : k < n
    · have h1 : (k : Int) < n := by omega
      have h0 : (0 : Int) ≤ k := by omega
      have hkl : k < xs.length := by rw [← HN.out]; exact hlt
      obtain ⟨ga, oa, rfl, hga, c1⟩ := IRow.one (SRow.keep HA.out t (by simp)) k hkl
      obtain ⟨gb, ob, rfl, hgb, c2⟩ := IRow.one (SRow.keep HB.out t (by simp)) k hkl
      generalize xs[k] = x at *
      go_wp2_with fail
      go_quiet (fail)
      go_wp2
      go_roundw
      case rel => exact ⟨k + 1, by go_num, by omega, t.drewN _⟩
      case measure => simp [intOf]; omega
    · go_wp2
      go_ret
      exact ⟨rfl, t⟩
set_option maxRecDepth 100000 in
set_option maxHeartbeats 1600000 in
theorem sameV_any (va vb : Value) (xs : List Int) (w : World) (hn : xs.length ≤ 1000) (ha : VRow w va xs) (hb : VRow w vb xs) :
    Calls Try.prog 23 #[va, vb] w fun e w' => e = .returned (.bool true) ∧ Touch w w' [] := by
  obtain ⟨ao, ca, rfl⟩ := ha.form
  obtain ⟨bo, cb, rfl⟩ := hb.form
  have HA : Hid (VRow w (.slice ao xs.length ca) xs) := ha
  have HB : Hid (VRow w (.slice bo xs.length cb) xs) := hb
  obtain ⟨n, hN⟩ : ∃ n, n = xs.length := ⟨_, rfl⟩
  have HN : Hid (n = xs.length) := hN
  rw [← hN] at hn ⊢
  clear ha hb hN
  go_enter Try.func23, Try.ntmps23
  go_wp2_with fail
  go_loopw [5] (fun i wr => ∃ k : Nat, i = .int .i64 k ∧ k ≤ n ∧ Touch w wr []) (fun i _ => n - (intOf i).toNat)
  case atStart => exact ⟨0, rfl, Nat.zero_le _, Touch.refl _ _⟩
  case round =>
    obtain ⟨k, rfl, hk, t⟩ := hrel
    by_cases hlt : k < n
    · have h1 : (k : Int) < n := by omega
      have h0 : (0 : Int) ≤ k := by omega
      have hkl : k < xs.length := by rw [← HN.out]; exact hlt
      obtain ⟨ga, oa, rfl, hga, c1⟩ := VRow.one (SRow.keep HA.out t (by simp)) k hkl
      obtain ⟨gb, ob, rfl, hgb, c2⟩ := VRow.one (SRow.keep HB.out t (by simp)) k hkl
      generalize xs[k] = x at *
      go_wp2_with fail
      go_quiet (fail)
      go_wp2
      go_roundw
      case rel => exact ⟨k + 1, by go_num, by omega, t.drewN _⟩
      case measure => simp [intOf]; omega
    · go_wp2
      go_ret
      exact ⟨rfl, t⟩

end Go.Proofs.Ytjacclbifeoclaa

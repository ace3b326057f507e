/-
  Parse OF PACKAGE value, of every text.
-/
import Derived.Test.YtminiabpeodjaaaDoorValueParseAny
import Derived.Test.YtminiabpeodjaaaDoorValueNo
import Derived.Shelf.Pu.ToError
import Derived.Shelf.Pu.ToErrorRange
namespace Go.Proofs.YtminiabpeodjaaaDoor
set_option linter.unusedVariables false
set_option linter.unusedSimpArgs false
open Go.RowKit Go.Shelf

/-- A variable of an error holds one. -/
def EvIs (w : World) (g : Nat) : Prop := ∃ te pe, w.cell? ⟨g, 0, none⟩ = some (.iface te pe) ∧ g < w.heap.size
theorem EvIs.touch {w w' : World} {g : Nat} (h : EvIs w g) (t : Touch w w' []) : EvIs w' g := by
  obtain ⟨te, pe, h1, h2⟩ := h
  exact ⟨te, pe, (t.cell (p := ⟨g, 0, none⟩) h2 (by simp)).trans h1, Nat.lt_of_lt_of_le h2 t.size⟩
structure Ev (w : World) : Prop where
  s : EvIs w 6
  r : EvIs w 7
  z : Tz w
theorem Ev.touch {w w' : World} (h : Ev w) (t : Touch w w' []) : Ev w' := ⟨h.s.touch t, h.r.touch t, h.z.touch t⟩

def peOf (t : ByteArray) : PE := if t.size = 0 then .error false else p16 0 t.data.toList

set_option maxRecDepth 100000 in
theorem iparse_none (t : ByteArray) (h : t.size = 0) (w : World) : Calls Tryd.prog 87 #[.string t, .int .i64 16, .int .i64 64] w fun e w' => e = .returned (peV (.error false)) ∧ Touch w w' [] := by
  obtain rfl : t = ⟨#[]⟩ := by
    apply ByteArray.ext
    exact Array.eq_empty_of_size_eq_zero h
  go_enter Tryd.func87, Tryd.ntmps87
  go_wp2
  go_ret2
  exact ⟨rfl, Touch.refl _ _⟩

theorem iparse_all (t : ByteArray) (hmax : t.size ≤ 9223372036854775806) (w : World) : Calls Tryd.prog 87 #[.string t, .int .i64 16, .int .i64 64] w fun e w' => e = .returned (peV (peOf t)) ∧ Touch w w' [] := by
  unfold peOf
  by_cases h : t.size = 0
  · rw [if_pos h]; exact iparse_none t h w
  · rw [if_neg h]; exact iparse_any t h hmax w

theorem toError_syn (fn s : ByteArray) (b c : Int) (w : World) (hlim : s.size ≤ 281474976710656) (h : EvIs w 6) :
    Calls Tryd.prog 88 #[.string fn, .string s, .int .i64 b, .int .i64 c, .iface 126 (.int .i64 2)] w fun e w' => (∃ te pe, e = .returned (.iface te pe)) ∧ Touch w w' [] := by
  obtain ⟨te, pe, h1, _⟩ := h
  refine Calls.mono (AnyPu.strconv_toError_syntax { Tryd.LaysPu_n14 with } fn s b c (.iface te pe) w hlim h1 (.inr ⟨te, pe, rfl⟩)) ?_
  rintro e w' ⟨N, rfl, _, _, hb⟩
  exact ⟨⟨_, _, rfl⟩, Touch.of_below hb _⟩
theorem toError_rng (fn s : ByteArray) (b c : Int) (w : World) (hlim : s.size ≤ 281474976710656) (h : EvIs w 7) :
    Calls Tryd.prog 88 #[.string fn, .string s, .int .i64 b, .int .i64 c, .iface 126 (.int .i64 1)] w fun e w' => (∃ te pe, e = .returned (.iface te pe)) ∧ Touch w w' [] := by
  obtain ⟨te, pe, h1, _⟩ := h
  refine Calls.mono (AnyPu.strconv_toError_range { Tryd.LaysPu_n14 with } fn s b c (.iface te pe) w hlim h1 (.inr ⟨te, pe, rfl⟩)) ?_
  rintro e w' ⟨N, rfl, _, _, hb⟩
  exact ⟨⟨_, _, rfl⟩, Touch.of_below hb _⟩

theorem sparse_ok (t : ByteArray) (hmax : t.size ≤ 281474976710656) (n : Nat) (h : peOf t = .ok n) (w : World) : Calls Tryd.prog 78 #[.string t, .int .i64 16, .int .i64 64] w fun e w' => e = .returned (.tuple #[.int .u64 n, .nilIface]) ∧ Touch w w' [] := by
  have hc := iparse_all t (by omega) w
  rw [h] at hc
  simp only [peV] at hc
  clear h
  go_enter Tryd.func78, Tryd.ntmps78
  go_wp2_with fail
  refine hc.mono ?_
  rintro e w1 ⟨rfl, t1⟩
  clear hc
  go_wp2
  go_ret2
  exact ⟨rfl, t1⟩

/-- It names an error. -/
def Errs (w : World) (e : Ending) (w' : World) : Prop := ∃ (n : Int) (te : TypeId) (pe : Value), e = .returned (.tuple #[.int .u64 n, .iface te pe]) ∧ Touch w w' []

theorem sparse_no (t : ByteArray) (hmax : t.size ≤ 281474976710656) (h : ∀ n, peOf t ≠ .ok n) (w : World) (E : Ev w) : Calls Tryd.prog 78 #[.string t, .int .i64 16, .int .i64 64] w (Errs w) := by
  have hc := iparse_all t (by omega) w
  have HE : Hid _ := E
  clear E
  cases hp : peOf t with
  | ok n => exact absurd hp (h n)
  | error b =>
    cases b with
    | false =>
      rw [hp] at hc
      simp only [peV] at hc
      clear h hp
      go_enter Tryd.func78, Tryd.ntmps78
      go_wp2_with fail
      refine hc.mono ?_
      rintro e w1 ⟨rfl, t1⟩
      clear hc
      have ht := fun fn => toError_syn fn t 16 64 w1 hmax (HE.out.touch t1).s
      go_wp2_with fail
      refine (ht _).mono ?_
      rintro e w2 ⟨⟨te, pe, rfl⟩, t2⟩
      clear ht
      go_wp2
      go_ret2
      exact ⟨_, _, _, rfl, t1.trans t2 (by simp)⟩
    | true =>
      rw [hp] at hc
      simp only [peV] at hc
      clear h hp
      go_enter Tryd.func78, Tryd.ntmps78
      go_wp2_with fail
      refine hc.mono ?_
      rintro e w1 ⟨rfl, t1⟩
      clear hc
      have ht := fun fn => toError_rng fn t 16 64 w1 hmax (HE.out.touch t1).r
      go_wp2_with fail
      refine (ht _).mono ?_
      rintro e w2 ⟨⟨te, pe, rfl⟩, t2⟩
      clear ht
      go_wp2
      go_ret2
      exact ⟨_, _, _, rfl, t1.trans t2 (by simp)⟩

theorem hexC_lt {c : UInt8} {d : Nat} (h : hexC c = some d) : d < 16 := by
  unfold hexC at h
  split at h
  · cases h; omega
  · split at h
    · cases h; omega
    · cases h
theorem p16_lt (l : List UInt8) : ∀ acc n, acc < 18446744073709551616 → p16 acc l = .ok n → n < 18446744073709551616 := by
  induction l with
  | nil => intro acc n h e; simp only [p16, Except.ok.injEq] at e; omega
  | cons c l ih =>
    intro acc n h e
    simp only [p16] at e
    cases hc : hexC c with
    | none => rw [hc] at e; cases e
    | some d =>
      rw [hc] at e
      simp only at e
      have := hexC_lt hc
      split at e
      · cases e
      · exact ih _ n (by omega) e
theorem peOf_lt {t : ByteArray} {n : Nat} (h : peOf t = .ok n) : n < 18446744073709551616 := by
  unfold peOf at h
  split at h
  · cases h
  · exact p16_lt _ 0 n (by omega) h

theorem bytes_eq {a b : ByteArray} (h : a.toList = b.toList) : a = b := by
  rw [ByteArray.toList_eq, ByteArray.toList_eq] at h
  apply ByteArray.ext
  exact Array.ext' h

/-- What Parse tells. -/
def parseV (t : ByteArray) : Option Nat := match peOf t with
  | .ok n => if ByteArray.mk (hexS (ofB n) 16).toArray = t then some n else none
  | _ => none

theorem parseV_some {t : ByteArray} {n : Nat} (h : parseV t = some n) : peOf t = .ok n ∧ ByteArray.mk (hexS (ofB n) 16).toArray = t := by
  unfold parseV at h
  split at h
  · rename_i m hm
    split at h
    · cases h; exact ⟨hm, ‹_›⟩
    · cases h
  · cases h

set_option maxRecDepth 100000 in
theorem read_yes (t : ByteArray) (hmax : t.size ≤ 281474976710656) (n : Nat) (h : parseV t = some n) (w : World) (E : Ev w) : Calls Tryd.prog 65 #[.string t] w fun e w' => e = .returned (.int .u64 n) ∧ Touch w w' [] := by
  obtain ⟨h1, h2⟩ := parseV_some h
  have hp := sparse_ok t hmax n h1 w
  have hn := peOf_lt h1
  have HE : Hid _ := E
  clear E h h1
  go_enter Tryd.func65, Tryd.ntmps65
  go_wp2_with fail
  refine hp.mono ?_
  rintro e w1 ⟨rfl, t1⟩
  clear hp
  have hh := hex_any (n : Int) (by unfold Wf64; omega) w1 (HE.out.touch t1).z
  rw [Int.toNat_natCast, h2] at hh
  clear h2
  go_wp2_with fail
  refine (need_ok w1).mono ?_
  rintro e w2 ⟨rfl, rfl⟩
  go_wp2_with fail
  refine hh.mono ?_
  rintro e w2 ⟨rfl, t2⟩
  have HT : Hid (Touch w w2 []) := t1.trans t2 (by simp)
  clear hh t1 t2
  go_wp2_with fail
  refine (need_ok w2).mono ?_
  rintro e w3 ⟨rfl, rfl⟩
  go_wp2
  go_ret
  exact ⟨rfl, HT.out⟩

set_option maxRecDepth 100000 in
theorem read_no (t : ByteArray) (hmax : t.size ≤ 281474976710656) (h : parseV t = none) (w : World) (E : Ev w) : Calls Tryd.prog 65 #[.string t] w (GivesUp w) := by
  have HE : Hid _ := E
  clear E
  by_cases hk : ∃ n, peOf t = .ok n
  · obtain ⟨n, h1⟩ := hk
    have h2 : ¬ ByteArray.mk (hexS (ofB n) 16).toArray = t := by
      intro e
      unfold parseV at h
      rw [h1] at h
      simp only at h
      rw [if_pos e] at h
      cases h
    have hp := sparse_ok t hmax n h1 w
    have hn := peOf_lt h1
    clear h h1
    go_enter Tryd.func65, Tryd.ntmps65
    go_wp2_with fail
    refine hp.mono ?_
    rintro e w1 ⟨rfl, t1⟩
    clear hp
    have hh := hex_any (n : Int) (by unfold Wf64; omega) w1 (HE.out.touch t1).z
    rw [Int.toNat_natCast] at hh
    generalize ByteArray.mk (hexS (ofB n) 16).toArray = S at *
    have hne : (S.toList == t.toList) = false := by
      rw [beq_eq_false_iff_ne]
      intro e
      exact h2 (bytes_eq e)
    go_wp2_with fail
    refine (need_ok w1).mono ?_
    rintro e w2 ⟨rfl, rfl⟩
    go_wp2_with fail
    refine hh.mono ?_
    rintro e w2 ⟨rfl, t2⟩
    have HT : Hid (Touch w w2 []) := t1.trans t2 (by simp)
    clear hh t1 t2
    go_wp2_with fail
    refine (need_no w2).mono ?_
    rintro e w3 ⟨rfl, t3⟩
    exact ⟨rfl, rfl, HT.out.trans t3 (by simp)⟩
  · have hp := sparse_no t hmax (fun n e => hk ⟨n, e⟩) w HE.out
    clear h hk
    go_enter Tryd.func65, Tryd.ntmps65
    go_wp2_with fail
    refine hp.mono ?_
    rintro e w1 ⟨n, te, pe, rfl, t1⟩
    clear hp
    go_wp2_with fail
    refine (need_no w1).mono ?_
    rintro e w3 ⟨rfl, t3⟩
    exact ⟨rfl, rfl, t1.trans t3 (by simp)⟩

/-- What Parse answers. -/
def parseE (r : Option Nat) : Value := match r with
  | some n => .tuple #[.int .u64 n, .int .i64 0]
  | none => .tuple #[.int .u64 0, .int .i64 3]

theorem parse1_yes (p : Nat) (t : ByteArray) (n : Nat) (w : World) (hr : Calls Tryd.prog 65 #[.string t] w fun e w' => e = .returned (.int .u64 n) ∧ Touch w w' []) (hc : w.cell? ⟨p, 0, none⟩ = some (.string t)) :
    Calls Tryd.prog 64 #[.pointer (some ⟨p, 0, none⟩)] w fun e w' => e = .returned (.int .u64 n) ∧ Touch w w' [] := by
  go_enter Tryd.func64, Tryd.ntmps64
  go_wp2_with fail
  refine hr.mono ?_
  rintro e w1 ⟨rfl, t1⟩
  clear hr hc
  go_wp2
  go_ret
  exact ⟨rfl, t1⟩
theorem parse1_no (p : Nat) (t : ByteArray) (w : World) (hr : Calls Tryd.prog 65 #[.string t] w (GivesUp w)) (hc : w.cell? ⟨p, 0, none⟩ = some (.string t)) :
    Calls Tryd.prog 64 #[.pointer (some ⟨p, 0, none⟩)] w (GivesUp w) := by
  go_enter Tryd.func64, Tryd.ntmps64
  go_wp2_with fail
  refine hr.mono ?_
  rintro e w1 ⟨rfl, t1⟩
  exact ⟨rfl, rfl, t1⟩

theorem parse_all (t : ByteArray) (hmax : t.size ≤ 281474976710656) (w : World) (E : Ev w) : Calls Tryd.prog 53 #[.string t] w fun e w' => e = .returned (parseE (parseV t)) ∧ Touch w w' [] := by
  have hmf : ∀ (fn : Fn) (first cap : Array Value) (w : World), (Instr.makeFunc fn first cap).run Tryd.prog w = .ok (.func fn first cap) w := fun _ _ _ _ => rfl
  have t0 : ∀ o, Touch w (w.alloc o) [] := fun o => (Touch.refl w []).alloc o
  cases hv : parseV t with
  | some n =>
    have hc := triedV_ok 64 #[.pointer (some ⟨w.heap.size, 0, none⟩)] n (w.alloc (.cells #[.string t] 9)) (enter_of Tryd.func64 (by kernel_rfl) (by kernel_rfl))
      (fun w1 tt => parse1_yes w.heap.size t n w1 (read_yes t hmax n hv w1 (E.touch ((t0 _).trans tt (by simp)))) ((tt.cell (p := ⟨w.heap.size, 0, none⟩) (by simp) (by simp)).trans (by simp [go_sem])))
    simp only [parseE]
    clear E t0 hv
    go_enter Tryd.func53, Tryd.ntmps53
    go_wp2_with fail
    refine hc.mono ?_
    rintro e w1 ⟨rfl, t1⟩
    clear hc
    go_wp2
    go_ret2
    exact ⟨rfl, ((Touch.refl w []).alloc _).trans t1 (by simp)⟩
  | none =>
    have hc := triedV_no 64 #[.pointer (some ⟨w.heap.size, 0, none⟩)] (w.alloc (.cells #[.string t] 9)) (enter_of Tryd.func64 (by kernel_rfl) (by kernel_rfl))
      (fun w1 tt => parse1_no w.heap.size t w1 (read_no t hmax hv w1 (E.touch ((t0 _).trans tt (by simp)))) ((tt.cell (p := ⟨w.heap.size, 0, none⟩) (by simp) (by simp)).trans (by simp [go_sem])))
    simp only [parseE]
    clear E t0 hv
    go_enter Tryd.func53, Tryd.ntmps53
    go_wp2_with fail
    refine hc.mono ?_
    rintro e w1 ⟨rfl, t1⟩
    clear hc
    go_wp2
    go_ret2
    exact ⟨rfl, ((Touch.refl w []).alloc _).trans t1 (by simp)⟩

end Go.Proofs.YtminiabpeodjaaaDoor

/-
  package flows: the instruction that a line tells.
-/
import Derived.Test.YtcbkafbchpjnoaaGreatDoorFlWith
import Derived.Test.YtcbkafbchpjnoaaGreatDoorFlWords
namespace Go.Proofs.YtcbkafbchpjnoaaGreatDoor
set_option linter.unusedVariables false
set_option linter.unusedSimpArgs false
open Go.RowKit Go.Shelf
attribute [local go_sem] Oper.semAt_some

def opW (s : List UInt8) : Int := match byK 29 s with | some (.int _ k) => k | _ => 0
theorem byK_val (s : List UInt8) : (byK 29 s).getD (.int .u8 0) = .int .u8 (opW s) := by
  unfold opW
  cases h : byK 29 s with
  | none => rfl
  | some v =>
    unfold byK at h
    obtain ⟨i, _, hi⟩ := List.exists_of_findSome?_eq_some h
    split at hi
    · cases hi; rfl
    · cases hi
def headS (s : ByteArray) (p : Nat) : List UInt8 := (s.extract 0 p).data.toList
def tailS (s : ByteArray) (p : Nat) : List UInt8 := (s.extract (p + 1) s.size).data.toList
def stR (N : Nm) (s : ByteArray) (p : Nat) : Nat → InsD
  | 0 => ⟨0, 0, 0⟩
  | 1 => ⟨opW (headS s p), 0, 0⟩
  | _ => withP N (opW (headS s p)) (tailS s p)

theorem flwords_any (s : ByteArray) (w : World) : Calls Tryz.prog 151 #[.string s] w fun e w' => e = .returned (.func (.func 155) #[] #[.pointer (some ⟨w.heap.size, 0, none⟩)]) ∧ w' = w.alloc (.cells #[.string s] 9) := by
  have hmf : ∀ (fn : Fn) (first cap : Array Value) (w : World), (Instr.makeFunc fn first cap).run Tryz.prog w = .ok (.func fn first cap) w := fun _ _ _ _ => rfl
  go_enter Tryz.func151, Tryz.ntmps151
  go_wp2
  go_ret
  exact ⟨rfl, rfl⟩

/-- How far a line is read. -/
structure RdS (w : World) (N : Nm) (s : ByteArray) (p k : Nat) (W : World) : Prop where
  box : W.heap[w.heap.size]? = some (.cells #[.int .i64 N.a, .int .i64 N.t, .int .i64 N.s, .int .i64 N.l, .int .u64 N.v] 177 (0, 0))
  res : BoxI W (w.heap.size + 1) 0 0 0
  cur : BoxI W (w.heap.size + 2) (stR N s p k).op (stR N s p k).arg (stR N s p k).val
  line : One W (w.heap.size + 3) (.string s) 9
  t : Touch w W []
theorem RdS.go {w : World} {N : Nm} {s : ByteArray} {p k k' : Nat} {W W' : World} {S : List Nat} (h : RdS w N s p k W) (t : Touch W W' S) (hS : ∀ x ∈ S, w.heap.size ≤ x ∧ x ≠ w.heap.size ∧ x ≠ w.heap.size + 1 ∧ x ≠ w.heap.size + 3) (hc : BoxI W' (w.heap.size + 2) (stR N s p k').op (stR N s p k').arg (stR N s p k').val) : RdS w N s p k' W' :=
  ⟨(t.block _ (lt_of_heap h.box) (fun e => (hS _ e).2.1 rfl)).trans h.box, h.res.touch t (fun e => (hS _ e).2.2.1 rfl), hc, One.touch h.line t (fun e => (hS _ e).2.2.2 rfl), h.t.trans t (fun x hx => .inr (hS x hx).1)⟩
theorem RdS.same {w : World} {N : Nm} {s : ByteArray} {p k : Nat} {W W' : World} {S : List Nat} (h : RdS w N s p k W) (t : Touch W W' S) (hS : ∀ x ∈ S, w.heap.size + 4 ≤ x) : RdS w N s p k W' :=
  h.go t (fun x hx => by have := hS x hx; exact ⟨by omega, by omega, by omega, by omega⟩) (h.cur.touch t (fun e => by have := hS _ e; omega))

set_option maxRecDepth 100000 in
set_option maxHeartbeats 4000000 in
theorem flread_any {w : World} (hw : Wds w) (N : Nm) (hN : N.Ok) (s : ByteArray) (p : Nat) (hs : s.size ≤ 18) (hasc : ∀ i (h : i < s.size), (s[i]'h).toNat < 128) (hp : p ≤ s.size) (hb : ∀ i (h : i < s.size), (s[i]'h).toNat = 32 ↔ i = p) (hok : p < s.size → okA (opW (headS s p)) (tailS s p) = true) :
    Calls Tryz.prog 146 #[N.val, .string s] w fun e w' => e = .returned (stR N s p (if p < s.size then 2 else 1)).v ∧ Touch w w' [] := by
  obtain ⟨RR, hRR⟩ : ∃ R, R = stR N s p (if p < s.size then 2 else 1) := ⟨_, rfl⟩
  rw [← hRR]
  have HRES : Hid _ := hRR
  clear hRR
  refine (callsIn_wide (n := 5)).1 ?_
  refine callsIn_of_wp_marks Tryz.func146 rfl trivial ?_ rfl
  simp only [Tryz.ntmps146, List.size_toArray, List.length_cons, List.length_nil, Nat.reduceAdd, Nat.reduceSub, Array.replicate_succ, Array.replicate_zero, List.push_toArray, List.append_toArray, List.nil_append, List.cons_append]
  have HW : Hid _ := hw
  have HN : Hid _ := hN
  have HASC : Hid _ := hasc
  have HB : Hid _ := hb
  have HOK : Hid _ := hok
  have HS : Hid _ := hs
  have HP : Hid _ := hp
  clear hw hN hasc hb hok hs hp
  gi_wp2_with fail
  refine ⟨trivial, ?_⟩
  refine (callsIn_wide.2 (flwords_any s _)).mono ?_
  rintro x w1 ⟨rfl, hw1⟩
  gi_wp2_with fail
  refine wpIn_name fun W1 hW1 => ?_
  have hsz : W1.heap.size = w.heap.size + 4 := by rw [hW1]; simp
  have HI0 : Hid (RdS w N s p 0 W1) := by
    have h0 := heap_alloc_new w (.cells #[.int .i64 N.a, .int .i64 N.t, .int .i64 N.s, .int .i64 N.l, .int .u64 N.v] 177)
    have h1 := BoxI.new (w.alloc (.cells #[.int .i64 N.a, .int .i64 N.t, .int .i64 N.s, .int .i64 N.l, .int .u64 N.v] 177)) 0 0 0
    have h2 := BoxI.new ((w.alloc (.cells #[.int .i64 N.a, .int .i64 N.t, .int .i64 N.s, .int .i64 N.l, .int .u64 N.v] 177)).alloc (.cells #[.int .u8 0, .int .i64 0, .int .u64 0] 78)) 0 0 0
    have h3 := one_new (((w.alloc (.cells #[.int .i64 N.a, .int .i64 N.t, .int .i64 N.s, .int .i64 N.l, .int .u64 N.v] 177)).alloc (.cells #[.int .u8 0, .int .i64 0, .int .u64 0] 78)).alloc (.cells #[.int .u8 0, .int .i64 0, .int .u64 0] 78)) (.string s) 9
    rw [hW1]
    simp only [World.size_alloc] at h1 h2 h3
    refine ⟨?_, (h1.touch ((Touch.refl _ []).alloc _) (by simp)).touch ((Touch.refl _ []).alloc _) (by simp), h2.touch ((Touch.refl _ []).alloc _) (by simp), h3, ((((Touch.refl w []).alloc _).alloc _).alloc _).alloc _⟩
    rw [heap_alloc_old _ _ (by simp; omega), heap_alloc_old _ _ (by simp; omega), heap_alloc_old _ _ (by simp)]
    exact h0
  clear hW1 hw1
  refine rangeFunc_str (by omega) (gf := 155) (lb := #[.pointer (some ⟨w.heap.size + 3, 0, none⟩)]) rfl (enters_of Tryz.func155 (by kernel_rfl) rfl)
    (fun k => #[.int .i64 (k : Nat), .string (pieceS s p k)]) (fun _ => rfl) none (fun k => k = 0 ∨ (k = 1 ∧ p < s.size)) (RdS w N s p) (fun _ => False) (if p < s.size then 2 else 1) ?put (fun _ _ _ _ h => h.elim) ?new HI0.out
    (fun k => { tmps := #[N.val, .string s, .pointer (some ⟨w.heap.size, 0, none⟩), undef, .pointer (some ⟨w.heap.size + 1, 0, none⟩), .pointer (some ⟨w.heap.size + 2, 0, none⟩), .int .i64 (k : Nat), .string (pieceS s p k), .string s, .func (.func 155) #[] #[.pointer (some ⟨w.heap.size + 3, 0, none⟩)], .int .i64 (k : Nat), .string (pieceS s p k), undef, undef, undef, undef, undef, undef, undef, undef, undef, undef, undef, undef, undef, undef], defers := [] }) ?seq ?assign ?body ?done (fun _ h => h.elim)
  case put =>
    rintro k W l1 o1 o' hI hl1 ho hc1
    exact hI.same ((Touch.refl W [l1]).putObj (.inl (by simp)) o') (fun x hx => by simp at hx; omega)
  case new => exact fun k W o' h => h.same ((Touch.refl W []).alloc o') (by simp)
  case seq =>
    intro J Y W hJI hJT hWs hJ0 hJY
    rw [hsz] at hWs hJT hJY
    rw [hsz]
    exact words1_in 4 (by omega) (w.heap.size + 4 + 1) (w.heap.size + 3) (w.heap.size + 4) p s (by have := HS.out; omega) HASC.out HP.out HB.out J Y (fun k W hJ => One.cell (hJI k W hJ).line)
      (fun k W W' S hJ t hS => hJT k k W W' S hJ ((hJI k W hJ).same t (fun x hx => by have := (hS x hx).1; omega)) t (fun h => by have := (hS _ h).1; omega) (fun h => by have := (hS _ h).1; omega)) (fun k W hk hJ => hJY k W hk hJ) W hWs hJ0
  case assign =>
    intro l k W K hK
    gi_wp2
    exact hK
  case body =>
    rintro l1 k W hk hI
    rcases hk with rfl | ⟨rfl, hlt⟩
    · have HI : Hid _ := hI
      have hpz : (pieceS s p 0).size ≤ maxLen := by
        have : (s.extract 0 p).size ≤ s.size := by rw [ByteArray.size_extract]; omega
        have h18 := HS.out
        show (s.extract 0 p).size ≤ maxLen
        unfold maxLen; omega
      have hrw := readWord_any (HW.out.touch hI.t (by simp)) (pieceS s p 0) hpz
      rw [byK_val] at hrw
      have hcur := hI.cur
      obtain ⟨z0, z1, z2⟩ := hcur.cells
      have f0 := hcur.fr 0
      rw [show opW (pieceS s p 0).data.toList = opW (headS s p) from rfl] at hrw
      have HC : Hid _ := hcur
      have HRW : Hid (HidC _ _ _ _ _) := ⟨hrw⟩
      clear hI hpz hrw hcur z0 z1 z2 f0
      gi_wp2_with fail
      refine ⟨trivial, ?_⟩
      refine (callsIn_wide.2 HRW.out.out).mono ?_
      rintro x w2 ⟨rfl, t2⟩
      have hc2 := HC.out.touch t2 (by simp)
      obtain ⟨z0, z1, z2⟩ := hc2.cells
      have f0 := hc2.fr 0
      have HC2 : Hid _ := hc2
      have HT2 : Hid _ := t2
      clear HC HRW hc2 t2
      gi_wp2
      have tt : Touch W (w2.setCell ⟨w.heap.size + 2, 0, none⟩ (.int .u8 (opW (headS s p)))) [w.heap.size + 2] := (HT2.out.mono (by simp)).setCell (.inl (by simp)) _
      have hcs : ∀ x ∈ [w.heap.size + 2], ∃ cs ty fr, W.heap[x]? = some (Obj.cells cs ty fr) := fun x hx => by rw [List.mem_singleton.1 hx]; exact ⟨_, _, _, HI.out.cur.st⟩
      exact ⟨keeps_of_touch tt hcs, .inl ⟨rfl, HI.out.go (k' := 1) tt (fun x hx => by rw [List.mem_singleton.1 hx]; exact ⟨by omega, by omega, by omega, by omega⟩) (HC2.out.set0 _), KS.touch tt hcs⟩⟩
    · have HI : Hid _ := hI
      have hpz : (pieceS s p 1).size ≤ 18 := by
        have : (s.extract (p + 1) s.size).size ≤ s.size := by rw [ByteArray.size_extract]; omega
        have h18 := HS.out
        show (s.extract (p + 1) s.size).size ≤ 18
        omega
      have hwi := fun W' => flwith_any N HN.out (opW (headS s p)) (pieceS s p 1) hpz (HOK.out hlt) W'
      rw [show (pieceS s p 1).data.toList = tailS s p from rfl] at hwi
      obtain ⟨R, hR⟩ : ∃ R, R = withP N (opW (headS s p)) (tailS s p) := ⟨_, rfl⟩
      rw [← hR] at hwi
      have HRR : Hid (stR N s p 2 = R) := by show stR N s p 2 = R; rw [hR]; rfl
      have hcur := hI.cur
      have HC : Hid (BoxI W (w.heap.size + 2) (opW (headS s p)) 0 0) := hcur
      obtain ⟨y0, y1, y2⟩ := HC.out.cells
      have e0 : W.cell? ⟨w.heap.size, 0, none⟩ = some (.int .i64 N.a) := by unfold World.cell?; rw [hI.box]; rfl
      have e1 : W.cell? ⟨w.heap.size, 1, none⟩ = some (.int .i64 N.t) := by unfold World.cell?; rw [hI.box]; rfl
      have e2 : W.cell? ⟨w.heap.size, 2, none⟩ = some (.int .i64 N.s) := by unfold World.cell?; rw [hI.box]; rfl
      have e3 : W.cell? ⟨w.heap.size, 3, none⟩ = some (.int .i64 N.l) := by unfold World.cell?; rw [hI.box]; rfl
      have e4 : W.cell? ⟨w.heap.size, 4, none⟩ = some (.int .u64 N.v) := by unfold World.cell?; rw [hI.box]; rfl
      have HRW : Hid (∀ W', HidC _ _ _ _ _) := fun W' => ⟨hwi W'⟩
      clear hI hpz hwi hcur hR
      gi_wp2_with fail
      refine ⟨trivial, ?_⟩
      refine (callsIn_wide.2 (HRW.out _).out).mono ?_
      rintro x w2 ⟨rfl, t2⟩
      have hc2 := HC.out.touch t2 (by simp)
      obtain ⟨z0, z1, z2⟩ := hc2.cells
      have f0 := hc2.fr 0
      have f1 := hc2.fr 1
      have f2 := hc2.fr 2
      have HC2 : Hid _ := hc2
      have HT2 : Hid _ := t2
      clear HC HRW hc2 t2 e0 e1 e2 e3 e4 y0 y1 y2
      gi_wp2
      have tt : Touch W (((w2.setCell ⟨w.heap.size + 2, 0, none⟩ (.int .u8 R.op)).setCell ⟨w.heap.size + 2, 1, none⟩ (.int .i64 R.arg)).setCell ⟨w.heap.size + 2, 2, none⟩ (.int .u64 R.val)) [w.heap.size + 2] := (((HT2.out.mono (by simp)).setCell (.inl (by simp)) _).setCell (.inl (by simp)) _).setCell (.inl (by simp)) _
      have hcs : ∀ x ∈ [w.heap.size + 2], ∃ cs ty fr, W.heap[x]? = some (Obj.cells cs ty fr) := fun x hx => by rw [List.mem_singleton.1 hx]; exact ⟨_, _, _, HI.out.cur.st⟩
      exact ⟨keeps_of_touch tt hcs, .inl ⟨rfl, HI.out.go (k' := 2) tt (fun x hx => by rw [List.mem_singleton.1 hx]; exact ⟨by omega, by omega, by omega, by omega⟩) (by rw [HRR.out]; exact ((HC2.out.set0 _).set1 _).set2 _), KS.touch tt hcs⟩⟩
  case done =>
    rintro W hI hd
    have hcur := hI.cur
    rw [← HRES.out] at hcur
    obtain ⟨y0, y1, y2⟩ := hcur.cells
    obtain ⟨z0, z1, z2⟩ := hI.res.cells
    have f0 := hI.res.fr 0
    have f1 := hI.res.fr 1
    have f2 := hI.res.fr 2
    have HR0 : Hid _ := hI.res
    have HT : Hid _ := hI.t
    have HSZ : Hid _ := hsz
    have HD : Hid _ := hd
    clear hcur hI hsz hd
    gi_wp2
    have tt : Touch W (((W.setCell ⟨w.heap.size + 1, 0, none⟩ (.int .u8 RR.op)).setCell ⟨w.heap.size + 1, 1, none⟩ (.int .i64 RR.arg)).setCell ⟨w.heap.size + 1, 2, none⟩ (.int .u64 RR.val)) [w.heap.size + 1] := (((Touch.refl W _).setCell (.inl (by simp)) _).setCell (.inl (by simp)) _).setCell (.inl (by simp)) _
    have hd3 := (tt.block _ (lt_of_heap HD.out) (by have := HSZ.out; simp; omega)).trans HD.out
    have hb3 := ((HR0.out.set0 RR.op).set1 RR.arg).set2 RR.val
    generalize (((W.setCell ⟨w.heap.size + 1, 0, none⟩ (.int .u8 RR.op)).setCell ⟨w.heap.size + 1, 1, none⟩ (.int .i64 RR.arg)).setCell ⟨w.heap.size + 1, 2, none⟩ (.int .u64 RR.val)) = W3 at *
    have t1 : Touch W3 (W3.putObj W1.heap.size (.deferred none)) [W1.heap.size] := (Touch.refl W3 [W1.heap.size]).putObj (.inl (by simp)) _
    have hb4 := hb3.touch t1 (by have := HSZ.out; simp; omega)
    obtain ⟨k0, k1, k2⟩ := hb4.cells
    refine ⟨by simp, .inl ⟨_, _, rfl, run_takeDeferred hd3, ?_⟩⟩
    refine ⟨.agg #[.int .u8 RR.op, .int .i64 RR.arg, .int .u64 RR.val], ?_, rfl, (HT.out.trans tt (fun x hx => .inr (by simp at hx; omega))).trans t1 (fun x hx => .inr (by have := HSZ.out; simp at hx; omega))⟩
    rw [res_cellC rfl]
    simp [go_sem, k0, k1, k2]

end Go.Proofs.YtcbkafbchpjnoaaGreatDoor

/-
  package lockword's small calls BY THEIR CONTRACTS: isVersion, isOwner, free, held, joined, split.
-/
import Derived.Test.YthkphhjhgkclfaaDoorTouchBase
import Derived.Laws.BitsAllLaws
namespace Go.Proofs.YthkphhjhgkclfaaDoor
set_option linter.unusedVariables false
set_option linter.unusedSimpArgs false
open Go.RowKit

/-- The shifts lie where they are laid. -/
structure Sh (w : World) : Prop where
  lt : 0 < w.heap.size
  c0 : w.cell? ⟨0, 0, none⟩ = some (.int .u64 0)
  c1 : w.cell? ⟨0, 1, none⟩ = some (.int .u64 1)
  c2 : w.cell? ⟨0, 2, none⟩ = some (.int .u64 5)

theorem Sh.touch {w w' : World} {S : List Nat} (h : Sh w) (t : Touch w w' S) (hS : 0 ∉ S) : Sh w' :=
  ⟨Nat.lt_of_lt_of_le h.lt t.size, (t.cell h.lt hS).trans h.c0, (t.cell h.lt hS).trans h.c1, (t.cell h.lt hS).trans h.c2⟩

/-- The three parts of a word, as a value. -/
abbrev part3 (x y z : Int) : Value := .agg #[.int .u64 x, .int .u64 y, .int .u64 z]

theorem results_cell {fn : Func} {p : Tmp} {ty : TypeId} (h : fn.results = #[.cell p ty]) (tmps : Array Value) (P : Program) (w : World) :
    (results fn tmps).run P w = ((asAddr (tmps.getD p undef)).run P w).andThen fun a w₁ => (loadVar ty a).run P w₁ := by
  simp only [results, h]
  simp [Sem.run_bind, Result.andThen]

theorem isVersion_any (v : Int) (w : World) : Calls Tryd.prog 61 #[.int .u64 v] w fun e w' => e = .returned (.bool (decide (v ≤ 1099511627776))) ∧ w = w' := by
  go_enter Tryd.func61, Tryd.ntmps61
  go_wp2
  go_ret
  exact ⟨rfl, rfl⟩

theorem free_any (v : Int) (w : World) : Calls Tryd.prog 59 #[.int .u64 v] w fun e w' => e = .returned (part3 0 0 v) ∧ Touch w w' [] := by
  go_enter Tryd.func59, Tryd.ntmps59
  go_wp2
  (try simp only [Exit.inBlock, Exit.then])
  refine bodyPost_ret (v := part3 0 0 v) ?_ rfl ⟨rfl, ?_⟩
  · rw [results_cell rfl]
    go_simp
  · exact (Touch.refl _ _).alloc _

theorem held_any (o v : Int) (h0 : 0 ≤ o) (h1 : o < 4) (w : World) : Calls Tryd.prog 58 #[.int .i64 o, .int .u64 v] w fun e w' => e = .returned (part3 1 o v) ∧ Touch w w' [] := by
  go_enter Tryd.func58, Tryd.ntmps58
  go_wp2
  (try simp only [Exit.inBlock, Exit.then])
  refine bodyPost_ret (v := part3 1 o v) ?_ rfl ⟨rfl, ?_⟩
  · rw [results_cell rfl]
    go_simp
  · exact (Touch.refl _ _).alloc _

theorem isOwner_any (o : Int) (w : World) : Calls Tryd.prog 70 #[.int .i64 o] w fun e w' => e = .returned (.bool (decide (0 ≤ o ∧ o < 4))) ∧ w = w' := by
  by_cases h : 0 ≤ o
  · by_cases h4 : o < 4
    all_goals
      go_enter Tryd.func70, Tryd.ntmps70
      go_wp2
      go_ret
      refine ⟨?_, rfl⟩
      simp [h, h4]
  · go_enter Tryd.func70, Tryd.ntmps70
    go_wp2
    go_ret
    refine ⟨?_, rfl⟩
    simp
    omega

/-- A box of three numbers. -/
structure Box (w : World) (b : Nat) (x y z : Int) : Prop where
  st : w.heap[b]? = some (.cells #[.int .u64 x, .int .u64 y, .int .u64 z] 77 (0, 0))

theorem Box.touch {w w' : World} {b : Nat} {x y z : Int} {S : List Nat} (h : Box w b x y z) (t : Touch w w' S) (hS : b ∉ S) : Box w' b x y z := ⟨(t.block b (lt_of_heap h.st) hS).trans h.st⟩
theorem Box.cells {w : World} {b : Nat} {x y z : Int} (h : Box w b x y z) : w.cell? ⟨b, 0, none⟩ = some (.int .u64 x) ∧ w.cell? ⟨b, 1, none⟩ = some (.int .u64 y) ∧ w.cell? ⟨b, 2, none⟩ = some (.int .u64 z) := by
  simp [World.cell?, h.st]
theorem Box.frozen {w : World} {b : Nat} {x y z : Int} (h : Box w b x y z) (j : Nat) : w.frozen? ⟨b, j, none⟩ = false := by
  simp [World.frozen?, h.st]
theorem Box.held {w w' : World} {b : Nat} {x y z : Int} (h : Box w b x y z) (t : Touch w w' []) : w'.cell? ⟨b, 0, none⟩ = some (.int .u64 x) ∧ w'.cell? ⟨b, 1, none⟩ = some (.int .u64 y) ∧ w'.cell? ⟨b, 2, none⟩ = some (.int .u64 z) ∧ Touch w w' [] := by
  obtain ⟨h0, h1, h2⟩ := (h.touch t (by simp)).cells
  exact ⟨h0, h1, h2, t⟩
theorem Box.new (w : World) (x y z : Int) : Box (w.alloc (.cells #[.int .u64 x, .int .u64 y, .int .u64 z] 77)) w.heap.size x y z := ⟨heap_alloc_new w _⟩

theorem Box.set0 {w : World} {b : Nat} {x y z : Int} (h : Box w b x y z) (v : Int) : Box (w.setCell ⟨b, 0, none⟩ (.int .u64 v)) b v y z := by
  refine ⟨?_⟩
  simp [World.setCell, Array.getElem?_modify, h.st]
theorem Box.set1 {w : World} {b : Nat} {x y z : Int} (h : Box w b x y z) (v : Int) : Box (w.setCell ⟨b, 1, none⟩ (.int .u64 v)) b x v z := by
  refine ⟨?_⟩
  simp [World.setCell, Array.getElem?_modify, h.st]
theorem Box.set2 {w : World} {b : Nat} {x y z : Int} (h : Box w b x y z) (v : Int) : Box (w.setCell ⟨b, 2, none⟩ (.int .u64 v)) b x y v := by
  refine ⟨?_⟩
  simp [World.setCell, Array.getElem?_modify, h.st]

theorem eqParts (x y z a b c : Int) (w : World) : (Op.equalIn 10000 77 (.agg #[.int .u64 x, .int .u64 y, .int .u64 z]) (.agg #[.int .u64 a, .int .u64 b, .int .u64 c])).run Tryd.prog w = .ok (x == a && y == b && z == c) w := by
  have u3 := Tryd.underlying31
  have a3 := Tryd.isAgg31
  have z3 := Tryd.sizeOf31
  rw [show (10000 : Nat) = 9999 + 1 from rfl, Op.equalIn]
  simp only [Sem.run_bind, run_underlying Tryd.underlying77, Result.andThen_ok]
  simp only [Std.Legacy.Range.forIn_eq_forIn_range', Std.Legacy.Range.size, Nat.sub_zero, Nat.add_sub_cancel, Nat.div_one, List.range'_succ, List.range'_zero, List.forIn_cons, List.forIn_nil]
  go_simp
  by_cases h1 : x = a <;> by_cases h2 : y = b <;> by_cases h3 : z = c <;> simp [h1, h2, h3]

theorem or_low (i : Nat) (a b : Int) (ha : 0 ≤ a) (hai : a < (2 : Int) ^ i) (hi : i ≤ 5) (hb : 0 ≤ b) (hbl : b ≤ 1099511627776) : bits .or .u64 a (b * (2 : Int) ^ i) = b * (2 : Int) ^ i + a := by
  obtain ⟨A, rfl⟩ := Int.eq_ofNat_of_zero_le ha
  obtain ⟨B, rfl⟩ := Int.eq_ofNat_of_zero_le hb
  have e : ((B : Int) * (2 : Int) ^ i) = ((2 ^ i * B : Nat) : Int) := by rw [Int.natCast_mul, Int.natCast_pow, Int.mul_comm]; rfl
  have hA : A < 2 ^ i := by
    have : (A : Int) < ((2 ^ i : Nat) : Int) := by rw [Int.natCast_pow]; exact hai
    omega
  have hp : 2 ^ i ≤ 2 ^ 5 := Nat.pow_le_pow_right (by omega) hi
  have hB : 2 ^ i * B ≤ 32 * 1099511627776 := Nat.mul_le_mul (by omega) (by omega)
  rw [e, u64_or_nat A _ (by omega) (by omega), Nat.or_comm, ← Nat.two_pow_add_eq_or_of_lt hA]
  omega

set_option maxRecDepth 100000 in
theorem joined_any (x y z : Int) (w : World) (S : Sh w) (hx : 0 ≤ x ∧ x < 2) (hy : 0 ≤ y ∧ y < 16) (hz : 0 ≤ z ∧ z ≤ 1099511627776) : Calls Tryd.prog 60 #[part3 x y z] w fun e w' => e = .returned (.int .u64 (z * 32 + y * 2 + x)) ∧ Touch w w' [] := by
  have hSW := S.touch ((Touch.refl w []).alloc (.cells #[.int .u64 x, .int .u64 y, .int .u64 z] 77)) (by simp)
  have hTW := (Touch.refl w []).alloc (.cells #[.int .u64 x, .int .u64 y, .int .u64 z] 77)
  have hBW := Box.new w x y z
  have HI : Hid _ := And.intro hSW (And.intro hTW hBW)
  clear S hSW hTW hBW
  go_enter Tryd.func60, Tryd.ntmps60
  go_wp2
  go_loopw [3, 5] (fun acc i wr => ∃ (k : Nat), i = .int .i64 k ∧ k ≤ 3 ∧ acc = .int .u64 (if k = 0 then 0 else if k = 1 then x else if k = 2 then y * 2 + x else z * 32 + y * 2 + x) ∧ Sh wr ∧ Touch w wr [] ∧ Box wr w.heap.size x y z) (fun _ i _ => 3 - (intOf i).toNat)
  case atStart => exact ⟨0, rfl, by omega, rfl, HI.out⟩
  case round =>
    obtain ⟨k, rfl, hk, rfl, hS, hT, hB⟩ := hrel
    clear HI
    have HK : Hid _ := And.intro hS (And.intro hT hB)
    have s0 := hS.c0
    have s1 := hS.c1
    have s2 := hS.c2
    obtain ⟨b0, b1, b2⟩ := hB.cells
    clear hS hT hB
    obtain rfl | rfl | rfl | rfl : k = 0 ∨ k = 1 ∨ k = 2 ∨ k = 3 := by omega
    · have ho : bits .or .u64 0 x = x := by have := or_low 0 0 x (by omega) (by decide) (by omega) (by omega) (by omega); simpa using this
      go_wp2
      go_quiet (fail)
      go_wp2
      go_roundw
      case rel => exact ⟨1, by go_num, by omega, by simp [ho], HK.out.1.touch ((Touch.refl _ []).drewN _) (by simp), HK.out.2.1.drewN _, HK.out.2.2.touch ((Touch.refl _ []).drewN _) (by simp)⟩
      case measure => simp [intOf]
    · have ho : bits .or .u64 x (y * 2) = y * 2 + x := or_low 1 x y (by omega) (by omega) (by omega) (by omega) (by omega)
      go_wp2
      go_quiet (fail)
      go_wp2
      go_roundw
      case rel => exact ⟨2, by go_num, by omega, by simp [ho], HK.out.1.touch ((Touch.refl _ []).drewN _) (by simp), HK.out.2.1.drewN _, HK.out.2.2.touch ((Touch.refl _ []).drewN _) (by simp)⟩
      case measure => simp [intOf]
    · have ho : bits .or .u64 (y * 2 + x) (z * 32) = z * 32 + (y * 2 + x) := or_low 5 (y * 2 + x) z (by omega) (by omega) (by omega) (by omega) (by omega)
      go_wp2
      go_quiet (fail)
      go_wp2
      go_roundw
      case rel => exact ⟨3, by go_num, by omega, by simp [ho]; omega, HK.out.1.touch ((Touch.refl _ []).drewN _) (by simp), HK.out.2.1.drewN _, HK.out.2.2.touch ((Touch.refl _ []).drewN _) (by simp)⟩
      case measure => simp [intOf]
    · go_wp2
      go_ret
      exact ⟨by simp, HK.out.2.1⟩

/-- What split tells of a word. -/
def splitV (n : Int) : Value := part3 (n % 2) (n % 32 / 2) (n / 32)

set_option maxRecDepth 100000 in
theorem split_any (n : Int) (hn : 0 ≤ n ∧ n < 18446744073709551616) (w : World) (S : Sh w) : Calls Tryd.prog 66 #[.int .u64 n] w fun e w' => e = .returned (splitV n) ∧ Touch w w' [] := by
  have hTW := ((Touch.refl w []).alloc (.cells #[.int .u64 0, .int .u64 0, .int .u64 0] 77)).alloc (.cells #[.int .u64 0, .int .u64 0, .int .u64 0] 77)
  have hSW := S.touch hTW (by simp)
  have hB1 := Box.new (w.alloc (.cells #[.int .u64 0, .int .u64 0, .int .u64 0] 77)) 0 0 0
  have hB0 := (Box.new w 0 0 0).touch ((Touch.refl _ []).alloc (.cells #[.int .u64 0, .int .u64 0, .int .u64 0] 77)) (by simp)
  simp only [World.size_alloc] at hB1
  have HI : Hid _ := And.intro hSW (And.intro hTW (And.intro hB0 hB1))
  have HG : Hid (0 < w.heap.size) := S.lt
  clear S hSW hTW hB0 hB1
  go_enter Tryd.func66, Tryd.ntmps66
  go_wp2
  go_loopw [0, 6] (fun x i wr => ∃ (k : Nat), i = .int .i64 k ∧ k ≤ 3 ∧ x = .int .u64 (if k = 0 then n else if k = 1 then n % 32 else if k = 2 then n % 2 else 0) ∧ Sh wr ∧ Touch w wr [] ∧ Box wr w.heap.size 0 0 0 ∧ Box wr (w.heap.size + 1) (if k = 3 then n % 2 else 0) (if 2 ≤ k then n % 32 / 2 else 0) (if 1 ≤ k then n / 32 else 0)) (fun _ i _ => 3 - (intOf i).toNat)
  case atStart => exact ⟨0, rfl, by omega, rfl, HI.out⟩
  case round =>
    obtain ⟨k, rfl, hk, rfl, hS, hT, hB0, hB1⟩ := hrel
    clear HI
    have HK : Hid _ := And.intro hS (And.intro hT (And.intro hB0 hB1))
    have s0 := hS.c0
    have s1 := hS.c1
    have s2 := hS.c2
    obtain rfl | rfl | rfl | rfl : k = 0 ∨ k = 1 ∨ k = 2 ∨ k = 3 := by omega
    · have hB := hB1.set2 (n / 32)
      have hfr := hB1.frozen
      obtain ⟨b0, b1, b2⟩ := hB1.cells
      obtain ⟨c0, c1, c2⟩ := hB.cells
      have HB : Hid _ := hB
      have hsh := hS
      have HT : Hid (Touch w (wr.setCell ⟨w.heap.size + 1, 2, none⟩ (.int .u64 (n / 32))) []) := hT.setCell (.inr (Nat.le_succ _)) _
      have HT1 : Hid (Touch wr (wr.setCell ⟨w.heap.size + 1, 2, none⟩ (.int .u64 (n / 32))) [w.heap.size + 1]) := (Touch.refl _ _).setCell (.inl (by simp)) _
      have hs3 := hS.touch HT1.out (by have := HG.out; rw [List.mem_singleton]; omega)
      have s3 := hs3.c0
      have s4 := hs3.c1
      have s5 := hs3.c2
      clear hS hT hB0 hB1 hB hsh hs3
      go_wp2
      go_quiet (fail)
      go_wp2
      go_roundw
      case rel => exact ⟨0+1, by go_num, by omega, by (try simp) <;> omega, (HK.out.1.touch HT1.out (by have := HG.out; rw [List.mem_singleton]; omega)).touch ((Touch.refl _ []).drewN _) (by simp), HT.out.drewN _, (HK.out.2.2.1.touch HT1.out (by simp)).touch ((Touch.refl _ []).drewN _) (by simp), HB.out.touch ((Touch.refl _ []).drewN _) (by simp)⟩
      case measure => simp [intOf]
    · have hB := hB1.set1 (n % 32 / 2)
      have hfr := hB1.frozen
      obtain ⟨b0, b1, b2⟩ := hB1.cells
      obtain ⟨c0, c1, c2⟩ := hB.cells
      have HB : Hid _ := hB
      have hsh := hS
      have HT : Hid (Touch w (wr.setCell ⟨w.heap.size + 1, 1, none⟩ (.int .u64 (n % 32 / 2))) []) := hT.setCell (.inr (Nat.le_succ _)) _
      have HT1 : Hid (Touch wr (wr.setCell ⟨w.heap.size + 1, 1, none⟩ (.int .u64 (n % 32 / 2))) [w.heap.size + 1]) := (Touch.refl _ _).setCell (.inl (by simp)) _
      have hs3 := hS.touch HT1.out (by have := HG.out; rw [List.mem_singleton]; omega)
      have s3 := hs3.c0
      have s4 := hs3.c1
      have s5 := hs3.c2
      clear hS hT hB0 hB1 hB hsh hs3
      go_wp2
      go_quiet (fail)
      go_wp2
      go_roundw
      case rel => exact ⟨1+1, by go_num, by omega, by (try simp) <;> omega, (HK.out.1.touch HT1.out (by have := HG.out; rw [List.mem_singleton]; omega)).touch ((Touch.refl _ []).drewN _) (by simp), HT.out.drewN _, (HK.out.2.2.1.touch HT1.out (by simp)).touch ((Touch.refl _ []).drewN _) (by simp), HB.out.touch ((Touch.refl _ []).drewN _) (by simp)⟩
      case measure => simp [intOf]
    · have hB := hB1.set0 (n % 2)
      have hfr := hB1.frozen
      obtain ⟨b0, b1, b2⟩ := hB1.cells
      obtain ⟨c0, c1, c2⟩ := hB.cells
      have HB : Hid _ := hB
      have hsh := hS
      have HT : Hid (Touch w (wr.setCell ⟨w.heap.size + 1, 0, none⟩ (.int .u64 (n % 2))) []) := hT.setCell (.inr (Nat.le_succ _)) _
      have HT1 : Hid (Touch wr (wr.setCell ⟨w.heap.size + 1, 0, none⟩ (.int .u64 (n % 2))) [w.heap.size + 1]) := (Touch.refl _ _).setCell (.inl (by simp)) _
      have hs3 := hS.touch HT1.out (by have := HG.out; rw [List.mem_singleton]; omega)
      have s3 := hs3.c0
      have s4 := hs3.c1
      have s5 := hs3.c2
      clear hS hT hB0 hB1 hB hsh hs3
      go_wp2
      go_quiet (fail)
      go_wp2
      go_roundw
      case rel => exact ⟨2+1, by go_num, by omega, by (try simp) <;> omega, (HK.out.1.touch HT1.out (by have := HG.out; rw [List.mem_singleton]; omega)).touch ((Touch.refl _ []).drewN _) (by simp), HT.out.drewN _, (HK.out.2.2.1.touch HT1.out (by simp)).touch ((Touch.refl _ []).drewN _) (by simp), HB.out.touch ((Touch.refl _ []).drewN _) (by simp)⟩
      case measure => simp [intOf]
    · obtain ⟨b0, b1, b2⟩ := hB1.cells
      obtain ⟨d0, d1, d2⟩ := hB0.cells
      have hfr := hB0.frozen
      clear hS hT hB0 hB1
      go_wp2
      refine bodyPost_ret (v := splitV n) ?_ rfl ⟨rfl, ?_⟩
      · rw [results_cell rfl]
        go_simp
        rfl
      · exact ((HK.out.2.1.setCell (.inr (Nat.le_refl _)) _).setCell (.inr (Nat.le_refl _)) _).setCell (.inr (Nat.le_refl _)) _

end Go.Proofs.YthkphhjhgkclfaaDoor

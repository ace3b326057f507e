/-
  package code: Encode BY ITS CONTRACT.
-/
import Derived.Test.YtaebcigfinjeiaaDoorAllA
import Derived.Laws.BytesArg
import Derived.Maps.OwnSet
import Derived.Maps.OwnIn
import Derived.Maps.Ext
import Derived.StringKeys
import Derived.Deep.MidRow
import Derived.Laws.RangeAny
import Derived.Lib.OthersKept
import Derived.Deep.QuietTactic
import Derived.BigQuiet
namespace Go.Proofs.YtaebcigfinjeiaaDoor
set_option linter.unusedVariables false
set_option linter.unusedSimpArgs false
open Go.RowKit
attribute [local go_sem] Oper.semAt_some

abbrev InsRow := SRow 3 InsD.cells
theorem ins_at {w W : World} {ao : Option Addr} {cap : Nat} {l : List InsD} (h : InsRow w (.slice ao l.length cap) l) {S : List Nat} (t : Touch w W S) (hS : ∀ x ∈ S, w.heap.size ≤ x) (k : Nat) (hk : k < l.length) :
    ∃ g off, ao = some ⟨g, off, none⟩ ∧ W.cell? ⟨g, off + k * 3, none⟩ = some (.int .u8 l[k].op) ∧ W.cell? ⟨g, off + k * 3 + 1, none⟩ = some (.int .i64 l[k].arg) ∧ W.cell? ⟨g, off + k * 3 + 2, none⟩ = some (.int .u64 l[k].val) := by
  obtain ⟨g, off, e, hg, hc⟩ := h.at k hk
  have hgs : g ∉ S := fun hs => by have := hS g hs; omega
  exact ⟨g, off, e, (t.cell (p := ⟨g, off + k * 3, none⟩) hg hgs).trans (hc 0 (by omega)), (t.cell (p := ⟨g, off + k * 3 + 1, none⟩) hg hgs).trans (hc 1 (by omega)), (t.cell (p := ⟨g, off + k * 3 + 2, none⟩) hg hgs).trans (hc 2 (by omega))⟩

def encL (l : List InsD) : List Int := l.flatMap encI
theorem encL_snoc {l : List InsD} {k : Nat} (hk : k < l.length) : encL (l.take (k + 1)) = encL (l.take k) ++ encI l[k] := by
  unfold encL; rw [List.take_succ_eq_append_getElem hk, List.flatMap_append]; simp
theorem encI_len (i : InsD) : (encI i).length ≤ 10 := by
  unfold encI
  rw [List.length_cons, List.length_append]
  have h1 : (if argP i.op then [i.arg % 256] else ([] : List Int)).length ≤ 1 := by split <;> simp
  have h2 : (if valP i.op then valB i.val.toNat 8 else ([] : List Int)).length ≤ 8 := by split <;> simp [valB_len]
  omega
theorem encL_len (l : List InsD) : (encL l).length ≤ 10 * l.length := by
  unfold encL
  induction l with
  | nil => simp
  | cons x l ih => rw [List.flatMap_cons, List.length_append, List.length_cons]; have := encI_len x; omega

/-- What Encode comes to. -/
def EncPost (w : World) (l : List InsD) (e : Ending) (w' : World) : Prop :=
  (l.all rightI = true ∧ ∃ v, e = .returned (.tuple #[v, .int .i64 0]) ∧ bytOwn w' w.heap.size v (encL l) ∧ Touch w w' []) ∨ (l.all rightI = false ∧ e = .returned (.tuple #[.slice none 0 0, .int .i64 3]) ∧ Touch w w' [])

end Go.Proofs.YtaebcigfinjeiaaDoor
/-
  package code: taken, OF THE BYTES OF ONE RIGHT INSTRUCTION, BY ITS CONTRACT.
-/
namespace Go.Proofs.YtaebcigfinjeiaaDoor
set_option linter.unusedVariables false
set_option linter.unusedSimpArgs false
open Go.RowKit
attribute [local go_sem] Oper.semAt_some

theorem BRow.one {w : World} {ao : Option Addr} {cap : Nat} {l : List Int} (h : BRow w (.slice ao l.length cap) l) (k : Nat) (hk : k < l.length) :
    ∃ g off, ao = some ⟨g, off, none⟩ ∧ g < w.heap.size ∧ w.cell? ⟨g, off + k, none⟩ = some (.int .u8 l[k]) := by
  obtain ⟨g, off, e, hlt, hc⟩ := h.at k hk
  exact ⟨g, off, e, hlt, by simpa using hc 0 (by omega)⟩

/-- What a right one is. -/
theorem right_arg {i : InsD} (h : rightI i = true) (hp : argP i.op = true) : 0 ≤ i.arg ∧ i.arg ≤ 63 ∧ i.val = 0 := by
  have hv := arg_val hp
  simp only [rightI, Bool.and_eq_true, decide_eq_true_eq, Bool.or_eq_true] at h
  obtain ⟨⟨⟨⟨⟨h1, h2⟩, h3⟩, h4⟩, h5⟩, h6⟩ := h
  rw [hv] at h3
  have : highP i.op ≤ 63 := by unfold highP; split <;> (try split) <;> omega
  exact ⟨h4, by omega, by simpa using h3⟩
theorem right_none {i : InsD} (h : rightI i = true) (hp : argP i.op = false) : i.arg = 0 := by
  simp only [rightI, Bool.and_eq_true, decide_eq_true_eq, Bool.or_eq_true] at h
  obtain ⟨⟨⟨⟨⟨h1, h2⟩, h3⟩, h4⟩, h5⟩, h6⟩ := h
  rw [hp] at h2
  simpa using h2
theorem right_noval {i : InsD} (h : rightI i = true) (hp : valP i.op = false) : i.val = 0 := by
  simp only [rightI, Bool.and_eq_true, decide_eq_true_eq, Bool.or_eq_true] at h
  obtain ⟨⟨⟨⟨⟨h1, h2⟩, h3⟩, h4⟩, h5⟩, h6⟩ := h
  rw [hp] at h3
  simpa using h3

/-- The bytes of a Val, one by one. -/
theorem val_step (n k : Nat) (hk : k < 8) (hn : n < 18446744073709551616) : n / 2 ^ (8 * (8 - (k + 1))) = n / 2 ^ (8 * (8 - k)) * 256 + n / 2 ^ (8 * (7 - k)) % 256 := by
  have e1 : 8 * (8 - (k + 1)) = 8 * (7 - k) := by omega
  have e2 : 2 ^ (8 * (8 - k)) = 2 ^ (8 * (7 - k)) * 256 := by
    have : 8 * (8 - k) = 8 * (7 - k) + 8 := by omega
    rw [this, Nat.pow_add]
  rw [e1, e2, ← Nat.div_div_eq_div_mul]
  omega
theorem or_byte (m b : Nat) (hm : m < 72057594037927936) (hb : b < 256) : bits .or .u64 ((m * 256 : Nat) : Int) (b : Int) = ((m * 256 + b : Nat) : Int) := by
  rw [u64_or_nat (m * 256) b (by omega) (by omega)]
  congr 1
  have h := Nat.two_pow_add_eq_or_of_lt (i := 8) (b := b) (by omega) m
  have e : 2 ^ 8 * m = m * 256 := by omega
  rw [e] at h
  omega

theorem res_cell {fn : Func} {p : Tmp} {ty : TypeId} (h : fn.results = #[.cell p ty]) (tmps : Array Value) (P : Program) (w : World) :
    (results fn tmps).run P w = ((asAddr (tmps.getD p undef)).run P w).andThen fun a w₁ => (loadVar ty a).run P w₁ := by
  simp only [results, h]
  simp [Sem.run_bind, Result.andThen]

/-- What bytes can say, right or not. -/
structure FitI (i : InsD) : Prop where
  arg : argP i.op = true → 0 ≤ i.arg ∧ i.arg ≤ 255 ∧ i.val = 0
  none : argP i.op = false → i.arg = 0
  noval : valP i.op = false → i.val = 0
theorem fit_of {i : InsD} (h : rightI i = true) : FitI i := ⟨fun hp => by have := right_arg h hp; omega, right_none h, right_noval h⟩

end Go.Proofs.YtaebcigfinjeiaaDoor
/-
  BYTES AS A TEXT: string(b) of a row of bytes.
-/
namespace Go.Proofs.YtaebcigfinjeiaaDoor
set_option linter.unusedVariables false
set_option linter.unusedSimpArgs false
open Go.RowKit

theorem str_of {w : World} {ao : Option Addr} {cap : Nat} {l : List Int} (h : BRow w (.slice ao l.length cap) l) :
    (convert 150 9 (.slice ao l.length cap)).run Tryd.prog w = .ok (.string (strOfNums l)) w := by
  rcases l with _ | ⟨x, l⟩
  · obtain ⟨ao', cap', e, _⟩ := h
    cases ao with
    | none =>
      rw [run_convert_bytes_nil w 150 5 Tryd.underlying150 Tryd.underlying5 _ _ 9 Tryd.underlying9]
      rfl
    | some a =>
      obtain ⟨b, off, fld⟩ := a
      rw [run_convert_bytes_string w 150 9 5 _ _ _ Tryd.underlying150 Tryd.underlying5 Tryd.underlying9, run_bytesToString w _ _ cap [] (by simpa using run_loadCells_list (P := Tryd.prog) w ⟨b, off, fld⟩ [] (fun j v hj => by simp at hj))]
      rfl
  · obtain ⟨g, off, rfl, hg, _⟩ := h.one 0 (by simp)
    exact run_convert_bytes_arg w 150 5 Tryd.underlying150 Tryd.underlying5 g off _ cap (x :: l) rfl (fun i hi => by
      obtain ⟨g', off', e', _, hc⟩ := h.one i hi
      simp only [Option.some.injEq, Addr.mk.injEq] at e'
      obtain ⟨rfl, rfl, _⟩ := e'
      have q : (x :: l).getD i 0 = (x :: l)[i] := by simp [List.getD, List.getElem?_eq_getElem hi]
      rw [q]
      simpa using hc) 9 Tryd.underlying9

end Go.Proofs.YtaebcigfinjeiaaDoor
/-
  package code: Decode, OF THE BYTES OF RIGHT INSTRUCTIONS, BY ITS CONTRACT.
-/
namespace Go.Proofs.YtaebcigfinjeiaaDoor
set_option linter.unusedVariables false
set_option linter.unusedSimpArgs false
open Go.RowKit
attribute [local go_sem] Oper.semAt_some

theorem encI_width (i : InsD) : (encI i).length = widthP i.op := by
  unfold encI widthP
  rw [List.length_cons, List.length_append]
  have h1 : (if argP i.op then [i.arg % 256] else ([] : List Int)).length = if argP i.op then 1 else 0 := by split <;> simp
  have h2 : (if valP i.op then valB i.val.toNat 8 else ([] : List Int)).length = if valP i.op then 8 else 0 := by split <;> simp [valB_len]
  omega
theorem brow_take {w : World} {ao : Option Addr} {cap : Nat} {a b : List Int} (h : BRow w (.slice ao (a ++ b).length cap) (a ++ b)) (c : Nat) : BRow w (.slice ao a.length c) a := by
  refine ⟨ao, c, rfl, fun hne => ?_⟩
  have hpos : 0 < a.length := List.length_pos_iff.2 hne
  obtain ⟨g, off, e, hg, _⟩ := h.one 0 (by simp; omega)
  refine ⟨g, off, e, hg, fun k hk j hj => ?_⟩
  obtain ⟨g', off', e', _, hc⟩ := h.one k (by simp; omega)
  rw [e] at e'
  simp only [Option.some.injEq, Addr.mk.injEq] at e'
  obtain ⟨rfl, rfl, _⟩ := e'
  obtain rfl : j = 0 := by omega
  rw [List.getElem_append_left hk] at hc
  simpa using hc
theorem brow_drop {w : World} {g off cap : Nat} {a b : List Int} (h : BRow w (.slice (some ⟨g, off, none⟩) (a ++ b).length cap) (a ++ b)) (c : Nat) (p : Nat) (hp : b ≠ [] → p = off + a.length) : BRow w (.slice (some ⟨g, p, none⟩) b.length c) b := by
  refine ⟨_, c, rfl, fun hne => ?_⟩
  have hpos : 0 < b.length := List.length_pos_iff.2 hne
  obtain ⟨g0, off0, e0, hg, _⟩ := h.one 0 (by simp; omega)
  simp only [Option.some.injEq, Addr.mk.injEq] at e0
  obtain ⟨rfl, rfl, _⟩ := e0
  refine ⟨g, p, rfl, hg, fun k hk j hj => ?_⟩
  obtain ⟨g', off', e', _, hc⟩ := h.one (a.length + k) (by simp; omega)
  simp only [Option.some.injEq, Addr.mk.injEq] at e'
  obtain ⟨rfl, rfl, _⟩ := e'
  obtain rfl : j = 0 := by omega
  rw [List.getElem_append_right (by omega)] at hc
  have hpe := hp hne
  have e1 : off + (a.length + k) = p + k * 1 + 0 := by omega
  rw [e1] at hc
  simpa using hc

abbrev insOwn (w : World) (B : Nat) (v : Value) (l : List InsD) : Prop := w.ownsRow B 44 3 v l.length (l.flatMap InsD.cells)
theorem Tryd.info_ins : (Tryd.prog.info? 44).map (fun i => (i.zero, i.size, i.bytes)) = some (some (.agg #[.int .u8 0, .int .i64 0, .int .u64 0]), 3, 24) := by kernel_rfl
theorem ins_one (x : InsD) : ∀ u ∈ x.cells, u.oneCell' = true := by
  intro u hu
  simp only [InsD.cells, List.mem_cons, List.not_mem_nil, or_false] at hu
  rcases hu with rfl | rfl | rfl <;> rfl
theorem ins_new (w : World) (x : InsD) : InsRow (w.alloc (.cells #[.int .u8 x.op, .int .i64 x.arg, .int .u64 x.val] 44)) (.slice (some ⟨w.heap.size, 0, none⟩) 1 1) [x] := by
  refine ⟨_, 1, rfl, fun _ => ⟨w.heap.size, 0, rfl, by simp, fun k hk j hj => ?_⟩⟩
  have hk0 : k = 0 := by simpa using hk
  subst hk0
  have h0 := heap_alloc_new w (.cells #[.int .u8 x.op, .int .i64 x.arg, .int .u64 x.val] 44)
  unfold World.cell?
  simp only [h0]
  match j, hj with
  | 0, _ => rfl
  | 1, _ => rfl
  | 2, _ => rfl
/-- One instruction more. -/
theorem ins_push {w : World} {B : Nat} {v : Value} {xs : List InsD} (h : insOwn w B v xs) (hl : xs.length ≤ 1000) (hB : B ≤ w.heap.size) (x : InsD) (ty : TypeId) :
    ∃ ao' cap' w', (Builtin.append_ #[25, 25] ty #[v, .slice (some ⟨w.heap.size, 0, none⟩) 1 1]).run Tryd.prog (w.alloc (.cells #[.int .u8 x.op, .int .i64 x.arg, .int .u64 x.val] 44)) = .ok (.slice ao' (xs.length + 1) cap') w' ∧ insOwn w' B (.slice ao' (xs.length + 1) cap') (xs ++ [x]) ∧ Touch w w' v.ownBlock.toList := by
  obtain ⟨i0, hi, hz0, hz1, hz2⟩ := info_parts' Tryd.info_ins
  have T1 : Touch w (w.alloc (.cells #[.int .u8 x.op, .int .i64 x.arg, .int .u64 x.val] 44)) [] := (Touch.refl w []).alloc _
  obtain ⟨v', w', h1, h2, h3, h4⟩ := run_app (P := Tryd.prog) (cells := InsD.cells) 25 ty 44 i0 _ 3 24 Tryd.underlying25 hi hz0 hz1 hz2 rfl (by decide) (fun _ => rfl) ins_one (ownsRow_touch h T1 (by simp)) (l := [x]) (ins_new w x) (by simp only [List.length_cons, List.length_nil]; omega) (by decide) (by simp; omega)
  have h2' : insOwn w' B v' (xs ++ [x]) := by
    show w'.ownsRow _ _ _ _ _ _
    rw [List.length_append, List.flatMap_append]
    exact h2
  obtain ⟨ao', cap', rfl⟩ := owns_slice h2
  exact ⟨ao', cap', w', h1, h2', (T1.mono (by simp)).grown h3 (fun k hk => .inl (by simp [hk]))⟩

end Go.Proofs.YtaebcigfinjeiaaDoor
/-
  Word, BY ITS CONTRACT: the words of the operations as code.words lays them.
-/
namespace Go.Proofs.YtaebcigfinjeiaaDoor
set_option linter.unusedVariables false
set_option linter.unusedSimpArgs false
open Go.RowKit
attribute [local go_sem] Oper.semAt_some

/-- The words, as bytes. -/
def wordsB : List (List UInt8) := [[110, 111, 112], [112, 117, 115, 104], [108, 111, 99, 97, 108], [115, 101, 116], [103, 101, 116], [112, 117, 116], [103, 101, 116, 97, 116], [112, 117, 116, 97, 116], [97, 100, 100], [115, 117, 98], [109, 117, 108], [100, 105, 118], [110, 101, 103], [108, 101, 115, 115], [115, 97, 109, 101], [110, 111, 116], [100, 117, 112], [112, 111, 112], [115, 119, 97, 112], [106, 117, 109, 112], [122, 101, 114, 111], [97, 116, 111, 109, 105, 99], [101, 110, 100], [111, 114, 101, 108, 115, 101], [101, 108, 115, 101], [101, 110, 100, 111, 114], [114, 101, 116, 114, 121], [111, 117, 116], [104, 97, 108, 116]]
def wordB (k : Nat) : ByteArray := ⟨(wordsB.getD k []).toArray⟩
/-- code.words lies as it is laid. -/
structure Wds (w : World) : Prop where
  lt : 1 < w.heap.size
  at' : ∀ k, k < 29 → w.cell? ⟨1, k, none⟩ = some (.string (wordB k))
theorem Wds.touch {w w' : World} {S : List Nat} (h : Wds w) (t : Touch w w' S) (hS : 1 ∉ S) : Wds w' := ⟨Nat.lt_of_lt_of_le h.lt t.size, fun k hk => (t.cell (p := ⟨1, k, none⟩) h.lt hS).trans (h.at' k hk)⟩
/-- The word of an operation; none behind the last. -/
def wordP (o : Int) : ByteArray := if 28 < o then ⟨#[]⟩ else wordB o.toNat

end Go.Proofs.YtaebcigfinjeiaaDoor
/-
  A MAP FROM string TO ANYTHING, as a function: made, looked at, written. No walk.
-/
namespace Go.Proofs.YtaebcigfinjeiaaDoor
set_option linter.unusedVariables false
set_option linter.unusedSimpArgs false
open Go.RowKit Go.Maps

def rawS (v : Value) : Option (DataW Value × List MemPlace) := some (.held v, [])
theorem keyedS : Keyed Tryd.prog 9 := string_keyed Tryd.underlying9
theorem keyS {s : ByteArray} (h : s.size ≤ maxLen) : keyOf Tryd.prog 9 (.string s) = some (.string s.data.toList) := Go.WideMaps.keyOf_string_mk Tryd.underlying9 h

/-- Block b is a map of at most n entries that tells F, a function of a key's bytes. -/
def MapS (w : World) (b n : Nat) (F : List UInt8 → Option Value) : Prop :=
  ∃ D : DataW Value, w.ownsMap Tryd.prog 9 rawS b n D ∧ IsMap D ∧ ∀ x, has D (.string x) = (F x).isSome ∧ ∀ z, D.atKey (.string x) z = ((F x).map DataW.held).getD z
def updS (F : List UInt8 → Option Value) (x : List UInt8) (v : Value) : List UInt8 → Option Value := fun y => if y = x then some v else F y
theorem MapS.made (w : World) : MapS (w.alloc (.map #[] 0)) w.heap.size 0 (fun _ => none) :=
  ⟨_, World.ownsMap_made w _ _ _, isMap_empty, fun x => ⟨rfl, fun z => rfl⟩⟩
theorem MapS.lookOk {w : World} {b n : Nat} {F : List UInt8 → Option Value} (h : MapS w b n F) {t e : TypeId} (ht : Tryd.prog.underlying t = some (.map 9 e)) {z : Value} (hz : (zeroValue e).run Tryd.prog w = .ok z w) {s : ByteArray} (hs : s.size ≤ maxLen) :
    (Instr.lookup t (.map (some b)) (.string s) true).run Tryd.prog w = .ok (.tuple #[(F s.data.toList).getD z, .bool (F s.data.toList).isSome]) w := by
  obtain ⟨D, hD, hm, hF⟩ := h
  obtain ⟨v, ps, hr, hv⟩ := hD.look_ok keyedS ht hz (zd := .held z) (zp := []) rfl (keyS hs)
  rw [hr, (hF _).1]
  have h2 := (hF s.data.toList).2 (.held z)
  rw [h2] at hv
  simp only [rawS, Option.some.injEq, Prod.mk.injEq] at hv
  cases hq : F s.data.toList with
  | none => rw [hq] at hv; simp at hv; rw [hv.1]; rfl
  | some u => rw [hq] at hv; simp at hv; rw [hv.1]; rfl
theorem MapS.store {w : World} {b n : Nat} {F : List UInt8 → Option Value} (h : MapS w b n F) {t e : TypeId} (ht : Tryd.prog.underlying t = some (.map 9 e)) (hn : n < maxLen) {s : ByteArray} (hs : s.size ≤ maxLen) (v : Value) :
    ∃ w', (Instr.mapUpdate t (.map (some b)) (.string s) v).run Tryd.prog w = .ok () w' ∧ MapS w' b (n + 1) (updS F s.data.toList v) ∧ w.grownBy w' (some b) := by
  obtain ⟨D, hD, hm, hF⟩ := h
  obtain ⟨w', hr, hD', hg⟩ := hD.update keyedS ht hn (keyS hs) (val := v) (d := .held v) (ps := []) rfl
  refine ⟨w', hr, ⟨_, hD', hm.put _ _, fun y => ?_⟩, hg⟩
  by_cases e : y = s.data.toList
  · subst e
    have hk : WideAt.IsKeyLit (.string s.data.toList) := trivial
    exact ⟨by rw [has_put_same hm hk]; simp [updS], fun z => by rw [atKey_put_same hm hk]; simp [updS]⟩
  · have hl : (Lit.string y) ≠ Lit.string s.data.toList := fun q => e (by simpa using q)
    exact ⟨by rw [has_put_other hl, (hF y).1]; simp [updS, e], fun z => by rw [atKey_put_other hl, (hF y).2 z]; simp [updS, e]⟩

end Go.Proofs.YtaebcigfinjeiaaDoor
/-
  package code: byWord AS PLAIN DATA; its map made, its array indexed. No walk.
-/
namespace Go.Proofs.YtaebcigfinjeiaaDoor
set_option linter.unusedVariables false
set_option linter.unusedSimpArgs false
open Go.RowKit Go.Maps
attribute [local go_sem] Oper.semAt_some

/-- The operation of a word, of the first k. -/
def byK (k : Nat) (s : List UInt8) : Option Value := (List.range k).reverse.findSome? fun i => if s = (wordB i).data.toList then some (.int .u8 (i : Int)) else none
theorem byK_succ (k : Nat) : byK (k + 1) = updS (byK k) (wordB k).data.toList (.int .u8 (k : Int)) := by
  funext s
  unfold byK updS
  rw [List.range_succ, List.reverse_append, List.reverse_singleton, List.singleton_append, List.findSome?_cons]
  by_cases h : s = (wordB k).data.toList <;> simp [h]
def wordsV : Value := .agg ((List.range 29).map fun k => Value.string (wordB k)).toArray
theorem wordB_size (k : Nat) (hk : k < 29) : (wordB k).size ≤ maxLen := by
  have h : ∀ k < 29, (wordB k).size ≤ 6 := by decide +kernel
  have := h k hk
  unfold maxLen
  omega

theorem make_words (W : World) : (Instr.makeMap 134 (some (.int .i64 29))).run Tryd.prog W = .ok (.map (some W.heap.size)) (W.alloc (.map #[] 0)) := by
  simp [Instr.makeMap, asIntOf]
  rfl
def wordsA : Array Value := #[.string (wordB 0), .string (wordB 1), .string (wordB 2), .string (wordB 3), .string (wordB 4), .string (wordB 5), .string (wordB 6), .string (wordB 7), .string (wordB 8), .string (wordB 9), .string (wordB 10), .string (wordB 11), .string (wordB 12), .string (wordB 13), .string (wordB 14), .string (wordB 15), .string (wordB 16), .string (wordB 17), .string (wordB 18), .string (wordB 19), .string (wordB 20), .string (wordB 21), .string (wordB 22), .string (wordB 23), .string (wordB 24), .string (wordB 25), .string (wordB 26), .string (wordB 27), .string (wordB 28)]
theorem Tryd.info_str : (Tryd.prog.info? 9).map (fun i => (i.zero.isSome, i.size)) = some (true, 1) := by kernel_rfl
theorem str_index (cs : Array Value) (s : ByteArray) (k : Nat) (hk : k < 29) (hc : cs[k]? = some (.string s)) (W : World) : (Instr.index 138 (.agg cs) (.int .i64 (k : Int))).run Tryd.prog W = .ok (.string s) W := by
  obtain ⟨i0, hi, hs⟩ : ∃ i, Tryd.prog.info? 9 = some i ∧ i.size = 1 := by
    have h := Tryd.info_str
    cases e : Tryd.prog.info? 9 with
    | none => rw [e] at h; simp at h
    | some i => rw [e] at h; simp at h; exact ⟨i, rfl, h.2⟩
  have h1 : (k : Int) < 29 := by omega
  have h0 : (0 : Int) ≤ k := by omega
  obtain ⟨hk', e⟩ := Array.getElem?_eq_some_iff.1 hc
  simp [Instr.index, asIntOf, run_underlying Tryd.underlying138, sizeOf, typeInfo, hi, hs, h1, part, hc]
  intro h
  omega
theorem words_index (k : Nat) (hk : k < 29) (W : World) : (Instr.index 138 (.agg wordsA) (.int .i64 (k : Int))).run Tryd.prog W = .ok (.string (wordB k)) W := by
  refine str_index wordsA (wordB k) k hk ?_ W
  have h : ∀ j < 29, wordsA[j]? = some (.string (wordB j)) := by
    intro j hj
    have e : wordsA = ((List.range 29).map fun i => Value.string (wordB i)).toArray := rfl
    rw [e]
    simp [hj]
  exact h k hk

end Go.Proofs.YtaebcigfinjeiaaDoor
/-
  package code: byWord BY ITS CONTRACT.
-/
namespace Go.Proofs.YtaebcigfinjeiaaDoor
set_option linter.unusedVariables false
set_option linter.unusedSimpArgs false
open Go.RowKit Go.Maps
attribute [local go_sem] Oper.semAt_some

theorem Tryd.info_wordsT : (Tryd.prog.info? 138).map (·.size) = some 29 := by kernel_rfl
def wordsL : List Value := (List.range 29).map fun k => Value.string (wordB k)
theorem wordsL_at {w : World} (h : Wds w) (j : Nat) (v : Value) (hv : wordsL[j]? = some v) : w.cell? ((⟨1, 0, none⟩ : Addr).add j) = some v := by
  unfold wordsL at hv
  rw [List.getElem?_map, Option.map_eq_some_iff] at hv
  obtain ⟨i, hi, rfl⟩ := hv
  have hj : j < 29 := by
    have := (List.getElem?_eq_some_iff.1 hi).1
    simpa using this
  have : i = j := by
    rw [List.getElem?_range hj] at hi
    simpa using hi.symm
  subst this
  rw [Addr.add_lit, Nat.zero_add]
  exact h.at' i hj
theorem words_range {w : World} (h : Wds w) : w.rangeAt 1 0 wordsL := by
  intro j v hv
  have q := wordsL_at h j v hv
  rw [Addr.add_lit] at q
  simpa using q
theorem wordsL_index (k : Nat) (hk : k < 29) (W : World) : (Instr.index 138 (.agg wordsL.toArray) (.int .i64 (k : Int))).run Tryd.prog W = .ok (.string (wordB k)) W := by
  refine str_index _ (wordB k) k hk ?_ W
  unfold wordsL
  simp [hk]

set_option maxRecDepth 100000 in
set_option maxHeartbeats 2000000 in
theorem byWord_any {w : World} (h : Wds w) : Calls Tryd.prog 86 #[] w fun e w' => ∃ b, e = .returned (.map (some b)) ∧ MapS w' b 29 (byK 29) ∧ Touch w w' [] := by
  have hmm := make_words
  have T1 : Hid (Touch w (w.alloc (.map #[] 0)) []) := (Touch.refl w []).alloc _
  have M0 : Hid (MapS (w.alloc (.map #[] 0)) w.heap.size 0 (byK 0)) := MapS.made w
  have hw1 : Wds (w.alloc (.map #[] 0)) := h.touch T1.out (by simp)
  have HR : Hid ((w.alloc (.map #[] 0)).rangeAt 1 0 wordsL) := words_range hw1
  have hll : wordsL.length = 29 := by unfold wordsL; simp
  have HI : Hid ((Tryd.prog.info? 138).map (·.size) = some wordsL.length) := by show _ = _; rw [hll]; exact Tryd.info_wordsT
  have HIX : Hid (∀ (k : Nat), k < 29 → ∀ W : World, (Instr.index 138 (.agg wordsL.toArray) (.int .i64 (k : Int))).run Tryd.prog W = .ok (.string (wordB k)) W) := wordsL_index
  clear h hw1 hll
  generalize wordsL = C at *
  go_enter Tryd.func86, Tryd.ntmps86
  go_wp2_with (refine wpList_load_mid rfl 138 _ rfl 1 0 rfl C _ HR.out Tryd.underlying138 rfl HI.out ?_)
  generalize C.toArray = CA at *
  go_wp2_with fail
  go_loopw [6] (fun i wr => ∃ k : Nat, i = .int .i64 k ∧ k ≤ 29 ∧ MapS wr w.heap.size k (byK k) ∧ Touch w wr []) (fun i _ => 29 - (intOf i).toNat)
  case atStart => exact ⟨0, rfl, Nat.zero_le _, M0.out, T1.out⟩
  case round =>
    obtain ⟨k, rfl, hk, hM, hT⟩ := hrel
    clear T1 M0 HR HI
    by_cases hlt : k < 29
    · obtain ⟨w', hup, hM', hg⟩ := hM.store (t := 134) Tryd.underlying134 (by unfold maxLen; omega) (wordB_size k hlt) (.int .u8 (k : Int))
      rw [← byK_succ] at hM'
      have HM : Hid _ := hM'
      have HT : Hid (Touch w w' []) := hT.grown hg (fun q hq => .inr (by simp at hq; omega))
      have hix := HIX.out k hlt
      generalize wordB k = s at *
      have hk0 : (0 : Int) ≤ k := by omega
      have hk1 : (k : Int) < 29 := by omega
      have hkw : IntKind.i64.wrap ((k : Int) + 1) = (k : Int) + 1 := by rw [IntKind.wrap_i64]; omega
      have hku : IntKind.u8.wrap (k : Int) = (k : Int) := by rw [IntKind.wrap_u8]; omega
      clear hM hT hM' hg HIX
      go_wp2
      go_roundw
      case rel => exact ⟨k + 1, rfl, by omega, HM.out, HT.out⟩
      case measure => simp [intOf]; omega
    · obtain rfl : k = 29 := by omega
      have HM : Hid _ := hM
      have HT : Hid _ := hT
      clear hM hT
      go_wp2
      go_ret
      exact ⟨_, rfl, HM.out, HT.out⟩

end Go.Proofs.YtaebcigfinjeiaaDoor
/-
  package code: ReadWord BY ITS CONTRACT.
-/
namespace Go.Proofs.YtaebcigfinjeiaaDoor
set_option linter.unusedVariables false
set_option linter.unusedSimpArgs false
open Go.RowKit Go.Maps
attribute [local go_sem] Oper.semAt_some

theorem zero_op (w : World) : (zeroValue 42).run Tryd.prog w = .ok (.int .u8 0) w := by
  obtain ⟨i, hi, hz⟩ : ∃ i, Tryd.prog.info? 42 = some i ∧ i.zero = some (.int .u8 0) := by
    have h : (Tryd.prog.info? 42).map (fun i => i.zero) = some (some (.int .u8 0)) := by kernel_rfl
    cases e : Tryd.prog.info? 42 with
    | none => rw [e] at h; simp at h
    | some i => rw [e] at h; simp at h; exact ⟨i, rfl, h⟩
  simp [zeroValue, typeInfo, hi, hz]

set_option maxRecDepth 100000 in
set_option maxHeartbeats 1000000 in
theorem readWord_any {w : World} (h : Wds w) (s : ByteArray) (hs : s.size ≤ maxLen) : Calls Tryd.prog 70 #[.string s] w fun e w' => e = .returned (.tuple #[(byK 29 s.data.toList).getD (.int .u8 0), .bool (byK 29 s.data.toList).isSome]) ∧ Touch w w' [] := by
  have hb : HidC _ _ _ _ _ := ⟨byWord_any h⟩
  clear h
  obtain ⟨v, hv⟩ : ∃ v, v = (byK 29 s.data.toList).getD (.int .u8 0) := ⟨_, rfl⟩
  obtain ⟨ok, hok⟩ : ∃ ok, ok = (byK 29 s.data.toList).isSome := ⟨_, rfl⟩
  rw [← hv, ← hok]
  have HV : Hid _ := hv
  have HOK : Hid _ := hok
  clear hv hok
  go_enter Tryd.func70, Tryd.ntmps70
  go_wp2_with fail
  refine hb.out.mono ?_
  rintro e w1 ⟨b, rfl, hM, t1⟩
  have hlk := hM.lookOk (t := 134) Tryd.underlying134 (zero_op w1) hs
  have T1 : Hid _ := t1
  rw [← HV.out, ← HOK.out] at hlk
  clear hb hM t1
  go_wp2
  refine bodyPost_ret (v := .tuple #[v, .bool ok]) (by simp [results, Tryd.results70, go_sem]) rfl ?_
  exact ⟨rfl, T1.out⟩

end Go.Proofs.YtaebcigfinjeiaaDoor
/-
  RUNES OF A TEXT: what is skipped is no sign of one byte. No walk.
-/
namespace Go.Proofs.YtaebcigfinjeiaaDoor
set_option linter.unusedVariables false
set_option linter.unusedSimpArgs false
open Go.RowKit

/-- The bytes of a rune behind its first one are above 127, and lie in the text. -/
theorem decode_skip (s : ByteArray) (pos : Nat) (h : pos < s.size) : ∀ k, 0 < k → k < (Utf8.decode s pos).2 → pos + k < s.size ∧ 128 ≤ (s.get! (pos + k)).toNat := by
  intro k hk hlt
  by_cases ha : (s[pos]'h).toNat < 128
  · rw [decode_ascii s pos h ha] at hlt
    simp at hlt
    omega
  · simp only [Utf8.decode, get_at s pos h, ha, if_false] at hlt
    split at hlt
    · rename_i h1
      simp only [Bool.and_eq_true, beq_iff_eq, decide_eq_true_eq] at h1
      split at hlt
      · simp only at hlt
        obtain rfl : k = 1 := by omega
        exact ⟨h1.2.1, by omega⟩
      · simp only at hlt; omega
    · split at hlt
      · rename_i _ h1
        simp only [Bool.and_eq_true, beq_iff_eq, decide_eq_true_eq] at h1
        split at hlt
        · simp only at hlt
          rcases (show k = 1 ∨ k = 2 by omega) with rfl | rfl
          · exact ⟨h1.1.2.1, by omega⟩
          · exact ⟨h1.2.1, by omega⟩
        · simp only at hlt; omega
      · split at hlt
        · rename_i _ _ h1
          simp only [Bool.and_eq_true, beq_iff_eq, decide_eq_true_eq] at h1
          split at hlt
          · simp only at hlt
            rcases (show k = 1 ∨ k = 2 ∨ k = 3 by omega) with rfl | rfl | rfl
            · exact ⟨h1.1.1.2.1, by omega⟩
            · exact ⟨h1.1.2.1, by omega⟩
            · exact ⟨h1.2.1, by omega⟩
          · simp only at hlt; omega
        · simp only at hlt; omega
/-- How far a rune goes. -/
theorem decode_pos (s : ByteArray) (pos : Nat) (h : pos < s.size) : 1 ≤ (Utf8.decode s pos).2 ∧ pos + (Utf8.decode s pos).2 ≤ s.size := by
  have h1 : 1 ≤ (Utf8.decode s pos).2 := by
    by_cases ha : (s[pos]'h).toNat < 128
    · rw [decode_ascii s pos h ha]; exact Nat.le_refl _
    · exact (decode_high s pos h (by omega)).2
  refine ⟨h1, ?_⟩
  by_cases hd : (Utf8.decode s pos).2 = 1
  · rw [hd]; omega
  · have := (decode_skip s pos h ((Utf8.decode s pos).2 - 1) (by omega) (by omega)).1
    omega
/-- A sign of one byte stands just where its byte does. -/
theorem decode_sign (s : ByteArray) (pos : Nat) (h : pos < s.size) (c : Nat) (hc : c < 128) : (Utf8.decode s pos).1 = c ↔ (s[pos]'h).toNat = c := by
  by_cases ha : (s[pos]'h).toNat < 128
  · rw [decode_ascii s pos h ha]
  · have := (decode_high s pos h (by omega)).1
    constructor <;> intro q <;> omega

end Go.Proofs.YtaebcigfinjeiaaDoor
/-
  package code: number BY ITS CONTRACT.
-/
namespace Go.Proofs.YtaebcigfinjeiaaDoor
set_option linter.unusedVariables false
set_option linter.unusedSimpArgs false
open Go.RowKit
attribute [local go_sem] Oper.semAt_some

/-- What the first k signs say; none: they say nothing. -/
def numK (s : ByteArray) : Nat → Option Nat
  | 0 => some 0
  | k + 1 => match numK s k with
    | none => none
    | some n => if (s.get! k).toNat < 48 ∨ 57 < (s.get! k).toNat ∨ (0 < k ∧ n = 0) then none else if 63 < 10 * n + ((s.get! k).toNat - 48) then none else some (10 * n + ((s.get! k).toNat - 48))
theorem numK_le (s : ByteArray) : ∀ k n, numK s k = some n → n ≤ 63
  | 0, n, h => by simp [numK] at h; omega
  | k + 1, n, h => by
    unfold numK at h
    split at h
    · simp at h
    · split at h
      · simp at h
      · split at h
        · simp at h
        · simp at h; omega
theorem numK_none {s : ByteArray} {k : Nat} (h : numK s k = none) : ∀ m, k ≤ m → numK s m = none
  | 0, hm => by
    obtain rfl : k = 0 := by omega
    exact h
  | m + 1, hm => by
    by_cases e : k = m + 1
    · rw [← e]; exact h
    · unfold numK
      rw [numK_none h m (by omega)]
def numN (s : ByteArray) : Int := match numK s s.size with | some n => (n : Int) | none => 0
def numOk (s : ByteArray) : Bool := match numK s s.size with | some n => s.size != 0 | none => false
theorem num_bad {s : ByteArray} {k : Nat} (hk : k ≤ s.size) (h : numK s k = none) : numN s = 0 ∧ numOk s = false := by
  unfold numN numOk
  rw [numK_none h s.size hk]
  exact ⟨rfl, rfl⟩
end Go.Proofs.YtaebcigfinjeiaaDoor
/-
  package code: said BY ITS CONTRACT, OF AN OPERATION THAT HAS AN Arg.
-/
namespace Go.Proofs.YtaebcigfinjeiaaDoor
set_option linter.unusedVariables false
set_option linter.unusedSimpArgs false
open Go.RowKit
attribute [local go_sem] Oper.semAt_some

theorem arg_not_val {o : Int} (h : argP o = true) : valP o = false := by
  have : o = 2 ∨ o = 3 ∨ o = 4 ∨ o = 5 ∨ o = 6 ∨ o = 7 ∨ o = 19 ∨ o = 20 ∨ o = 21 ∨ o = 23 ∨ o = 24 := by simpa [argP] using h
  simp [valP]; omega

end Go.Proofs.YtaebcigfinjeiaaDoor
/-
  package code: cut BY ITS CONTRACT.
-/
namespace Go.Proofs.YtaebcigfinjeiaaDoor
set_option linter.unusedVariables false
set_option linter.unusedSimpArgs false
open Go.RowKit
attribute [local go_sem] Oper.semAt_some

/-- Where the first blank stands. -/
def blankAt (s : ByteArray) : Option Nat := (List.range s.size).find? fun i => (s.get! i).toNat == 32
theorem blank_some {s : ByteArray} {p : Nat} (hp : p < s.size) (h : (s.get! p).toNat = 32) (hl : ∀ j < p, (s.get! j).toNat ≠ 32) : blankAt s = some p := by
  unfold blankAt
  rw [List.find?_eq_some_iff_getElem]
  exact ⟨by simp [h], p, by simpa using hp, by simp, fun j hj => by simpa using hl j hj⟩
theorem blank_none {s : ByteArray} (hl : ∀ j < s.size, (s.get! j).toNat ≠ 32) : blankAt s = none := by
  unfold blankAt
  rw [List.find?_eq_none]
  intro j hj
  simpa using hl j (by simpa using hj)
def cutW (s : ByteArray) : ByteArray := match blankAt s with | some p => s.extract 0 p | none => s
def cutR (s : ByteArray) : ByteArray := match blankAt s with | some p => s.extract (p + 1) s.size | none => ⟨#[]⟩

end Go.Proofs.YtaebcigfinjeiaaDoor
/-
  package code: Parse BY ITS CONTRACT, OF A RIGHT INSTRUCTION THAT HAS AN Arg.
-/
namespace Go.Proofs.YtaebcigfinjeiaaDoor
set_option linter.unusedVariables false
set_option linter.unusedSimpArgs false
open Go.RowKit
attribute [local go_sem] Oper.semAt_some

end Go.Proofs.YtaebcigfinjeiaaDoor
/-
  package code: WHAT OPERATIONS POP AND PUSH, AS PLAIN DATA. No walk.
-/
namespace Go.Proofs.YtaebcigfinjeiaaDoor
set_option linter.unusedVariables false
set_option linter.unusedSimpArgs false
open Go.RowKit

def popV (o : Int) : Int := if o = 3 ∨ o = 5 ∨ o = 17 ∨ o = 20 ∨ o = 27 ∨ o = 6 ∨ o = 12 ∨ o = 15 ∨ o = 16 then 1 else if o = 7 ∨ o = 8 ∨ o = 9 ∨ o = 10 ∨ o = 11 ∨ o = 13 ∨ o = 14 ∨ o = 18 then 2 else 0
def pushV (o : Int) : Int := if o = 1 ∨ o = 2 ∨ o = 4 ∨ o = 6 ∨ o = 12 ∨ o = 15 ∨ o = 8 ∨ o = 9 ∨ o = 10 ∨ o = 11 ∨ o = 13 ∨ o = 14 then 1 else if o = 16 ∨ o = 18 then 2 else 0
theorem pop_le (o : Int) : 0 ≤ popV o ∧ popV o ≤ 2 := by unfold popV; split <;> (try split) <;> omega
theorem push_le (o : Int) : 0 ≤ pushV o ∧ pushV o ≤ 2 := by unfold pushV; split <;> (try split) <;> omega

end Go.Proofs.YtaebcigfinjeiaaDoor
/-
  Effect, the program's and the document's, BY ITS CONTRACT.
-/
namespace Go.Proofs.YtaebcigfinjeiaaDoor
set_option linter.unusedVariables false
set_option linter.unusedSimpArgs false
open Go.RowKit
attribute [local go_sem] Oper.semAt_some


set_option maxRecDepth 100000 in
set_option maxHeartbeats 2000000 in
theorem reff_any (o : Int) (w : World) : Calls Tryd.prog 65 #[.int .u8 o] w fun e w' => e = .returned (.tuple #[.int .i64 (popV o), .int .i64 (pushV o)]) ∧ w = w' := by
  rcases (show o = 1 ∨ o = 2 ∨ o = 3 ∨ o = 4 ∨ o = 5 ∨ o = 6 ∨ o = 7 ∨ o = 8 ∨ o = 9 ∨ o = 10 ∨ o = 11 ∨ o = 12 ∨ o = 13 ∨ o = 14 ∨ o = 15 ∨ o = 16 ∨ o = 17 ∨ o = 18 ∨ o = 20 ∨ o = 27 ∨ (o ≠ 1 ∧ o ≠ 2 ∧ o ≠ 3 ∧ o ≠ 4 ∧ o ≠ 5 ∧ o ≠ 6 ∧ o ≠ 7 ∧ o ≠ 8 ∧ o ≠ 9 ∧ o ≠ 10 ∧ o ≠ 11 ∧ o ≠ 12 ∧ o ≠ 13 ∧ o ≠ 14 ∧ o ≠ 15 ∧ o ≠ 16 ∧ o ≠ 17 ∧ o ≠ 18 ∧ o ≠ 20 ∧ o ≠ 27) by omega) with rfl | rfl | rfl | rfl | rfl | rfl | rfl | rfl | rfl | rfl | rfl | rfl | rfl | rfl | rfl | rfl | rfl | rfl | rfl | rfl | ⟨h1, h2, h3, h4, h5, h6, h7, h8, h9, h10, h11, h12, h13, h14, h15, h16, h17, h18, h20, h27⟩
  · show Calls _ _ _ _ fun e w' => e = .returned (.tuple #[.int .i64 0, .int .i64 1]) ∧ w = w'
    go_enter Tryd.func65, Tryd.ntmps65
    go_wp2
    refine bodyPost_ret (v := .tuple #[.int .i64 0, .int .i64 1]) (by simp [results, Tryd.results65, go_sem]) rfl ?_
    exact ⟨rfl, rfl⟩
  · show Calls _ _ _ _ fun e w' => e = .returned (.tuple #[.int .i64 0, .int .i64 1]) ∧ w = w'
    go_enter Tryd.func65, Tryd.ntmps65
    go_wp2
    refine bodyPost_ret (v := .tuple #[.int .i64 0, .int .i64 1]) (by simp [results, Tryd.results65, go_sem]) rfl ?_
    exact ⟨rfl, rfl⟩
  · show Calls _ _ _ _ fun e w' => e = .returned (.tuple #[.int .i64 1, .int .i64 0]) ∧ w = w'
    go_enter Tryd.func65, Tryd.ntmps65
    go_wp2
    refine bodyPost_ret (v := .tuple #[.int .i64 1, .int .i64 0]) (by simp [results, Tryd.results65, go_sem]) rfl ?_
    exact ⟨rfl, rfl⟩
  · show Calls _ _ _ _ fun e w' => e = .returned (.tuple #[.int .i64 0, .int .i64 1]) ∧ w = w'
    go_enter Tryd.func65, Tryd.ntmps65
    go_wp2
    refine bodyPost_ret (v := .tuple #[.int .i64 0, .int .i64 1]) (by simp [results, Tryd.results65, go_sem]) rfl ?_
    exact ⟨rfl, rfl⟩
  · show Calls _ _ _ _ fun e w' => e = .returned (.tuple #[.int .i64 1, .int .i64 0]) ∧ w = w'
    go_enter Tryd.func65, Tryd.ntmps65
    go_wp2
    refine bodyPost_ret (v := .tuple #[.int .i64 1, .int .i64 0]) (by simp [results, Tryd.results65, go_sem]) rfl ?_
    exact ⟨rfl, rfl⟩
  · show Calls _ _ _ _ fun e w' => e = .returned (.tuple #[.int .i64 1, .int .i64 1]) ∧ w = w'
    go_enter Tryd.func65, Tryd.ntmps65
    go_wp2
    refine bodyPost_ret (v := .tuple #[.int .i64 1, .int .i64 1]) (by simp [results, Tryd.results65, go_sem]) rfl ?_
    exact ⟨rfl, rfl⟩
  · show Calls _ _ _ _ fun e w' => e = .returned (.tuple #[.int .i64 2, .int .i64 0]) ∧ w = w'
    go_enter Tryd.func65, Tryd.ntmps65
    go_wp2
    refine bodyPost_ret (v := .tuple #[.int .i64 2, .int .i64 0]) (by simp [results, Tryd.results65, go_sem]) rfl ?_
    exact ⟨rfl, rfl⟩
  · show Calls _ _ _ _ fun e w' => e = .returned (.tuple #[.int .i64 2, .int .i64 1]) ∧ w = w'
    go_enter Tryd.func65, Tryd.ntmps65
    go_wp2
    refine bodyPost_ret (v := .tuple #[.int .i64 2, .int .i64 1]) (by simp [results, Tryd.results65, go_sem]) rfl ?_
    exact ⟨rfl, rfl⟩
  · show Calls _ _ _ _ fun e w' => e = .returned (.tuple #[.int .i64 2, .int .i64 1]) ∧ w = w'
    go_enter Tryd.func65, Tryd.ntmps65
    go_wp2
    refine bodyPost_ret (v := .tuple #[.int .i64 2, .int .i64 1]) (by simp [results, Tryd.results65, go_sem]) rfl ?_
    exact ⟨rfl, rfl⟩
  · show Calls _ _ _ _ fun e w' => e = .returned (.tuple #[.int .i64 2, .int .i64 1]) ∧ w = w'
    go_enter Tryd.func65, Tryd.ntmps65
    go_wp2
    refine bodyPost_ret (v := .tuple #[.int .i64 2, .int .i64 1]) (by simp [results, Tryd.results65, go_sem]) rfl ?_
    exact ⟨rfl, rfl⟩
  · show Calls _ _ _ _ fun e w' => e = .returned (.tuple #[.int .i64 2, .int .i64 1]) ∧ w = w'
    go_enter Tryd.func65, Tryd.ntmps65
    go_wp2
    refine bodyPost_ret (v := .tuple #[.int .i64 2, .int .i64 1]) (by simp [results, Tryd.results65, go_sem]) rfl ?_
    exact ⟨rfl, rfl⟩
  · show Calls _ _ _ _ fun e w' => e = .returned (.tuple #[.int .i64 1, .int .i64 1]) ∧ w = w'
    go_enter Tryd.func65, Tryd.ntmps65
    go_wp2
    refine bodyPost_ret (v := .tuple #[.int .i64 1, .int .i64 1]) (by simp [results, Tryd.results65, go_sem]) rfl ?_
    exact ⟨rfl, rfl⟩
  · show Calls _ _ _ _ fun e w' => e = .returned (.tuple #[.int .i64 2, .int .i64 1]) ∧ w = w'
    go_enter Tryd.func65, Tryd.ntmps65
    go_wp2
    refine bodyPost_ret (v := .tuple #[.int .i64 2, .int .i64 1]) (by simp [results, Tryd.results65, go_sem]) rfl ?_
    exact ⟨rfl, rfl⟩
  · show Calls _ _ _ _ fun e w' => e = .returned (.tuple #[.int .i64 2, .int .i64 1]) ∧ w = w'
    go_enter Tryd.func65, Tryd.ntmps65
    go_wp2
    refine bodyPost_ret (v := .tuple #[.int .i64 2, .int .i64 1]) (by simp [results, Tryd.results65, go_sem]) rfl ?_
    exact ⟨rfl, rfl⟩
  · show Calls _ _ _ _ fun e w' => e = .returned (.tuple #[.int .i64 1, .int .i64 1]) ∧ w = w'
    go_enter Tryd.func65, Tryd.ntmps65
    go_wp2
    refine bodyPost_ret (v := .tuple #[.int .i64 1, .int .i64 1]) (by simp [results, Tryd.results65, go_sem]) rfl ?_
    exact ⟨rfl, rfl⟩
  · show Calls _ _ _ _ fun e w' => e = .returned (.tuple #[.int .i64 1, .int .i64 2]) ∧ w = w'
    go_enter Tryd.func65, Tryd.ntmps65
    go_wp2
    refine bodyPost_ret (v := .tuple #[.int .i64 1, .int .i64 2]) (by simp [results, Tryd.results65, go_sem]) rfl ?_
    exact ⟨rfl, rfl⟩
  · show Calls _ _ _ _ fun e w' => e = .returned (.tuple #[.int .i64 1, .int .i64 0]) ∧ w = w'
    go_enter Tryd.func65, Tryd.ntmps65
    go_wp2
    refine bodyPost_ret (v := .tuple #[.int .i64 1, .int .i64 0]) (by simp [results, Tryd.results65, go_sem]) rfl ?_
    exact ⟨rfl, rfl⟩
  · show Calls _ _ _ _ fun e w' => e = .returned (.tuple #[.int .i64 2, .int .i64 2]) ∧ w = w'
    go_enter Tryd.func65, Tryd.ntmps65
    go_wp2
    refine bodyPost_ret (v := .tuple #[.int .i64 2, .int .i64 2]) (by simp [results, Tryd.results65, go_sem]) rfl ?_
    exact ⟨rfl, rfl⟩
  · show Calls _ _ _ _ fun e w' => e = .returned (.tuple #[.int .i64 1, .int .i64 0]) ∧ w = w'
    go_enter Tryd.func65, Tryd.ntmps65
    go_wp2
    refine bodyPost_ret (v := .tuple #[.int .i64 1, .int .i64 0]) (by simp [results, Tryd.results65, go_sem]) rfl ?_
    exact ⟨rfl, rfl⟩
  · show Calls _ _ _ _ fun e w' => e = .returned (.tuple #[.int .i64 1, .int .i64 0]) ∧ w = w'
    go_enter Tryd.func65, Tryd.ntmps65
    go_wp2
    refine bodyPost_ret (v := .tuple #[.int .i64 1, .int .i64 0]) (by simp [results, Tryd.results65, go_sem]) rfl ?_
    exact ⟨rfl, rfl⟩
  · have e1 : popV o = 0 := by simp [popV, *]
    have e2 : pushV o = 0 := by simp [pushV, *]
    rw [e1, e2]
    go_enter Tryd.func65, Tryd.ntmps65
    go_wp2
    refine bodyPost_ret (v := .tuple #[.int .i64 0, .int .i64 0]) (by simp [results, Tryd.results65, go_sem]) rfl ?_
    exact ⟨rfl, rfl⟩

end Go.Proofs.YtaebcigfinjeiaaDoor
/-
  THE DOCUMENT'S Word BY ITS CONTRACT.
-/
namespace Go.Proofs.YtaebcigfinjeiaaDoor
set_option linter.unusedVariables false
set_option linter.unusedSimpArgs false
open Go.RowKit
attribute [local go_sem] Oper.semAt_some

/-- The words as the document's text has them. -/
def rwordsA : Array Value := #[.string ⟨#[110, 111, 112]⟩, .string ⟨#[112, 117, 115, 104]⟩, .string ⟨#[108, 111, 99, 97, 108]⟩, .string ⟨#[115, 101, 116]⟩, .string ⟨#[103, 101, 116]⟩, .string ⟨#[112, 117, 116]⟩, .string ⟨#[103, 101, 116, 97, 116]⟩, .string ⟨#[112, 117, 116, 97, 116]⟩, .string ⟨#[97, 100, 100]⟩, .string ⟨#[115, 117, 98]⟩, .string ⟨#[109, 117, 108]⟩, .string ⟨#[100, 105, 118]⟩, .string ⟨#[110, 101, 103]⟩, .string ⟨#[108, 101, 115, 115]⟩, .string ⟨#[115, 97, 109, 101]⟩, .string ⟨#[110, 111, 116]⟩, .string ⟨#[100, 117, 112]⟩, .string ⟨#[112, 111, 112]⟩, .string ⟨#[115, 119, 97, 112]⟩, .string ⟨#[106, 117, 109, 112]⟩, .string ⟨#[122, 101, 114, 111]⟩, .string ⟨#[97, 116, 111, 109, 105, 99]⟩, .string ⟨#[101, 110, 100]⟩, .string ⟨#[111, 114, 101, 108, 115, 101]⟩, .string ⟨#[101, 108, 115, 101]⟩, .string ⟨#[101, 110, 100, 111, 114]⟩, .string ⟨#[114, 101, 116, 114, 121]⟩, .string ⟨#[111, 117, 116]⟩, .string ⟨#[104, 97, 108, 116]⟩]
theorem rwords_at (k : Nat) (hk : k < 29) : rwordsA[k]? = some (.string (wordB k)) := by
  rcases (show k = 0 ∨ k = 1 ∨ k = 2 ∨ k = 3 ∨ k = 4 ∨ k = 5 ∨ k = 6 ∨ k = 7 ∨ k = 8 ∨ k = 9 ∨ k = 10 ∨ k = 11 ∨ k = 12 ∨ k = 13 ∨ k = 14 ∨ k = 15 ∨ k = 16 ∨ k = 17 ∨ k = 18 ∨ k = 19 ∨ k = 20 ∨ k = 21 ∨ k = 22 ∨ k = 23 ∨ k = 24 ∨ k = 25 ∨ k = 26 ∨ k = 27 ∨ k = 28 by omega) with rfl | rfl | rfl | rfl | rfl | rfl | rfl | rfl | rfl | rfl | rfl | rfl | rfl | rfl | rfl | rfl | rfl | rfl | rfl | rfl | rfl | rfl | rfl | rfl | rfl | rfl | rfl | rfl | rfl
  all_goals rfl
end Go.Proofs.YtaebcigfinjeiaaDoor
/-
  THE DOCUMENT'S ReadWord BY ITS CONTRACT.
-/
namespace Go.Proofs.YtaebcigfinjeiaaDoor
set_option linter.unusedVariables false
set_option linter.unusedSimpArgs false
open Go.RowKit
attribute [local go_sem] Oper.semAt_some

theorem wordB_inj : ∀ i < 29, ∀ j < 29, (wordB i).data.toList = (wordB j).data.toList → i = j := by decide +kernel
theorem byK_hit {k : Nat} (hk : k < 29) : ∀ n, k < n → n ≤ 29 → byK n (wordB k).data.toList = some (.int .u8 (k : Int))
  | 0, h, _ => by omega
  | n + 1, h, hn => by
    rw [byK_succ]
    unfold updS
    by_cases e : k = n
    · subst e; simp
    · rw [if_neg (fun q => e (wordB_inj k hk n (by omega) q)), byK_hit hk n (by omega) (by omega)]
theorem byK_miss {x : List UInt8} : ∀ n, (∀ j < n, x ≠ (wordB j).data.toList) → byK n x = none
  | 0, _ => rfl
  | n + 1, h => by
    rw [byK_succ]
    unfold updS
    rw [if_neg (h n (by omega)), byK_miss n (fun j hj => h j (by omega))]
theorem ba_ext {a b : ByteArray} (h : a.data.toList = b.data.toList) : a = b := by
  obtain ⟨x⟩ := a
  obtain ⟨y⟩ := b
  have : x = y := by simpa using h
  rw [this]

end Go.Proofs.YtaebcigfinjeiaaDoor
/-
  live OF THE SIX STATEMENTS ON code.
-/
namespace Go.Proofs.YtaebcigfinjeiaaDoor
set_option linter.unusedVariables false
set_option linter.unusedSimpArgs false
open Go.RowKit
attribute [local go_sem] Oper.semAt_some

/-- jump 17 -/
def jump17 : ByteArray := ⟨#[106, 117, 109, 112, 32, 49, 55]⟩
theorem jump_blank : blankAt jump17 = some 4 := by decide +kernel
theorem jump_w : cutW jump17 = ⟨#[106, 117, 109, 112]⟩ := by unfold cutW; rw [jump_blank]; rfl
theorem jump_r : cutR jump17 = ⟨#[49, 55]⟩ := by unfold cutR; rw [jump_blank]; rfl
theorem jump_n : numN ⟨#[49, 55]⟩ = 17 := by decide +kernel
theorem jump_ok : numOk ⟨#[49, 55]⟩ = true := by decide +kernel
end Go.Proofs.YtaebcigfinjeiaaDoor
/-
  package code: UNLIKE RIGHT INSTRUCTIONS HAVE UNLIKE BYTES, AND NONE's BEGIN ANOTHER's. Plain data: no walk.
-/
namespace Go.Proofs.YtaebcigfinjeiaaDoor
set_option linter.unusedVariables false
set_option linter.unusedSimpArgs false
open Go.RowKit

theorem valB_at (v k i : Nat) (hi : i < k) : (valB v k)[i]? = some ((v / 2 ^ (8 * (7 - i)) % 256 : Nat) : Int) := by
  unfold valB; rw [List.getElem?_map, List.getElem?_range hi]; rfl
theorem valB_inj {n m : Nat} (hn : n < 18446744073709551616) (hm : m < 18446744073709551616) (h : valB n 8 = valB m 8) : n = m := by
  have key : ∀ k, k ≤ 8 → n / 2 ^ (8 * (8 - k)) = m / 2 ^ (8 * (8 - k)) := by
    intro k
    induction k with
    | zero => intro _; rw [Nat.div_eq_of_lt (by simpa using hn), Nat.div_eq_of_lt (by simpa using hm)]
    | succ k ih =>
      intro hk
      rw [val_step n k (by omega) hn, val_step m k (by omega) hm, ih (by omega)]
      have h1 := valB_at n 8 k (by omega)
      have h2 := valB_at m 8 k (by omega)
      rw [h, h2] at h1
      simp only [Option.some.injEq] at h1
      omega
  have := key 8 (Nat.le_refl _)
  simpa using this

/-- Bytes. -/
def ByteL (l : List Int) : Prop := ∀ x ∈ l, 0 ≤ x ∧ x < 256
theorem valB_byte (v k : Nat) : ByteL (valB v k) := by
  intro x hx
  unfold valB at hx
  obtain ⟨i, _, rfl⟩ := List.mem_map.1 hx
  omega
theorem encI_byte {i : InsD} (h : i.Wf) : ByteL (encI i) := by
  intro x hx
  have ho := h.op
  unfold encI at hx
  simp only [List.mem_cons, List.mem_append] at hx
  rcases hx with rfl | hx | hx
  · omega
  · split at hx
    · simp at hx; subst hx; omega
    · simp at hx
  · split at hx
    · exact valB_byte _ _ x hx
    · simp at hx
theorem encL_byte {l : List InsD} (h : ∀ i ∈ l, i.Wf) : ByteL (encL l) := by
  intro x hx
  obtain ⟨i, hi, hx⟩ := List.mem_flatMap.1 hx
  exact encI_byte (h i hi) x hx
theorem byte_inj {x y : Int} (hx : 0 ≤ x ∧ x < 256) (hy : 0 ≤ y ∧ y < 256) (h : UInt8.ofNat x.toNat = UInt8.ofNat y.toNat) : x = y := by
  have := congrArg UInt8.toNat h
  simp at this
  omega
theorem map_inj {a b : List Int} (ha : ByteL a) (hb : ByteL b) (h : a.map (fun n : Int => UInt8.ofNat n.toNat) = b.map (fun n : Int => UInt8.ofNat n.toNat)) : a = b := by
  induction a generalizing b with
  | nil => cases b with
    | nil => rfl
    | cons y b => simp at h
  | cons x a ih => cases b with
    | nil => simp at h
    | cons y b =>
      simp only [List.map_cons, List.cons.injEq] at h
      rw [byte_inj (ha x (by simp)) (hb y (by simp)) h.1, ih (fun z hz => ha z (by simp [hz])) (fun z hz => hb z (by simp [hz])) h.2]
/-- Texts of bytes are alike just where the bytes are. -/
theorem str_inj {a b : List Int} (ha : ByteL a) (hb : ByteL b) : strOfNums a = strOfNums b ↔ a = b := by
  constructor
  · intro h
    have := congrArg (fun s => s.data.toList) h
    simp only [strOfNums_data] at this
    exact map_inj ha hb this
  · intro h; rw [h]

theorem encI_head {i j : InsD} {r s : List Int} (h : encI i ++ r = encI j ++ s) : i.op = j.op := by
  unfold encI at h
  simp only [List.cons_append, List.cons.injEq] at h
  exact h.1
theorem encI_inj {i j : InsD} (hi : rightI i = true) (hj : rightI j = true) (wi : i.Wf) (wj : j.Wf) (h : encI i = encI j) : i = j := by
  have ho : i.op = j.op := encI_head (r := []) (s := []) (by simpa using h)
  obtain ⟨o, a, v⟩ := i
  obtain ⟨o', a', v'⟩ := j
  simp only at ho
  subst ho
  have hvi := wi.val
  have hvj := wj.val
  unfold Wf64 at hvi hvj
  simp only at hvi hvj
  unfold encI at h
  simp only [List.cons.injEq, true_and] at h
  cases hp : argP o with
  | true =>
    have h1 := right_arg hi hp
    have h2 := right_arg hj hp
    have hv := arg_val hp
    rw [hp, hv] at h
    simp at h h1 h2
    obtain ⟨_, _, rfl⟩ := h1
    obtain ⟨_, _, rfl⟩ := h2
    have : a = a' := by omega
    rw [this]
  | false =>
    have h1 := right_none hi hp
    have h2 := right_none hj hp
    simp only at h1 h2
    subst h1 h2
    cases hv : valP o with
    | true =>
      rw [hp, hv] at h
      simp only [Bool.false_eq_true, if_false, if_true, List.nil_append] at h
      have := valB_inj (by omega) (by omega) h
      have : v = v' := by omega
      rw [this]
    | false =>
      have h1 := right_noval hi hv
      have h2 := right_noval hj hv
      simp only at h1 h2
      subst h1 h2
      rfl
/-- One's bytes begin another's: then they are the same. -/
theorem encI_pre {i j : InsD} {s : List Int} (hi : rightI i = true) (hj : rightI j = true) (wi : i.Wf) (wj : j.Wf) (h : encI j = encI i ++ s) : i = j := by
  have ho : i.op = j.op := encI_head (r := s) (s := []) (by simpa using h.symm)
  have hl := congrArg List.length h
  rw [List.length_append, encI_width, encI_width, ho] at hl
  have : s = [] := List.eq_nil_of_length_eq_zero (by omega)
  subst this
  exact encI_inj hi hj wi wj (by simpa using h.symm)

end Go.Proofs.YtaebcigfinjeiaaDoor
/-
  package code: Encode OF ONE INSTRUCTION BY ITS CONTRACT.
-/
namespace Go.Proofs.YtaebcigfinjeiaaDoor
set_option linter.unusedVariables false
set_option linter.unusedSimpArgs false
open Go.RowKit

/-- Bytes that can be read, with their room. -/
structure BytAt (w : World) (ao : Option Addr) (n cap : Nat) (l : List Int) : Prop where
  len : n = l.length
  row : BRow w (.slice ao l.length cap) l
  le : n ≤ cap
  max : cap ≤ 9223372036854775807
theorem BytAt.keep {w w' : World} {ao : Option Addr} {n cap : Nat} {l : List Int} (h : BytAt w ao n cap l) (t : Touch w w' []) : BytAt w' ao n cap l := ⟨h.len, SRow.keep h.row t (by simp), h.le, h.max⟩
theorem BytAt.str {w : World} {ao : Option Addr} {n cap : Nat} {l : List Int} (h : BytAt w ao n cap l) : (convert 150 9 (.slice ao n cap)).run Tryd.prog w = .ok (.string (strOfNums l)) w := by
  rw [h.len]; exact str_of h.row
theorem BytAt.take {w : World} {ao : Option Addr} {n cap : Nat} {l : List Int} (h : BytAt w ao n cap l) (m : Nat) (hm : m ≤ n) : BytAt w ao m cap (l.take m) := by
  have hl : (l.take m).length = m := by rw [List.length_take, ← h.len]; omega
  refine ⟨hl.symm, ?_, by have := h.le; omega, h.max⟩
  have h2 : BRow w (.slice ao (l.take m ++ l.drop m).length cap) (l.take m ++ l.drop m) := by rw [List.take_append_drop]; exact h.row
  exact brow_take h2 cap
theorem byt_at {w : World} {B : Nat} {v : Value} {l : List Int} (h : bytOwn w B v l) : ∃ ao cap, v = .slice ao l.length cap ∧ BytAt w ao l.length cap l := by
  have hr : BRow w v l := srow_of (cells := ucell) (n := 1) (fun _ => rfl) (by rw [flat_one]; exact h)
  rcases h.2 with ⟨e5, h5⟩ | ⟨g5, cap5, cur5, e5, hb5, _, hn5, hm5, _⟩
  · subst e5
    exact ⟨none, 0, by rw [h5], ⟨rfl, by rw [h5]; exact hr, by omega, by omega⟩⟩
  · subst e5
    exact ⟨_, cap5, rfl, ⟨rfl, hr, hn5, by unfold maxLen at hm5; omega⟩⟩

/-- What Encode of one comes to: r: is it right? its n bytes l. -/
def OnePost (W : World) (r : Bool) (n : Nat) (l : List Int) (e : Ending) (w' : World) : Prop :=
  (r = true ∧ ∃ ao cap, e = .returned (.tuple #[.slice ao n cap, .int .i64 0]) ∧ BytAt w' ao n cap l ∧ Touch W w' []) ∨ (r = false ∧ e = .returned (.tuple #[.slice none 0 0, .int .i64 3]) ∧ Touch W w' [])
end Go.Proofs.YtaebcigfinjeiaaDoor
/-
  A slice that came in: its length, and how far it may go.
-/
namespace Go.Proofs.YtaebcigfinjeiaaDoor
set_option linter.unusedVariables false
set_option linter.unusedSimpArgs false
open Go.ChangeShapes Go.WideShapes Go.ChangeAt Go.RowKit Go.Joins Go.Deep

theorem caps_of_trod {H : Type} {enc : TypeId × Value → H} {W : World} {T E : TypeId} (hu : Tryd.prog.underlying T = some (.slice E))
    {ao : Option Addr} {len cap : Nat} {d : DataW H} {p : List MemPlace} (h : DataW.Trod enc Tryd.prog W 0 (fun _ => true) true T (.slice ao len cap) d p) : len ≤ cap ∧ cap ≤ maxLen := by
  obtain ⟨fuel, hf⟩ := h
  rcases open_slice hu hf with ⟨hcs, _⟩ | ⟨a, len', cap', m, n', D, Pl, hcs, _, hl, hm, hmm, _, hx⟩
  · simp [Value.cells] at hcs
    obtain ⟨rfl, rfl, rfl⟩ := hcs
    exact ⟨Nat.le_refl _, by unfold maxLen; omega⟩
  · simp [Value.cells] at hcs
    obtain ⟨rfl, rfl, rfl⟩ := hcs
    exact ⟨hl, hm⟩

/-- The first ones of a row. -/
theorem SRow.first {α : Type} {n : Nat} {cells : α → List Value} {w : World} {ao : Option Addr} {cap : Nat} {l : List α} (h : SRow n cells w (.slice ao l.length cap) l) (m : Nat) (hm : m ≤ l.length) : SRow n cells w (.slice ao (l.take m).length cap) (l.take m) := by
  obtain ⟨ao', cap', e, h1⟩ := h
  simp only [Value.slice.injEq, true_and] at e
  obtain ⟨rfl, rfl⟩ := e
  refine ⟨ao, cap, rfl, fun hne => ?_⟩
  obtain ⟨g, off, rfl, hlt, hc⟩ := h1 (by intro e; rw [e] at hne; simp at hne)
  exact ⟨g, off, rfl, hlt, fun k hk j hj => by rw [List.getElem_take]; exact hc k (by simp at hk; omega) j hj⟩

end Go.Proofs.YtaebcigfinjeiaaDoor
/-
  few OF THE STATEMENTS ON code, BY ITS CONTRACT; INSTRUCTIONS, ONE ROW BEHIND THE OTHER.
-/
namespace Go.Proofs.YtaebcigfinjeiaaDoor
set_option linter.unusedVariables false
set_option linter.unusedSimpArgs false
open Go.RowKit

/-- Instructions that came in: they can be read. -/
structure InsIn (w : World) (ao : Option Addr) (n cap : Nat) (l : List InsD) : Prop where
  len : n = l.length
  row : InsRow w (.slice ao l.length cap) l
  le : n ≤ cap
  max : cap ≤ 9223372036854775807
  wf : ∀ i ∈ l, i.Wf
theorem InsIn.keep {w w' : World} {ao : Option Addr} {n cap : Nat} {l : List InsD} (h : InsIn w ao n cap l) (t : Touch w w' []) : InsIn w' ao n cap l := ⟨h.len, SRow.keep h.row t (by simp), h.le, h.max, h.wf⟩
theorem InsIn.first {w : World} {ao : Option Addr} {n cap : Nat} {l : List InsD} (h : InsIn w ao n cap l) (m : Nat) (hm : m ≤ n) : InsIn w ao m cap (l.take m) := by
  have hl : (l.take m).length = m := by rw [List.length_take, ← h.len]; omega
  refine ⟨hl.symm, SRow.first h.row m (by rw [← h.len]; exact hm), by have := h.le; omega, h.max, fun i hi => h.wf i (List.mem_of_mem_take hi)⟩

/-- append of instructions that can be read to a row of one's own. -/
theorem ins_app {w : World} {B : Nat} {v : Value} {xs : List InsD} (h : insOwn w B v xs) (hl : xs.length ≤ 1000) (hB : B ≤ w.heap.size) {ao : Option Addr} {n cap : Nat} {l : List InsD} (hr : InsIn w ao n cap l) (hn : n ≤ 1000) (ty : TypeId) :
    ∃ ao' cap' w', (Builtin.append_ #[25, 25] ty #[v, .slice ao n cap]).run Tryd.prog w = .ok (.slice ao' (xs.length + n) cap') w' ∧ insOwn w' B (.slice ao' (xs.length + n) cap') (xs ++ l) ∧ Touch w w' v.ownBlock.toList := by
  obtain ⟨i0, hi, hz0, hz1, hz2⟩ := info_parts' Tryd.info_ins
  have hlen := hr.len
  subst hlen
  obtain ⟨v', w', h1, h2, h3, h4⟩ := run_app (P := Tryd.prog) (cells := InsD.cells) 25 ty 44 i0 _ 3 24 Tryd.underlying25 hi hz0 hz1 hz2 rfl (by decide) (fun _ => rfl) ins_one h (l := l) hr.row (by omega) (by decide) hB
  have h2' : insOwn w' B v' (xs ++ l) := by
    show w'.ownsRow _ _ _ _ _ _
    rw [List.length_append, List.flatMap_append]
    exact h2
  obtain ⟨ao', cap', rfl⟩ := owns_slice h2
  exact ⟨ao', cap', w', h1, h2', (Touch.refl w _).grown h3 (fun k hk => .inl (by simp [hk]))⟩
theorem ins_empty (w : World) : insOwn (w.alloc (.cells #[] 44)) w.heap.size (.slice (some ⟨w.heap.size, 0, none⟩) 0 0) [] := empty_row w 44 3

theorem insIn_of {w : World} {B : Nat} {v : Value} {l : List InsD} (h : insOwn w B v l) (hw : ∀ i ∈ l, i.Wf) : ∃ ao cap, v = .slice ao l.length cap ∧ InsIn w ao l.length cap l := by
  have hr : InsRow w v l := srow_of (cells := InsD.cells) (n := 3) (fun _ => rfl) h
  rcases h.2 with ⟨e5, h5⟩ | ⟨g5, cap5, cur5, e5, hb5, _, hn5, hm5, _⟩
  · subst e5
    exact ⟨none, 0, by rw [h5], ⟨rfl, by rw [h5]; exact hr, by omega, by omega, hw⟩⟩
  · subst e5
    exact ⟨_, cap5, rfl, ⟨rfl, hr, hn5, by unfold maxLen at hm5; omega, hw⟩⟩

/-- What Encode comes to, in the same words: r: are they right? their bytes. -/
def EncP (w : World) (r : Bool) (n : Nat) (l : List Int) (e : Ending) (w' : World) : Prop :=
  (r = true ∧ ∃ ao cap, e = .returned (.tuple #[.slice ao n cap, .int .i64 0]) ∧ BytAt w' ao n cap l ∧ Touch w w' []) ∨ (r = false ∧ e = .returned (.tuple #[.slice none 0 0, .int .i64 3]) ∧ Touch w w' [])
theorem encL_append (l m : List InsD) : encL (l ++ m) = encL l ++ encL m := by unfold encL; rw [List.flatMap_append]
theorem strOf_append (a b : List Int) : strOfNums (a ++ b) = strOfNums a ++ strOfNums b := by
  apply ba_ext
  rw [strOfNums_data]
  simp [strOfNums]

end Go.Proofs.YtaebcigfinjeiaaDoor
/-
  THE DOCUMENT's Same OF INSTRUCTIONS THAT ARE THE SAME; AN ARGUMENT OF BYTES.
-/
namespace Go.Proofs.YtaebcigfinjeiaaDoor
set_option linter.unusedVariables false
set_option linter.unusedSimpArgs false
open Go.RowKit
attribute [local go_sem] Oper.semAt_some

set_option maxRecDepth 100000 in
set_option maxHeartbeats 1000000 in
theorem rsame_eq {w : World} {ao bo : Option Addr} {n ca cb : Nat} {l : List InsD} (ha : InsIn w ao n ca l) (hb : InsIn w bo n cb l) (hn : n ≤ 1000) :
    Calls Tryd.prog 12 #[.slice ao n ca, .slice bo n cb] w fun e w' => e = .returned (.bool true) ∧ Touch w w' [] := by
  have HA : Hid (∀ W, Touch w W [] → ∀ k (hk : k < l.length), ∃ g off, ao = some ⟨g, off, none⟩ ∧ W.cell? ⟨g, off + k * 3, none⟩ = some (.int .u8 l[k].op) ∧ W.cell? ⟨g, off + k * 3 + 1, none⟩ = some (.int .i64 l[k].arg) ∧ W.cell? ⟨g, off + k * 3 + 2, none⟩ = some (.int .u64 l[k].val)) := fun W t k hk => ins_at (show InsRow w (.slice ao l.length ca) l from ha.row) t (by simp) k hk
  have HB : Hid (∀ W, Touch w W [] → ∀ k (hk : k < l.length), ∃ g off, bo = some ⟨g, off, none⟩ ∧ W.cell? ⟨g, off + k * 3, none⟩ = some (.int .u8 l[k].op) ∧ W.cell? ⟨g, off + k * 3 + 1, none⟩ = some (.int .i64 l[k].arg) ∧ W.cell? ⟨g, off + k * 3 + 2, none⟩ = some (.int .u64 l[k].val)) := fun W t k hk => ins_at (show InsRow w (.slice bo l.length cb) l from hb.row) t (by simp) k hk
  have HN : Hid (n = l.length) := ha.len
  clear ha hb
  go_enter Tryd.func12, Tryd.ntmps12
  go_wp2_with fail
  go_loopw [5] (fun vi wr => ∃ k : Nat, vi = .int .i64 k ∧ k ≤ n ∧ Touch w wr []) (fun vi _ => n - (intOf vi).toNat)
  case atStart => exact ⟨0, rfl, Nat.zero_le _, Touch.refl _ _⟩
  case round =>
    obtain ⟨k, rfl, hk, hT⟩ := hrel
    have HT : Hid _ := hT
    by_cases hlt : k < n
    · have h1 : (k : Int) < n := by omega
      have h0 : (0 : Int) ≤ k := by omega
      have hkl : k < l.length := by rw [← HN.out]; exact hlt
      obtain ⟨g, off, rfl, a0, a1, a2⟩ := HA.out wr hT k hkl
      obtain ⟨g', off', rfl, b0, b1, b2⟩ := HB.out wr hT k hkl
      generalize l[k] = i at *
      obtain ⟨io, ia, iv⟩ := i
      simp only at a0 a1 a2 b0 b1 b2
      clear hT
      go_wp2_with fail
      go_quiet (fail)
      go_wp2
      go_roundw
      case rel => exact ⟨k + 1, by go_num, by omega, HT.out.drewN _⟩
      case measure => simp [intOf]; omega
    · have h1 : ¬ (k : Int) < n := by omega
      clear hT
      go_wp2
      go_ret
      exact ⟨rfl, HT.out⟩

end Go.Proofs.YtaebcigfinjeiaaDoor
/-
  AN INSTRUCTION IN A BLOCK OF ITS OWN. No walk.
-/
namespace Go.Proofs.YtaebcigfinjeiaaDoor
set_option linter.unusedVariables false
set_option linter.unusedSimpArgs false
open Go.RowKit

/-- An instruction in a block of its own. -/
structure BoxI (W : World) (p : Nat) (o a v : Int) : Prop where
  st : W.heap[p]? = some (.cells #[.int .u8 o, .int .i64 a, .int .u64 v] 44 (0, 0))
theorem BoxI.touch {W W' : World} {p : Nat} {o a v : Int} {S : List Nat} (h : BoxI W p o a v) (t : Touch W W' S) (hS : p ∉ S) : BoxI W' p o a v := ⟨(t.block p (lt_of_heap h.st) hS).trans h.st⟩
theorem BoxI.cells {W : World} {p : Nat} {o a v : Int} (h : BoxI W p o a v) : W.cell? ⟨p, 0, none⟩ = some (.int .u8 o) ∧ W.cell? ⟨p, 1, none⟩ = some (.int .i64 a) ∧ W.cell? ⟨p, 2, none⟩ = some (.int .u64 v) :=
  ⟨by unfold World.cell?; rw [h.st]; rfl, by unfold World.cell?; rw [h.st]; rfl, by unfold World.cell?; rw [h.st]; rfl⟩
theorem BoxI.fr {W : World} {p : Nat} {o a v : Int} (h : BoxI W p o a v) (j : Nat) : W.frozen? ⟨p, j, none⟩ = false := by unfold World.frozen?; rw [h.st]; simp
theorem BoxI.set1 {W : World} {p : Nat} {o a v : Int} (h : BoxI W p o a v) (x : Int) : BoxI (W.setCell ⟨p, 1, none⟩ (.int .i64 x)) p o x v := ⟨heap_setCell_same _ _ _ _ _ _ h.st⟩
theorem BoxI.set2 {W : World} {p : Nat} {o a v : Int} (h : BoxI W p o a v) (x : Int) : BoxI (W.setCell ⟨p, 2, none⟩ (.int .u64 x)) p o a x := ⟨heap_setCell_same _ _ _ _ _ _ h.st⟩
theorem BoxI.set0 {W : World} {p : Nat} {o a v : Int} (h : BoxI W p o a v) (x : Int) : BoxI (W.setCell ⟨p, 0, none⟩ (.int .u8 x)) p x a v := ⟨heap_setCell_same _ _ _ _ _ _ h.st⟩
theorem BoxI.lt {W : World} {p : Nat} {o a v : Int} (h : BoxI W p o a v) : p < W.heap.size := lt_of_heap h.st
theorem BoxI.new (w : World) (o a v : Int) : BoxI (w.alloc (.cells #[.int .u8 o, .int .i64 a, .int .u64 v] 44)) w.heap.size o a v := ⟨heap_alloc_new w _⟩

end Go.Proofs.YtaebcigfinjeiaaDoor
/-
  package locks AND THE DOCUMENT's: THE SMALL CALLS, BY THEIR CONTRACTS.
-/
namespace Go.Proofs.YtaebcigfinjeiaaDoor
set_option linter.unusedVariables false
set_option linter.unusedSimpArgs false
open Go.RowKit
attribute [local go_sem] Oper.semAt_some

/-- A number as a value. -/
def numV (n : Int) : Int := ((ofB (floatOfInt .f64 n) : Nat) : Int)
def insP (n : Int) : InsD := ⟨1, 0, numV n⟩
def insO (o a : Int) : InsD := ⟨o, a, 0⟩
theorem insO_v (o a : Int) : (insO o a).v = .agg #[.int .u8 o, .int .i64 a, .int .u64 0] := rfl
theorem insP_v (n : Int) : (insP n).v = .agg #[.int .u8 1, .int .i64 0, .int .u64 (numV n)] := rfl

theorem rO_any (o t : Int) (w : World) : Calls Tryd.prog 32 #[.int .u8 o, .int .i64 t] w fun e w' => e = .returned (.agg #[.int .u8 o, .int .i64 t, .int .u64 0]) ∧ Touch w w' [] := by
  go_enter Tryd.func32, Tryd.ntmps32
  go_wp2
  (try simp only [Exit.inBlock, Exit.then])
  refine bodyPost_ret (v := .agg #[.int .u8 o, .int .i64 t, .int .u64 0]) ?_ rfl ⟨rfl, ?_⟩
  · rw [res_cell rfl]
    go_simp
  · exact (Touch.refl _ _).alloc _

set_option maxRecDepth 100000 in
theorem rP_any (n : Int) (h0 : -9007199254740992 ≤ n) (h1 : n ≤ 9007199254740992) (w : World) : Calls Tryd.prog 33 #[.int .i64 n] w fun e w' => e = .returned (.agg #[.int .u8 1, .int .i64 0, .int .u64 (numV n)]) ∧ Touch w w' [] := by
  have HC : Hid (∀ W, HidC Tryd.prog 20 #[.int .i64 n] W fun e w' => e = .returned (.tuple #[.int .u64 (numV n), .bool true]) ∧ Touch W w' []) := fun W => ⟨(rint_ok n h0 h1 _).mono (by rintro e w' ⟨rfl, rfl⟩; exact ⟨rfl, Touch.refl _ _⟩)⟩
  have HB : Hid (BoxI (w.alloc (.cells #[.int .u8 0, .int .i64 0, .int .u64 0] 44)) w.heap.size 0 0 0) := BoxI.new w 0 0 0
  have HT : Hid (Touch w (w.alloc (.cells #[.int .u8 0, .int .i64 0, .int .u64 0] 44)) []) := (Touch.refl w []).alloc _
  generalize numV n = x at *
  clear h0 h1
  go_enter Tryd.func33, Tryd.ntmps33
  go_wp2_with fail
  generalize (w.alloc (.cells #[.int .u8 0, .int .i64 0, .int .u64 0] 44)) = Q at *
  refine (HC.out _).out.mono ?_
  rintro e w1 ⟨rfl, t1⟩
  have hb1 := HB.out.touch t1 (by simp)
  obtain ⟨z0, z1, z2⟩ := hb1.cells
  have f0 := hb1.fr 0
  have f1 := hb1.fr 1
  have f2 := hb1.fr 2
  have HB1 : Hid _ := hb1
  have HT1 : Hid _ := HT.out.trans t1 (by simp)
  clear t1 hb1
  go_wp2
  have hb2 := ((HB1.out.set0 1).set1 0).set2 x
  obtain ⟨k0, k1, k2⟩ := hb2.cells
  refine bodyPost_ret (v := .agg #[.int .u8 1, .int .i64 0, .int .u64 x]) ?_ rfl ⟨rfl, ?_⟩
  · rw [res_cell rfl]
    simp [go_sem, k0, k1, k2]
  · exact HT1.out.trans ((((Touch.refl w1 [w.heap.size]).setCell (.inl (by simp)) _).setCell (.inl (by simp)) _).setCell (.inl (by simp)) _) (fun k hk => .inr (by simp at hk; omega))

def goesP (o : Int) : Bool := decide (o = 21) || (decide (o = 19) || decide (o = 20))

theorem rplace_any (o : Int) (h23 : o ≠ 23) (h24 : o ≠ 24) (w : World) : Calls Tryd.prog 55 #[.int .u8 o] w fun e w' => e = .returned (.bool (goesP o)) ∧ w = w' := by
  unfold goesP
  by_cases h1 : o = 21 <;> by_cases h2 : o = 19 <;> by_cases h3 : o = 20
  all_goals
    go_enter Tryd.func55, Tryd.ntmps55
    go_wp2
    go_ret
    refine ⟨?_, rfl⟩
    congr 2
    simp_all

def mayP (a t w : Int) : Bool := decide (0 ≤ a) && decide (a ≤ 64) && (decide (0 ≤ t) && decide (t < 12)) && (decide (0 ≤ w) && decide (w < 4))

end Go.Proofs.YtaebcigfinjeiaaDoor

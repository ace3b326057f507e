/-
  package code: appended BY ITS CONTRACT.
-/
import Derived.Test.YtjbbjbbkembknaaAllA
import Derived.Laws.BitsAllLaws
import Derived.Lib.SliceRun
import Derived.Laws.BytesArg
import Derived.Maps.OwnSet
import Derived.Maps.OwnIn
import Derived.Maps.Ext
import Derived.StringKeys
import Derived.Deep.MidRow
import Derived.Laws.RangeAny
import Derived.Lib.OthersKept
import Derived.Test.YtjbbjbbkembknaaAllB
import Derived.Deep.QuietTactic
import Derived.BigQuiet
import Derived.Test.YtjbbjbbkembknaaRbPl
namespace Go.Proofs.Ytjbbjbbkembknaa
set_option linter.unusedVariables false
set_option linter.unusedSimpArgs false
open Go.RowKit
attribute [local go_sem] Oper.semAt_some

theorem info_parts' {P : Program} {t : TypeId} {z : Value} {s b : Nat} (h : (P.info? t).map (fun i => (i.zero, i.size, i.bytes)) = some (some z, s, b)) : ∃ i, P.info? t = some i ∧ i.zero = some z ∧ i.size = s ∧ i.bytes = b := by
  cases hi : P.info? t with
  | none => rw [hi] at h; cases h
  | some i => rw [hi] at h; simp at h; exact ⟨i, rfl, h.1, h.2.1, h.2.2⟩
theorem Try.info_u8 : (Try.prog.info? 5).map (fun i => (i.zero, i.size, i.bytes)) = some (some (.int .u8 0), 1, 1) := by kernel_rfl

/-! ### Rows of bytes -/
abbrev bytOwn (w : World) (B : Nat) (v : Value) (l : List Int) : Prop := w.ownsRow B 5 1 v l.length (l.map (Value.int .u8))
abbrev ucell : Int → List Value := fun x => [Value.int .u8 x]
abbrev BRow := SRow 1 ucell
theorem byt_lt {w : World} {B : Nat} {v : Value} {l : List Int} (h : bytOwn w B v l) : ∀ g, v.ownBlock = some g → B ≤ g ∧ g < w.heap.size := by
  intro g hg
  rcases h.2 with ⟨e, h0⟩ | ⟨g', cap, cur, e, hb, hg', _⟩
  · rw [e] at hg; simp [Value.ownBlock] at hg
  · rw [e] at hg
    simp [Value.ownBlock] at hg
    subst hg
    exact ⟨hb, lt_of_heap hg'⟩
theorem byte_new (w : World) (x : Int) : BRow (w.alloc (.cells #[.int .u8 x] 5)) (.slice (some ⟨w.heap.size, 0, none⟩) 1 1) [x] := by
  refine ⟨_, 1, rfl, fun _ => ⟨w.heap.size, 0, rfl, by simp, fun k hk j hj => ?_⟩⟩
  have hk0 : k = 0 := by simpa using hk
  have hj0 : j = 0 := by omega
  subst hk0 hj0
  have h0 := heap_alloc_new w (.cells #[.int .u8 x] 5)
  show (match (w.alloc (.cells #[.int .u8 x] 5)).heap[w.heap.size]? with
    | some (Obj.cells c elem frozen) => c[0]?
    | x => none) = _
  rw [h0]; rfl
/-! ### The bytes of an instruction -/
/-- The first k of a Val's eight bytes, the highest first. -/
def valB (v : Nat) (k : Nat) : List Int := (List.range k).map (fun i => ((v / 2 ^ (8 * (7 - i)) % 256 : Nat) : Int))
theorem valB_snoc (v k : Nat) : valB v (k + 1) = valB v k ++ [((v / 2 ^ (8 * (7 - k)) % 256 : Nat) : Int)] := by
  unfold valB; rw [List.range_succ, List.map_append]; rfl
theorem valB_len (v k : Nat) : (valB v k).length = k := by simp [valB]
def encI (i : InsD) : List Int := i.op :: ((if argP i.op then [i.arg % 256] else []) ++ (if valP i.op then valB i.val.toNat 8 else []))

end Go.Proofs.Ytjbbjbbkembknaa
/-
  package code: appended BY ITS CONTRACT.
-/
namespace Go.Proofs.Ytjbbjbbkembknaa
set_option linter.unusedVariables false
set_option linter.unusedSimpArgs false
open Go.RowKit
attribute [local go_sem] Oper.semAt_some

/-- A row that has become longer. -/
def BPost (w : World) (B : Nat) (v : Value) (l : List Int) (v' : Value) (w' : World) : Prop := bytOwn w' B v' l ∧ Touch w w' v.ownBlock.toList ∧ ∀ g, v'.ownBlock = some g → v.ownBlock = some g ∨ w.heap.size ≤ g
theorem BPost.trans {w w1 w2 : World} {B : Nat} {v v1 v2 : Value} {l1 l2 : List Int} (h1 : BPost w B v l1 v1 w1) (h2 : BPost w1 B v1 l2 v2 w2) : BPost w B v l2 v2 w2 := by
  refine ⟨h2.1, h1.2.1.trans h2.2.1 (fun x hx => ?_), fun g hg => ?_⟩
  · have := h1.2.2 x (by simpa using hx)
    rcases this with h | h
    · exact .inl (by simp [h])
    · exact .inr h
  · rcases h2.2.2 g hg with h | h
    · exact h1.2.2 g h
    · exact .inr (Nat.le_trans h1.2.1.size h)

theorem arg_val {o : Int} (h : argP o = true) : valP o = false := by
  simp [argP] at h
  simp [valP]
  omega
theorem byte_of (a : Int) : IntKind.u8.wrap a = a % 256 := by
  first
  | rfl
  | (rw [IntKind.wrap_u8])
  | (unfold IntKind.wrap; simp [IntKind.signed, IntKind.bits])

end Go.Proofs.Ytjbbjbbkembknaa
/-
  package code: Encode BY ITS CONTRACT.
-/
namespace Go.Proofs.Ytjbbjbbkembknaa
set_option linter.unusedVariables false
set_option linter.unusedSimpArgs false
open Go.RowKit
attribute [local go_sem] Oper.semAt_some

abbrev InsRowC := SRow 3 InsD.cells
theorem ins_at {w W : World} {ao : Option Addr} {cap : Nat} {l : List InsD} (h : InsRowC w (.slice ao l.length cap) l) {S : List Nat} (t : Touch w W S) (hS : ∀ x ∈ S, w.heap.size ≤ x) (k : Nat) (hk : k < l.length) :
    ∃ g off, ao = some ⟨g, off, none⟩ ∧ W.cell? ⟨g, off + k * 3, none⟩ = some (.int .u8 l[k].op) ∧ W.cell? ⟨g, off + k * 3 + 1, none⟩ = some (.int .i64 l[k].arg) ∧ W.cell? ⟨g, off + k * 3 + 2, none⟩ = some (.int .u64 l[k].val) := by
  obtain ⟨g, off, e, hg, hc⟩ := h.at k hk
  have hgs : g ∉ S := fun hs => by have := hS g hs; omega
  exact ⟨g, off, e, (t.cell (p := ⟨g, off + k * 3, none⟩) hg hgs).trans (hc 0 (by omega)), (t.cell (p := ⟨g, off + k * 3 + 1, none⟩) hg hgs).trans (hc 1 (by omega)), (t.cell (p := ⟨g, off + k * 3 + 2, none⟩) hg hgs).trans (hc 2 (by omega))⟩

def encL (l : List InsD) : List Int := l.flatMap encI
theorem encL_snoc {l : List InsD} {k : Nat} (hk : k < l.length) : encL (l.take (k + 1)) = encL (l.take k) ++ encI l[k] := by
  unfold encL; rw [List.take_succ_eq_append_getElem hk, List.flatMap_append]; simp
theorem encI_len (i : InsD) : (encI i).length ≤ 10 := by
  unfold encI
  rw [List.length_cons, List.length_append]
  have h1 : (if argP i.op then [i.arg % 256] else ([] : List Int)).length ≤ 1 := by split <;> simp
  have h2 : (if valP i.op then valB i.val.toNat 8 else ([] : List Int)).length ≤ 8 := by split <;> simp [valB_len]
  omega
theorem encL_len (l : List InsD) : (encL l).length ≤ 10 * l.length := by
  unfold encL
  induction l with
  | nil => simp
  | cons x l ih => rw [List.flatMap_cons, List.length_append, List.length_cons]; have := encI_len x; omega

/-- What Encode comes to. -/
def EncPost (w : World) (l : List InsD) (e : Ending) (w' : World) : Prop :=
  (l.all rightI = true ∧ ∃ v, e = .returned (.tuple #[v, .int .i64 0]) ∧ bytOwn w' w.heap.size v (encL l) ∧ Touch w w' []) ∨ (l.all rightI = false ∧ e = .returned (.tuple #[.slice none 0 0, .int .i64 3]) ∧ Touch w w' [])

end Go.Proofs.Ytjbbjbbkembknaa
/-
  package code: taken, OF THE BYTES OF ONE RIGHT INSTRUCTION, BY ITS CONTRACT.
-/
namespace Go.Proofs.Ytjbbjbbkembknaa
set_option linter.unusedVariables false
set_option linter.unusedSimpArgs false
open Go.RowKit
attribute [local go_sem] Oper.semAt_some

theorem BRow.one {w : World} {ao : Option Addr} {cap : Nat} {l : List Int} (h : BRow w (.slice ao l.length cap) l) (k : Nat) (hk : k < l.length) :
    ∃ g off, ao = some ⟨g, off, none⟩ ∧ g < w.heap.size ∧ w.cell? ⟨g, off + k, none⟩ = some (.int .u8 l[k]) := by
  obtain ⟨g, off, e, hlt, hc⟩ := h.at k hk
  exact ⟨g, off, e, hlt, by simpa using hc 0 (by omega)⟩

/-- What a right one is. -/
theorem right_argC {i : InsD} (h : rightI i = true) (hp : argP i.op = true) : 0 ≤ i.arg ∧ i.arg ≤ 63 ∧ i.val = 0 := by
  have hv := arg_val hp
  simp only [rightI, Bool.and_eq_true, decide_eq_true_eq, Bool.or_eq_true] at h
  obtain ⟨⟨⟨⟨⟨h1, h2⟩, h3⟩, h4⟩, h5⟩, h6⟩ := h
  rw [hv] at h3
  have : highP i.op ≤ 63 := by unfold highP; split <;> (try split) <;> omega
  exact ⟨h4, by omega, by simpa using h3⟩
theorem right_none {i : InsD} (h : rightI i = true) (hp : argP i.op = false) : i.arg = 0 := by
  simp only [rightI, Bool.and_eq_true, decide_eq_true_eq, Bool.or_eq_true] at h
  obtain ⟨⟨⟨⟨⟨h1, h2⟩, h3⟩, h4⟩, h5⟩, h6⟩ := h
  rw [hp] at h2
  simpa using h2
theorem right_noval {i : InsD} (h : rightI i = true) (hp : valP i.op = false) : i.val = 0 := by
  simp only [rightI, Bool.and_eq_true, decide_eq_true_eq, Bool.or_eq_true] at h
  obtain ⟨⟨⟨⟨⟨h1, h2⟩, h3⟩, h4⟩, h5⟩, h6⟩ := h
  rw [hp] at h3
  simpa using h3

/-- The bytes of a Val, one by one. -/
theorem val_step (n k : Nat) (hk : k < 8) (hn : n < 18446744073709551616) : n / 2 ^ (8 * (8 - (k + 1))) = n / 2 ^ (8 * (8 - k)) * 256 + n / 2 ^ (8 * (7 - k)) % 256 := by
  have e1 : 8 * (8 - (k + 1)) = 8 * (7 - k) := by omega
  have e2 : 2 ^ (8 * (8 - k)) = 2 ^ (8 * (7 - k)) * 256 := by
    have : 8 * (8 - k) = 8 * (7 - k) + 8 := by omega
    rw [this, Nat.pow_add]
  rw [e1, e2, ← Nat.div_div_eq_div_mul]
  omega
theorem or_byte (m b : Nat) (hm : m < 72057594037927936) (hb : b < 256) : bits .or .u64 ((m * 256 : Nat) : Int) (b : Int) = ((m * 256 + b : Nat) : Int) := by
  rw [u64_or_nat (m * 256) b (by omega) (by omega)]
  congr 1
  have h := Nat.two_pow_add_eq_or_of_lt (i := 8) (b := b) (by omega) m
  have e : 2 ^ 8 * m = m * 256 := by omega
  rw [e] at h
  omega

theorem res_cellC {fn : Func} {p : Tmp} {ty : TypeId} (h : fn.results = #[.cell p ty]) (tmps : Array Value) (P : Program) (w : World) :
    (results fn tmps).run P w = ((asAddr (tmps.getD p undef)).run P w).andThen fun a w₁ => (loadVar ty a).run P w₁ := by
  simp only [results, h]
  simp [Sem.run_bind, Result.andThen]

/-- What bytes can say, right or not. -/
structure FitI (i : InsD) : Prop where
  arg : argP i.op = true → 0 ≤ i.arg ∧ i.arg ≤ 255 ∧ i.val = 0
  none : argP i.op = false → i.arg = 0
  noval : valP i.op = false → i.val = 0
theorem fit_of {i : InsD} (h : rightI i = true) : FitI i := ⟨fun hp => by have := right_argC h hp; omega, right_none h, right_noval h⟩

end Go.Proofs.Ytjbbjbbkembknaa
/-
  BYTES AS A TEXT: string(b) of a row of bytes.
-/
namespace Go.Proofs.Ytjbbjbbkembknaa
set_option linter.unusedVariables false
set_option linter.unusedSimpArgs false
open Go.RowKit

end Go.Proofs.Ytjbbjbbkembknaa
/-
  package code: Decode, OF THE BYTES OF RIGHT INSTRUCTIONS, BY ITS CONTRACT.
-/
namespace Go.Proofs.Ytjbbjbbkembknaa
set_option linter.unusedVariables false
set_option linter.unusedSimpArgs false
open Go.RowKit
attribute [local go_sem] Oper.semAt_some

theorem encI_width (i : InsD) : (encI i).length = widthP i.op := by
  unfold encI widthP
  rw [List.length_cons, List.length_append]
  have h1 : (if argP i.op then [i.arg % 256] else ([] : List Int)).length = if argP i.op then 1 else 0 := by split <;> simp
  have h2 : (if valP i.op then valB i.val.toNat 8 else ([] : List Int)).length = if valP i.op then 8 else 0 := by split <;> simp [valB_len]
  omega
theorem brow_take {w : World} {ao : Option Addr} {cap : Nat} {a b : List Int} (h : BRow w (.slice ao (a ++ b).length cap) (a ++ b)) (c : Nat) : BRow w (.slice ao a.length c) a := by
  refine ⟨ao, c, rfl, fun hne => ?_⟩
  have hpos : 0 < a.length := List.length_pos_iff.2 hne
  obtain ⟨g, off, e, hg, _⟩ := h.one 0 (by simp; omega)
  refine ⟨g, off, e, hg, fun k hk j hj => ?_⟩
  obtain ⟨g', off', e', _, hc⟩ := h.one k (by simp; omega)
  rw [e] at e'
  simp only [Option.some.injEq, Addr.mk.injEq] at e'
  obtain ⟨rfl, rfl, _⟩ := e'
  obtain rfl : j = 0 := by omega
  rw [List.getElem_append_left hk] at hc
  simpa using hc
theorem brow_drop {w : World} {g off cap : Nat} {a b : List Int} (h : BRow w (.slice (some ⟨g, off, none⟩) (a ++ b).length cap) (a ++ b)) (c : Nat) (p : Nat) (hp : b ≠ [] → p = off + a.length) : BRow w (.slice (some ⟨g, p, none⟩) b.length c) b := by
  refine ⟨_, c, rfl, fun hne => ?_⟩
  have hpos : 0 < b.length := List.length_pos_iff.2 hne
  obtain ⟨g0, off0, e0, hg, _⟩ := h.one 0 (by simp; omega)
  simp only [Option.some.injEq, Addr.mk.injEq] at e0
  obtain ⟨rfl, rfl, _⟩ := e0
  refine ⟨g, p, rfl, hg, fun k hk j hj => ?_⟩
  obtain ⟨g', off', e', _, hc⟩ := h.one (a.length + k) (by simp; omega)
  simp only [Option.some.injEq, Addr.mk.injEq] at e'
  obtain ⟨rfl, rfl, _⟩ := e'
  obtain rfl : j = 0 := by omega
  rw [List.getElem_append_right (by omega)] at hc
  have hpe := hp hne
  have e1 : off + (a.length + k) = p + k * 1 + 0 := by omega
  rw [e1] at hc
  simpa using hc

abbrev insOwn (w : World) (B : Nat) (v : Value) (l : List InsD) : Prop := w.ownsRow B 58 3 v l.length (l.flatMap InsD.cells)
theorem Try.info_ins : (Try.prog.info? 58).map (fun i => (i.zero, i.size, i.bytes)) = some (some (.agg #[.int .u8 0, .int .i64 0, .int .u64 0]), 3, 24) := by kernel_rfl
theorem ins_one (x : InsD) : ∀ u ∈ x.cells, u.oneCell' = true := by
  intro u hu
  simp only [InsD.cells, List.mem_cons, List.not_mem_nil, or_false] at hu
  rcases hu with rfl | rfl | rfl <;> rfl
theorem ins_new (w : World) (x : InsD) : InsRowC (w.alloc (.cells #[.int .u8 x.op, .int .i64 x.arg, .int .u64 x.val] 58)) (.slice (some ⟨w.heap.size, 0, none⟩) 1 1) [x] := by
  refine ⟨_, 1, rfl, fun _ => ⟨w.heap.size, 0, rfl, by simp, fun k hk j hj => ?_⟩⟩
  have hk0 : k = 0 := by simpa using hk
  subst hk0
  have h0 := heap_alloc_new w (.cells #[.int .u8 x.op, .int .i64 x.arg, .int .u64 x.val] 58)
  unfold World.cell?
  simp only [h0]
  match j, hj with
  | 0, _ => rfl
  | 1, _ => rfl
  | 2, _ => rfl
/-- One instruction more. -/
theorem ins_push {w : World} {B : Nat} {v : Value} {xs : List InsD} (h : insOwn w B v xs) (hl : xs.length ≤ 1000) (hB : B ≤ w.heap.size) (x : InsD) (ty : TypeId) :
    ∃ ao' cap' w', (Builtin.append_ #[22, 22] ty #[v, .slice (some ⟨w.heap.size, 0, none⟩) 1 1]).run Try.prog (w.alloc (.cells #[.int .u8 x.op, .int .i64 x.arg, .int .u64 x.val] 58)) = .ok (.slice ao' (xs.length + 1) cap') w' ∧ insOwn w' B (.slice ao' (xs.length + 1) cap') (xs ++ [x]) ∧ Touch w w' v.ownBlock.toList := by
  obtain ⟨i0, hi, hz0, hz1, hz2⟩ := info_parts' Try.info_ins
  have T1 : Touch w (w.alloc (.cells #[.int .u8 x.op, .int .i64 x.arg, .int .u64 x.val] 58)) [] := (Touch.refl w []).alloc _
  obtain ⟨v', w', h1, h2, h3, h4⟩ := run_app (P := Try.prog) (cells := InsD.cells) 22 ty 58 i0 _ 3 24 Try.underlying22 hi hz0 hz1 hz2 rfl (by decide) (fun _ => rfl) ins_one (ownsRow_touch h T1 (by simp)) (l := [x]) (ins_new w x) (by simp only [List.length_cons, List.length_nil]; omega) (by decide) (by simp; omega)
  have h2' : insOwn w' B v' (xs ++ [x]) := by
    show w'.ownsRow _ _ _ _ _ _
    rw [List.length_append, List.flatMap_append]
    exact h2
  obtain ⟨ao', cap', rfl⟩ := owns_slice h2
  exact ⟨ao', cap', w', h1, h2', (T1.mono (by simp)).grown h3 (fun k hk => .inl (by simp [hk]))⟩

end Go.Proofs.Ytjbbjbbkembknaa
/-
  Word, BY ITS CONTRACT: the words of the operations as code.words lays them.
-/
namespace Go.Proofs.Ytjbbjbbkembknaa
set_option linter.unusedVariables false
set_option linter.unusedSimpArgs false
open Go.RowKit
attribute [local go_sem] Oper.semAt_some

/-- The words, as bytes. -/
def wordsB : List (List UInt8) := [[110, 111, 112], [112, 117, 115, 104], [108, 111, 99, 97, 108], [115, 101, 116], [103, 101, 116], [112, 117, 116], [103, 101, 116, 97, 116], [112, 117, 116, 97, 116], [97, 100, 100], [115, 117, 98], [109, 117, 108], [100, 105, 118], [110, 101, 103], [108, 101, 115, 115], [115, 97, 109, 101], [110, 111, 116], [100, 117, 112], [112, 111, 112], [115, 119, 97, 112], [106, 117, 109, 112], [122, 101, 114, 111], [97, 116, 111, 109, 105, 99], [101, 110, 100], [111, 114, 101, 108, 115, 101], [101, 108, 115, 101], [101, 110, 100, 111, 114], [114, 101, 116, 114, 121], [111, 117, 116], [104, 97, 108, 116]]
def wordB (k : Nat) : ByteArray := ⟨(wordsB.getD k []).toArray⟩
/-- The word of an operation; none behind the last. -/
def wordP (o : Int) : ByteArray := if 28 < o then ⟨#[]⟩ else wordB o.toNat

end Go.Proofs.Ytjbbjbbkembknaa
/-
  A MAP FROM string TO ANYTHING, as a function: made, looked at, written. No walk.
-/
namespace Go.Proofs.Ytjbbjbbkembknaa
set_option linter.unusedVariables false
set_option linter.unusedSimpArgs false
open Go.RowKit Go.Maps

def rawS (v : Value) : Option (DataW Value × List MemPlace) := some (.held v, [])
theorem keyedS : Keyed Try.prog 9 := string_keyed Try.underlying9
theorem keyS {s : ByteArray} (h : s.size ≤ maxLen) : keyOf Try.prog 9 (.string s) = some (.string s.data.toList) := Go.WideMaps.keyOf_string_mk Try.underlying9 h

/-- Block b is a map of at most n entries that tells F, a function of a key's bytes. -/
def MapS (w : World) (b n : Nat) (F : List UInt8 → Option Value) : Prop :=
  ∃ D : DataW Value, w.ownsMap Try.prog 9 rawS b n D ∧ IsMap D ∧ ∀ x, has D (.string x) = (F x).isSome ∧ ∀ z, D.atKey (.string x) z = ((F x).map DataW.held).getD z
def updS (F : List UInt8 → Option Value) (x : List UInt8) (v : Value) : List UInt8 → Option Value := fun y => if y = x then some v else F y
theorem MapS.made (w : World) : MapS (w.alloc (.map #[] 0)) w.heap.size 0 (fun _ => none) :=
  ⟨_, World.ownsMap_made w _ _ _, isMap_empty, fun x => ⟨rfl, fun z => rfl⟩⟩
theorem MapS.lookOk {w : World} {b n : Nat} {F : List UInt8 → Option Value} (h : MapS w b n F) {t e : TypeId} (ht : Try.prog.underlying t = some (.map 9 e)) {z : Value} (hz : (zeroValue e).run Try.prog w = .ok z w) {s : ByteArray} (hs : s.size ≤ maxLen) :
    (Instr.lookup t (.map (some b)) (.string s) true).run Try.prog w = .ok (.tuple #[(F s.data.toList).getD z, .bool (F s.data.toList).isSome]) w := by
  obtain ⟨D, hD, hm, hF⟩ := h
  obtain ⟨v, ps, hr, hv⟩ := hD.look_ok keyedS ht hz (zd := .held z) (zp := []) rfl (keyS hs)
  rw [hr, (hF _).1]
  have h2 := (hF s.data.toList).2 (.held z)
  rw [h2] at hv
  simp only [rawS, Option.some.injEq, Prod.mk.injEq] at hv
  cases hq : F s.data.toList with
  | none => rw [hq] at hv; simp at hv; rw [hv.1]; rfl
  | some u => rw [hq] at hv; simp at hv; rw [hv.1]; rfl
theorem MapS.store {w : World} {b n : Nat} {F : List UInt8 → Option Value} (h : MapS w b n F) {t e : TypeId} (ht : Try.prog.underlying t = some (.map 9 e)) (hn : n < maxLen) {s : ByteArray} (hs : s.size ≤ maxLen) (v : Value) :
    ∃ w', (Instr.mapUpdate t (.map (some b)) (.string s) v).run Try.prog w = .ok () w' ∧ MapS w' b (n + 1) (updS F s.data.toList v) ∧ w.grownBy w' (some b) := by
  obtain ⟨D, hD, hm, hF⟩ := h
  obtain ⟨w', hr, hD', hg⟩ := hD.update keyedS ht hn (keyS hs) (val := v) (d := .held v) (ps := []) rfl
  refine ⟨w', hr, ⟨_, hD', hm.put _ _, fun y => ?_⟩, hg⟩
  by_cases e : y = s.data.toList
  · subst e
    have hk : WideAt.IsKeyLit (.string s.data.toList) := trivial
    exact ⟨by rw [has_put_same hm hk]; simp [updS], fun z => by rw [atKey_put_same hm hk]; simp [updS]⟩
  · have hl : (Lit.string y) ≠ Lit.string s.data.toList := fun q => e (by simpa using q)
    exact ⟨by rw [has_put_other hl, (hF y).1]; simp [updS, e], fun z => by rw [atKey_put_other hl, (hF y).2 z]; simp [updS, e]⟩

end Go.Proofs.Ytjbbjbbkembknaa
/-
  package code: byWord AS PLAIN DATA; its map made, its array indexed. No walk.
-/
namespace Go.Proofs.Ytjbbjbbkembknaa
set_option linter.unusedVariables false
set_option linter.unusedSimpArgs false
open Go.RowKit Go.Maps
attribute [local go_sem] Oper.semAt_some

/-- The operation of a word, of the first k. -/
def byK (k : Nat) (s : List UInt8) : Option Value := (List.range k).reverse.findSome? fun i => if s = (wordB i).data.toList then some (.int .u8 (i : Int)) else none
theorem byK_succ (k : Nat) : byK (k + 1) = updS (byK k) (wordB k).data.toList (.int .u8 (k : Int)) := by
  funext s
  unfold byK updS
  rw [List.range_succ, List.reverse_append, List.reverse_singleton, List.singleton_append, List.findSome?_cons]
  by_cases h : s = (wordB k).data.toList <;> simp [h]
def wordsV : Value := .agg ((List.range 29).map fun k => Value.string (wordB k)).toArray
theorem wordB_size (k : Nat) (hk : k < 29) : (wordB k).size ≤ maxLen := by
  have h : ∀ k < 29, (wordB k).size ≤ 6 := by decide +kernel
  have := h k hk
  unfold maxLen
  omega

def wordsA : Array Value := #[.string (wordB 0), .string (wordB 1), .string (wordB 2), .string (wordB 3), .string (wordB 4), .string (wordB 5), .string (wordB 6), .string (wordB 7), .string (wordB 8), .string (wordB 9), .string (wordB 10), .string (wordB 11), .string (wordB 12), .string (wordB 13), .string (wordB 14), .string (wordB 15), .string (wordB 16), .string (wordB 17), .string (wordB 18), .string (wordB 19), .string (wordB 20), .string (wordB 21), .string (wordB 22), .string (wordB 23), .string (wordB 24), .string (wordB 25), .string (wordB 26), .string (wordB 27), .string (wordB 28)]
theorem Try.info_str : (Try.prog.info? 9).map (fun i => (i.zero.isSome, i.size)) = some (true, 1) := by kernel_rfl
end Go.Proofs.Ytjbbjbbkembknaa
/-
  package code: byWord BY ITS CONTRACT.
-/
namespace Go.Proofs.Ytjbbjbbkembknaa
set_option linter.unusedVariables false
set_option linter.unusedSimpArgs false
open Go.RowKit Go.Maps
attribute [local go_sem] Oper.semAt_some

def wordsL : List Value := (List.range 29).map fun k => Value.string (wordB k)
end Go.Proofs.Ytjbbjbbkembknaa
/-
  package code: ReadWord BY ITS CONTRACT.
-/
namespace Go.Proofs.Ytjbbjbbkembknaa
set_option linter.unusedVariables false
set_option linter.unusedSimpArgs false
open Go.RowKit Go.Maps
attribute [local go_sem] Oper.semAt_some

theorem zero_op (w : World) : (zeroValue 56).run Try.prog w = .ok (.int .u8 0) w := by
  obtain ⟨i, hi, hz⟩ : ∃ i, Try.prog.info? 56 = some i ∧ i.zero = some (.int .u8 0) := by
    have h : (Try.prog.info? 56).map (fun i => i.zero) = some (some (.int .u8 0)) := by kernel_rfl
    cases e : Try.prog.info? 56 with
    | none => rw [e] at h; simp at h
    | some i => rw [e] at h; simp at h; exact ⟨i, rfl, h⟩
  simp [zeroValue, typeInfo, hi, hz]

end Go.Proofs.Ytjbbjbbkembknaa
/-
  RUNES OF A TEXT: what is skipped is no sign of one byte. No walk.
-/
namespace Go.Proofs.Ytjbbjbbkembknaa
set_option linter.unusedVariables false
set_option linter.unusedSimpArgs false
open Go.RowKit

/-- The bytes of a rune behind its first one are above 127, and lie in the text. -/
theorem decode_skip (s : ByteArray) (pos : Nat) (h : pos < s.size) : ∀ k, 0 < k → k < (Utf8.decode s pos).2 → pos + k < s.size ∧ 128 ≤ (s.get! (pos + k)).toNat := by
  intro k hk hlt
  by_cases ha : (s[pos]'h).toNat < 128
  · rw [decode_ascii s pos h ha] at hlt
    simp at hlt
    omega
  · simp only [Utf8.decode, get_at s pos h, ha, if_false] at hlt
    split at hlt
    · rename_i h1
      simp only [Bool.and_eq_true, beq_iff_eq, decide_eq_true_eq] at h1
      split at hlt
      · simp only at hlt
        obtain rfl : k = 1 := by omega
        exact ⟨h1.2.1, by omega⟩
      · simp only at hlt; omega
    · split at hlt
      · rename_i _ h1
        simp only [Bool.and_eq_true, beq_iff_eq, decide_eq_true_eq] at h1
        split at hlt
        · simp only at hlt
          rcases (show k = 1 ∨ k = 2 by omega) with rfl | rfl
          · exact ⟨h1.1.2.1, by omega⟩
          · exact ⟨h1.2.1, by omega⟩
        · simp only at hlt; omega
      · split at hlt
        · rename_i _ _ h1
          simp only [Bool.and_eq_true, beq_iff_eq, decide_eq_true_eq] at h1
          split at hlt
          · simp only at hlt
            rcases (show k = 1 ∨ k = 2 ∨ k = 3 by omega) with rfl | rfl | rfl
            · exact ⟨h1.1.1.2.1, by omega⟩
            · exact ⟨h1.1.2.1, by omega⟩
            · exact ⟨h1.2.1, by omega⟩
          · simp only at hlt; omega
        · simp only at hlt; omega
/-- How far a rune goes. -/
theorem decode_pos (s : ByteArray) (pos : Nat) (h : pos < s.size) : 1 ≤ (Utf8.decode s pos).2 ∧ pos + (Utf8.decode s pos).2 ≤ s.size := by
  have h1 : 1 ≤ (Utf8.decode s pos).2 := by
    by_cases ha : (s[pos]'h).toNat < 128
    · rw [decode_ascii s pos h ha]; exact Nat.le_refl _
    · exact (decode_high s pos h (by omega)).2
  refine ⟨h1, ?_⟩
  by_cases hd : (Utf8.decode s pos).2 = 1
  · rw [hd]; omega
  · have := (decode_skip s pos h ((Utf8.decode s pos).2 - 1) (by omega) (by omega)).1
    omega
/-- A sign of one byte stands just where its byte does. -/
theorem decode_sign (s : ByteArray) (pos : Nat) (h : pos < s.size) (c : Nat) (hc : c < 128) : (Utf8.decode s pos).1 = c ↔ (s[pos]'h).toNat = c := by
  by_cases ha : (s[pos]'h).toNat < 128
  · rw [decode_ascii s pos h ha]
  · have := (decode_high s pos h (by omega)).1
    constructor <;> intro q <;> omega

end Go.Proofs.Ytjbbjbbkembknaa
/-
  package code: number BY ITS CONTRACT.
-/
namespace Go.Proofs.Ytjbbjbbkembknaa
set_option linter.unusedVariables false
set_option linter.unusedSimpArgs false
open Go.RowKit
attribute [local go_sem] Oper.semAt_some

/-- What the first k signs say; none: they say nothing. -/
def numK (s : ByteArray) : Nat → Option Nat
  | 0 => some 0
  | k + 1 => match numK s k with
    | none => none
    | some n => if (s.get! k).toNat < 48 ∨ 57 < (s.get! k).toNat ∨ (0 < k ∧ n = 0) then none else if 63 < 10 * n + ((s.get! k).toNat - 48) then none else some (10 * n + ((s.get! k).toNat - 48))
theorem numK_le (s : ByteArray) : ∀ k n, numK s k = some n → n ≤ 63
  | 0, n, h => by simp [numK] at h; omega
  | k + 1, n, h => by
    unfold numK at h
    split at h
    · simp at h
    · split at h
      · simp at h
      · split at h
        · simp at h
        · simp at h; omega
theorem numK_none {s : ByteArray} {k : Nat} (h : numK s k = none) : ∀ m, k ≤ m → numK s m = none
  | 0, hm => by
    obtain rfl : k = 0 := by omega
    exact h
  | m + 1, hm => by
    by_cases e : k = m + 1
    · rw [← e]; exact h
    · unfold numK
      rw [numK_none h m (by omega)]
def numN (s : ByteArray) : Int := match numK s s.size with | some n => (n : Int) | none => 0
def numOk (s : ByteArray) : Bool := match numK s s.size with | some n => s.size != 0 | none => false
theorem num_bad {s : ByteArray} {k : Nat} (hk : k ≤ s.size) (h : numK s k = none) : numN s = 0 ∧ numOk s = false := by
  unfold numN numOk
  rw [numK_none h s.size hk]
  exact ⟨rfl, rfl⟩
end Go.Proofs.Ytjbbjbbkembknaa
/-
  package code: said BY ITS CONTRACT, OF AN OPERATION THAT HAS AN Arg.
-/
namespace Go.Proofs.Ytjbbjbbkembknaa
set_option linter.unusedVariables false
set_option linter.unusedSimpArgs false
open Go.RowKit
attribute [local go_sem] Oper.semAt_some

theorem arg_not_val {o : Int} (h : argP o = true) : valP o = false := by
  have : o = 2 ∨ o = 3 ∨ o = 4 ∨ o = 5 ∨ o = 6 ∨ o = 7 ∨ o = 19 ∨ o = 20 ∨ o = 21 ∨ o = 23 ∨ o = 24 := by simpa [argP] using h
  simp [valP]; omega

end Go.Proofs.Ytjbbjbbkembknaa
/-
  package code: cut BY ITS CONTRACT.
-/
namespace Go.Proofs.Ytjbbjbbkembknaa
set_option linter.unusedVariables false
set_option linter.unusedSimpArgs false
open Go.RowKit
attribute [local go_sem] Oper.semAt_some

/-- Where the first blank stands. -/
def blankAt (s : ByteArray) : Option Nat := (List.range s.size).find? fun i => (s.get! i).toNat == 32
theorem blank_some {s : ByteArray} {p : Nat} (hp : p < s.size) (h : (s.get! p).toNat = 32) (hl : ∀ j < p, (s.get! j).toNat ≠ 32) : blankAt s = some p := by
  unfold blankAt
  rw [List.find?_eq_some_iff_getElem]
  exact ⟨by simp [h], p, by simpa using hp, by simp, fun j hj => by simpa using hl j hj⟩
theorem blank_none {s : ByteArray} (hl : ∀ j < s.size, (s.get! j).toNat ≠ 32) : blankAt s = none := by
  unfold blankAt
  rw [List.find?_eq_none]
  intro j hj
  simpa using hl j (by simpa using hj)
def cutW (s : ByteArray) : ByteArray := match blankAt s with | some p => s.extract 0 p | none => s
def cutR (s : ByteArray) : ByteArray := match blankAt s with | some p => s.extract (p + 1) s.size | none => ⟨#[]⟩

end Go.Proofs.Ytjbbjbbkembknaa
/-
  package code: Parse BY ITS CONTRACT, OF A RIGHT INSTRUCTION THAT HAS AN Arg.
-/
namespace Go.Proofs.Ytjbbjbbkembknaa
set_option linter.unusedVariables false
set_option linter.unusedSimpArgs false
open Go.RowKit
attribute [local go_sem] Oper.semAt_some

end Go.Proofs.Ytjbbjbbkembknaa
/-
  THE DOCUMENT'S Word BY ITS CONTRACT.
-/
namespace Go.Proofs.Ytjbbjbbkembknaa
set_option linter.unusedVariables false
set_option linter.unusedSimpArgs false
open Go.RowKit
attribute [local go_sem] Oper.semAt_some

/-- The words as the document's text has them. -/
def rwordsA : Array Value := #[.string ⟨#[110, 111, 112]⟩, .string ⟨#[112, 117, 115, 104]⟩, .string ⟨#[108, 111, 99, 97, 108]⟩, .string ⟨#[115, 101, 116]⟩, .string ⟨#[103, 101, 116]⟩, .string ⟨#[112, 117, 116]⟩, .string ⟨#[103, 101, 116, 97, 116]⟩, .string ⟨#[112, 117, 116, 97, 116]⟩, .string ⟨#[97, 100, 100]⟩, .string ⟨#[115, 117, 98]⟩, .string ⟨#[109, 117, 108]⟩, .string ⟨#[100, 105, 118]⟩, .string ⟨#[110, 101, 103]⟩, .string ⟨#[108, 101, 115, 115]⟩, .string ⟨#[115, 97, 109, 101]⟩, .string ⟨#[110, 111, 116]⟩, .string ⟨#[100, 117, 112]⟩, .string ⟨#[112, 111, 112]⟩, .string ⟨#[115, 119, 97, 112]⟩, .string ⟨#[106, 117, 109, 112]⟩, .string ⟨#[122, 101, 114, 111]⟩, .string ⟨#[97, 116, 111, 109, 105, 99]⟩, .string ⟨#[101, 110, 100]⟩, .string ⟨#[111, 114, 101, 108, 115, 101]⟩, .string ⟨#[101, 108, 115, 101]⟩, .string ⟨#[101, 110, 100, 111, 114]⟩, .string ⟨#[114, 101, 116, 114, 121]⟩, .string ⟨#[111, 117, 116]⟩, .string ⟨#[104, 97, 108, 116]⟩]
theorem rwords_at (k : Nat) (hk : k < 29) : rwordsA[k]? = some (.string (wordB k)) := by
  rcases (show k = 0 ∨ k = 1 ∨ k = 2 ∨ k = 3 ∨ k = 4 ∨ k = 5 ∨ k = 6 ∨ k = 7 ∨ k = 8 ∨ k = 9 ∨ k = 10 ∨ k = 11 ∨ k = 12 ∨ k = 13 ∨ k = 14 ∨ k = 15 ∨ k = 16 ∨ k = 17 ∨ k = 18 ∨ k = 19 ∨ k = 20 ∨ k = 21 ∨ k = 22 ∨ k = 23 ∨ k = 24 ∨ k = 25 ∨ k = 26 ∨ k = 27 ∨ k = 28 by omega) with rfl | rfl | rfl | rfl | rfl | rfl | rfl | rfl | rfl | rfl | rfl | rfl | rfl | rfl | rfl | rfl | rfl | rfl | rfl | rfl | rfl | rfl | rfl | rfl | rfl | rfl | rfl | rfl | rfl
  all_goals rfl
end Go.Proofs.Ytjbbjbbkembknaa
/-
  THE DOCUMENT'S ReadWord BY ITS CONTRACT.
-/
namespace Go.Proofs.Ytjbbjbbkembknaa
set_option linter.unusedVariables false
set_option linter.unusedSimpArgs false
open Go.RowKit
attribute [local go_sem] Oper.semAt_some

theorem wordB_inj : ∀ i < 29, ∀ j < 29, (wordB i).data.toList = (wordB j).data.toList → i = j := by decide +kernel
theorem byK_hit {k : Nat} (hk : k < 29) : ∀ n, k < n → n ≤ 29 → byK n (wordB k).data.toList = some (.int .u8 (k : Int))
  | 0, h, _ => by omega
  | n + 1, h, hn => by
    rw [byK_succ]
    unfold updS
    by_cases e : k = n
    · subst e; simp
    · rw [if_neg (fun q => e (wordB_inj k hk n (by omega) q)), byK_hit hk n (by omega) (by omega)]
theorem byK_miss {x : List UInt8} : ∀ n, (∀ j < n, x ≠ (wordB j).data.toList) → byK n x = none
  | 0, _ => rfl
  | n + 1, h => by
    rw [byK_succ]
    unfold updS
    rw [if_neg (h n (by omega)), byK_miss n (fun j hj => h j (by omega))]
theorem ba_ext {a b : ByteArray} (h : a.data.toList = b.data.toList) : a = b := by
  obtain ⟨x⟩ := a
  obtain ⟨y⟩ := b
  have : x = y := by simpa using h
  rw [this]

end Go.Proofs.Ytjbbjbbkembknaa
/-
  live OF THE SIX STATEMENTS ON code.
-/
namespace Go.Proofs.Ytjbbjbbkembknaa
set_option linter.unusedVariables false
set_option linter.unusedSimpArgs false
open Go.RowKit
attribute [local go_sem] Oper.semAt_some

/-- jump 17 -/
def jump17 : ByteArray := ⟨#[106, 117, 109, 112, 32, 49, 55]⟩
theorem jump_blank : blankAt jump17 = some 4 := by decide +kernel
theorem jump_w : cutW jump17 = ⟨#[106, 117, 109, 112]⟩ := by unfold cutW; rw [jump_blank]; rfl
theorem jump_r : cutR jump17 = ⟨#[49, 55]⟩ := by unfold cutR; rw [jump_blank]; rfl
theorem jump_n : numN ⟨#[49, 55]⟩ = 17 := by decide +kernel
theorem jump_ok : numOk ⟨#[49, 55]⟩ = true := by decide +kernel
end Go.Proofs.Ytjbbjbbkembknaa
/-
  package code: UNLIKE RIGHT INSTRUCTIONS HAVE UNLIKE BYTES, AND NONE's BEGIN ANOTHER's. Plain data: no walk.
-/
namespace Go.Proofs.Ytjbbjbbkembknaa
set_option linter.unusedVariables false
set_option linter.unusedSimpArgs false
open Go.RowKit

theorem valB_at (v k i : Nat) (hi : i < k) : (valB v k)[i]? = some ((v / 2 ^ (8 * (7 - i)) % 256 : Nat) : Int) := by
  unfold valB; rw [List.getElem?_map, List.getElem?_range hi]; rfl
theorem valB_inj {n m : Nat} (hn : n < 18446744073709551616) (hm : m < 18446744073709551616) (h : valB n 8 = valB m 8) : n = m := by
  have key : ∀ k, k ≤ 8 → n / 2 ^ (8 * (8 - k)) = m / 2 ^ (8 * (8 - k)) := by
    intro k
    induction k with
    | zero => intro _; rw [Nat.div_eq_of_lt (by simpa using hn), Nat.div_eq_of_lt (by simpa using hm)]
    | succ k ih =>
      intro hk
      rw [val_step n k (by omega) hn, val_step m k (by omega) hm, ih (by omega)]
      have h1 := valB_at n 8 k (by omega)
      have h2 := valB_at m 8 k (by omega)
      rw [h, h2] at h1
      simp only [Option.some.injEq] at h1
      omega
  have := key 8 (Nat.le_refl _)
  simpa using this

/-- Bytes. -/
def ByteL (l : List Int) : Prop := ∀ x ∈ l, 0 ≤ x ∧ x < 256
theorem valB_byte (v k : Nat) : ByteL (valB v k) := by
  intro x hx
  unfold valB at hx
  obtain ⟨i, _, rfl⟩ := List.mem_map.1 hx
  omega
theorem encI_byte {i : InsD} (h : i.Wf) : ByteL (encI i) := by
  intro x hx
  have ho := h.op
  unfold encI at hx
  simp only [List.mem_cons, List.mem_append] at hx
  rcases hx with rfl | hx | hx
  · omega
  · split at hx
    · simp at hx; subst hx; omega
    · simp at hx
  · split at hx
    · exact valB_byte _ _ x hx
    · simp at hx
theorem encL_byte {l : List InsD} (h : ∀ i ∈ l, i.Wf) : ByteL (encL l) := by
  intro x hx
  obtain ⟨i, hi, hx⟩ := List.mem_flatMap.1 hx
  exact encI_byte (h i hi) x hx
theorem byte_inj {x y : Int} (hx : 0 ≤ x ∧ x < 256) (hy : 0 ≤ y ∧ y < 256) (h : UInt8.ofNat x.toNat = UInt8.ofNat y.toNat) : x = y := by
  have := congrArg UInt8.toNat h
  simp at this
  omega
theorem map_inj {a b : List Int} (ha : ByteL a) (hb : ByteL b) (h : a.map (fun n : Int => UInt8.ofNat n.toNat) = b.map (fun n : Int => UInt8.ofNat n.toNat)) : a = b := by
  induction a generalizing b with
  | nil => cases b with
    | nil => rfl
    | cons y b => simp at h
  | cons x a ih => cases b with
    | nil => simp at h
    | cons y b =>
      simp only [List.map_cons, List.cons.injEq] at h
      rw [byte_inj (ha x (by simp)) (hb y (by simp)) h.1, ih (fun z hz => ha z (by simp [hz])) (fun z hz => hb z (by simp [hz])) h.2]
/-- Texts of bytes are alike just where the bytes are. -/
theorem str_inj {a b : List Int} (ha : ByteL a) (hb : ByteL b) : strOfNums a = strOfNums b ↔ a = b := by
  constructor
  · intro h
    have := congrArg (fun s => s.data.toList) h
    simp only [strOfNums_data] at this
    exact map_inj ha hb this
  · intro h; rw [h]

theorem encI_head {i j : InsD} {r s : List Int} (h : encI i ++ r = encI j ++ s) : i.op = j.op := by
  unfold encI at h
  simp only [List.cons_append, List.cons.injEq] at h
  exact h.1
theorem encI_inj {i j : InsD} (hi : rightI i = true) (hj : rightI j = true) (wi : i.Wf) (wj : j.Wf) (h : encI i = encI j) : i = j := by
  have ho : i.op = j.op := encI_head (r := []) (s := []) (by simpa using h)
  obtain ⟨o, a, v⟩ := i
  obtain ⟨o', a', v'⟩ := j
  simp only at ho
  subst ho
  have hvi := wi.val
  have hvj := wj.val
  unfold Wf64 at hvi hvj
  simp only at hvi hvj
  unfold encI at h
  simp only [List.cons.injEq, true_and] at h
  cases hp : argP o with
  | true =>
    have h1 := right_argC hi hp
    have h2 := right_argC hj hp
    have hv := arg_val hp
    rw [hp, hv] at h
    simp at h h1 h2
    obtain ⟨_, _, rfl⟩ := h1
    obtain ⟨_, _, rfl⟩ := h2
    have : a = a' := by omega
    rw [this]
  | false =>
    have h1 := right_none hi hp
    have h2 := right_none hj hp
    simp only at h1 h2
    subst h1 h2
    cases hv : valP o with
    | true =>
      rw [hp, hv] at h
      simp only [Bool.false_eq_true, if_false, if_true, List.nil_append] at h
      have := valB_inj (by omega) (by omega) h
      have : v = v' := by omega
      rw [this]
    | false =>
      have h1 := right_noval hi hv
      have h2 := right_noval hj hv
      simp only at h1 h2
      subst h1 h2
      rfl
/-- One's bytes begin another's: then they are the same. -/
theorem encI_pre {i j : InsD} {s : List Int} (hi : rightI i = true) (hj : rightI j = true) (wi : i.Wf) (wj : j.Wf) (h : encI j = encI i ++ s) : i = j := by
  have ho : i.op = j.op := encI_head (r := s) (s := []) (by simpa using h.symm)
  have hl := congrArg List.length h
  rw [List.length_append, encI_width, encI_width, ho] at hl
  have : s = [] := List.eq_nil_of_length_eq_zero (by omega)
  subst this
  exact encI_inj hi hj wi wj (by simpa using h.symm)

end Go.Proofs.Ytjbbjbbkembknaa
/-
  package code: Encode OF ONE INSTRUCTION BY ITS CONTRACT.
-/
namespace Go.Proofs.Ytjbbjbbkembknaa
set_option linter.unusedVariables false
set_option linter.unusedSimpArgs false
open Go.RowKit

/-- Bytes that can be read, with their room. -/
structure BytAt (w : World) (ao : Option Addr) (n cap : Nat) (l : List Int) : Prop where
  len : n = l.length
  row : BRow w (.slice ao l.length cap) l
  le : n ≤ cap
  max : cap ≤ 9223372036854775807
theorem BytAt.keep {w w' : World} {ao : Option Addr} {n cap : Nat} {l : List Int} (h : BytAt w ao n cap l) (t : Touch w w' []) : BytAt w' ao n cap l := ⟨h.len, SRow.keep h.row t (by simp), h.le, h.max⟩
theorem BytAt.take {w : World} {ao : Option Addr} {n cap : Nat} {l : List Int} (h : BytAt w ao n cap l) (m : Nat) (hm : m ≤ n) : BytAt w ao m cap (l.take m) := by
  have hl : (l.take m).length = m := by rw [List.length_take, ← h.len]; omega
  refine ⟨hl.symm, ?_, by have := h.le; omega, h.max⟩
  have h2 : BRow w (.slice ao (l.take m ++ l.drop m).length cap) (l.take m ++ l.drop m) := by rw [List.take_append_drop]; exact h.row
  exact brow_take h2 cap
theorem byt_at {w : World} {B : Nat} {v : Value} {l : List Int} (h : bytOwn w B v l) : ∃ ao cap, v = .slice ao l.length cap ∧ BytAt w ao l.length cap l := by
  have hr : BRow w v l := srow_of (cells := ucell) (n := 1) (fun _ => rfl) (by rw [flat_one]; exact h)
  rcases h.2 with ⟨e5, h5⟩ | ⟨g5, cap5, cur5, e5, hb5, _, hn5, hm5, _⟩
  · subst e5
    exact ⟨none, 0, by rw [h5], ⟨rfl, by rw [h5]; exact hr, by omega, by omega⟩⟩
  · subst e5
    exact ⟨_, cap5, rfl, ⟨rfl, hr, hn5, by unfold maxLen at hm5; omega⟩⟩

/-- What Encode of one comes to: r: is it right? its n bytes l. -/
def OnePost (W : World) (r : Bool) (n : Nat) (l : List Int) (e : Ending) (w' : World) : Prop :=
  (r = true ∧ ∃ ao cap, e = .returned (.tuple #[.slice ao n cap, .int .i64 0]) ∧ BytAt w' ao n cap l ∧ Touch W w' []) ∨ (r = false ∧ e = .returned (.tuple #[.slice none 0 0, .int .i64 3]) ∧ Touch W w' [])
end Go.Proofs.Ytjbbjbbkembknaa
/-
  A slice that came in: its length, and how far it may go.
-/
namespace Go.Proofs.Ytjbbjbbkembknaa
set_option linter.unusedVariables false
set_option linter.unusedSimpArgs false
open Go.ChangeShapes Go.WideShapes Go.ChangeAt Go.RowKit Go.Joins Go.Deep

theorem caps_of_trod {H : Type} {enc : TypeId × Value → H} {W : World} {T E : TypeId} (hu : Try.prog.underlying T = some (.slice E))
    {ao : Option Addr} {len cap : Nat} {d : DataW H} {p : List MemPlace} (h : DataW.Trod enc Try.prog W 0 (fun _ => true) true T (.slice ao len cap) d p) : len ≤ cap ∧ cap ≤ maxLen := by
  obtain ⟨fuel, hf⟩ := h
  rcases open_slice hu hf with ⟨hcs, _⟩ | ⟨a, len', cap', m, n', D, Pl, hcs, _, hl, hm, hmm, _, hx⟩
  · simp [Value.cells] at hcs
    obtain ⟨rfl, rfl, rfl⟩ := hcs
    exact ⟨Nat.le_refl _, by unfold maxLen; omega⟩
  · simp [Value.cells] at hcs
    obtain ⟨rfl, rfl, rfl⟩ := hcs
    exact ⟨hl, hm⟩

/-- The first ones of a row. -/
theorem SRow.first {α : Type} {n : Nat} {cells : α → List Value} {w : World} {ao : Option Addr} {cap : Nat} {l : List α} (h : SRow n cells w (.slice ao l.length cap) l) (m : Nat) (hm : m ≤ l.length) : SRow n cells w (.slice ao (l.take m).length cap) (l.take m) := by
  obtain ⟨ao', cap', e, h1⟩ := h
  simp only [Value.slice.injEq, true_and] at e
  obtain ⟨rfl, rfl⟩ := e
  refine ⟨ao, cap, rfl, fun hne => ?_⟩
  obtain ⟨g, off, rfl, hlt, hc⟩ := h1 (by intro e; rw [e] at hne; simp at hne)
  exact ⟨g, off, rfl, hlt, fun k hk j hj => by rw [List.getElem_take]; exact hc k (by simp at hk; omega) j hj⟩

end Go.Proofs.Ytjbbjbbkembknaa
/-
  few OF THE STATEMENTS ON code, BY ITS CONTRACT; INSTRUCTIONS, ONE ROW BEHIND THE OTHER.
-/
namespace Go.Proofs.Ytjbbjbbkembknaa
set_option linter.unusedVariables false
set_option linter.unusedSimpArgs false
open Go.RowKit

/-- Instructions that came in: they can be read. -/
structure InsIn (w : World) (ao : Option Addr) (n cap : Nat) (l : List InsD) : Prop where
  len : n = l.length
  row : InsRowC w (.slice ao l.length cap) l
  le : n ≤ cap
  max : cap ≤ 9223372036854775807
  wf : ∀ i ∈ l, i.Wf
theorem InsIn.keep {w w' : World} {ao : Option Addr} {n cap : Nat} {l : List InsD} (h : InsIn w ao n cap l) (t : Touch w w' []) : InsIn w' ao n cap l := ⟨h.len, SRow.keep h.row t (by simp), h.le, h.max, h.wf⟩
theorem InsIn.first {w : World} {ao : Option Addr} {n cap : Nat} {l : List InsD} (h : InsIn w ao n cap l) (m : Nat) (hm : m ≤ n) : InsIn w ao m cap (l.take m) := by
  have hl : (l.take m).length = m := by rw [List.length_take, ← h.len]; omega
  refine ⟨hl.symm, SRow.first h.row m (by rw [← h.len]; exact hm), by have := h.le; omega, h.max, fun i hi => h.wf i (List.mem_of_mem_take hi)⟩

/-- append of instructions that can be read to a row of one's own. -/
theorem ins_app {w : World} {B : Nat} {v : Value} {xs : List InsD} (h : insOwn w B v xs) (hl : xs.length ≤ 1000) (hB : B ≤ w.heap.size) {ao : Option Addr} {n cap : Nat} {l : List InsD} (hr : InsIn w ao n cap l) (hn : n ≤ 1000) (ty : TypeId) :
    ∃ ao' cap' w', (Builtin.append_ #[22, 22] ty #[v, .slice ao n cap]).run Try.prog w = .ok (.slice ao' (xs.length + n) cap') w' ∧ insOwn w' B (.slice ao' (xs.length + n) cap') (xs ++ l) ∧ Touch w w' v.ownBlock.toList := by
  obtain ⟨i0, hi, hz0, hz1, hz2⟩ := info_parts' Try.info_ins
  have hlen := hr.len
  subst hlen
  obtain ⟨v', w', h1, h2, h3, h4⟩ := run_app (P := Try.prog) (cells := InsD.cells) 22 ty 58 i0 _ 3 24 Try.underlying22 hi hz0 hz1 hz2 rfl (by decide) (fun _ => rfl) ins_one h (l := l) hr.row (by omega) (by decide) hB
  have h2' : insOwn w' B v' (xs ++ l) := by
    show w'.ownsRow _ _ _ _ _ _
    rw [List.length_append, List.flatMap_append]
    exact h2
  obtain ⟨ao', cap', rfl⟩ := owns_slice h2
  exact ⟨ao', cap', w', h1, h2', (Touch.refl w _).grown h3 (fun k hk => .inl (by simp [hk]))⟩
theorem ins_empty (w : World) : insOwn (w.alloc (.cells #[] 58)) w.heap.size (.slice (some ⟨w.heap.size, 0, none⟩) 0 0) [] := empty_row w 58 3

theorem insIn_of {w : World} {B : Nat} {v : Value} {l : List InsD} (h : insOwn w B v l) (hw : ∀ i ∈ l, i.Wf) : ∃ ao cap, v = .slice ao l.length cap ∧ InsIn w ao l.length cap l := by
  have hr : InsRowC w v l := srow_of (cells := InsD.cells) (n := 3) (fun _ => rfl) h
  rcases h.2 with ⟨e5, h5⟩ | ⟨g5, cap5, cur5, e5, hb5, _, hn5, hm5, _⟩
  · subst e5
    exact ⟨none, 0, by rw [h5], ⟨rfl, by rw [h5]; exact hr, by omega, by omega, hw⟩⟩
  · subst e5
    exact ⟨_, cap5, rfl, ⟨rfl, hr, hn5, by unfold maxLen at hm5; omega, hw⟩⟩

/-- What Encode comes to, in the same words: r: are they right? their bytes. -/
def EncP (w : World) (r : Bool) (n : Nat) (l : List Int) (e : Ending) (w' : World) : Prop :=
  (r = true ∧ ∃ ao cap, e = .returned (.tuple #[.slice ao n cap, .int .i64 0]) ∧ BytAt w' ao n cap l ∧ Touch w w' []) ∨ (r = false ∧ e = .returned (.tuple #[.slice none 0 0, .int .i64 3]) ∧ Touch w w' [])
theorem encL_append (l m : List InsD) : encL (l ++ m) = encL l ++ encL m := by unfold encL; rw [List.flatMap_append]
theorem strOf_append (a b : List Int) : strOfNums (a ++ b) = strOfNums a ++ strOfNums b := by
  apply ba_ext
  rw [strOfNums_data]
  simp [strOfNums]

end Go.Proofs.Ytjbbjbbkembknaa
/-
  THE DOCUMENT's Same OF INSTRUCTIONS THAT ARE THE SAME; AN ARGUMENT OF BYTES.
-/
namespace Go.Proofs.Ytjbbjbbkembknaa
set_option linter.unusedVariables false
set_option linter.unusedSimpArgs false
open Go.RowKit
attribute [local go_sem] Oper.semAt_some

end Go.Proofs.Ytjbbjbbkembknaa
/-
  package locks AND THE DOCUMENT's: THE SMALL CALLS, BY THEIR CONTRACTS.
-/
namespace Go.Proofs.Ytjbbjbbkembknaa
set_option linter.unusedVariables false
set_option linter.unusedSimpArgs false
open Go.RowKit
attribute [local go_sem] Oper.semAt_some

/-- A number as a value. -/
def numV (n : Int) : Int := ((ofB (floatOfInt .f64 n) : Nat) : Int)
def insP (n : Int) : InsD := ⟨1, 0, numV n⟩
def insO (o a : Int) : InsD := ⟨o, a, 0⟩
theorem insO_v (o a : Int) : (insO o a).v = .agg #[.int .u8 o, .int .i64 a, .int .u64 0] := rfl
theorem insP_v (n : Int) : (insP n).v = .agg #[.int .u8 1, .int .i64 0, .int .u64 (numV n)] := rfl

theorem lget_any (t : Int) (w : World) : Calls Try.prog 30 #[.int .i64 t] w fun e w' => e = .returned (.agg #[.int .u8 4, .int .i64 t, .int .u64 0]) ∧ Touch w w' [] := by
  go_enter Try.func30, Try.ntmps30
  go_wp2
  (try simp only [Exit.inBlock, Exit.then])
  refine bodyPost_ret (v := .agg #[.int .u8 4, .int .i64 t, .int .u64 0]) ?_ rfl ⟨rfl, ?_⟩
  · rw [res_cellC rfl]
    go_simp
  · exact (Touch.refl _ _).alloc _

theorem lput_any (t : Int) (w : World) : Calls Try.prog 34 #[.int .i64 t] w fun e w' => e = .returned (.agg #[.int .u8 5, .int .i64 t, .int .u64 0]) ∧ Touch w w' [] := by
  go_enter Try.func34, Try.ntmps34
  go_wp2
  (try simp only [Exit.inBlock, Exit.then])
  refine bodyPost_ret (v := .agg #[.int .u8 5, .int .i64 t, .int .u64 0]) ?_ rfl ⟨rfl, ?_⟩
  · rw [res_cellC rfl]
    go_simp
  · exact (Touch.refl _ _).alloc _

theorem lto_any (o t : Int) (w : World) : Calls Try.prog 31 #[.int .u8 o, .int .i64 t] w fun e w' => e = .returned (.agg #[.int .u8 o, .int .i64 t, .int .u64 0]) ∧ Touch w w' [] := by
  go_enter Try.func31, Try.ntmps31
  go_wp2
  (try simp only [Exit.inBlock, Exit.then])
  refine bodyPost_ret (v := .agg #[.int .u8 o, .int .i64 t, .int .u64 0]) ?_ rfl ⟨rfl, ?_⟩
  · rw [res_cellC rfl]
    go_simp
  · exact (Touch.refl _ _).alloc _

theorem lop_any (o : Int) (w : World) : Calls Try.prog 32 #[.int .u8 o] w fun e w' => e = .returned (.agg #[.int .u8 o, .int .i64 0, .int .u64 0]) ∧ Touch w w' [] := by
  go_enter Try.func32, Try.ntmps32
  go_wp2
  (try simp only [Exit.inBlock, Exit.then])
  refine bodyPost_ret (v := .agg #[.int .u8 o, .int .i64 0, .int .u64 0]) ?_ rfl ⟨rfl, ?_⟩
  · rw [res_cellC rfl]
    go_simp
  · exact (Touch.refl _ _).alloc _

theorem lrow_any (v : Value) (w : World) : Calls Try.prog 29 #[v] w fun e w' => e = .returned v ∧ w = w' := by
  go_enter Try.func29, Try.ntmps29
  go_wp2
  go_ret
  exact ⟨rfl, rfl⟩

set_option maxRecDepth 100000 in
theorem lpush_any (n : Int) (h0 : -9007199254740992 ≤ n) (h1 : n ≤ 9007199254740992) (w : World) : Calls Try.prog 33 #[.int .i64 n] w fun e w' => e = .returned (.agg #[.int .u8 1, .int .i64 0, .int .u64 (numV n)]) ∧ Touch w w' [] := by
  have HC : Hid (∀ W, HidC Try.prog 49 #[.int .i64 n] W fun e w' => e = .returned (.tuple #[.int .u64 (numV n), .bool true]) ∧ Touch W w' []) := fun W => ⟨int_ok n h0 h1 _⟩
  have HB : Hid (BoxI (w.alloc (.cells #[.int .u8 0, .int .i64 0, .int .u64 0] 58)) w.heap.size 0 0 0) := BoxI.new w 0 0 0
  have HT : Hid (Touch w (w.alloc (.cells #[.int .u8 0, .int .i64 0, .int .u64 0] 58)) []) := (Touch.refl w []).alloc _
  generalize numV n = x at *
  clear h0 h1
  go_enter Try.func33, Try.ntmps33
  go_wp2_with fail
  generalize (w.alloc (.cells #[.int .u8 0, .int .i64 0, .int .u64 0] 58)) = Q at *
  refine (HC.out _).out.mono ?_
  rintro e w1 ⟨rfl, t1⟩
  have hb1 := HB.out.touch t1 (by simp)
  obtain ⟨z0, z1, z2⟩ := hb1.cells
  have f0 := hb1.fr 0
  have f1 := hb1.fr 1
  have f2 := hb1.fr 2
  have HB1 : Hid _ := hb1
  have HT1 : Hid _ := HT.out.trans t1 (by simp)
  clear t1 hb1
  go_wp2
  have hb2 := ((HB1.out.set0 1).set1 0).set2 x
  obtain ⟨k0, k1, k2⟩ := hb2.cells
  refine bodyPost_ret (v := .agg #[.int .u8 1, .int .i64 0, .int .u64 x]) ?_ rfl ⟨rfl, ?_⟩
  · rw [res_cellC rfl]
    simp [go_sem, k0, k1, k2]
  · exact HT1.out.trans ((((Touch.refl w1 [w.heap.size]).setCell (.inl (by simp)) _).setCell (.inl (by simp)) _).setCell (.inl (by simp)) _) (fun k hk => .inr (by simp at hk; omega))

def goesP (o : Int) : Bool := decide (o = 21) || (decide (o = 19) || decide (o = 20))

theorem lgoes_any (o : Int) (w : World) : Calls Try.prog 48 #[.int .u8 o] w fun e w' => e = .returned (.bool (goesP o)) ∧ w = w' := by
  unfold goesP
  by_cases h1 : o = 21 <;> by_cases h2 : o = 19 <;> by_cases h3 : o = 20
  all_goals
    go_enter Try.func48, Try.ntmps48
    go_wp2
    go_ret
    refine ⟨?_, rfl⟩
    congr 2
    simp_all

theorem lplace_any (n : Int) (w : World) : Calls Try.prog 25 #[.int .i64 n] w fun e w' => e = .returned (.bool (decide (0 ≤ n) && decide (n ≤ 64))) ∧ w = w' := by
  by_cases h1 : 0 ≤ n <;> by_cases h2 : n ≤ 64
  all_goals
    go_enter Try.func25, Try.ntmps25
    go_wp2
    go_ret
    refine ⟨?_, rfl⟩
    congr 2
    simp_all

theorem ltvar_any (n : Int) (w : World) : Calls Try.prog 26 #[.int .i64 n] w fun e w' => e = .returned (.bool (decide (0 ≤ n) && decide (n < 12))) ∧ w = w' := by
  by_cases h1 : 0 ≤ n <;> by_cases h2 : n < 12
  all_goals
    go_enter Try.func26, Try.ntmps26
    go_wp2
    go_ret
    refine ⟨?_, rfl⟩
    congr 2
    simp_all

theorem lthread_any (n : Int) (w : World) : Calls Try.prog 27 #[.int .i64 n] w fun e w' => e = .returned (.bool (decide (0 ≤ n) && decide (n < 4))) ∧ w = w' := by
  by_cases h1 : 0 ≤ n <;> by_cases h2 : n < 4
  all_goals
    go_enter Try.func27, Try.ntmps27
    go_wp2
    go_ret
    refine ⟨?_, rfl⟩
    congr 2
    simp_all

def mayP (a t w : Int) : Bool := decide (0 ≤ a) && decide (a ≤ 64) && (decide (0 ≤ t) && decide (t < 12)) && (decide (0 ≤ w) && decide (w < 4))

end Go.Proofs.Ytjbbjbbkembknaa
/-
  package locks: joined BY ITS CONTRACT: rows of instructions, one behind the other.
-/
namespace Go.Proofs.Ytjbbjbbkembknaa
set_option linter.unusedVariables false
set_option linter.unusedSimpArgs false
open Go.RowKit
attribute [local go_sem] Oper.semAt_some

/-- append to a row whose room is cut to its length: a new row. -/
theorem ins_join {w : World} {B g c0 : Nat} {xs : List InsD} (h : insOwn w B (.slice (some ⟨g, 0, none⟩) xs.length c0) xs) (hl : xs.length ≤ 1000) {ao : Option Addr} {cap : Nat} {l : List InsD} (hr : InsIn w ao l.length cap l) (hn : l.length ≤ 1000) (hne : l ≠ []) (ty : TypeId) :
    ∃ cap' w', (Builtin.append_ #[22, 22] ty #[.slice (some ⟨g, 0, none⟩) xs.length xs.length, .slice ao l.length cap]).run Try.prog w = .ok (.slice (some ⟨w.heap.size, 0, none⟩) (xs.length + l.length) cap') w' ∧ insOwn w' w.heap.size (.slice (some ⟨w.heap.size, 0, none⟩) (xs.length + l.length) cap') (xs ++ l) ∧ Touch w w' [] := by
  obtain ⟨i0, hi, hz0, hz1, hz2⟩ := info_parts' Try.info_ins
  have hpos : 0 < l.length := List.length_pos_iff.2 hne
  have hsr := hr.row
  obtain ⟨g1, off, rfl, _, _⟩ := hsr.at 0 hpos
  have hnews : ∀ j u, (l.flatMap InsD.cells)[j]? = some u → w.cell? ((⟨g1, off, none⟩ : Addr).add j) = some u := by
    intro j u hu
    have hj : j < l.length * 3 := by
      have := (List.getElem?_eq_some_iff.1 hu).1
      rwa [flat_len (cells := InsD.cells) (n := 3) (fun _ => rfl)] at this
    have hk : j / 3 < l.length := Nat.div_lt_of_lt_mul (by omega)
    have hj2 : j % 3 < 3 := Nat.mod_lt _ (by decide)
    obtain ⟨g', off', e, _, hcc⟩ := hsr.at (j / 3) hk
    cases e
    have hjj : j = j / 3 * 3 + j % 3 := by omega
    have h2 := flat_at (cells := InsD.cells) (n := 3) (fun _ => rfl) l (j / 3) hk (j % 3) hj2
    rw [← hjj, hu] at h2
    have h3 := hcc (j % 3) hj2
    rw [Nat.add_assoc, ← hjj, ← h2] at h3
    rw [Addr.add_lit]
    exact h3
  have hlx : (xs.flatMap InsD.cells).length = xs.length * i0.size := by rw [hz1, flat_len (n := 3) (fun _ => rfl)]
  have hll : (l.flatMap InsD.cells).length = l.length * i0.size := by rw [hz1, flat_len (n := 3) (fun _ => rfl)]
  have hr2 := run_append_grow (P := Try.prog) w 22 ty 58 i0 _ Try.underlying22 hi hz0 ⟨g, 0, none⟩ xs.length xs.length (xs.flatMap InsD.cells) hlx (h.cells (g := g) rfl)
    ⟨g1, off, none⟩ l.length cap (l.flatMap InsD.cells) hll hnews (by omega) (by omega) (growslice_fits (by omega) (by rw [hz2]; omega))
  refine ⟨_, _, hr2, ⟨?_, .inr ⟨w.heap.size, _, _, by rw [List.length_append], Nat.le_refl _, heap_alloc_new w.drew _, ?_, ?_, ?_, ?_⟩⟩, (Touch.refl w []).drew.alloc _⟩
  · rw [flat_len (n := 3) (fun _ => rfl)]
  · rw [List.length_append]; exact grownCap_ge w _ _ _
  · exact grownCap_le_maxLen w _ _ _ (by unfold maxLen; omega)
  · have hge := grownCap_ge w (xs.length + l.length) xs.length 58
    generalize grownCap w (xs.length + l.length) xs.length 58 = gc at *
    rw [Array.size_append, Array.size_append, List.size_toArray, List.size_toArray, size_zeroCells, hlx, hll, hz1]
    have e3 : (Value.agg #[.int .u8 0, .int .i64 0, .int .u64 0]).cells.size = 3 := by rfl
    rw [e3]
    omega
  · simp only [Array.toList_append, List.append_assoc]
    rw [← List.append_assoc, ← List.flatMap_append]
    have : (xs ++ l).length * 3 = ((xs ++ l).flatMap InsD.cells).length := by rw [flat_len (n := 3) (fun _ => rfl)]
    rw [this]
    exact List.take_left

/-- Rows of instructions that can be read. -/
structure RowsAt (w : World) (g : Nat) (L : List (List InsD)) : Prop where
  row : ∀ k (hk : k < L.length), ∃ ao cap, w.cell? ⟨g, k, none⟩ = some (.slice ao L[k].length cap) ∧ InsIn w ao L[k].length cap L[k]
  ne : ∀ l ∈ L, l ≠ []
theorem RowsAt.lt {w : World} {g : Nat} {L : List (List InsD)} (h : RowsAt w g L) (k : Nat) (hk : k < L.length) : g < w.heap.size := by
  obtain ⟨_, _, hc, _⟩ := h.row k hk
  exact World.block_lt_of_cell? _ _ hc
theorem RowsAt.keep {w w' : World} {g : Nat} {L : List (List InsD)} (h : RowsAt w g L) (t : Touch w w' []) : RowsAt w' g L := by
  refine ⟨fun k hk => ?_, h.ne⟩
  obtain ⟨ao, cap, hc, hi⟩ := h.row k hk
  exact ⟨ao, cap, (t.cell (p := ⟨g, k, none⟩) (h.lt k hk) (by simp)).trans hc, hi.keep t⟩

theorem flat_take {L : List (List InsD)} (k : Nat) (hk : k < L.length) : (L.take (k + 1)).flatten = (L.take k).flatten ++ L[k] := by
  rw [List.take_succ_eq_append_getElem hk, List.flatten_append]
  simp
theorem flat_le {L : List (List InsD)} (k : Nat) : (L.take k).flatten.length ≤ L.flatten.length := by
  have : L.flatten = (L.take k).flatten ++ (L.drop k).flatten := by rw [← List.flatten_append, List.take_append_drop]
  rw [this, List.length_append]
  omega
theorem row_le {L : List (List InsD)} (k : Nat) (hk : k < L.length) : L[k].length ≤ L.flatten.length := by
  have h1 := flat_take k hk
  have h2 := flat_le (L := L) (k + 1)
  rw [h1, List.length_append] at h2
  omega

set_option maxRecDepth 100000 in
theorem joined_any {w : World} {g cap : Nat} {L : List (List InsD)} (h : RowsAt w g L) (hf : L.flatten.length ≤ 1000) (hL : L.length ≤ 1000) :
    Calls Try.prog 47 #[.slice (some ⟨g, 0, none⟩) L.length cap] w fun e w' => ∃ v, e = .returned v ∧ insOwn w' w.heap.size v L.flatten ∧ Touch w w' [] := by
  have HR : Hid _ := h
  have HF : Hid _ := hf
  obtain ⟨N, hN⟩ : ∃ N, N = L.length := ⟨_, rfl⟩
  have HN : Hid _ := hN
  rw [← hN] at hL ⊢
  clear h hf hN
  go_enter Try.func47, Try.ntmps47
  go_wp2_with fail
  go_loopw [3, 8] (fun v i wr => ∃ k : Nat, i = .int .i64 k ∧ k ≤ N ∧ insOwn wr w.heap.size v (L.take k).flatten ∧ Touch w wr []) (fun _ i _ => N - (intOf i).toNat)
  case atStart => exact ⟨0, rfl, Nat.zero_le _, World.ownsRow_nil _ _ _ _, Touch.refl _ _⟩
  case round =>
    obtain ⟨k, rfl, hk, hrow, hT⟩ := hrel
    have HT : Hid _ := hT
    have hsz := hT.size
    by_cases hlt : k < N
    · have h1 : (k : Int) < N := by omega
      have h0 : (0 : Int) ≤ k := by omega
      have hkl : k < L.length := by rw [← HN.out]; exact hlt
      obtain ⟨ao, c1, hc, hi⟩ := (HR.out.keep hT).row k hkl
      have hne : L[k] ≠ [] := HR.out.ne _ (List.getElem_mem hkl)
      have HK : Hid _ := flat_take k hkl
      have hle1 : (L.take k).flatten.length ≤ 1000 := Nat.le_trans (flat_le k) HF.out
      have hle2 : L[k].length ≤ 1000 := Nat.le_trans (row_le k hkl) HF.out
      have HROW : Hid _ := hrow
      rcases hrow.2 with ⟨rfl, hz⟩ | ⟨g2, c2, cur, rfl, hb, hcur, hnc, hmx, _, _⟩
      · have hx : (L.take k).flatten = [] := List.eq_nil_of_length_eq_zero hz
        obtain ⟨a3, c3, w3, r3, o3, t3⟩ := ins_app hrow hle1 hsz hi hle2 22
        have HO : Hid (insOwn w3 w.heap.size (.slice a3 L[k].length c3) (L.take (k + 1)).flatten) := by
          show insOwn _ _ _ _
          rw [HK.out]
          simpa [hx] using o3
        simp only [hx, List.length_nil, Nat.zero_add] at r3
        have HT3 : Hid (Touch w w3 []) := hT.trans t3 (by simp [Value.ownBlock])
        generalize L[k].length = n1 at *
        clear hrow o3 t3 hT hi hsz hz hx hle1 hle2 hne
        go_wp2_with (at_builtin; refine Lib.wpList_append_run _ rfl (.tmp 17) (.tmp 18) _ _ rfl _ _ rfl rfl _ _ r3 ?_)
        go_roundw
        case rel => exact ⟨k + 1, by go_num, by omega, HO.out, HT3.out⟩
        case measure => simp [intOf]; omega
      · obtain ⟨c3, w3, r3, o3, t3⟩ := ins_join hrow hle1 hi hle2 hne 22
        have HO : Hid (insOwn w3 w.heap.size (.slice (some ⟨wr.heap.size, 0, none⟩) ((L.take k).flatten.length + L[k].length) c3) (L.take (k + 1)).flatten) := by
          show insOwn _ _ _ _
          rw [HK.out]
          refine ⟨o3.1, ?_⟩
          rcases o3.2 with ⟨e, _⟩ | ⟨g', cap', cur', e, hb', r⟩
          · cases e
          · refine .inr ⟨g', cap', cur', ?_, by omega, r⟩
            rw [← e]
        have HT3 : Hid (Touch w w3 []) := hT.trans t3 (by simp)
        generalize L[k].length = n1 at *
        generalize (L.take k).flatten.length = n2 at *
        have q1 : (n2 : Int) ≤ c2 := by omega
        have q0 : (0 : Int) ≤ n2 := by omega
        clear hrow o3 t3 hT hi hsz hle1 hle2 hne hcur hmx hb
        go_wp2_with (at_builtin; refine Lib.wpList_append_run _ rfl (.tmp 17) (.tmp 18) _ _ rfl _ _ rfl rfl _ _ r3 ?_)
        go_roundw
        case rel => exact ⟨k + 1, by go_num, by omega, HO.out, HT3.out⟩
        case measure => simp [intOf]; omega
    · have h1 : ¬ (k : Int) < N := by omega
      have hkN : k = L.length := by rw [← HN.out]; omega
      rw [hkN, List.take_length] at hrow
      have HO : Hid _ := hrow
      clear hrow hT
      go_wp2
      go_ret
      exact ⟨_, rfl, HO.out, HT.out⟩

end Go.Proofs.Ytjbbjbbkembknaa
/-
  package locks: block BY ITS CONTRACT.
-/
namespace Go.Proofs.Ytjbbjbbkembknaa
set_option linter.unusedVariables false
set_option linter.unusedSimpArgs false
open Go.RowKit
attribute [local go_sem] Oper.semAt_some

/-- An instruction from a place on. -/
def shI (a : Int) (i : InsD) : InsD := if goesP i.op then ⟨i.op, i.arg + a, i.val⟩ else i
def mixL (a : Int) (M : List InsD) (k : Nat) : List InsD := (M.take k).map (shI a) ++ M.drop k
theorem mix_len (a : Int) (M : List InsD) (k : Nat) (hk : k ≤ M.length) : (mixL a M k).length = M.length := by
  unfold mixL; rw [List.length_append, List.length_map, List.length_take, List.length_drop]; omega
theorem mix_zero (a : Int) (M : List InsD) : mixL a M 0 = M := by unfold mixL; simp
theorem mix_all (a : Int) (M : List InsD) : mixL a M M.length = M.map (shI a) := by unfold mixL; simp
theorem mix_get (a : Int) (M : List InsD) (k : Nat) (hk : k < M.length) : (mixL a M k)[k]'(by rw [mix_len a M k (by omega)]; exact hk) = M[k] := by
  unfold mixL
  rw [List.getElem_append_right (by rw [List.length_map, List.length_take]; omega)]
  simp [List.length_take, Nat.min_eq_left (Nat.le_of_lt hk)]
theorem mix_succ (a : Int) (M : List InsD) (k : Nat) (hk : k < M.length) : mixL a M (k + 1) = (mixL a M k).set k (shI a M[k]) := by
  unfold mixL
  rw [List.take_succ_eq_append_getElem hk, List.map_append, List.append_assoc]
  have hl : ((M.take k).map (shI a)).length = k := by rw [List.length_map, List.length_take]; omega
  rw [List.set_append_right _ _ (by omega), hl, Nat.sub_self]
  congr 1
  rw [List.drop_eq_getElem_cons hk, List.set_cons_zero]
  rfl
theorem mix_same (a : Int) (M : List InsD) (k : Nat) (hk : k < M.length) (hg : goesP M[k].op = false) : mixL a M (k + 1) = mixL a M k := by
  rw [mix_succ a M k hk]
  have hs : shI a M[k] = M[k] := by unfold shI; rw [hg]; simp
  rw [hs]
  have := mix_get a M k hk
  conv => lhs; rw [← this]
  exact List.set_getElem_self _

theorem lk_set {w : World} {B g cap n m : Nat} {e : TypeId} {xs : List Value} (h : w.ownsRow B e m (.slice (some ⟨g, 0, none⟩) n cap) n xs) (i : Nat) (u : Value) :
    (w.setCell ⟨g, i, none⟩ u).ownsRow B e m (.slice (some ⟨g, 0, none⟩) n cap) n (xs.set i u) := by
  refine ⟨by have := h.1; simpa using this, .inr ?_⟩
  rcases h.2 with ⟨e, _⟩ | ⟨g', cap', cur, e, hB, hg, h1, h2, h3, h4⟩
  · simp at e
  · simp only [Value.slice.injEq, Option.some.injEq, Addr.mk.injEq] at e
    obtain ⟨⟨rfl, _⟩, _, rfl⟩ := e
    refine ⟨g, cap, _, rfl, hB, heap_setCell_same _ _ _ _ _ _ hg, h1, h2, by simpa using h3, ?_⟩
    rw [← h4]
    simp only [Array.toList_setIfInBounds]
    rw [List.take_set]
theorem flat_set (L : List InsD) : ∀ (k : Nat) (hk : k < L.length) (x : Int), (L.flatMap InsD.cells).set (k * 3 + 1) (.int .i64 x) = (L.set k ⟨L[k].op, x, L[k].val⟩).flatMap InsD.cells := by
  induction L with
  | nil => intro k hk; simp at hk
  | cons i L ih =>
    intro k hk x
    cases k with
    | zero => simp [InsD.cells]
    | succ k =>
      have h3 : (k + 1) * 3 + 1 = (k * 3 + 1) + 1 + 1 + 1 := by omega
      have := ih k (by simpa using hk) x
      rw [h3]
      simp [InsD.cells] at this ⊢
      exact this

/-- What the blocks come to: the error, or the instructions. -/
def LkP (w : World) (er : Int) (L : List InsD) (e : Ending) (w' : World) : Prop :=
  (er = 0 ∧ ∃ ao cap, e = .returned (.tuple #[.slice ao L.length cap, .int .i64 0]) ∧ InsIn w' ao L.length cap L ∧ Touch w w' []) ∨ (er ≠ 0 ∧ e = .returned (.tuple #[.slice none 0 0, .int .i64 er]) ∧ Touch w w' [])

/-- A block around a body. -/
def bodyL (b : List InsD) : List InsD := insO 21 (1 + b.length) :: (b ++ [insO 22 0])
def blkL (a : Int) (b : List InsD) : List InsD := (bodyL b).map (shI a)
def blkE (a : Int) (b : List InsD) : Int := if a + ((bodyL b).length : Nat) > 64 then 4 else 0

theorem ins_one_in (w : World) (x : InsD) (hx : x.Wf) : InsIn (w.alloc (.cells #[.int .u8 x.op, .int .i64 x.arg, .int .u64 x.val] 58)) (some ⟨w.heap.size, 0, none⟩) 1 1 [x] :=
  ⟨rfl, ins_new w x, Nat.le_refl _, by omega, fun i hi => by rw [List.mem_singleton.1 hi]; exact hx⟩
theorem three_rows {w1 W2 W3 : World} {a1 : Option Addr} {c1 : Nat} {b : List InsD} (hI : InsIn w1 a1 b.length c1 b) (hne : b ≠ []) (x y : InsD) (hx : x.Wf) (hy : y.Wf) (t2 : Touch w1 W2 []) (t3 : Touch (W2.alloc (.cells #[.int .u8 x.op, .int .i64 x.arg, .int .u64 x.val] 58)) W3 []) (ty : TypeId) :
    RowsAt ((W3.alloc (.cells #[.int .u8 y.op, .int .i64 y.arg, .int .u64 y.val] 58)).alloc (.cells #[.slice (some ⟨W2.heap.size, 0, none⟩) 1 1, .slice a1 b.length c1, .slice (some ⟨W3.heap.size, 0, none⟩) 1 1] ty)) (W3.heap.size + 1) [[x], b, [y]] := by
  have tA : Touch W2 (W2.alloc (.cells #[.int .u8 x.op, .int .i64 x.arg, .int .u64 x.val] 58)) [] := (Touch.refl _ _).alloc _
  have tB : Touch W3 (W3.alloc (.cells #[.int .u8 y.op, .int .i64 y.arg, .int .u64 y.val] 58)) [] := (Touch.refl _ _).alloc _
  have tC : ∀ o, Touch (W3.alloc (.cells #[.int .u8 y.op, .int .i64 y.arg, .int .u64 y.val] 58)) ((W3.alloc (.cells #[.int .u8 y.op, .int .i64 y.arg, .int .u64 y.val] 58)).alloc o) [] := fun o => (Touch.refl _ _).alloc _
  have hh : (W3.alloc (.cells #[.int .u8 y.op, .int .i64 y.arg, .int .u64 y.val] 58)).heap.size = W3.heap.size + 1 := by simp
  have hn := heap_alloc_new (W3.alloc (.cells #[.int .u8 y.op, .int .i64 y.arg, .int .u64 y.val] 58)) (.cells #[.slice (some ⟨W2.heap.size, 0, none⟩) 1 1, .slice a1 b.length c1, .slice (some ⟨W3.heap.size, 0, none⟩) 1 1] ty)
  rw [hh] at hn
  refine ⟨fun k hk => ?_, ?_⟩
  · match k, hk with
    | 0, _ => exact ⟨_, 1, by unfold World.cell?; rw [hn]; rfl, ((ins_one_in W2 x hx).keep (t3.trans tB (by simp))).keep (tC _)⟩
    | 1, _ => exact ⟨a1, c1, by unfold World.cell?; rw [hn]; rfl, (hI.keep ((t2.trans tA (by simp)).trans (t3.trans tB (by simp)) (by simp))).keep (tC _)⟩
    | 2, _ => exact ⟨_, 1, by unfold World.cell?; rw [hn]; rfl, (ins_one_in W3 y hy).keep (tC _)⟩
  · intro l hl
    simp only [List.mem_cons, List.not_mem_nil, or_false] at hl
    rcases hl with rfl | rfl | rfl
    · simp
    · exact hne
    · simp

theorem shI_wf {a : Int} (ha0 : 0 ≤ a) (ha1 : a ≤ 64) {i : InsD} (hi : i.Wf) (hb : 0 ≤ i.arg ∧ i.arg ≤ 1000) : (shI a i).Wf := by
  unfold shI
  split
  · exact ⟨hi.op, ⟨by show -9223372036854775808 ≤ i.arg + a; omega, by show i.arg + a ≤ 9223372036854775807; omega⟩, hi.val⟩
  · exact hi
theorem insO_wf {o a : Int} (h0 : 0 ≤ o) (h1 : o ≤ 255) (h2 : 0 ≤ a) (h3 : a ≤ 1000) : (insO o a).Wf := ⟨⟨h0, h1⟩, ⟨by show -9223372036854775808 ≤ a; omega, by show a ≤ 9223372036854775807; omega⟩, by unfold Wf64 insO; simp⟩

set_option maxRecDepth 100000 in
set_option maxHeartbeats 1000000 in
theorem lblock_any {w : World} {a : Int} (ha0 : 0 ≤ a) (ha1 : a ≤ 64) {g cap : Nat} {L : List (List InsD)} (h : RowsAt w g L) (hf : L.flatten.length ≤ 900) (hL : L.length ≤ 1000) (hb : ∀ i ∈ L.flatten, 0 ≤ i.arg ∧ i.arg ≤ 1000) (hw : ∀ i ∈ L.flatten, i.Wf) (hne : L.flatten ≠ []) :
    Calls Try.prog 28 #[.int .i64 a, .slice (some ⟨g, 0, none⟩) L.length cap] w (LkP w (blkE a L.flatten) (blkL a L.flatten)) := by
  have HJ : HidC _ _ _ _ _ := ⟨joined_any (cap := cap) h (by omega) hL⟩
  generalize L.flatten = b at *
  generalize L.length = nL at *
  clear h hL
  have hbl : (bodyL b).length = b.length + 2 := by unfold bodyL; simp
  have hx : (insO 21 (1 + b.length)).Wf := insO_wf (by omega) (by omega) (by omega) (by omega)
  have hy : (insO 22 0).Wf := insO_wf (by omega) (by omega) (by omega) (by omega)
  have HWB : Hid (∀ i ∈ bodyL b, i.Wf ∧ 0 ≤ i.arg ∧ i.arg ≤ 1000) := by
    intro i hi
    unfold bodyL at hi
    rcases List.mem_cons.1 hi with rfl | hi
    · exact ⟨hx, by show (0 : Int) ≤ 1 + b.length; omega, by show (1 + b.length : Int) ≤ 1000; omega⟩
    · rcases List.mem_append.1 hi with hi | hi
      · exact ⟨hw i hi, hb i hi⟩
      · rw [List.mem_singleton.1 hi]; exact ⟨hy, by show (0 : Int) ≤ 0; omega, by show (0 : Int) ≤ 1000; omega⟩
  have HE : Hid (blkE a b = if a + ((b.length + 2 : Nat) : Int) > 64 then 4 else 0) := by show _ = _; unfold blkE; rw [hbl]
  have HBL : Hid (blkL a b = (bodyL b).map (shI a)) := rfl
  generalize blkL a b = RL at *
  generalize blkE a b = E at *
  go_enter Try.func28, Try.ntmps28
  go_wp2_with fail
  refine HJ.out.mono ?_
  rintro e w1 ⟨v1, rfl, o1, t1⟩
  obtain ⟨a1, c1, rfl, i1⟩ := insIn_of o1 hw
  clear HJ
  have HT1 : Hid _ := t1
  have HJ2 : Hid (∀ W2 W3, Touch w1 W2 [] → Touch (W2.alloc (.cells #[.int .u8 21, .int .i64 (1 + b.length), .int .u64 0] 58)) W3 [] → HidC Try.prog 47 #[.slice (some ⟨W3.heap.size + 1, 0, none⟩) 3 3] ((W3.alloc (.cells #[.int .u8 22, .int .i64 0, .int .u64 0] 58)).alloc (.cells #[.slice (some ⟨W2.heap.size, 0, none⟩) 1 1, .slice a1 b.length c1, .slice (some ⟨W3.heap.size, 0, none⟩) 1 1] 22)) (fun e w' => ∃ v, e = .returned v ∧ insOwn w' w.heap.size v (bodyL b) ∧ Touch w w' [])) := by
    intro W2 W3 t2 t3
    refine ⟨(joined_any (cap := 3) (three_rows i1 hne (insO 21 (1 + b.length)) (insO 22 0) hx hy t2 t3 22) (by simp; omega) (by simp)).mono ?_⟩
    rintro e w' ⟨v, rfl, o, t⟩
    have tA : Touch w ((W3.alloc (.cells #[.int .u8 22, .int .i64 0, .int .u64 0] 58)).alloc (.cells #[.slice (some ⟨W2.heap.size, 0, none⟩) 1 1, .slice a1 b.length c1, .slice (some ⟨W3.heap.size, 0, none⟩) 1 1] 22)) [] := (((t1.trans t2 (by simp)).alloc _).trans t3 (by simp) |>.alloc _).alloc _
    refine ⟨v, rfl, ?_, tA.trans t (by simp)⟩
    have e2 : [[insO 21 (1 + b.length)], b, [insO 22 0]].flatten = bodyL b := by unfold bodyL; simp
    rw [e2] at o
    refine ⟨o.1, ?_⟩
    rcases o.2 with hn | ⟨g', cap', cur, e, hb, r⟩
    · exact .inl hn
    · exact .inr ⟨g', cap', cur, e, Nat.le_trans tA.size hb, r⟩
  have HM : Hid (∀ k (hk : k < (bodyL b).length), (bodyL b)[k].Wf ∧ 0 ≤ (bodyL b)[k].arg ∧ (bodyL b)[k].arg ≤ 1000) := fun k hk => HWB.out _ (List.getElem_mem hk)
  generalize bodyL b = M at *
  have hm : b.length + 2 = M.length := hbl.symm
  clear i1 t1 o1 hx hy hb hw HWB hbl
  generalize b.length = n at *
  clear hne
  go_wp2_with fail
  refine (lto_any _ _ _).mono ?_
  rintro e w2 ⟨rfl, t2⟩
  go_wp2_with fail
  refine (lrow_any _ _).mono ?_
  rintro e w3 ⟨rfl, rfl⟩
  go_wp2_with fail
  refine (lop_any _ _).mono ?_
  rintro e w3 ⟨rfl, t3⟩
  go_wp2_with fail
  refine (lrow_any _ _).mono ?_
  rintro e w4 ⟨rfl, rfl⟩
  have HJ3 := HJ2.out _ _ t2 t3
  go_wp2_with fail
  refine HJ3.out.mono ?_
  rintro e w5 ⟨v5, rfl, o5, t5⟩
  obtain ⟨g5, c5, rfl, hg5, _⟩ := World.ownsRow.form o5 (by omega)
  have hL5 : M.length ≤ c5 := by
    rcases o5.2 with ⟨e, _⟩ | ⟨g', cap', cur, e, _, _, hnc, _⟩
    · cases e
    · simp only [Value.slice.injEq, true_and] at e; rw [e.2]; exact hnc
  clear HJ2 HJ3 t2 t3
  have HO5 : Hid _ := o5
  have HT5 : Hid _ := t5
  clear o5 t5
  by_cases h64 : a + ((n + 2 : Nat) : Int) > 64
  · have HE4 : Hid (E = 4) := by show _ = _; rw [HE.out, if_pos h64]
    obtain ⟨N, hN⟩ : ∃ N, N = M.length := ⟨_, rfl⟩
    have h64' : (64 : Int) < a + N := by omega
    have hw6 : IntKind.i64.wrap (a + N) = a + N := by rw [IntKind.wrap_i64]; omega
    rw [← hN]
    clear hm h64 hL5 HE hN
    go_wp2
    refine bodyPost_ret (v := .tuple #[.slice none 0 0, .int .i64 4]) (by simp [results, Try.results28, go_sem]) rfl ?_
    exact .inr ⟨by rw [HE4.out]; omega, by rw [HE4.out], HT5.out⟩
  · have HE0 : Hid (E = 0) := by show _ = _; rw [HE.out, if_neg h64]
    obtain ⟨N, hN⟩ : ∃ N, N = M.length := ⟨_, rfl⟩
    have h64' : ¬ (64 : Int) < a + N := by omega
    have HN : Hid _ := hN
    have hN64 : N ≤ 64 := by omega
    have hw6 : IntKind.i64.wrap (a + N) = a + N := by rw [IntKind.wrap_i64]; omega
    rw [← hN]
    clear hm h64 hL5 hN
    go_wp2_with fail
    go_loopw [30] (fun i wr => ∃ k : Nat, i = .int .i64 k ∧ k ≤ N ∧ insOwn wr w.heap.size (.slice (some ⟨g5, 0, none⟩) N c5) (mixL a M k) ∧ Touch w wr []) (fun i _ => N - (intOf i).toNat)
    case atStart => exact ⟨0, rfl, Nat.zero_le _, by rw [mix_zero, HN.out]; exact HO5.out, HT5.out⟩
    case round =>
      obtain ⟨k, rfl, hk, hrow, hT⟩ := hrel
      by_cases hlt : k < N
      · have h1 : (k : Int) < N := by omega
        have h0 : (0 : Int) ≤ k := by omega
        have hkl : k < M.length := by rw [← HN.out]; exact hlt
        have hml : (mixL a M k).length = N := by rw [mix_len a M k (by omega)]; exact HN.out.symm
        have hr : InsRowC wr (.slice (some ⟨g5, 0, none⟩) (mixL a M k).length c5) (mixL a M k) := by
          have h2 := srow_of (cells := InsD.cells) (n := 3) (fun _ => rfl) (show wr.ownsRow w.heap.size 58 3 (.slice (some ⟨g5, 0, none⟩) N c5) (mixL a M k).length ((mixL a M k).flatMap InsD.cells) from hrow)
          rw [hml]
          exact h2
        have hrow2 : wr.ownsRow w.heap.size 58 3 (.slice (some ⟨g5, 0, none⟩) N c5) (mixL a M k).length ((mixL a M k).flatMap InsD.cells) := hrow
        rw [hml] at hrow2
        obtain ⟨g6, off, e6, d0, d1, d2⟩ := ins_at hr (Touch.refl wr []) (by simp) k (by omega)
        simp only [Option.some.injEq, Addr.mk.injEq, and_true] at e6
        obtain ⟨rfl, rfl⟩ := e6
        rw [mix_get a M k hkl] at d0 d1 d2
        obtain ⟨hwf, hb0, hb1⟩ := HM.out k hkl
        have hfz : wr.frozen? ⟨g5, 0 + k * 3 + 1, none⟩ = false := by
          rcases hrow.2 with ⟨e, _⟩ | ⟨g', cap', cur, e, _, hg', _⟩
          · cases e
          · simp only [Value.slice.injEq, Option.some.injEq, Addr.mk.injEq] at e
            obtain ⟨⟨rfl, _⟩, _⟩ := e
            unfold World.frozen?; rw [hg']; simp
        have HS1 : Hid (goesP M[k].op = true → insOwn (wr.setCell ⟨g5, 0 + k * 3 + 1, none⟩ (.int .i64 (M[k].arg + a))) w.heap.size (.slice (some ⟨g5, 0, none⟩) N c5) (mixL a M (k + 1))) := by
          intro hg
          have h2 := lk_set hrow2 (k * 3 + 1) (.int .i64 (M[k].arg + a))
          have e1 : (⟨M[k].op, M[k].arg + a, M[k].val⟩ : InsD) = shI a M[k] := by unfold shI; rw [if_pos hg]
          rw [flat_set (mixL a M k) k (by omega) (M[k].arg + a), mix_get a M k hkl, e1, ← mix_succ a M k hkl] at h2
          show World.ownsRow _ _ _ _ _ _ _
          have e2 : (mixL a M (k + 1)).length = N := by rw [mix_len a M (k + 1) (by omega)]; exact HN.out.symm
          rw [e2, Nat.zero_add]
          exact h2
        have HS0 : Hid (goesP M[k].op = false → insOwn wr w.heap.size (.slice (some ⟨g5, 0, none⟩) N c5) (mixL a M (k + 1))) := fun hg => by rw [mix_same a M k hkl hg]; exact hrow
        have HT : Hid _ := hT
        have HTS : Hid (∀ u, Touch w (wr.setCell ⟨g5, 0 + k * 3 + 1, none⟩ u) []) := fun u => hT.setCell (.inr hg5) _
        generalize M[k] = i at *
        obtain ⟨io, ia, iv⟩ := i
        simp only at d0 d1 d2 HS0 HS1 hb0 hb1
        have hwr : IntKind.i64.wrap (ia + a) = ia + a := by rw [IntKind.wrap_i64]; omega
        clear hT hrow hrow2 hr hwf hml d2
        simp only [Nat.zero_add] at d0 d1 hfz HS1 HTS
        go_wp2_with fail
        refine (lgoes_any _ _).mono ?_
        rintro e w6 ⟨rfl, rfl⟩
        cases hgo : goesP io with
        | true =>
          have hs1 := HS1.out hgo
          have HS1' : Hid _ := hs1
          clear hs1 HS0 HS1 hgo
          go_wp2
          go_roundw
          case rel => exact ⟨k + 1, by go_num, by omega, HS1'.out, HTS.out _⟩
          case measure => simp [intOf]; omega
        | false =>
          have hs1 := HS0.out hgo
          have HS1' : Hid _ := hs1
          clear hs1 HS0 HS1 hgo
          go_wp2
          go_roundw
          case rel => exact ⟨k + 1, by go_num, by omega, HS1'.out, HT.out⟩
          case measure => simp [intOf]; omega
      · have h1 : ¬ (k : Int) < N := by omega
        have hkN : k = M.length := by rw [← HN.out]; omega
        rw [hkN, mix_all, ← HBL.out] at hrow
        have hlen : RL.length = N := by rw [HBL.out, List.length_map]; exact HN.out.symm
        have HWF : ∀ i ∈ RL, i.Wf := by
          intro i hi
          rw [HBL.out] at hi
          obtain ⟨j, hj, rfl⟩ := List.mem_map.1 hi
          obtain ⟨k', hk', rfl⟩ := List.getElem_of_mem hj
          obtain ⟨hwf, hb⟩ := HM.out k' hk'
          exact shI_wf ha0 ha1 hwf hb
        obtain ⟨ao, c6, e6, hin⟩ := insIn_of hrow HWF
        have HIN : Hid _ := hin
        have HT : Hid _ := hT
        have HE6 : Hid _ := e6
        clear hrow hT hin hlen HWF e6
        go_wp2
        refine bodyPost_ret (v := .tuple #[.slice (some ⟨g5, 0, none⟩) N c5, .int .i64 0]) (by simp [results, Try.results28, go_sem]) rfl ?_
        exact .inl ⟨HE0.out, ao, c6, by rw [HE6.out], HIN.out, HT.out⟩

end Go.Proofs.Ytjbbjbbkembknaa
/-
  THE DOCUMENT's At AND may BY THEIR CONTRACTS.
-/
namespace Go.Proofs.Ytjbbjbbkembknaa
set_option linter.unusedVariables false
set_option linter.unusedSimpArgs false
open Go.RowKit
attribute [local go_sem] Oper.semAt_some

end Go.Proofs.Ytjbbjbbkembknaa
/-
  package locks: Lock, Unlock, Down, Up BY THEIR CONTRACTS. Written by mklk2.py.
-/
namespace Go.Proofs.Ytjbbjbbkembknaa
set_option linter.unusedVariables false
set_option linter.unusedSimpArgs false
open Go.RowKit
attribute [local go_sem] Oper.semAt_some

theorem numV_fin : ∀ n : Fin 16, ofB (floatOfInt .f64 (n.val : Int)) < 18446744073709551616 := by decide +kernel
theorem numV_wf (n : Int) (h : 0 ≤ n ∧ n ≤ 15) : Wf64 (numV n) := by
  have := numV_fin ⟨n.toNat, by omega⟩
  have e : ((n.toNat : Nat) : Int) = n := by omega
  simp only [e] at this
  unfold Wf64 numV
  omega
theorem insP_wf {n : Int} (h : 0 ≤ n ∧ n ≤ 15) : (insP n).Wf := ⟨⟨by show (0 : Int) ≤ 1; omega, by show (1 : Int) ≤ 255; omega⟩, ⟨by show (-9223372036854775808 : Int) ≤ 0; omega, by show (0 : Int) ≤ 9223372036854775807; omega⟩, numV_wf n h⟩

/-- A row that was just built. -/
theorem ins_lit (w : World) (l : List InsD) (cs : Array Value) (hcs : cs.toList = l.flatMap InsD.cells) (hw : ∀ i ∈ l, i.Wf) (hl : l.length ≤ 1000) : InsIn (w.alloc (.cells cs 58)) (some ⟨w.heap.size, 0, none⟩) l.length l.length l := by
  have hsz : cs.size = l.length * 3 := by rw [← Array.length_toList, hcs, flat_len (n := 3) (fun _ => rfl)]
  have ho : insOwn (w.alloc (.cells cs 58)) w.heap.size (.slice (some ⟨w.heap.size, 0, none⟩) l.length l.length) l :=
    ⟨flat_len (n := 3) (fun _ => rfl) l, .inr ⟨w.heap.size, l.length, cs, rfl, Nat.le_refl _, heap_alloc_new w _, Nat.le_refl _, by unfold maxLen; omega, hsz, by rw [← hsz, ← hcs, ← Array.length_toList, List.take_length]⟩⟩
  exact ⟨rfl, srow_of (cells := InsD.cells) (n := 3) (fun _ => rfl) ho, Nat.le_refl _, by omega, hw⟩
theorem LkP.up {w W : World} {er : Int} {L : List InsD} {e : Ending} {w' : World} (t : Touch w W []) (h : LkP W er L e w') : LkP w er L e w' := by
  rcases h with ⟨h1, ao, cap, h2, h3, h4⟩ | ⟨h1, h2, h4⟩
  · exact .inl ⟨h1, ao, cap, h2, h3, t.trans h4 (by simp)⟩
  · exact .inr ⟨h1, h2, t.trans h4 (by simp)⟩
theorem rows1 {W : World} {a1 : Option Addr} {c1 : Nat} {l1 : List InsD} (h1 : InsIn W a1 l1.length c1 l1) (n1 : l1 ≠ []) (ty : TypeId) : RowsAt (W.alloc (.cells #[.slice a1 l1.length c1] ty)) W.heap.size [l1] := by
  have hn := heap_alloc_new W (.cells #[.slice a1 l1.length c1] ty)
  have t : Touch W (W.alloc (.cells #[.slice a1 l1.length c1] ty)) [] := (Touch.refl _ _).alloc _
  refine ⟨fun k hk => ?_, by simp [n1]⟩
  match k, hk with
  | 0, _ => exact ⟨a1, c1, by unfold World.cell?; rw [hn]; rfl, h1.keep t⟩
theorem rows2 {W : World} {a1 a2 : Option Addr} {c1 c2 : Nat} {l1 l2 : List InsD} (h1 : InsIn W a1 l1.length c1 l1) (h2 : InsIn W a2 l2.length c2 l2) (n1 : l1 ≠ []) (n2 : l2 ≠ []) (ty : TypeId) : RowsAt (W.alloc (.cells #[.slice a1 l1.length c1, .slice a2 l2.length c2] ty)) W.heap.size [l1, l2] := by
  have hn := heap_alloc_new W (.cells #[.slice a1 l1.length c1, .slice a2 l2.length c2] ty)
  have t : Touch W (W.alloc (.cells #[.slice a1 l1.length c1, .slice a2 l2.length c2] ty)) [] := (Touch.refl _ _).alloc _
  refine ⟨fun k hk => ?_, by simp [n1, n2]⟩
  match k, hk with
  | 0, _ => exact ⟨a1, c1, by unfold World.cell?; rw [hn]; rfl, h1.keep t⟩
  | 1, _ => exact ⟨a2, c2, by unfold World.cell?; rw [hn]; rfl, h2.keep t⟩
theorem rows3 {W : World} {a1 a2 a3 : Option Addr} {c1 c2 c3 : Nat} {l1 l2 l3 : List InsD} (h1 : InsIn W a1 l1.length c1 l1) (h2 : InsIn W a2 l2.length c2 l2) (h3 : InsIn W a3 l3.length c3 l3) (n1 : l1 ≠ []) (n2 : l2 ≠ []) (n3 : l3 ≠ []) (ty : TypeId) : RowsAt (W.alloc (.cells #[.slice a1 l1.length c1, .slice a2 l2.length c2, .slice a3 l3.length c3] ty)) W.heap.size [l1, l2, l3] := by
  have hn := heap_alloc_new W (.cells #[.slice a1 l1.length c1, .slice a2 l2.length c2, .slice a3 l3.length c3] ty)
  have t : Touch W (W.alloc (.cells #[.slice a1 l1.length c1, .slice a2 l2.length c2, .slice a3 l3.length c3] ty)) [] := (Touch.refl _ _).alloc _
  refine ⟨fun k hk => ?_, by simp [n1, n2, n3]⟩
  match k, hk with
  | 0, _ => exact ⟨a1, c1, by unfold World.cell?; rw [hn]; rfl, h1.keep t⟩
  | 1, _ => exact ⟨a2, c2, by unfold World.cell?; rw [hn]; rfl, h2.keep t⟩
  | 2, _ => exact ⟨a3, c3, by unfold World.cell?; rw [hn]; rfl, h3.keep t⟩
theorem lplace_is {a : Int} {b : Bool} (h : (decide (0 ≤ a) && decide (a ≤ 64)) = b) (w : World) : Calls Try.prog 25 #[.int .i64 a] w fun e w' => e = .returned (.bool b) ∧ w = w' := by subst h; exact lplace_any a w
theorem ltvar_is {a : Int} {b : Bool} (h : (decide (0 ≤ a) && decide (a < 12)) = b) (w : World) : Calls Try.prog 26 #[.int .i64 a] w fun e w' => e = .returned (.bool b) ∧ w = w' := by subst h; exact ltvar_any a w
theorem lthread_is {a : Int} {b : Bool} (h : (decide (0 ≤ a) && decide (a < 4)) = b) (w : World) : Calls Try.prog 27 #[.int .i64 a] w fun e w' => e = .returned (.bool b) ∧ w = w' := by subst h; exact lthread_any a w

def lockB (t u : Int) : List InsD := [insO 4 t, insO 20 4, insO 26 0, insP (1 + u), insO 5 t]
def lockR (t u : Int) : List (List InsD) := [[insO 4 t, insO 20 4, insO 26 0], [insP (1 + u), insO 5 t]]
def lockE (a : Int) (t u : Int) : Int := if mayP a t u then blkE a (lockB t u) else 2
theorem lock_in (t u : Int) (t0 : 0 ≤ t) (t1 : t < 12) (u0 : 0 ≤ u) (u1 : u < 4) : ∀ i ∈ lockB t u, i.Wf ∧ (0 ≤ i.arg ∧ i.arg ≤ 1000) ∧ i.op ≠ 23 ∧ i.op ≠ 24 := by
  intro i hi
  simp only [lockB, List.mem_cons, List.not_mem_nil, or_false] at hi
  rcases hi with rfl | rfl | rfl | rfl | rfl
  · exact ⟨insO_wf (by omega) (by omega) (by omega) (by omega), by unfold insO; simp <;> omega, by unfold insO; simp, by unfold insO; simp⟩
  · exact ⟨insO_wf (by omega) (by omega) (by omega) (by omega), by unfold insO; simp <;> omega, by unfold insO; simp, by unfold insO; simp⟩
  · exact ⟨insO_wf (by omega) (by omega) (by omega) (by omega), by unfold insO; simp <;> omega, by unfold insO; simp, by unfold insO; simp⟩
  · exact ⟨insP_wf (by omega), by unfold insP; simp <;> omega, by unfold insP; simp, by unfold insP; simp⟩
  · exact ⟨insO_wf (by omega) (by omega) (by omega) (by omega), by unfold insO; simp <;> omega, by unfold insO; simp, by unfold insO; simp⟩

def unlockB (t u : Int) : List InsD := [insO 4 t, insP (1 + u), insO 14 0, insO 20 9, insP (0), insO 5 t, insP (1), insO 19 10, insP (0)]
def unlockR (t u : Int) : List (List InsD) := [[insO 4 t, insP (1 + u), insO 14 0, insO 20 9], [insP (0), insO 5 t, insP (1), insO 19 10], [insP (0)]]
def unlockE (a : Int) (t u : Int) : Int := if mayP a t u then blkE a (unlockB t u) else 2
theorem unlock_in (t u : Int) (t0 : 0 ≤ t) (t1 : t < 12) (u0 : 0 ≤ u) (u1 : u < 4) : ∀ i ∈ unlockB t u, i.Wf ∧ (0 ≤ i.arg ∧ i.arg ≤ 1000) ∧ i.op ≠ 23 ∧ i.op ≠ 24 := by
  intro i hi
  simp only [unlockB, List.mem_cons, List.not_mem_nil, or_false] at hi
  rcases hi with rfl | rfl | rfl | rfl | rfl | rfl | rfl | rfl | rfl
  · exact ⟨insO_wf (by omega) (by omega) (by omega) (by omega), by unfold insO; simp <;> omega, by unfold insO; simp, by unfold insO; simp⟩
  · exact ⟨insP_wf (by omega), by unfold insP; simp <;> omega, by unfold insP; simp, by unfold insP; simp⟩
  · exact ⟨insO_wf (by omega) (by omega) (by omega) (by omega), by unfold insO; simp <;> omega, by unfold insO; simp, by unfold insO; simp⟩
  · exact ⟨insO_wf (by omega) (by omega) (by omega) (by omega), by unfold insO; simp <;> omega, by unfold insO; simp, by unfold insO; simp⟩
  · exact ⟨insP_wf (by omega), by unfold insP; simp <;> omega, by unfold insP; simp, by unfold insP; simp⟩
  · exact ⟨insO_wf (by omega) (by omega) (by omega) (by omega), by unfold insO; simp <;> omega, by unfold insO; simp, by unfold insO; simp⟩
  · exact ⟨insP_wf (by omega), by unfold insP; simp <;> omega, by unfold insP; simp, by unfold insP; simp⟩
  · exact ⟨insO_wf (by omega) (by omega) (by omega) (by omega), by unfold insO; simp <;> omega, by unfold insO; simp, by unfold insO; simp⟩
  · exact ⟨insP_wf (by omega), by unfold insP; simp <;> omega, by unfold insP; simp, by unfold insP; simp⟩

def downB (t : Int) : List InsD := [insO 4 t, insO 16 0, insO 20 8, insP (1), insO 9 0, insO 5 t, insO 19 9, insO 26 0]
def downR (t : Int) : List (List InsD) := [[insO 4 t, insO 16 0, insO 20 8], [insP (1), insO 9 0, insO 5 t, insO 19 9], [insO 26 0]]
def downE (a : Int) (t : Int) : Int := if mayP a t 0 then blkE a (downB t) else 2
theorem down_in (t : Int) (t0 : 0 ≤ t) (t1 : t < 12) : ∀ i ∈ downB t, i.Wf ∧ (0 ≤ i.arg ∧ i.arg ≤ 1000) ∧ i.op ≠ 23 ∧ i.op ≠ 24 := by
  intro i hi
  simp only [downB, List.mem_cons, List.not_mem_nil, or_false] at hi
  rcases hi with rfl | rfl | rfl | rfl | rfl | rfl | rfl | rfl
  · exact ⟨insO_wf (by omega) (by omega) (by omega) (by omega), by unfold insO; simp <;> omega, by unfold insO; simp, by unfold insO; simp⟩
  · exact ⟨insO_wf (by omega) (by omega) (by omega) (by omega), by unfold insO; simp <;> omega, by unfold insO; simp, by unfold insO; simp⟩
  · exact ⟨insO_wf (by omega) (by omega) (by omega) (by omega), by unfold insO; simp <;> omega, by unfold insO; simp, by unfold insO; simp⟩
  · exact ⟨insP_wf (by omega), by unfold insP; simp <;> omega, by unfold insP; simp, by unfold insP; simp⟩
  · exact ⟨insO_wf (by omega) (by omega) (by omega) (by omega), by unfold insO; simp <;> omega, by unfold insO; simp, by unfold insO; simp⟩
  · exact ⟨insO_wf (by omega) (by omega) (by omega) (by omega), by unfold insO; simp <;> omega, by unfold insO; simp, by unfold insO; simp⟩
  · exact ⟨insO_wf (by omega) (by omega) (by omega) (by omega), by unfold insO; simp <;> omega, by unfold insO; simp, by unfold insO; simp⟩
  · exact ⟨insO_wf (by omega) (by omega) (by omega) (by omega), by unfold insO; simp <;> omega, by unfold insO; simp, by unfold insO; simp⟩

def upB (t : Int) : List InsD := [insO 4 t, insP (1), insO 8 0, insO 5 t]
def upR (t : Int) : List (List InsD) := [[insO 4 t, insP (1), insO 8 0, insO 5 t]]
def upE (a : Int) (t : Int) : Int := if mayP a t 0 then blkE a (upB t) else 2
theorem up_in (t : Int) (t0 : 0 ≤ t) (t1 : t < 12) : ∀ i ∈ upB t, i.Wf ∧ (0 ≤ i.arg ∧ i.arg ≤ 1000) ∧ i.op ≠ 23 ∧ i.op ≠ 24 := by
  intro i hi
  simp only [upB, List.mem_cons, List.not_mem_nil, or_false] at hi
  rcases hi with rfl | rfl | rfl | rfl
  · exact ⟨insO_wf (by omega) (by omega) (by omega) (by omega), by unfold insO; simp <;> omega, by unfold insO; simp, by unfold insO; simp⟩
  · exact ⟨insP_wf (by omega), by unfold insP; simp <;> omega, by unfold insP; simp, by unfold insP; simp⟩
  · exact ⟨insO_wf (by omega) (by omega) (by omega) (by omega), by unfold insO; simp <;> omega, by unfold insO; simp, by unfold insO; simp⟩
  · exact ⟨insO_wf (by omega) (by omega) (by omega) (by omega), by unfold insO; simp <;> omega, by unfold insO; simp, by unfold insO; simp⟩

set_option maxRecDepth 100000 in
set_option maxHeartbeats 1000000 in
theorem llock_any (a t u : Int) (w : World) : Calls Try.prog 11 #[.int .i64 a, .int .i64 t, .int .i64 u] w (LkP w (lockE a t u) (blkL a (lockB t u))) := by
  have HE : Hid (lockE a t u = if mayP a t u then blkE a (lockB t u) else 2) := rfl
  have HBB : Hid (∀ W g cap, 0 ≤ a → a ≤ 64 → (∀ i ∈ lockB t u, i.Wf ∧ (0 ≤ i.arg ∧ i.arg ≤ 1000) ∧ i.op ≠ 23 ∧ i.op ≠ 24) → RowsAt W g (lockR t u) → HidC Try.prog 28 #[.int .i64 a, .slice (some ⟨g, 0, none⟩) 2 cap] W (LkP W (blkE a (lockB t u)) (blkL a (lockB t u)))) := fun W g cap ha0 ha1 hin h => ⟨lblock_any ha0 ha1 h (by show (lockB t u).length ≤ 900; simp [lockB]) (by simp [lockR]) (fun i hi => (hin i hi).2.1) (fun i hi => (hin i hi).1) (by simp [lockR])⟩
  generalize hRL : blkL a (lockB t u) = RL at *
  generalize hEE : lockE a t u = E at *
  generalize hE2 : blkE a (lockB t u) = E2 at *
  clear hRL hEE hE2
  by_cases c0 : (decide (0 ≤ a) && decide (a ≤ 64)) = false
  · have HE2 : Hid (E = 2) := by show _ = _; rw [HE.out, if_neg (by unfold mayP; simp only [Bool.and_eq_true, Bool.and_eq_false_iff, decide_eq_true_eq, decide_eq_false_iff_not] at *; omega)]
    clear HE HBB
    have HC : Hid _ := c0
    clear c0
    go_enter Try.func11, Try.ntmps11
    go_wp2_with fail
    refine (lplace_is HC.out _).mono ?_
    rintro e w' ⟨rfl, rfl⟩
    go_wp2
    refine bodyPost_ret (v := .tuple #[.slice none 0 0, .int .i64 2]) (by simp [results, Try.results11, go_sem]) rfl ?_
    exact .inr ⟨by rw [HE2.out]; omega, by rw [HE2.out], Touch.refl _ _⟩
  have c0 : (decide (0 ≤ a) && decide (a ≤ 64)) = true := by simpa using c0
  by_cases c1 : (decide (0 ≤ t) && decide (t < 12)) = false
  · have HE2 : Hid (E = 2) := by show _ = _; rw [HE.out, if_neg (by unfold mayP; simp only [Bool.and_eq_true, Bool.and_eq_false_iff, decide_eq_true_eq, decide_eq_false_iff_not] at *; omega)]
    clear HE HBB
    have HC : Hid _ := c1
    have HC0 : Hid _ := c0
    clear c0
    clear c1
    go_enter Try.func11, Try.ntmps11
    go_wp2_with fail
    refine (lplace_is HC0.out _).mono ?_
    rintro e w' ⟨rfl, rfl⟩
    go_wp2_with fail
    refine (ltvar_is HC.out _).mono ?_
    rintro e w' ⟨rfl, rfl⟩
    go_wp2
    refine bodyPost_ret (v := .tuple #[.slice none 0 0, .int .i64 2]) (by simp [results, Try.results11, go_sem]) rfl ?_
    exact .inr ⟨by rw [HE2.out]; omega, by rw [HE2.out], Touch.refl _ _⟩
  have c1 : (decide (0 ≤ t) && decide (t < 12)) = true := by simpa using c1
  by_cases c2 : (decide (0 ≤ u) && decide (u < 4)) = false
  · have HE2 : Hid (E = 2) := by show _ = _; rw [HE.out, if_neg (by unfold mayP; simp only [Bool.and_eq_true, Bool.and_eq_false_iff, decide_eq_true_eq, decide_eq_false_iff_not] at *; omega)]
    clear HE HBB
    have HC : Hid _ := c2
    have HC0 : Hid _ := c0
    clear c0
    have HC1 : Hid _ := c1
    clear c1
    clear c2
    go_enter Try.func11, Try.ntmps11
    go_wp2_with fail
    refine (lplace_is HC0.out _).mono ?_
    rintro e w' ⟨rfl, rfl⟩
    go_wp2_with fail
    refine (ltvar_is HC1.out _).mono ?_
    rintro e w' ⟨rfl, rfl⟩
    go_wp2_with fail
    refine (lthread_is HC.out _).mono ?_
    rintro e w' ⟨rfl, rfl⟩
    go_wp2
    refine bodyPost_ret (v := .tuple #[.slice none 0 0, .int .i64 2]) (by simp [results, Try.results11, go_sem]) rfl ?_
    exact .inr ⟨by rw [HE2.out]; omega, by rw [HE2.out], Touch.refl _ _⟩
  have c2 : (decide (0 ≤ u) && decide (u < 4)) = true := by simpa using c2
  have HE2 : Hid (E = E2) := by show _ = _; rw [HE.out, if_pos (by unfold mayP; simp [Bool.and_eq_true] at *; omega)]
  have q0 : 0 ≤ a ∧ a ≤ 64 := by simpa using c0
  have q1 : 0 ≤ t ∧ t < 12 := by simpa using c1
  have q2 : 0 ≤ u ∧ u < 4 := by simpa using c2
  have hwr : IntKind.i64.wrap (1 + u) = 1 + u := by rw [IntKind.wrap_i64]; omega
  have HB1 : Hid _ := fun W g cap => HBB.out W g cap q0.1 q0.2 (lock_in t u q1.1 q1.2 q2.1 q2.2)
  clear HBB HE
  have HC0 : Hid _ := c0
  clear c0
  have HC1 : Hid _ := c1
  clear c1
  have HC2 : Hid _ := c2
  clear c2
  have Q1 : Hid _ := q1
  have Q2 : Hid _ := q2
  have HIN : Hid _ := lock_in t u q1.1 q1.2 q2.1 q2.2
  clear q0 q1 q2
  go_enter Try.func11, Try.ntmps11
  go_wp2_with fail
  refine (lplace_is HC0.out _).mono ?_
  rintro e w' ⟨rfl, rfl⟩
  go_wp2_with fail
  refine (ltvar_is HC1.out _).mono ?_
  rintro e w' ⟨rfl, rfl⟩
  go_wp2_with fail
  refine (lthread_is HC2.out _).mono ?_
  rintro e w' ⟨rfl, rfl⟩
  have HT0 : Hid (Touch w w []) := Touch.refl _ _
  go_wp2_with fail
  refine (lget_any _ _).mono ?_
  rintro e w1 ⟨rfl, s1⟩
  have HT1 : Hid (Touch w w1 []) := HT0.out.trans s1 (by simp)
  clear s1
  go_wp2_with fail
  refine (lto_any _ _ _).mono ?_
  rintro e w2 ⟨rfl, s2⟩
  have HT2 : Hid (Touch w w2 []) := HT1.out.trans s2 (by simp)
  clear s2
  go_wp2_with fail
  refine (lop_any _ _).mono ?_
  rintro e w3 ⟨rfl, s3⟩
  have HT3 : Hid (Touch w w3 []) := HT2.out.trans s3 (by simp)
  clear s3
  have R0 : Hid (InsIn (w3.alloc (.cells #[.int .u8 4, .int .i64 t, .int .u64 0, .int .u8 20, .int .i64 4, .int .u64 0, .int .u8 26, .int .i64 0, .int .u64 0] 58)) (some ⟨w3.heap.size, 0, none⟩) ([insO 4 t, insO 20 4, insO 26 0]).length ([insO 4 t, insO 20 4, insO 26 0]).length [insO 4 t, insO 20 4, insO 26 0]) := ins_lit w3 [insO 4 t, insO 20 4, insO 26 0] #[.int .u8 4, .int .i64 t, .int .u64 0, .int .u8 20, .int .i64 4, .int .u64 0, .int .u8 26, .int .i64 0, .int .u64 0] rfl (fun i hi => (HIN.out i (by simp only [lockB, List.mem_cons, List.not_mem_nil, or_false] at hi ⊢; grind)).1) (by simp)
  have HTR0 : Hid (Touch w (w3.alloc (.cells #[.int .u8 4, .int .i64 t, .int .u64 0, .int .u8 20, .int .i64 4, .int .u64 0, .int .u8 26, .int .i64 0, .int .u64 0] 58)) []) := HT3.out.alloc _
  go_wp2_with fail
  refine (lrow_any _ _).mono ?_
  rintro e w' ⟨rfl, rfl⟩
  go_wp2_with fail
  refine (lpush_any _ (by have := Q2.out; omega) (by have := Q2.out; omega) _).mono ?_
  rintro e w4 ⟨rfl, s4⟩
  have HT4 : Hid (Touch w w4 []) := HTR0.out.trans s4 (by simp)
  have R0_4 : Hid _ := R0.out.keep s4
  clear s4
  go_wp2_with fail
  refine (lput_any _ _).mono ?_
  rintro e w5 ⟨rfl, s5⟩
  have HT5 : Hid (Touch w w5 []) := HT4.out.trans s5 (by simp)
  have R0_5 : Hid _ := R0_4.out.keep s5
  clear s5
  have R1 : Hid (InsIn (w5.alloc (.cells #[.int .u8 1, .int .i64 0, .int .u64 (numV (1 + u)), .int .u8 5, .int .i64 t, .int .u64 0] 58)) (some ⟨w5.heap.size, 0, none⟩) ([insP (1 + u), insO 5 t]).length ([insP (1 + u), insO 5 t]).length [insP (1 + u), insO 5 t]) := ins_lit w5 [insP (1 + u), insO 5 t] #[.int .u8 1, .int .i64 0, .int .u64 (numV (1 + u)), .int .u8 5, .int .i64 t, .int .u64 0] rfl (fun i hi => (HIN.out i (by simp only [lockB, List.mem_cons, List.not_mem_nil, or_false] at hi ⊢; grind)).1) (by simp)
  have R0_r1 : Hid (InsIn (w5.alloc (.cells #[.int .u8 1, .int .i64 0, .int .u64 (numV (1 + u)), .int .u8 5, .int .i64 t, .int .u64 0] 58)) _ _ _ _) := R0_5.out.keep ((Touch.refl _ _).alloc _)
  have HTR1 : Hid (Touch w (w5.alloc (.cells #[.int .u8 1, .int .i64 0, .int .u64 (numV (1 + u)), .int .u8 5, .int .i64 t, .int .u64 0] 58)) []) := HT5.out.alloc _
  go_wp2_with fail
  refine (lrow_any _ _).mono ?_
  rintro e w' ⟨rfl, rfl⟩
  have HF : Hid _ := rows2 R0_r1.out R1.out (by simp) (by simp) 22
  have hh : (w5.alloc (.cells #[.int .u8 1, .int .i64 0, .int .u64 (numV (1 + u)), .int .u8 5, .int .i64 t, .int .u64 0] 58)).heap.size = w5.heap.size + 1 := by simp
  have HG : HidC _ _ _ _ _ := HB1.out _ _ 2 HF.out
  rw [hh] at HG
  clear hh
  go_wp2_with fail
  refine HG.out.mono ?_
  intro e w9 h9
  have h9' : LkP w E2 RL e w9 := LkP.up (HTR1.out.alloc _) h9
  clear h9 HG HF
  rcases h9' with ⟨he, ao, cap, rfl, hin, t9⟩ | ⟨he, rfl, t9⟩
  · have HIn : Hid _ := hin
    have HT9 : Hid _ := t9
    have HE9 : Hid _ := he
    obtain ⟨n9, hn9⟩ : ∃ n9, n9 = RL.length := ⟨_, rfl⟩
    have HN9 : Hid _ := hn9
    rw [← hn9]
    clear hin t9 he hn9
    go_wp2
    refine bodyPost_ret (v := .tuple #[.slice ao n9 cap, .int .i64 0]) (by simp [results, Try.results11, go_sem]) rfl ?_
    exact .inl ⟨by rw [HE2.out]; exact HE9.out, ao, cap, by rw [HN9.out], HIn.out, HT9.out⟩
  · have HT9 : Hid _ := t9
    have HE9 : Hid _ := he
    clear t9 he
    go_wp2
    refine bodyPost_ret (v := .tuple #[.slice none 0 0, .int .i64 E2]) (by simp [results, Try.results11, go_sem]) rfl ?_
    exact .inr ⟨by rw [HE2.out]; exact HE9.out, by rw [HE2.out], HT9.out⟩

set_option maxRecDepth 100000 in
set_option maxHeartbeats 1000000 in
theorem lunlock_any (a t u : Int) (w : World) : Calls Try.prog 12 #[.int .i64 a, .int .i64 t, .int .i64 u] w (LkP w (unlockE a t u) (blkL a (unlockB t u))) := by
  have HE : Hid (unlockE a t u = if mayP a t u then blkE a (unlockB t u) else 2) := rfl
  have HBB : Hid (∀ W g cap, 0 ≤ a → a ≤ 64 → (∀ i ∈ unlockB t u, i.Wf ∧ (0 ≤ i.arg ∧ i.arg ≤ 1000) ∧ i.op ≠ 23 ∧ i.op ≠ 24) → RowsAt W g (unlockR t u) → HidC Try.prog 28 #[.int .i64 a, .slice (some ⟨g, 0, none⟩) 3 cap] W (LkP W (blkE a (unlockB t u)) (blkL a (unlockB t u)))) := fun W g cap ha0 ha1 hin h => ⟨lblock_any ha0 ha1 h (by show (unlockB t u).length ≤ 900; simp [unlockB]) (by simp [unlockR]) (fun i hi => (hin i hi).2.1) (fun i hi => (hin i hi).1) (by simp [unlockR])⟩
  generalize hRL : blkL a (unlockB t u) = RL at *
  generalize hEE : unlockE a t u = E at *
  generalize hE2 : blkE a (unlockB t u) = E2 at *
  clear hRL hEE hE2
  by_cases c0 : (decide (0 ≤ a) && decide (a ≤ 64)) = false
  · have HE2 : Hid (E = 2) := by show _ = _; rw [HE.out, if_neg (by unfold mayP; simp only [Bool.and_eq_true, Bool.and_eq_false_iff, decide_eq_true_eq, decide_eq_false_iff_not] at *; omega)]
    clear HE HBB
    have HC : Hid _ := c0
    clear c0
    go_enter Try.func12, Try.ntmps12
    go_wp2_with fail
    refine (lplace_is HC.out _).mono ?_
    rintro e w' ⟨rfl, rfl⟩
    go_wp2
    refine bodyPost_ret (v := .tuple #[.slice none 0 0, .int .i64 2]) (by simp [results, Try.results12, go_sem]) rfl ?_
    exact .inr ⟨by rw [HE2.out]; omega, by rw [HE2.out], Touch.refl _ _⟩
  have c0 : (decide (0 ≤ a) && decide (a ≤ 64)) = true := by simpa using c0
  by_cases c1 : (decide (0 ≤ t) && decide (t < 12)) = false
  · have HE2 : Hid (E = 2) := by show _ = _; rw [HE.out, if_neg (by unfold mayP; simp only [Bool.and_eq_true, Bool.and_eq_false_iff, decide_eq_true_eq, decide_eq_false_iff_not] at *; omega)]
    clear HE HBB
    have HC : Hid _ := c1
    have HC0 : Hid _ := c0
    clear c0
    clear c1
    go_enter Try.func12, Try.ntmps12
    go_wp2_with fail
    refine (lplace_is HC0.out _).mono ?_
    rintro e w' ⟨rfl, rfl⟩
    go_wp2_with fail
    refine (ltvar_is HC.out _).mono ?_
    rintro e w' ⟨rfl, rfl⟩
    go_wp2
    refine bodyPost_ret (v := .tuple #[.slice none 0 0, .int .i64 2]) (by simp [results, Try.results12, go_sem]) rfl ?_
    exact .inr ⟨by rw [HE2.out]; omega, by rw [HE2.out], Touch.refl _ _⟩
  have c1 : (decide (0 ≤ t) && decide (t < 12)) = true := by simpa using c1
  by_cases c2 : (decide (0 ≤ u) && decide (u < 4)) = false
  · have HE2 : Hid (E = 2) := by show _ = _; rw [HE.out, if_neg (by unfold mayP; simp only [Bool.and_eq_true, Bool.and_eq_false_iff, decide_eq_true_eq, decide_eq_false_iff_not] at *; omega)]
    clear HE HBB
    have HC : Hid _ := c2
    have HC0 : Hid _ := c0
    clear c0
    have HC1 : Hid _ := c1
    clear c1
    clear c2
    go_enter Try.func12, Try.ntmps12
    go_wp2_with fail
    refine (lplace_is HC0.out _).mono ?_
    rintro e w' ⟨rfl, rfl⟩
    go_wp2_with fail
    refine (ltvar_is HC1.out _).mono ?_
    rintro e w' ⟨rfl, rfl⟩
    go_wp2_with fail
    refine (lthread_is HC.out _).mono ?_
    rintro e w' ⟨rfl, rfl⟩
    go_wp2
    refine bodyPost_ret (v := .tuple #[.slice none 0 0, .int .i64 2]) (by simp [results, Try.results12, go_sem]) rfl ?_
    exact .inr ⟨by rw [HE2.out]; omega, by rw [HE2.out], Touch.refl _ _⟩
  have c2 : (decide (0 ≤ u) && decide (u < 4)) = true := by simpa using c2
  have HE2 : Hid (E = E2) := by show _ = _; rw [HE.out, if_pos (by unfold mayP; simp [Bool.and_eq_true] at *; omega)]
  have q0 : 0 ≤ a ∧ a ≤ 64 := by simpa using c0
  have q1 : 0 ≤ t ∧ t < 12 := by simpa using c1
  have q2 : 0 ≤ u ∧ u < 4 := by simpa using c2
  have hwr : IntKind.i64.wrap (1 + u) = 1 + u := by rw [IntKind.wrap_i64]; omega
  have HB1 : Hid _ := fun W g cap => HBB.out W g cap q0.1 q0.2 (unlock_in t u q1.1 q1.2 q2.1 q2.2)
  clear HBB HE
  have HC0 : Hid _ := c0
  clear c0
  have HC1 : Hid _ := c1
  clear c1
  have HC2 : Hid _ := c2
  clear c2
  have Q1 : Hid _ := q1
  have Q2 : Hid _ := q2
  have HIN : Hid _ := unlock_in t u q1.1 q1.2 q2.1 q2.2
  clear q0 q1 q2
  go_enter Try.func12, Try.ntmps12
  go_wp2_with fail
  refine (lplace_is HC0.out _).mono ?_
  rintro e w' ⟨rfl, rfl⟩
  go_wp2_with fail
  refine (ltvar_is HC1.out _).mono ?_
  rintro e w' ⟨rfl, rfl⟩
  go_wp2_with fail
  refine (lthread_is HC2.out _).mono ?_
  rintro e w' ⟨rfl, rfl⟩
  have HT0 : Hid (Touch w w []) := Touch.refl _ _
  go_wp2_with fail
  refine (lget_any _ _).mono ?_
  rintro e w1 ⟨rfl, s1⟩
  have HT1 : Hid (Touch w w1 []) := HT0.out.trans s1 (by simp)
  clear s1
  go_wp2_with fail
  refine (lpush_any _ (by have := Q2.out; omega) (by have := Q2.out; omega) _).mono ?_
  rintro e w2 ⟨rfl, s2⟩
  have HT2 : Hid (Touch w w2 []) := HT1.out.trans s2 (by simp)
  clear s2
  go_wp2_with fail
  refine (lop_any _ _).mono ?_
  rintro e w3 ⟨rfl, s3⟩
  have HT3 : Hid (Touch w w3 []) := HT2.out.trans s3 (by simp)
  clear s3
  go_wp2_with fail
  refine (lto_any _ _ _).mono ?_
  rintro e w4 ⟨rfl, s4⟩
  have HT4 : Hid (Touch w w4 []) := HT3.out.trans s4 (by simp)
  clear s4
  have R0 : Hid (InsIn (w4.alloc (.cells #[.int .u8 4, .int .i64 t, .int .u64 0, .int .u8 1, .int .i64 0, .int .u64 (numV (1 + u)), .int .u8 14, .int .i64 0, .int .u64 0, .int .u8 20, .int .i64 9, .int .u64 0] 58)) (some ⟨w4.heap.size, 0, none⟩) ([insO 4 t, insP (1 + u), insO 14 0, insO 20 9]).length ([insO 4 t, insP (1 + u), insO 14 0, insO 20 9]).length [insO 4 t, insP (1 + u), insO 14 0, insO 20 9]) := ins_lit w4 [insO 4 t, insP (1 + u), insO 14 0, insO 20 9] #[.int .u8 4, .int .i64 t, .int .u64 0, .int .u8 1, .int .i64 0, .int .u64 (numV (1 + u)), .int .u8 14, .int .i64 0, .int .u64 0, .int .u8 20, .int .i64 9, .int .u64 0] rfl (fun i hi => (HIN.out i (by simp only [unlockB, List.mem_cons, List.not_mem_nil, or_false] at hi ⊢; grind)).1) (by simp)
  have HTR0 : Hid (Touch w (w4.alloc (.cells #[.int .u8 4, .int .i64 t, .int .u64 0, .int .u8 1, .int .i64 0, .int .u64 (numV (1 + u)), .int .u8 14, .int .i64 0, .int .u64 0, .int .u8 20, .int .i64 9, .int .u64 0] 58)) []) := HT4.out.alloc _
  go_wp2_with fail
  refine (lrow_any _ _).mono ?_
  rintro e w' ⟨rfl, rfl⟩
  go_wp2_with fail
  refine (lpush_any _ (by omega) (by omega) _).mono ?_
  rintro e w5 ⟨rfl, s5⟩
  have HT5 : Hid (Touch w w5 []) := HTR0.out.trans s5 (by simp)
  have R0_5 : Hid _ := R0.out.keep s5
  clear s5
  go_wp2_with fail
  refine (lput_any _ _).mono ?_
  rintro e w6 ⟨rfl, s6⟩
  have HT6 : Hid (Touch w w6 []) := HT5.out.trans s6 (by simp)
  have R0_6 : Hid _ := R0_5.out.keep s6
  clear s6
  go_wp2_with fail
  refine (lpush_any _ (by omega) (by omega) _).mono ?_
  rintro e w7 ⟨rfl, s7⟩
  have HT7 : Hid (Touch w w7 []) := HT6.out.trans s7 (by simp)
  have R0_7 : Hid _ := R0_6.out.keep s7
  clear s7
  go_wp2_with fail
  refine (lto_any _ _ _).mono ?_
  rintro e w8 ⟨rfl, s8⟩
  have HT8 : Hid (Touch w w8 []) := HT7.out.trans s8 (by simp)
  have R0_8 : Hid _ := R0_7.out.keep s8
  clear s8
  have R1 : Hid (InsIn (w8.alloc (.cells #[.int .u8 1, .int .i64 0, .int .u64 (numV (0)), .int .u8 5, .int .i64 t, .int .u64 0, .int .u8 1, .int .i64 0, .int .u64 (numV (1)), .int .u8 19, .int .i64 10, .int .u64 0] 58)) (some ⟨w8.heap.size, 0, none⟩) ([insP (0), insO 5 t, insP (1), insO 19 10]).length ([insP (0), insO 5 t, insP (1), insO 19 10]).length [insP (0), insO 5 t, insP (1), insO 19 10]) := ins_lit w8 [insP (0), insO 5 t, insP (1), insO 19 10] #[.int .u8 1, .int .i64 0, .int .u64 (numV (0)), .int .u8 5, .int .i64 t, .int .u64 0, .int .u8 1, .int .i64 0, .int .u64 (numV (1)), .int .u8 19, .int .i64 10, .int .u64 0] rfl (fun i hi => (HIN.out i (by simp only [unlockB, List.mem_cons, List.not_mem_nil, or_false] at hi ⊢; grind)).1) (by simp)
  have R0_r1 : Hid (InsIn (w8.alloc (.cells #[.int .u8 1, .int .i64 0, .int .u64 (numV (0)), .int .u8 5, .int .i64 t, .int .u64 0, .int .u8 1, .int .i64 0, .int .u64 (numV (1)), .int .u8 19, .int .i64 10, .int .u64 0] 58)) _ _ _ _) := R0_8.out.keep ((Touch.refl _ _).alloc _)
  have HTR1 : Hid (Touch w (w8.alloc (.cells #[.int .u8 1, .int .i64 0, .int .u64 (numV (0)), .int .u8 5, .int .i64 t, .int .u64 0, .int .u8 1, .int .i64 0, .int .u64 (numV (1)), .int .u8 19, .int .i64 10, .int .u64 0] 58)) []) := HT8.out.alloc _
  go_wp2_with fail
  refine (lrow_any _ _).mono ?_
  rintro e w' ⟨rfl, rfl⟩
  go_wp2_with fail
  refine (lpush_any _ (by omega) (by omega) _).mono ?_
  rintro e w9 ⟨rfl, s9⟩
  have HT9 : Hid (Touch w w9 []) := HTR1.out.trans s9 (by simp)
  have R0_9 : Hid _ := R0_r1.out.keep s9
  have R1_9 : Hid _ := R1.out.keep s9
  clear s9
  have R2 : Hid (InsIn (w9.alloc (.cells #[.int .u8 1, .int .i64 0, .int .u64 (numV (0))] 58)) (some ⟨w9.heap.size, 0, none⟩) ([insP (0)]).length ([insP (0)]).length [insP (0)]) := ins_lit w9 [insP (0)] #[.int .u8 1, .int .i64 0, .int .u64 (numV (0))] rfl (fun i hi => (HIN.out i (by simp only [unlockB, List.mem_cons, List.not_mem_nil, or_false] at hi ⊢; grind)).1) (by simp)
  have R0_r2 : Hid (InsIn (w9.alloc (.cells #[.int .u8 1, .int .i64 0, .int .u64 (numV (0))] 58)) _ _ _ _) := R0_9.out.keep ((Touch.refl _ _).alloc _)
  have R1_r2 : Hid (InsIn (w9.alloc (.cells #[.int .u8 1, .int .i64 0, .int .u64 (numV (0))] 58)) _ _ _ _) := R1_9.out.keep ((Touch.refl _ _).alloc _)
  have HTR2 : Hid (Touch w (w9.alloc (.cells #[.int .u8 1, .int .i64 0, .int .u64 (numV (0))] 58)) []) := HT9.out.alloc _
  go_wp2_with fail
  refine (lrow_any _ _).mono ?_
  rintro e w' ⟨rfl, rfl⟩
  have HF : Hid _ := rows3 R0_r2.out R1_r2.out R2.out (by simp) (by simp) (by simp) 22
  have hh : (w9.alloc (.cells #[.int .u8 1, .int .i64 0, .int .u64 (numV (0))] 58)).heap.size = w9.heap.size + 1 := by simp
  have HG : HidC _ _ _ _ _ := HB1.out _ _ 3 HF.out
  rw [hh] at HG
  clear hh
  go_wp2_with fail
  refine HG.out.mono ?_
  intro e w9 h9
  have h9' : LkP w E2 RL e w9 := LkP.up (HTR2.out.alloc _) h9
  clear h9 HG HF
  rcases h9' with ⟨he, ao, cap, rfl, hin, t9⟩ | ⟨he, rfl, t9⟩
  · have HIn : Hid _ := hin
    have HT9 : Hid _ := t9
    have HE9 : Hid _ := he
    obtain ⟨n9, hn9⟩ : ∃ n9, n9 = RL.length := ⟨_, rfl⟩
    have HN9 : Hid _ := hn9
    rw [← hn9]
    clear hin t9 he hn9
    go_wp2
    refine bodyPost_ret (v := .tuple #[.slice ao n9 cap, .int .i64 0]) (by simp [results, Try.results12, go_sem]) rfl ?_
    exact .inl ⟨by rw [HE2.out]; exact HE9.out, ao, cap, by rw [HN9.out], HIn.out, HT9.out⟩
  · have HT9 : Hid _ := t9
    have HE9 : Hid _ := he
    clear t9 he
    go_wp2
    refine bodyPost_ret (v := .tuple #[.slice none 0 0, .int .i64 E2]) (by simp [results, Try.results12, go_sem]) rfl ?_
    exact .inr ⟨by rw [HE2.out]; exact HE9.out, by rw [HE2.out], HT9.out⟩

set_option maxRecDepth 100000 in
set_option maxHeartbeats 1000000 in
theorem ldown_any (a t : Int) (w : World) : Calls Try.prog 13 #[.int .i64 a, .int .i64 t] w (LkP w (downE a t) (blkL a (downB t))) := by
  have HE : Hid (downE a t = if mayP a t 0 then blkE a (downB t) else 2) := rfl
  have HBB : Hid (∀ W g cap, 0 ≤ a → a ≤ 64 → (∀ i ∈ downB t, i.Wf ∧ (0 ≤ i.arg ∧ i.arg ≤ 1000) ∧ i.op ≠ 23 ∧ i.op ≠ 24) → RowsAt W g (downR t) → HidC Try.prog 28 #[.int .i64 a, .slice (some ⟨g, 0, none⟩) 3 cap] W (LkP W (blkE a (downB t)) (blkL a (downB t)))) := fun W g cap ha0 ha1 hin h => ⟨lblock_any ha0 ha1 h (by show (downB t).length ≤ 900; simp [downB]) (by simp [downR]) (fun i hi => (hin i hi).2.1) (fun i hi => (hin i hi).1) (by simp [downR])⟩
  generalize hRL : blkL a (downB t) = RL at *
  generalize hEE : downE a t = E at *
  generalize hE2 : blkE a (downB t) = E2 at *
  clear hRL hEE hE2
  by_cases c0 : (decide (0 ≤ a) && decide (a ≤ 64)) = false
  · have HE2 : Hid (E = 2) := by show _ = _; rw [HE.out, if_neg (by unfold mayP; simp only [Bool.and_eq_true, Bool.and_eq_false_iff, decide_eq_true_eq, decide_eq_false_iff_not] at *; omega)]
    clear HE HBB
    have HC : Hid _ := c0
    clear c0
    go_enter Try.func13, Try.ntmps13
    go_wp2_with fail
    refine (lplace_is HC.out _).mono ?_
    rintro e w' ⟨rfl, rfl⟩
    go_wp2
    refine bodyPost_ret (v := .tuple #[.slice none 0 0, .int .i64 2]) (by simp [results, Try.results13, go_sem]) rfl ?_
    exact .inr ⟨by rw [HE2.out]; omega, by rw [HE2.out], Touch.refl _ _⟩
  have c0 : (decide (0 ≤ a) && decide (a ≤ 64)) = true := by simpa using c0
  by_cases c1 : (decide (0 ≤ t) && decide (t < 12)) = false
  · have HE2 : Hid (E = 2) := by show _ = _; rw [HE.out, if_neg (by unfold mayP; simp only [Bool.and_eq_true, Bool.and_eq_false_iff, decide_eq_true_eq, decide_eq_false_iff_not] at *; omega)]
    clear HE HBB
    have HC : Hid _ := c1
    have HC0 : Hid _ := c0
    clear c0
    clear c1
    go_enter Try.func13, Try.ntmps13
    go_wp2_with fail
    refine (lplace_is HC0.out _).mono ?_
    rintro e w' ⟨rfl, rfl⟩
    go_wp2_with fail
    refine (ltvar_is HC.out _).mono ?_
    rintro e w' ⟨rfl, rfl⟩
    go_wp2
    refine bodyPost_ret (v := .tuple #[.slice none 0 0, .int .i64 2]) (by simp [results, Try.results13, go_sem]) rfl ?_
    exact .inr ⟨by rw [HE2.out]; omega, by rw [HE2.out], Touch.refl _ _⟩
  have c1 : (decide (0 ≤ t) && decide (t < 12)) = true := by simpa using c1
  have HE2 : Hid (E = E2) := by show _ = _; rw [HE.out, if_pos (by unfold mayP; simp [Bool.and_eq_true] at *; omega)]
  have q0 : 0 ≤ a ∧ a ≤ 64 := by simpa using c0
  have q1 : 0 ≤ t ∧ t < 12 := by simpa using c1
  have HB1 : Hid _ := fun W g cap => HBB.out W g cap q0.1 q0.2 (down_in t q1.1 q1.2)
  clear HBB HE
  have HC0 : Hid _ := c0
  clear c0
  have HC1 : Hid _ := c1
  clear c1
  have Q1 : Hid _ := q1
  have HIN : Hid _ := down_in t q1.1 q1.2
  clear q0 q1
  go_enter Try.func13, Try.ntmps13
  go_wp2_with fail
  refine (lplace_is HC0.out _).mono ?_
  rintro e w' ⟨rfl, rfl⟩
  go_wp2_with fail
  refine (ltvar_is HC1.out _).mono ?_
  rintro e w' ⟨rfl, rfl⟩
  have HT0 : Hid (Touch w w []) := Touch.refl _ _
  go_wp2_with fail
  refine (lget_any _ _).mono ?_
  rintro e w1 ⟨rfl, s1⟩
  have HT1 : Hid (Touch w w1 []) := HT0.out.trans s1 (by simp)
  clear s1
  go_wp2_with fail
  refine (lop_any _ _).mono ?_
  rintro e w2 ⟨rfl, s2⟩
  have HT2 : Hid (Touch w w2 []) := HT1.out.trans s2 (by simp)
  clear s2
  go_wp2_with fail
  refine (lto_any _ _ _).mono ?_
  rintro e w3 ⟨rfl, s3⟩
  have HT3 : Hid (Touch w w3 []) := HT2.out.trans s3 (by simp)
  clear s3
  have R0 : Hid (InsIn (w3.alloc (.cells #[.int .u8 4, .int .i64 t, .int .u64 0, .int .u8 16, .int .i64 0, .int .u64 0, .int .u8 20, .int .i64 8, .int .u64 0] 58)) (some ⟨w3.heap.size, 0, none⟩) ([insO 4 t, insO 16 0, insO 20 8]).length ([insO 4 t, insO 16 0, insO 20 8]).length [insO 4 t, insO 16 0, insO 20 8]) := ins_lit w3 [insO 4 t, insO 16 0, insO 20 8] #[.int .u8 4, .int .i64 t, .int .u64 0, .int .u8 16, .int .i64 0, .int .u64 0, .int .u8 20, .int .i64 8, .int .u64 0] rfl (fun i hi => (HIN.out i (by simp only [downB, List.mem_cons, List.not_mem_nil, or_false] at hi ⊢; grind)).1) (by simp)
  have HTR0 : Hid (Touch w (w3.alloc (.cells #[.int .u8 4, .int .i64 t, .int .u64 0, .int .u8 16, .int .i64 0, .int .u64 0, .int .u8 20, .int .i64 8, .int .u64 0] 58)) []) := HT3.out.alloc _
  go_wp2_with fail
  refine (lrow_any _ _).mono ?_
  rintro e w' ⟨rfl, rfl⟩
  go_wp2_with fail
  refine (lpush_any _ (by omega) (by omega) _).mono ?_
  rintro e w4 ⟨rfl, s4⟩
  have HT4 : Hid (Touch w w4 []) := HTR0.out.trans s4 (by simp)
  have R0_4 : Hid _ := R0.out.keep s4
  clear s4
  go_wp2_with fail
  refine (lop_any _ _).mono ?_
  rintro e w5 ⟨rfl, s5⟩
  have HT5 : Hid (Touch w w5 []) := HT4.out.trans s5 (by simp)
  have R0_5 : Hid _ := R0_4.out.keep s5
  clear s5
  go_wp2_with fail
  refine (lput_any _ _).mono ?_
  rintro e w6 ⟨rfl, s6⟩
  have HT6 : Hid (Touch w w6 []) := HT5.out.trans s6 (by simp)
  have R0_6 : Hid _ := R0_5.out.keep s6
  clear s6
  go_wp2_with fail
  refine (lto_any _ _ _).mono ?_
  rintro e w7 ⟨rfl, s7⟩
  have HT7 : Hid (Touch w w7 []) := HT6.out.trans s7 (by simp)
  have R0_7 : Hid _ := R0_6.out.keep s7
  clear s7
  have R1 : Hid (InsIn (w7.alloc (.cells #[.int .u8 1, .int .i64 0, .int .u64 (numV (1)), .int .u8 9, .int .i64 0, .int .u64 0, .int .u8 5, .int .i64 t, .int .u64 0, .int .u8 19, .int .i64 9, .int .u64 0] 58)) (some ⟨w7.heap.size, 0, none⟩) ([insP (1), insO 9 0, insO 5 t, insO 19 9]).length ([insP (1), insO 9 0, insO 5 t, insO 19 9]).length [insP (1), insO 9 0, insO 5 t, insO 19 9]) := ins_lit w7 [insP (1), insO 9 0, insO 5 t, insO 19 9] #[.int .u8 1, .int .i64 0, .int .u64 (numV (1)), .int .u8 9, .int .i64 0, .int .u64 0, .int .u8 5, .int .i64 t, .int .u64 0, .int .u8 19, .int .i64 9, .int .u64 0] rfl (fun i hi => (HIN.out i (by simp only [downB, List.mem_cons, List.not_mem_nil, or_false] at hi ⊢; grind)).1) (by simp)
  have R0_r1 : Hid (InsIn (w7.alloc (.cells #[.int .u8 1, .int .i64 0, .int .u64 (numV (1)), .int .u8 9, .int .i64 0, .int .u64 0, .int .u8 5, .int .i64 t, .int .u64 0, .int .u8 19, .int .i64 9, .int .u64 0] 58)) _ _ _ _) := R0_7.out.keep ((Touch.refl _ _).alloc _)
  have HTR1 : Hid (Touch w (w7.alloc (.cells #[.int .u8 1, .int .i64 0, .int .u64 (numV (1)), .int .u8 9, .int .i64 0, .int .u64 0, .int .u8 5, .int .i64 t, .int .u64 0, .int .u8 19, .int .i64 9, .int .u64 0] 58)) []) := HT7.out.alloc _
  go_wp2_with fail
  refine (lrow_any _ _).mono ?_
  rintro e w' ⟨rfl, rfl⟩
  go_wp2_with fail
  refine (lop_any _ _).mono ?_
  rintro e w8 ⟨rfl, s8⟩
  have HT8 : Hid (Touch w w8 []) := HTR1.out.trans s8 (by simp)
  have R0_8 : Hid _ := R0_r1.out.keep s8
  have R1_8 : Hid _ := R1.out.keep s8
  clear s8
  have R2 : Hid (InsIn (w8.alloc (.cells #[.int .u8 26, .int .i64 0, .int .u64 0] 58)) (some ⟨w8.heap.size, 0, none⟩) ([insO 26 0]).length ([insO 26 0]).length [insO 26 0]) := ins_lit w8 [insO 26 0] #[.int .u8 26, .int .i64 0, .int .u64 0] rfl (fun i hi => (HIN.out i (by simp only [downB, List.mem_cons, List.not_mem_nil, or_false] at hi ⊢; grind)).1) (by simp)
  have R0_r2 : Hid (InsIn (w8.alloc (.cells #[.int .u8 26, .int .i64 0, .int .u64 0] 58)) _ _ _ _) := R0_8.out.keep ((Touch.refl _ _).alloc _)
  have R1_r2 : Hid (InsIn (w8.alloc (.cells #[.int .u8 26, .int .i64 0, .int .u64 0] 58)) _ _ _ _) := R1_8.out.keep ((Touch.refl _ _).alloc _)
  have HTR2 : Hid (Touch w (w8.alloc (.cells #[.int .u8 26, .int .i64 0, .int .u64 0] 58)) []) := HT8.out.alloc _
  go_wp2_with fail
  refine (lrow_any _ _).mono ?_
  rintro e w' ⟨rfl, rfl⟩
  have HF : Hid _ := rows3 R0_r2.out R1_r2.out R2.out (by simp) (by simp) (by simp) 22
  have hh : (w8.alloc (.cells #[.int .u8 26, .int .i64 0, .int .u64 0] 58)).heap.size = w8.heap.size + 1 := by simp
  have HG : HidC _ _ _ _ _ := HB1.out _ _ 3 HF.out
  rw [hh] at HG
  clear hh
  go_wp2_with fail
  refine HG.out.mono ?_
  intro e w9 h9
  have h9' : LkP w E2 RL e w9 := LkP.up (HTR2.out.alloc _) h9
  clear h9 HG HF
  rcases h9' with ⟨he, ao, cap, rfl, hin, t9⟩ | ⟨he, rfl, t9⟩
  · have HIn : Hid _ := hin
    have HT9 : Hid _ := t9
    have HE9 : Hid _ := he
    obtain ⟨n9, hn9⟩ : ∃ n9, n9 = RL.length := ⟨_, rfl⟩
    have HN9 : Hid _ := hn9
    rw [← hn9]
    clear hin t9 he hn9
    go_wp2
    refine bodyPost_ret (v := .tuple #[.slice ao n9 cap, .int .i64 0]) (by simp [results, Try.results13, go_sem]) rfl ?_
    exact .inl ⟨by rw [HE2.out]; exact HE9.out, ao, cap, by rw [HN9.out], HIn.out, HT9.out⟩
  · have HT9 : Hid _ := t9
    have HE9 : Hid _ := he
    clear t9 he
    go_wp2
    refine bodyPost_ret (v := .tuple #[.slice none 0 0, .int .i64 E2]) (by simp [results, Try.results13, go_sem]) rfl ?_
    exact .inr ⟨by rw [HE2.out]; exact HE9.out, by rw [HE2.out], HT9.out⟩

set_option maxRecDepth 100000 in
set_option maxHeartbeats 1000000 in
theorem lup_any (a t : Int) (w : World) : Calls Try.prog 14 #[.int .i64 a, .int .i64 t] w (LkP w (upE a t) (blkL a (upB t))) := by
  have HE : Hid (upE a t = if mayP a t 0 then blkE a (upB t) else 2) := rfl
  have HBB : Hid (∀ W g cap, 0 ≤ a → a ≤ 64 → (∀ i ∈ upB t, i.Wf ∧ (0 ≤ i.arg ∧ i.arg ≤ 1000) ∧ i.op ≠ 23 ∧ i.op ≠ 24) → RowsAt W g (upR t) → HidC Try.prog 28 #[.int .i64 a, .slice (some ⟨g, 0, none⟩) 1 cap] W (LkP W (blkE a (upB t)) (blkL a (upB t)))) := fun W g cap ha0 ha1 hin h => ⟨lblock_any ha0 ha1 h (by show (upB t).length ≤ 900; simp [upB]) (by simp [upR]) (fun i hi => (hin i hi).2.1) (fun i hi => (hin i hi).1) (by simp [upR])⟩
  generalize hRL : blkL a (upB t) = RL at *
  generalize hEE : upE a t = E at *
  generalize hE2 : blkE a (upB t) = E2 at *
  clear hRL hEE hE2
  by_cases c0 : (decide (0 ≤ a) && decide (a ≤ 64)) = false
  · have HE2 : Hid (E = 2) := by show _ = _; rw [HE.out, if_neg (by unfold mayP; simp only [Bool.and_eq_true, Bool.and_eq_false_iff, decide_eq_true_eq, decide_eq_false_iff_not] at *; omega)]
    clear HE HBB
    have HC : Hid _ := c0
    clear c0
    go_enter Try.func14, Try.ntmps14
    go_wp2_with fail
    refine (lplace_is HC.out _).mono ?_
    rintro e w' ⟨rfl, rfl⟩
    go_wp2
    refine bodyPost_ret (v := .tuple #[.slice none 0 0, .int .i64 2]) (by simp [results, Try.results14, go_sem]) rfl ?_
    exact .inr ⟨by rw [HE2.out]; omega, by rw [HE2.out], Touch.refl _ _⟩
  have c0 : (decide (0 ≤ a) && decide (a ≤ 64)) = true := by simpa using c0
  by_cases c1 : (decide (0 ≤ t) && decide (t < 12)) = false
  · have HE2 : Hid (E = 2) := by show _ = _; rw [HE.out, if_neg (by unfold mayP; simp only [Bool.and_eq_true, Bool.and_eq_false_iff, decide_eq_true_eq, decide_eq_false_iff_not] at *; omega)]
    clear HE HBB
    have HC : Hid _ := c1
    have HC0 : Hid _ := c0
    clear c0
    clear c1
    go_enter Try.func14, Try.ntmps14
    go_wp2_with fail
    refine (lplace_is HC0.out _).mono ?_
    rintro e w' ⟨rfl, rfl⟩
    go_wp2_with fail
    refine (ltvar_is HC.out _).mono ?_
    rintro e w' ⟨rfl, rfl⟩
    go_wp2
    refine bodyPost_ret (v := .tuple #[.slice none 0 0, .int .i64 2]) (by simp [results, Try.results14, go_sem]) rfl ?_
    exact .inr ⟨by rw [HE2.out]; omega, by rw [HE2.out], Touch.refl _ _⟩
  have c1 : (decide (0 ≤ t) && decide (t < 12)) = true := by simpa using c1
  have HE2 : Hid (E = E2) := by show _ = _; rw [HE.out, if_pos (by unfold mayP; simp [Bool.and_eq_true] at *; omega)]
  have q0 : 0 ≤ a ∧ a ≤ 64 := by simpa using c0
  have q1 : 0 ≤ t ∧ t < 12 := by simpa using c1
  have HB1 : Hid _ := fun W g cap => HBB.out W g cap q0.1 q0.2 (up_in t q1.1 q1.2)
  clear HBB HE
  have HC0 : Hid _ := c0
  clear c0
  have HC1 : Hid _ := c1
  clear c1
  have Q1 : Hid _ := q1
  have HIN : Hid _ := up_in t q1.1 q1.2
  clear q0 q1
  go_enter Try.func14, Try.ntmps14
  go_wp2_with fail
  refine (lplace_is HC0.out _).mono ?_
  rintro e w' ⟨rfl, rfl⟩
  go_wp2_with fail
  refine (ltvar_is HC1.out _).mono ?_
  rintro e w' ⟨rfl, rfl⟩
  have HT0 : Hid (Touch w w []) := Touch.refl _ _
  go_wp2_with fail
  refine (lget_any _ _).mono ?_
  rintro e w1 ⟨rfl, s1⟩
  have HT1 : Hid (Touch w w1 []) := HT0.out.trans s1 (by simp)
  clear s1
  go_wp2_with fail
  refine (lpush_any _ (by omega) (by omega) _).mono ?_
  rintro e w2 ⟨rfl, s2⟩
  have HT2 : Hid (Touch w w2 []) := HT1.out.trans s2 (by simp)
  clear s2
  go_wp2_with fail
  refine (lop_any _ _).mono ?_
  rintro e w3 ⟨rfl, s3⟩
  have HT3 : Hid (Touch w w3 []) := HT2.out.trans s3 (by simp)
  clear s3
  go_wp2_with fail
  refine (lput_any _ _).mono ?_
  rintro e w4 ⟨rfl, s4⟩
  have HT4 : Hid (Touch w w4 []) := HT3.out.trans s4 (by simp)
  clear s4
  have R0 : Hid (InsIn (w4.alloc (.cells #[.int .u8 4, .int .i64 t, .int .u64 0, .int .u8 1, .int .i64 0, .int .u64 (numV (1)), .int .u8 8, .int .i64 0, .int .u64 0, .int .u8 5, .int .i64 t, .int .u64 0] 58)) (some ⟨w4.heap.size, 0, none⟩) ([insO 4 t, insP (1), insO 8 0, insO 5 t]).length ([insO 4 t, insP (1), insO 8 0, insO 5 t]).length [insO 4 t, insP (1), insO 8 0, insO 5 t]) := ins_lit w4 [insO 4 t, insP (1), insO 8 0, insO 5 t] #[.int .u8 4, .int .i64 t, .int .u64 0, .int .u8 1, .int .i64 0, .int .u64 (numV (1)), .int .u8 8, .int .i64 0, .int .u64 0, .int .u8 5, .int .i64 t, .int .u64 0] rfl (fun i hi => (HIN.out i (by simp only [upB, List.mem_cons, List.not_mem_nil, or_false] at hi ⊢; grind)).1) (by simp)
  have HTR0 : Hid (Touch w (w4.alloc (.cells #[.int .u8 4, .int .i64 t, .int .u64 0, .int .u8 1, .int .i64 0, .int .u64 (numV (1)), .int .u8 8, .int .i64 0, .int .u64 0, .int .u8 5, .int .i64 t, .int .u64 0] 58)) []) := HT4.out.alloc _
  go_wp2_with fail
  refine (lrow_any _ _).mono ?_
  rintro e w' ⟨rfl, rfl⟩
  have HF : Hid _ := rows1 R0.out (by simp) 22
  have hh : (w4.alloc (.cells #[.int .u8 4, .int .i64 t, .int .u64 0, .int .u8 1, .int .i64 0, .int .u64 (numV (1)), .int .u8 8, .int .i64 0, .int .u64 0, .int .u8 5, .int .i64 t, .int .u64 0] 58)).heap.size = w4.heap.size + 1 := by simp
  have HG : HidC _ _ _ _ _ := HB1.out _ _ 1 HF.out
  rw [hh] at HG
  clear hh
  go_wp2_with fail
  refine HG.out.mono ?_
  intro e w9 h9
  have h9' : LkP w E2 RL e w9 := LkP.up (HTR0.out.alloc _) h9
  clear h9 HG HF
  rcases h9' with ⟨he, ao, cap, rfl, hin, t9⟩ | ⟨he, rfl, t9⟩
  · have HIn : Hid _ := hin
    have HT9 : Hid _ := t9
    have HE9 : Hid _ := he
    obtain ⟨n9, hn9⟩ : ∃ n9, n9 = RL.length := ⟨_, rfl⟩
    have HN9 : Hid _ := hn9
    rw [← hn9]
    clear hin t9 he hn9
    go_wp2
    refine bodyPost_ret (v := .tuple #[.slice ao n9 cap, .int .i64 0]) (by simp [results, Try.results14, go_sem]) rfl ?_
    exact .inl ⟨by rw [HE2.out]; exact HE9.out, ao, cap, by rw [HN9.out], HIn.out, HT9.out⟩
  · have HT9 : Hid _ := t9
    have HE9 : Hid _ := he
    clear t9 he
    go_wp2
    refine bodyPost_ret (v := .tuple #[.slice none 0 0, .int .i64 E2]) (by simp [results, Try.results14, go_sem]) rfl ?_
    exact .inr ⟨by rw [HE2.out]; exact HE9.out, by rw [HE2.out], HT9.out⟩

end Go.Proofs.Ytjbbjbbkembknaa
/-
  THE DOCUMENT's Lock, Unlock, Down, Up BY THEIR CONTRACTS. Written by mklk2.py.
-/
namespace Go.Proofs.Ytjbbjbbkembknaa
set_option linter.unusedVariables false
set_option linter.unusedSimpArgs false
open Go.RowKit
attribute [local go_sem] Oper.semAt_some

theorem lock_body (t u : Int) : bodyL (lockB t u) = [insO 21 6, insO 4 t, insO 20 4, insO 26 0, insP (1 + u), insO 5 t, insO 22 0] := by simp [bodyL, lockB]
theorem unlock_body (t u : Int) : bodyL (unlockB t u) = [insO 21 10, insO 4 t, insP (1 + u), insO 14 0, insO 20 9, insP (0), insO 5 t, insP (1), insO 19 10, insP (0), insO 22 0] := by simp [bodyL, unlockB]
theorem down_body (t : Int) : bodyL (downB t) = [insO 21 9, insO 4 t, insO 16 0, insO 20 8, insP (1), insO 9 0, insO 5 t, insO 19 9, insO 26 0, insO 22 0] := by simp [bodyL, downB]
theorem up_body (t : Int) : bodyL (upB t) = [insO 21 5, insO 4 t, insP (1), insO 8 0, insO 5 t, insO 22 0] := by simp [bodyL, upB]
end Go.Proofs.Ytjbbjbbkembknaa
/-
  THE STATEMENTS ON package locks, WALKED: LocksBlocks, LocksCounts.
-/
namespace Go.Proofs.Ytjbbjbbkembknaa
set_option linter.unusedVariables false
set_option linter.unusedSimpArgs false
open Go.RowKit
attribute [local go_sem] Oper.semAt_some

def lkL (er : Int) (L : List InsD) : List InsD := if er = 0 then L else []
/-- What the blocks come to, in the same words. -/
def LkQ (w : World) (er : Int) (n : Nat) (l : List InsD) (e : Ending) (w' : World) : Prop := ∃ ao cap, e = .returned (.tuple #[.slice ao n cap, .int .i64 er]) ∧ InsIn w' ao n cap l ∧ Touch w w' []
theorem LkP.q {w : World} {er : Int} {L : List InsD} {e : Ending} {w' : World} (h : LkP w er L e w') : LkQ w er (lkL er L).length (lkL er L) e w' := by
  rcases h with ⟨rfl, ao, cap, h2, h3, h4⟩ | ⟨h1, h2, h4⟩
  · exact ⟨ao, cap, h2, h3, h4⟩
  · have e : lkL er L = [] := by unfold lkL; rw [if_neg h1]
    rw [e]
    exact ⟨none, 0, h2, ⟨rfl, ⟨none, 0, rfl, fun h => absurd rfl h⟩, Nat.le_refl _, by omega, by simp⟩, h4⟩
theorem lkL_len {er : Int} {L : List InsD} (h : L.length ≤ 1000) : (lkL er L).length ≤ 1000 := by
  unfold lkL; split
  · exact h
  · simp

set_option maxRecDepth 100000 in
theorem llive_any (w : World) : Calls Try.prog 5 #[] w fun e w' => e = .returned (.bool true) ∧ Touch w w' [] := by
  have hE : upE 0 3 = 0 := by decide
  have hL : blkL 0 (upB 3) = [insO 21 5, insO 4 3, insP 1, insO 8 0, insO 5 3, insO 22 0] := by
    unfold blkL; rw [up_body]; simp [shI, goesP, insO, insP]
  have HC : Hid (∀ W, HidC Try.prog 14 #[.int .i64 0, .int .i64 3] W (fun e w' => ∃ g off cap, e = .returned (.tuple #[.slice (some ⟨g, off, none⟩) 6 cap, .int .i64 0]) ∧ (w'.cell? ⟨g, off, none⟩ = some (.int .u8 21) ∧ w'.cell? ⟨g, off + 1, none⟩ = some (.int .i64 5) ∧ w'.cell? ⟨g, off + 2, none⟩ = some (.int .u64 0) ∧ w'.cell? ⟨g, off + 15, none⟩ = some (.int .u8 22)) ∧ Touch W w' [])) := by
    intro W
    refine ⟨(lup_any 0 3 W).mono ?_⟩
    intro e w' h
    rw [hE, hL] at h
    rcases h with ⟨_, ao, cap, rfl, hin, t⟩ | ⟨h, _⟩
    · obtain ⟨g, off, rfl, d0, d1, d2⟩ := ins_at hin.row (Touch.refl w' []) (by simp) 0 (by simp)
      obtain ⟨g', off', e', f0, f1, f2⟩ := ins_at hin.row (Touch.refl w' []) (by simp) 5 (by simp)
      simp only [Option.some.injEq, Addr.mk.injEq, and_true] at e'
      obtain ⟨rfl, rfl⟩ := e'
      exact ⟨g, off, cap, rfl, ⟨d0, d1, d2, f0⟩, t⟩
    · exact absurd rfl h
  clear hE hL
  go_enter Try.func5, Try.ntmps5
  go_wp2_with fail
  refine (HC.out _).out.mono ?_
  rintro e w1 ⟨g, off, cap, rfl, ⟨d0, d1, d2, d5⟩, t1⟩
  have HT : Hid _ := t1
  clear t1
  go_wp2
  go_ret
  exact ⟨rfl, HT.out⟩

end Go.Proofs.Ytjbbjbbkembknaa
/-
  one OF THE STATEMENTS ON package locks, BY ITS CONTRACT.
-/
namespace Go.Proofs.Ytjbbjbbkembknaa
set_option linter.unusedVariables false
set_option linter.unusedSimpArgs false
open Go.RowKit
attribute [local go_sem] Oper.semAt_some

/-- A call in a block of its own. -/
structure BoxC (W : World) (p : Nat) (o a v : Int) : Prop where
  st : W.heap[p]? = some (.cells #[.int .u8 o, .int .i64 a, .int .u64 v] 27 (0, 0))
theorem BoxC.touch {W W' : World} {p : Nat} {o a v : Int} {S : List Nat} (h : BoxC W p o a v) (t : Touch W W' S) (hS : p ∉ S) : BoxC W' p o a v := ⟨(t.block p (lt_of_heap h.st) hS).trans h.st⟩
theorem BoxC.cells {W : World} {p : Nat} {o a v : Int} (h : BoxC W p o a v) : W.cell? ⟨p, 0, none⟩ = some (.int .u8 o) ∧ W.cell? ⟨p, 1, none⟩ = some (.int .i64 a) ∧ W.cell? ⟨p, 2, none⟩ = some (.int .u64 v) :=
  ⟨by unfold World.cell?; rw [h.st]; rfl, by unfold World.cell?; rw [h.st]; rfl, by unfold World.cell?; rw [h.st]; rfl⟩
theorem BoxC.fr {W : World} {p : Nat} {o a v : Int} (h : BoxC W p o a v) (j : Nat) : W.frozen? ⟨p, j, none⟩ = false := by unfold World.frozen?; rw [h.st]; simp
theorem BoxC.new (w : World) (o a v : Int) : BoxC (w.alloc (.cells #[.int .u8 o, .int .i64 a, .int .u64 v] 27)) w.heap.size o a v := ⟨heap_alloc_new w _⟩
theorem BoxC.set0 {W : World} {p : Nat} {o a v : Int} (h : BoxC W p o a v) (x : Int) : BoxC (W.setCell ⟨p, 0, none⟩ (.int .u8 x)) p x a v := ⟨heap_setCell_same _ _ _ _ _ _ h.st⟩
theorem BoxC.set1 {W : World} {p : Nat} {o a v : Int} (h : BoxC W p o a v) (x : Int) : BoxC (W.setCell ⟨p, 1, none⟩ (.int .i64 x)) p o x v := ⟨heap_setCell_same _ _ _ _ _ _ h.st⟩
theorem BoxC.set2 {W : World} {p : Nat} {o a v : Int} (h : BoxC W p o a v) (x : Int) : BoxC (W.setCell ⟨p, 2, none⟩ (.int .u64 x)) p o a x := ⟨heap_setCell_same _ _ _ _ _ _ h.st⟩

theorem shI_zero (l : List InsD) : l.map (shI 0) = l := by
  have : ∀ i : InsD, shI 0 i = i := by
    intro i
    unfold shI
    split
    · rw [Int.add_zero]
    · rfl
  rw [show (shI 0) = id from funext this, List.map_id]
theorem blk_zero (b : List InsD) : blkL 0 b = bodyL b := shI_zero _
theorem may_zero {t u : Int} (t0 : 0 ≤ t) (t1 : t < 12) (u0 : 0 ≤ u) (u1 : u < 4) : mayP 0 t u = true := by unfold mayP; simp [t0, t1, u0, u1]
def oneL (j t u : Int) : List InsD := if j = 0 then bodyL (lockB t u) else if j = 1 then bodyL (unlockB t u) else if j = 2 then bodyL (downB t) else bodyL (upB t)
def OneP (w : World) (j t u : Int) (e : Ending) (w' : World) : Prop :=
  ∃ ao cap, e = .returned (.tuple #[.slice ao (oneL j t u).length cap, .agg #[.int .u8 (j + 1), .int .i64 u, .int .u64 0], .int .i64 0]) ∧ InsIn w' ao (oneL j t u).length cap (oneL j t u) ∧ Touch w w' []

theorem lk_ok {w : World} {L : List InsD} {er : Int} (he : er = 0) {e : Ending} {w' : World} (h : LkP w er L e w') : ∃ ao cap, e = .returned (.tuple #[.slice ao L.length cap, .int .i64 0]) ∧ InsIn w' ao L.length cap L ∧ Touch w w' [] := by
  rcases h with ⟨_, h⟩ | ⟨h, _⟩
  · exact h
  · exact absurd he h

theorem box_apart {W W' : World} {p : Nat} {ao : Option Addr} {cap : Nat} {L : List InsD} (hb : BoxC W p 0 0 0) (hin : InsIn W ao L.length cap L) (h0 : 0 < L.length) (h21 : L[0].op = 21) (t : Touch W W' [p]) : InsIn W' ao L.length cap L := by
  refine ⟨rfl, SRow.keepB hin.row t (fun _ g hg => ?_), hin.le, hin.max, hin.wf⟩
  obtain ⟨g', off, rfl, d0, _, _⟩ := ins_at hin.row (Touch.refl W []) (by simp) 0 h0
  simp only [Value.ownBlock, Option.some.injEq] at hg
  subst hg
  intro hm
  rw [List.mem_singleton] at hm
  subst hm
  rw [h21] at d0
  unfold World.cell? at d0
  rw [hb.st] at d0
  match off, d0 with
  | 0, d0 => simp at d0
  | 1, d0 => simp at d0
  | 2, d0 => simp at d0
  | n + 3, d0 => simp at d0
theorem one_first (j t u : Int) : 0 < (oneL j t u).length ∧ ∀ h : 0 < (oneL j t u).length, (oneL j t u)[0].op = 21 := by
  unfold oneL
  split
  · exact ⟨by simp [bodyL], fun _ => rfl⟩
  · split
    · exact ⟨by simp [bodyL], fun _ => rfl⟩
    · split
      · exact ⟨by simp [bodyL], fun _ => rfl⟩
      · exact ⟨by simp [bodyL], fun _ => rfl⟩

set_option maxRecDepth 100000 in
set_option maxHeartbeats 2000000 in
theorem lone_any (k t u : Int) (k0 : 0 ≤ k) (k1 : k ≤ 255) (t0 : 0 ≤ t) (t1 : t < 12) (u0 : 0 ≤ u) (u1 : u < 4) (w : World) :
    Calls Try.prog 4 #[.int .u8 k, .int .i64 t, .int .i64 u] w (OneP w (k % 4) t u) := by
  have C0 : Hid (∀ W, HidC Try.prog 11 #[.int .i64 0, .int .i64 t, .int .i64 u] W (fun e w' => ∃ ao cap, e = .returned (.tuple #[.slice ao (bodyL (lockB t u)).length cap, .int .i64 0]) ∧ InsIn w' ao (bodyL (lockB t u)).length cap (bodyL (lockB t u)) ∧ Touch W w' [])) := fun W => ⟨(llock_any 0 t u W).mono fun e w' h => by
    rw [blk_zero] at h; exact lk_ok (by unfold lockE; rw [if_pos (may_zero t0 t1 u0 u1)]; unfold blkE; rw [lock_body]; rfl) h⟩
  have C1 : Hid (∀ W, HidC Try.prog 12 #[.int .i64 0, .int .i64 t, .int .i64 u] W (fun e w' => ∃ ao cap, e = .returned (.tuple #[.slice ao (bodyL (unlockB t u)).length cap, .int .i64 0]) ∧ InsIn w' ao (bodyL (unlockB t u)).length cap (bodyL (unlockB t u)) ∧ Touch W w' [])) := fun W => ⟨(lunlock_any 0 t u W).mono fun e w' h => by
    rw [blk_zero] at h; exact lk_ok (by unfold unlockE; rw [if_pos (may_zero t0 t1 u0 u1)]; unfold blkE; rw [unlock_body]; rfl) h⟩
  have C2 : Hid (∀ W, HidC Try.prog 13 #[.int .i64 0, .int .i64 t] W (fun e w' => ∃ ao cap, e = .returned (.tuple #[.slice ao (bodyL (downB t)).length cap, .int .i64 0]) ∧ InsIn w' ao (bodyL (downB t)).length cap (bodyL (downB t)) ∧ Touch W w' [])) := fun W => ⟨(ldown_any 0 t W).mono fun e w' h => by
    rw [blk_zero] at h; exact lk_ok (by unfold downE; rw [if_pos (may_zero t0 t1 (by omega) (by omega))]; unfold blkE; rw [down_body]; rfl) h⟩
  have C3 : Hid (∀ W, HidC Try.prog 14 #[.int .i64 0, .int .i64 t] W (fun e w' => ∃ ao cap, e = .returned (.tuple #[.slice ao (bodyL (upB t)).length cap, .int .i64 0]) ∧ InsIn w' ao (bodyL (upB t)).length cap (bodyL (upB t)) ∧ Touch W w' [])) := fun W => ⟨(lup_any 0 t W).mono fun e w' h => by
    rw [blk_zero] at h; exact lk_ok (by unfold upE; rw [if_pos (may_zero t0 t1 (by omega) (by omega))]; unfold blkE; rw [up_body]; rfl) h⟩
  have HQ : Hid (OneP w (k % 4) t u = OneP w (k % 4) t u) := rfl
  obtain ⟨j, hj⟩ : ∃ j, j = k % 4 := ⟨_, rfl⟩
  have hj4 : j = 0 ∨ j = 1 ∨ j = 2 ∨ j = 3 := by omega
  have hrem : k.tmod 4 = j := by rw [hj, Int.tmod_eq_emod_of_nonneg k0]
  have hwj : IntKind.u8.wrap j = j := by rw [IntKind.wrap_u8]; omega
  rw [← hj]
  have HTA : Hid (∀ q, Touch w ((w.alloc (.cells #[.int .u8 0, .int .i64 0, .int .u64 0] 27)).alloc (.cells #[.int .u8 q, .int .i64 u, .int .u64 0] 27)) []) := fun q => ((Touch.refl w []).alloc _).alloc _
  have HA : Hid (∀ q, BoxC ((w.alloc (.cells #[.int .u8 0, .int .i64 0, .int .u64 0] 27)).alloc (.cells #[.int .u8 q, .int .i64 u, .int .u64 0] 27)) w.heap.size 0 0 0) := fun q => (BoxC.new w 0 0 0).touch ((Touch.refl _ []).alloc _) (by simp)
  have HB : Hid (∀ q, BoxC ((w.alloc (.cells #[.int .u8 0, .int .i64 0, .int .u64 0] 27)).alloc (.cells #[.int .u8 q, .int .i64 u, .int .u64 0] 27)) (w.heap.size + 1) q u 0) := fun q => by
    have := BoxC.new (w.alloc (.cells #[.int .u8 0, .int .i64 0, .int .u64 0] 27)) q u 0
    simpa using this
  clear hj HQ
  go_enter Try.func4, Try.ntmps4
  rcases hj4 with rfl | rfl | rfl | rfl
  · go_wp2_with fail
    have ta := HTA.out 1
    have ba := HA.out 1
    have bb := HB.out 1
    generalize ((w.alloc (.cells #[.int .u8 0, .int .i64 0, .int .u64 0] 27)).alloc (.cells #[.int .u8 1, .int .i64 u, .int .u64 0] 27)) = Q at *
    have HTA' : Hid _ := ta
    have HA' : Hid _ := ba
    have HB' : Hid _ := bb
    clear ta ba bb HTA HA HB
    refine (C0.out _).out.mono ?_
    rintro e w1 ⟨ao, cap, rfl, hin, s1⟩
    have HT1 : Hid (Touch w w1 []) := HTA'.out.trans s1 (by simp)
    obtain ⟨a0, a1, a2⟩ := (HA'.out.touch s1 (by simp)).cells
    obtain ⟨b0, b1, b2⟩ := (HB'.out.touch s1 (by simp)).cells
    have f0 := (HA'.out.touch s1 (by simp)).fr 0
    have f1 := (HA'.out.touch s1 (by simp)).fr 1
    have f2 := (HA'.out.touch s1 (by simp)).fr 2
    have HA1 : Hid _ := HA'.out.touch s1 (by simp)
    have HL : Hid (oneL 0 t u = bodyL (lockB t u)) := by show _ = _; unfold oneL; simp
    have HIN : Hid (∀ W', Touch w1 W' [w.heap.size] → InsIn W' ao (bodyL (lockB t u)).length cap (bodyL (lockB t u))) := by
      have h1 := one_first 0 t u
      rw [HL.out] at h1
      exact fun W' t => box_apart HA1.out hin h1.1 (h1.2 h1.1) t
    clear hin s1 C0 C1 C2 C3
    generalize bodyL (lockB t u) = L at *
    obtain ⟨n9, hn9⟩ : ∃ n9, n9 = L.length := ⟨_, rfl⟩
    have HN9 : Hid _ := hn9
    rw [← hn9]
    clear hn9
    go_wp2_with fail
    go_region
    all_goals
      go_wp2
      have hb2 := ((HA1.out.set0 1).set1 u).set2 0
      obtain ⟨k0', k1', k2'⟩ := hb2.cells
      refine bodyPost_ret (v := .tuple #[.slice ao n9 cap, .agg #[.int .u8 1, .int .i64 u, .int .u64 0], .int .i64 0]) (by simp [results, Try.results4, go_sem, k0', k1', k2']) rfl ?_
      have ht : Touch w1 (((w1.setCell ⟨w.heap.size, 0, none⟩ (.int .u8 1)).setCell ⟨w.heap.size, 1, none⟩ (.int .i64 u)).setCell ⟨w.heap.size, 2, none⟩ (.int .u64 0)) [w.heap.size] := (((Touch.refl _ _).setCell (.inl (by simp)) _).setCell (.inl (by simp)) _).setCell (.inl (by simp)) _
      unfold OneP
      rw [HL.out]
      exact ⟨ao, cap, by rw [HN9.out]; rfl, HIN.out _ ht.drew, (HT1.out.trans ht (fun x hx => .inr (by simp at hx; omega))).drew⟩
  · go_wp2_with fail
    have ta := HTA.out 2
    have ba := HA.out 2
    have bb := HB.out 2
    generalize ((w.alloc (.cells #[.int .u8 0, .int .i64 0, .int .u64 0] 27)).alloc (.cells #[.int .u8 2, .int .i64 u, .int .u64 0] 27)) = Q at *
    have HTA' : Hid _ := ta
    have HA' : Hid _ := ba
    have HB' : Hid _ := bb
    clear ta ba bb HTA HA HB
    refine (C1.out _).out.mono ?_
    rintro e w1 ⟨ao, cap, rfl, hin, s1⟩
    have HT1 : Hid (Touch w w1 []) := HTA'.out.trans s1 (by simp)
    obtain ⟨a0, a1, a2⟩ := (HA'.out.touch s1 (by simp)).cells
    obtain ⟨b0, b1, b2⟩ := (HB'.out.touch s1 (by simp)).cells
    have f0 := (HA'.out.touch s1 (by simp)).fr 0
    have f1 := (HA'.out.touch s1 (by simp)).fr 1
    have f2 := (HA'.out.touch s1 (by simp)).fr 2
    have HA1 : Hid _ := HA'.out.touch s1 (by simp)
    have HL : Hid (oneL 1 t u = bodyL (unlockB t u)) := by show _ = _; unfold oneL; simp
    have HIN : Hid (∀ W', Touch w1 W' [w.heap.size] → InsIn W' ao (bodyL (unlockB t u)).length cap (bodyL (unlockB t u))) := by
      have h1 := one_first 1 t u
      rw [HL.out] at h1
      exact fun W' t => box_apart HA1.out hin h1.1 (h1.2 h1.1) t
    clear hin s1 C0 C1 C2 C3
    generalize bodyL (unlockB t u) = L at *
    obtain ⟨n9, hn9⟩ : ∃ n9, n9 = L.length := ⟨_, rfl⟩
    have HN9 : Hid _ := hn9
    rw [← hn9]
    clear hn9
    go_wp2_with fail
    go_region
    all_goals
      go_wp2
      have hb2 := ((HA1.out.set0 2).set1 u).set2 0
      obtain ⟨k0', k1', k2'⟩ := hb2.cells
      refine bodyPost_ret (v := .tuple #[.slice ao n9 cap, .agg #[.int .u8 2, .int .i64 u, .int .u64 0], .int .i64 0]) (by simp [results, Try.results4, go_sem, k0', k1', k2']) rfl ?_
      have ht : Touch w1 (((w1.setCell ⟨w.heap.size, 0, none⟩ (.int .u8 2)).setCell ⟨w.heap.size, 1, none⟩ (.int .i64 u)).setCell ⟨w.heap.size, 2, none⟩ (.int .u64 0)) [w.heap.size] := (((Touch.refl _ _).setCell (.inl (by simp)) _).setCell (.inl (by simp)) _).setCell (.inl (by simp)) _
      unfold OneP
      rw [HL.out]
      exact ⟨ao, cap, by rw [HN9.out]; rfl, HIN.out _ ht.drew, (HT1.out.trans ht (fun x hx => .inr (by simp at hx; omega))).drew⟩
  · go_wp2_with fail
    have ta := HTA.out 3
    have ba := HA.out 3
    have bb := HB.out 3
    generalize ((w.alloc (.cells #[.int .u8 0, .int .i64 0, .int .u64 0] 27)).alloc (.cells #[.int .u8 3, .int .i64 u, .int .u64 0] 27)) = Q at *
    have HTA' : Hid _ := ta
    have HA' : Hid _ := ba
    have HB' : Hid _ := bb
    clear ta ba bb HTA HA HB
    refine (C2.out _).out.mono ?_
    rintro e w1 ⟨ao, cap, rfl, hin, s1⟩
    have HT1 : Hid (Touch w w1 []) := HTA'.out.trans s1 (by simp)
    obtain ⟨a0, a1, a2⟩ := (HA'.out.touch s1 (by simp)).cells
    obtain ⟨b0, b1, b2⟩ := (HB'.out.touch s1 (by simp)).cells
    have f0 := (HA'.out.touch s1 (by simp)).fr 0
    have f1 := (HA'.out.touch s1 (by simp)).fr 1
    have f2 := (HA'.out.touch s1 (by simp)).fr 2
    have HA1 : Hid _ := HA'.out.touch s1 (by simp)
    have HL : Hid (oneL 2 t u = bodyL (downB t)) := by show _ = _; unfold oneL; simp
    have HIN : Hid (∀ W', Touch w1 W' [w.heap.size] → InsIn W' ao (bodyL (downB t)).length cap (bodyL (downB t))) := by
      have h1 := one_first 2 t u
      rw [HL.out] at h1
      exact fun W' t => box_apart HA1.out hin h1.1 (h1.2 h1.1) t
    clear hin s1 C0 C1 C2 C3
    generalize bodyL (downB t) = L at *
    obtain ⟨n9, hn9⟩ : ∃ n9, n9 = L.length := ⟨_, rfl⟩
    have HN9 : Hid _ := hn9
    rw [← hn9]
    clear hn9
    go_wp2_with fail
    go_region
    all_goals
      go_wp2
      have hb2 := ((HA1.out.set0 3).set1 u).set2 0
      obtain ⟨k0', k1', k2'⟩ := hb2.cells
      refine bodyPost_ret (v := .tuple #[.slice ao n9 cap, .agg #[.int .u8 3, .int .i64 u, .int .u64 0], .int .i64 0]) (by simp [results, Try.results4, go_sem, k0', k1', k2']) rfl ?_
      have ht : Touch w1 (((w1.setCell ⟨w.heap.size, 0, none⟩ (.int .u8 3)).setCell ⟨w.heap.size, 1, none⟩ (.int .i64 u)).setCell ⟨w.heap.size, 2, none⟩ (.int .u64 0)) [w.heap.size] := (((Touch.refl _ _).setCell (.inl (by simp)) _).setCell (.inl (by simp)) _).setCell (.inl (by simp)) _
      unfold OneP
      rw [HL.out]
      exact ⟨ao, cap, by rw [HN9.out]; rfl, HIN.out _ ht.drew, (HT1.out.trans ht (fun x hx => .inr (by simp at hx; omega))).drew⟩
  · go_wp2_with fail
    have ta := HTA.out 4
    have ba := HA.out 4
    have bb := HB.out 4
    generalize ((w.alloc (.cells #[.int .u8 0, .int .i64 0, .int .u64 0] 27)).alloc (.cells #[.int .u8 4, .int .i64 u, .int .u64 0] 27)) = Q at *
    have HTA' : Hid _ := ta
    have HA' : Hid _ := ba
    have HB' : Hid _ := bb
    clear ta ba bb HTA HA HB
    refine (C3.out _).out.mono ?_
    rintro e w1 ⟨ao, cap, rfl, hin, s1⟩
    have HT1 : Hid (Touch w w1 []) := HTA'.out.trans s1 (by simp)
    obtain ⟨a0, a1, a2⟩ := (HA'.out.touch s1 (by simp)).cells
    obtain ⟨b0, b1, b2⟩ := (HB'.out.touch s1 (by simp)).cells
    have f0 := (HA'.out.touch s1 (by simp)).fr 0
    have f1 := (HA'.out.touch s1 (by simp)).fr 1
    have f2 := (HA'.out.touch s1 (by simp)).fr 2
    have HA1 : Hid _ := HA'.out.touch s1 (by simp)
    have HL : Hid (oneL 3 t u = bodyL (upB t)) := by show _ = _; unfold oneL; simp
    have HIN : Hid (∀ W', Touch w1 W' [w.heap.size] → InsIn W' ao (bodyL (upB t)).length cap (bodyL (upB t))) := by
      have h1 := one_first 3 t u
      rw [HL.out] at h1
      exact fun W' t => box_apart HA1.out hin h1.1 (h1.2 h1.1) t
    clear hin s1 C0 C1 C2 C3
    generalize bodyL (upB t) = L at *
    obtain ⟨n9, hn9⟩ : ∃ n9, n9 = L.length := ⟨_, rfl⟩
    have HN9 : Hid _ := hn9
    rw [← hn9]
    clear hn9
    go_wp2_with fail
    go_region
    all_goals
      go_wp2
      have hb2 := ((HA1.out.set0 4).set1 u).set2 0
      obtain ⟨k0', k1', k2'⟩ := hb2.cells
      refine bodyPost_ret (v := .tuple #[.slice ao n9 cap, .agg #[.int .u8 4, .int .i64 u, .int .u64 0], .int .i64 0]) (by simp [results, Try.results4, go_sem, k0', k1', k2']) rfl ?_
      have ht : Touch w1 (((w1.setCell ⟨w.heap.size, 0, none⟩ (.int .u8 4)).setCell ⟨w.heap.size, 1, none⟩ (.int .i64 u)).setCell ⟨w.heap.size, 2, none⟩ (.int .u64 0)) [w.heap.size] := (((Touch.refl _ _).setCell (.inl (by simp)) _).setCell (.inl (by simp)) _).setCell (.inl (by simp)) _
      unfold OneP
      rw [HL.out]
      exact ⟨ao, cap, by rw [HN9.out]; rfl, HIN.out _ ht.drew, (HT1.out.trans ht (fun x hx => .inr (by simp at hx; omega))).drew⟩

end Go.Proofs.Ytjbbjbbkembknaa
/-
  LocksMean: WHAT THE BLOCKS COME TO, reckoned.
-/
namespace Go.Proofs.Ytjbbjbbkembknaa
set_option linter.unusedVariables false
set_option linter.unusedSimpArgs false
open Go.RowKit

def lmR (j u n : Int) : Int × WD × List Int := rrunB (oneL j 2 u) 50 ⟨1, [], 0, 0, 0, 0, [], 0⟩ [0, 0, numV n]
def lmW (j u n : Int) : Int := if j = 0 then numV (u + 1) else if j = 1 then (if n = u + 1 then numV 0 else numV n) else if j = 2 then numV (n - 1) else numV (n + 1)
def lmS (j u n : Int) : List Int := if j = 1 then [if n = u + 1 then 4607182418800017408 else 0] else []
set_option maxRecDepth 100000 in
theorem lm_fin : ∀ (j : Fin 4) (u : Fin 4) (n : Fin 5), (if ((j.val : Int) = 0 ∧ 0 < (n.val : Int)) ∨ ((j.val : Int) = 2 ∧ (n.val : Int) = 0) then (lmR j.val u.val n.val).1 = -1 else (lmR j.val u.val n.val).1 = 0 ∧ (lmR j.val u.val n.val).2.1.pc = (oneL j.val 2 u.val).length ∧ (lmR j.val u.val n.val).2.2.length = 3 ∧ (lmR j.val u.val n.val).2.2.getD 2 0 = lmW j.val u.val n.val ∧ (lmR j.val u.val n.val).2.1.st = lmS j.val u.val n.val) := by decide +kernel
theorem lm_run (j u n : Int) (j0 : 0 ≤ j) (j1 : j < 4) (u0 : 0 ≤ u) (u1 : u < 4) (n0 : 0 ≤ n) (n1 : n < 5) : (if (j = 0 ∧ 0 < n) ∨ (j = 2 ∧ n = 0) then (lmR j u n).1 = -1 else (lmR j u n).1 = 0 ∧ (lmR j u n).2.1.pc = (oneL j 2 u).length ∧ (lmR j u n).2.2.length = 3 ∧ (lmR j u n).2.2.getD 2 0 = lmW j u n ∧ (lmR j u n).2.1.st = lmS j u n) := by
  have := lm_fin ⟨j.toNat, by omega⟩ ⟨u.toNat, by omega⟩ ⟨n.toNat, by omega⟩
  simpa [Int.toNat_of_nonneg j0, Int.toNat_of_nonneg u0, Int.toNat_of_nonneg n0] using this
theorem lm_arms : ∀ (j : Fin 4) (u : Fin 4), ∀ i ∈ oneL j.val 2 u.val, i.op ≠ 23 ∧ i.op ≠ 24 ∧ i.op ≠ 25 := by decide +kernel
theorem lm_here : ∀ (j : Fin 4) (u : Fin 4), ((hereP (oneL j.val 2 u.val) 0).map (·.op)) = some 21 := by decide +kernel
theorem lm_len : ∀ (j : Fin 4) (u : Fin 4), (oneL j.val 2 u.val).length ≤ 11 ∧ 0 < (oneL j.val 2 u.val).length := by decide +kernel

end Go.Proofs.Ytjbbjbbkembknaa

/-
  WHAT A TABLE OF LOCKS IS, IN PLAIN WORDS AND IN MEMORY. No walk.
-/
import Derived.Test.YthkphhjhgkclfaaDoorLockRef
import Derived.Deep.AppendLies
namespace Go.Proofs.YthkphhjhgkclfaaDoor
set_option linter.unusedVariables false
set_option linter.unusedSimpArgs false
open Go.RowKit

/-- The cells of a table. -/
def tcells (now : Int) (ws : List Int) : List Value := .int .u64 now :: .int .i64 ws.length :: (ws ++ List.replicate (8 - ws.length) 0).map (Value.int .u64)

/-- A TABLE IN MEMORY. -/
structure TObj (w : World) (b : Nat) (now : Int) (ws : List Int) : Prop where
  st : w.heap[b]? = some (.cells (tcells now ws).toArray 62 (0, 0))

/-- THE DOCUMENT's TABLE IN MEMORY. -/
structure RObj (B : Nat) (w : World) (b : Nat) (vw : Value) (now : Int) (ws : List Int) : Prop where
  hb : B ≤ b
  st : w.heap[b]? = some (.cells #[vw, .int .u64 now] 58 (0, 0))
  own : w.ownsRow B 31 1 vw ws.length (ws.map (Value.int .u64))

/-- What a table's words and clock always are. -/
structure Good (now : Int) (ws : List Int) : Prop where
  pos : 0 < ws.length
  le : ws.length ≤ 8
  c0 : 0 ≤ now
  c1 : now ≤ 1099511627776
  word : ∀ x ∈ ws, (0 ≤ x ∧ x < 18446744073709551616) ∧ (readP x).2.2 = 0 ∧ (readP x).2.1 ≤ now

theorem TObj.lt {w : World} {b : Nat} {now : Int} {ws : List Int} (h : TObj w b now ws) : b < w.heap.size := lt_of_heap h.st
theorem TObj.touch {w w' : World} {b : Nat} {now : Int} {ws : List Int} {S : List Nat} (h : TObj w b now ws) (t : Touch w w' S) (hS : b ∉ S) : TObj w' b now ws := ⟨(t.block b h.lt hS).trans h.st⟩
theorem TObj.cNow {w : World} {b : Nat} {now : Int} {ws : List Int} (h : TObj w b now ws) : w.cell? ⟨b, 0, none⟩ = some (.int .u64 now) := by simp [World.cell?, h.st, tcells]
theorem TObj.cSize {w : World} {b : Nat} {now : Int} {ws : List Int} (h : TObj w b now ws) : w.cell? ⟨b, 1, none⟩ = some (.int .i64 ws.length) := by simp [World.cell?, h.st, tcells]
theorem TObj.cWord {w : World} {b : Nat} {now : Int} {ws : List Int} (h : TObj w b now ws) (i : Nat) (hi : i < ws.length) : w.cell? ⟨b, 2 + i, none⟩ = some (.int .u64 (ws.getD i 0)) := by
  have e : 2 + i = i + 1 + 1 := by omega
  rw [List.getD_eq_getElem?_getD, List.getElem?_eq_getElem hi]
  simp only [World.cell?, h.st, tcells, e]
  simp [List.getElem?_append, hi]
theorem TObj.frozen {w : World} {b : Nat} {now : Int} {ws : List Int} (h : TObj w b now ws) (j : Nat) : w.frozen? ⟨b, j, none⟩ = false := by simp [World.frozen?, h.st]

theorem TObj.set {w : World} {b : Nat} {now : Int} {ws : List Int} (h : TObj w b now ws) (i : Nat) (hi : i < ws.length) (v : Int) : TObj (w.setCell ⟨b, 2 + i, none⟩ (.int .u64 v)) b now (ws.set i v) := by
  refine ⟨?_⟩
  have e : 2 + i = i + 1 + 1 := by omega
  simp only [World.setCell, Array.getElem?_modify, h.st, e]
  simp [tcells]
  rw [List.set_append_left _ _ (by simpa using hi)]
theorem TObj.setNow {w : World} {b : Nat} {now : Int} {ws : List Int} (h : TObj w b now ws) (v : Int) : TObj (w.setCell ⟨b, 0, none⟩ (.int .u64 v)) b v ws := by
  refine ⟨?_⟩
  simp only [World.setCell, Array.getElem?_modify, h.st]
  simp [tcells]

theorem RObj.touch {B : Nat} {w w' : World} {b : Nat} {vw : Value} {now : Int} {ws : List Int} {S : List Nat} (h : RObj B w b vw now ws) (t : Touch w w' S) (hb : b ∉ S) (hS : ∀ k, vw.ownBlock = some k → k ∉ S) : RObj B w' b vw now ws :=
  ⟨h.hb, (t.block b (lt_of_heap h.st) hb).trans h.st, ownsRow_touch h.own t hS⟩

/-! ### One deed on the words, as plain data -/
def wordAt (ws : List Int) (s : Int) : Int := ws.getD s.toNat 0
abbrev inS (ws : List Int) (s : Int) : Prop := 0 ≤ s ∧ s < ws.length

/-- What a change of one word comes to: the error, the words. -/
def putS (ws : List Int) (s : Int) (r : Int × Int) : Int × List Int := if r.2 = 0 then (0, ws.set s.toNat r.1) else (r.2, ws)
def lockS (ws : List Int) (o s : Int) : Int × List Int := if inS ws s then putS ws s (lockP (wordAt ws s) o) else (2, ws)
def unlockS (now : Int) (ws : List Int) (o s v : Int) : Int × List Int := if inS ws s then (if now < v then (2, ws) else putS ws s (unlockP (wordAt ws s) o v)) else (2, ws)
def restoreS (ws : List Int) (o s : Int) : Int × List Int := if inS ws s then putS ws s (restoreP (wordAt ws s) o) else (2, ws)
/-- Whether a word is an owner's. -/
def isMine (o : Int) (n : Int) : Bool := decide (0 ≤ (readP n).1) && decide ((readP n).1 = o)
def freed (o : Int) (n : Int) : Int := if isMine o n then (readP n).2.1 * 32 else n
def dropS (ws : List Int) (o : Int) : Int × List Int := (((ws.filter (isMine o)).length : Int), ws.map (freed o))

theorem Good.at {now : Int} {ws : List Int} (h : Good now ws) {s : Int} (hs : inS ws s) : (0 ≤ wordAt ws s ∧ wordAt ws s < 18446744073709551616) ∧ (readP (wordAt ws s)).2.2 = 0 ∧ (readP (wordAt ws s)).2.1 ≤ now := by
  unfold inS at hs
  unfold wordAt
  rw [List.getD_eq_getElem?_getD, List.getElem?_eq_getElem (by omega)]
  exact h.word _ (List.getElem_mem _)

theorem lockP_word {n o : Int} (hn : 0 ≤ n ∧ n < 18446744073709551616) (h : (lockP n o).2 = 0) : (0 ≤ o ∧ o < 4) ∧ (readP n).2.2 = 0 ∧ (readP n).1 = -1 ∧ (lockP n o).1 = (readP n).2.1 * 32 + o * 2 + 1 := by
  unfold lockP at *
  by_cases h1 : (readP n).2.2 = 0
  · rw [if_neg (fun hh => hh h1)] at h ⊢
    by_cases h2 : 0 ≤ o ∧ o < 4
    · rw [if_neg (fun hh => hh h2)] at h ⊢
      by_cases h3 : (readP n).1 = o
      · rw [if_pos h3] at h; simp at h
      · rw [if_neg h3] at h ⊢
        by_cases h4 : 0 ≤ (readP n).1
        · rw [if_pos h4] at h; simp at h
        · rw [if_neg h4]
          obtain ⟨_, _, h5⟩ := readP_ok hn.1 h1
          exact ⟨h2, h1, by omega, rfl⟩
    · rw [if_pos h2] at h; simp at h
  · rw [if_pos h1] at h; simp at h

theorem readP_free' {v : Int} (h0 : 0 ≤ v) (h1 : v ≤ 1099511627776) : readP (v * 32) = (-1, v, 0) := by
  have e1 : v * 32 / 32 = v := by omega
  have e2 : v * 32 % 32 = 0 := by omega
  unfold readP
  rw [e1, if_neg (by omega), if_pos e2]

theorem readP_held' {o v : Int} (ho : 0 ≤ o ∧ o < 4) (h0 : 0 ≤ v) (h1 : v ≤ 1099511627776) : readP (v * 32 + o * 2 + 1) = (o, v, 0) := by
  have e1 : (v * 32 + o * 2 + 1) / 32 = v := by omega
  have e2 : ¬ (v * 32 + o * 2 + 1) % 32 = 0 := by omega
  have e3 : (v * 32 + o * 2 + 1) % 2 = 1 := by omega
  have e4 : (v * 32 + o * 2 + 1) % 32 / 2 = o := by omega
  unfold readP
  rw [e1, e3, e4, if_neg (by omega), if_neg e2, if_pos ⟨rfl, ho.2⟩]

/-- A word that may stand there. -/
def Fine (now x : Int) : Prop := (0 ≤ x ∧ x < 18446744073709551616) ∧ (readP x).2.2 = 0 ∧ (readP x).2.1 ≤ now

theorem fine_free {now v : Int} (h0 : 0 ≤ v) (h1 : v ≤ now) (h2 : now ≤ 1099511627776) : Fine now (v * 32) := by
  unfold Fine
  rw [readP_free' h0 (by omega)]
  exact ⟨by omega, rfl, h1⟩
theorem fine_held {now o v : Int} (ho : 0 ≤ o ∧ o < 4) (h0 : 0 ≤ v) (h1 : v ≤ now) (h2 : now ≤ 1099511627776) : Fine now (v * 32 + o * 2 + 1) := by
  unfold Fine
  rw [readP_held' ho h0 (by omega)]
  exact ⟨by omega, rfl, h1⟩

theorem Good.set {now : Int} {ws : List Int} (h : Good now ws) (i : Nat) {x : Int} (hx : Fine now x) : Good now (ws.set i x) :=
  ⟨by simpa using h.pos, by simpa using h.le, h.c0, h.c1, fun y hy => by
    rcases List.mem_or_eq_of_mem_set hy with hy | rfl
    · exact h.word y hy
    · exact hx⟩

theorem unlockP_word {n o v : Int} (h : (unlockP n o v).2 = 0) : (readP n).2.2 = 0 ∧ (0 ≤ o ∧ o < 4) ∧ v ≤ 1099511627776 ∧ (readP n).1 = o ∧ (readP n).2.1 ≤ v ∧ (unlockP n o v).1 = v * 32 := by
  unfold unlockP at *
  by_cases h1 : (readP n).2.2 = 0
  · rw [if_neg (fun hh => hh h1)] at h ⊢
    by_cases h2 : ¬ (0 ≤ o ∧ o < 4) ∨ 1099511627776 < v
    · rw [if_pos h2] at h; simp at h
    · rw [if_neg h2] at h ⊢
      by_cases h3 : (readP n).1 ≠ o ∨ v < (readP n).2.1
      · rw [if_pos h3] at h; simp at h
      · rw [if_neg h3]
        exact ⟨h1, by omega, by omega, by omega, by omega, rfl⟩
  · rw [if_pos h1] at h; simp at h

theorem restoreP_word {n o : Int} (h : (restoreP n o).2 = 0) : (readP n).2.2 = 0 ∧ (0 ≤ o ∧ o < 4) ∧ (readP n).1 = o ∧ (restoreP n o).1 = (readP n).2.1 * 32 := by
  unfold restoreP at *
  by_cases h1 : (readP n).2.2 = 0
  · rw [if_neg (fun hh => hh h1)] at h ⊢
    by_cases h2 : 0 ≤ o ∧ o < 4
    · rw [if_neg (fun hh => hh h2)] at h ⊢
      by_cases h3 : (readP n).1 = o
      · rw [if_neg (fun hh => hh h3)]
        exact ⟨h1, h2, h3, rfl⟩
      · rw [if_pos h3] at h; simp at h
    · rw [if_pos h2] at h; simp at h
  · rw [if_pos h1] at h; simp at h

theorem lockP_fine {now n o : Int} (h : Fine now n) (hc : now ≤ 1099511627776) (h0 : (lockP n o).2 = 0) : Fine now (lockP n o).1 := by
  obtain ⟨ho, hr, hw, e⟩ := lockP_word h.1 h0
  rw [e]
  exact fine_held ho (readP_v h.1.1) h.2.2 hc
theorem unlockP_fine {now n o v : Int} (h : Fine now n) (hc : now ≤ 1099511627776) (hv : 0 ≤ v) (hl : ¬ now < v) (h0 : (unlockP n o v).2 = 0) : Fine now (unlockP n o v).1 := by
  obtain ⟨hr, ho, hv1, hw, hle, e⟩ := unlockP_word h0
  rw [e]
  exact fine_free hv (by omega) hc
theorem restoreP_fine {now n o : Int} (h : Fine now n) (hc : now ≤ 1099511627776) (h0 : (restoreP n o).2 = 0) : Fine now (restoreP n o).1 := by
  obtain ⟨hr, ho, hw, e⟩ := restoreP_word h0
  rw [e]
  exact fine_free (readP_v h.1.1) h.2.2 hc

theorem putS_len (ws : List Int) (s : Int) (r : Int × Int) : (putS ws s r).2.length = ws.length := by unfold putS; split <;> simp

theorem Good.put {now : Int} {ws : List Int} (h : Good now ws) {s : Int} {r : Int × Int} (hr : r.2 = 0 → Fine now r.1) : Good now (putS ws s r).2 := by
  unfold putS
  split
  · exact h.set _ (hr ‹_›)
  · exact h
theorem Good.lock {now : Int} {ws : List Int} (h : Good now ws) (o s : Int) : Good now (lockS ws o s).2 := by
  unfold lockS
  split
  · exact h.put (fun h0 => lockP_fine (h.at ‹_›) h.c1 h0)
  · exact h
theorem Good.unlock {now : Int} {ws : List Int} (h : Good now ws) (o s : Int) {v : Int} (hv : 0 ≤ v) : Good now (unlockS now ws o s v).2 := by
  unfold unlockS
  split
  · split
    · exact h
    · exact h.put (fun h0 => unlockP_fine (h.at ‹_›) h.c1 hv ‹_› h0)
  · exact h
theorem Good.restore {now : Int} {ws : List Int} (h : Good now ws) (o s : Int) : Good now (restoreS ws o s).2 := by
  unfold restoreS
  split
  · exact h.put (fun h0 => restoreP_fine (h.at ‹_›) h.c1 h0)
  · exact h
theorem freed_fine {now x o : Int} (h : Fine now x) (hc : now ≤ 1099511627776) : Fine now (freed o x) := by
  unfold freed
  split
  · exact fine_free (readP_v h.1.1) h.2.2 hc
  · exact h
theorem Good.drop {now : Int} {ws : List Int} (h : Good now ws) (o : Int) : Good now (dropS ws o).2 :=
  ⟨by simpa [dropS] using h.pos, by simpa [dropS] using h.le, h.c0, h.c1, fun y hy => by
    simp only [dropS, List.mem_map] at hy
    obtain ⟨x, hx, rfl⟩ := hy
    exact freed_fine (h.word x hx) h.c1⟩
theorem Good.tick {now : Int} {ws : List Int} (h : Good now ws) (h0 : (nextP now).2 = 0) : Good (nextP now).1 ws := by
  unfold nextP at *
  have := h.c0
  have := h.c1
  split at h0
  · simp at h0
  · rw [if_neg ‹_›]
    split at h0
    · simp at h0
    · rw [if_neg ‹_›]
      exact ⟨h.pos, h.le, by simp only; omega, by simp only; omega, fun x hx => by
        obtain ⟨a, b, c⟩ := h.word x hx
        exact ⟨a, b, by simp only; omega⟩⟩

end Go.Proofs.YthkphhjhgkclfaaDoor

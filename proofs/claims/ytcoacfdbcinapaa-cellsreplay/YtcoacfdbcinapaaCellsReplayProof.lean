/-
  CellsReplay is proved: for every number of cells, every log (its first 60 entries) and every cell: whether a log can have been, what it leaves, and the last op that may have changed a cell are just what the document says; the arguments read behind the call as before. No condition.
-/
import Derived.Test.YtcoacfdbcinapaaCellsReplays
import Derived.Test.YtcoacfdbcinapaaCellsOpen
namespace Go.Proofs.Ytcoacfdbcinapaa
set_option linter.unusedVariables false
set_option linter.unusedSimpArgs false
open Go.ChangeShapes Go.WideShapes Go.ChangeAt Go.RowKit Go.Joins Go.Deep

/-- An entry that may have changed the cell. -/
def hits (c : Int) (d : DoneD) : Bool := d.ok && (d.op.cell == c && d.op.kind != 1)

/-- The last one of a list that does. -/
def IsLast (c : Int) (l : List DoneD) (at' : Int) (is : Bool) : Prop :=
  (at' = 0 ∧ is = false ∧ ∀ k (h : k < l.length), hits c l[k] = false) ∨
  (∃ k : Nat, ∃ h : k < l.length, at' = k ∧ is = true ∧ hits c l[k] = true ∧ ∀ j (hj : j < l.length), k < j → hits c l[j] = false)

theorem IsLast.one {c : Int} {l : List DoneD} {a b : Int} {x y : Bool} (h : IsLast c l a x) (h' : IsLast c l b y) : a = b ∧ x = y := by
  rcases h with ⟨rfl, rfl, h⟩ | ⟨k, hk, rfl, rfl, hh, h⟩
  · rcases h' with ⟨rfl, rfl, _⟩ | ⟨k', hk', rfl, rfl, hh', _⟩
    · exact ⟨rfl, rfl⟩
    · rw [h k' hk'] at hh'; cases hh'
  · rcases h' with ⟨rfl, rfl, h'⟩ | ⟨k', hk', rfl, rfl, hh', h'⟩
    · rw [h' k hk] at hh; cases hh
    · refine ⟨?_, rfl⟩
      rcases Nat.lt_trichotomy k k' with q | q | q
      · rw [h k' hk' q] at hh'; cases hh'
      · rw [q]
      · rw [h' k hk q] at hh; cases hh

/-- The ways of an entry that does not. -/
theorem hits_false {c : Int} {d : DoneD} (h : hits c d = false) : d.ok = false ∨ (d.ok = true ∧ (d.op.cell == c) = false) ∨ (d.ok = true ∧ d.op.cell = c ∧ d.op.kind = 1) := by
  unfold hits at h
  cases hok : d.ok with
  | false => exact .inl rfl
  | true =>
    rw [hok] at h
    by_cases hc : d.op.cell = c
    · exact .inr (.inr ⟨rfl, hc, by simpa [hc] using h⟩)
    · exact .inr (.inl ⟨rfl, by simpa using hc⟩)

theorem hits_true {c : Int} {d : DoneD} (h : hits c d = true) : d.ok = true ∧ d.op.cell = c ∧ (d.op.kind == 1) = false := by
  simp [hits] at h
  exact ⟨h.1, h.2.1, by simpa using h.2.2⟩

set_option maxRecDepth 100000 in
set_option maxHeartbeats 1600000 in
theorem last_any (c : Int) (hc1 : -9223372036854775808 ≤ c) (hc2 : c ≤ 9223372036854775807) (v : Value) (l : List DoneD) (hl : l.length ≤ 900) (w : World) (hr : DoneRow w v l) :
    Calls Try.prog 14 #[v, .int .i64 c] w fun e w' => ∃ a x, e = .returned (.tuple #[.int .i64 a, .bool x]) ∧ IsLast c l a x ∧ Touch w w' [] := by
  obtain ⟨ao, cap, rfl, hrow⟩ := hr
  have hr : DoneRow w (.slice ao l.length cap) l := ⟨ao, cap, rfl, hrow⟩
  clear hrow
  obtain ⟨N, hN⟩ : ∃ N, N = l.length := ⟨_, rfl⟩
  rw [← hN] at hl
  have HN : Hid (N = l.length) := hN
  go_enter Try.func14, Try.ntmps14
  rw [← hN]
  clear hN
  go_wp2_with fail
  go_loopw [6] (fun i wr => ∃ k : Nat, i = .int .i64 ((k : Int) - 1) ∧ k ≤ N ∧ (∀ j (hj : j < l.length), k ≤ j → hits c l[j] = false) ∧ Touch w wr []) (fun i _ => (intOf i + 1).toNat)
  case atStart => exact ⟨N, rfl, Nat.le_refl _, fun j hj h => by rw [← HN.out] at hj; omega, Touch.refl _ _⟩
  case round =>
    obtain ⟨k, rfl, hk, hno, t⟩ := hrel
    by_cases hk0 : k = 0
    · subst hk0
      have HF : Hid _ := hno
      clear hno hr
      go_wp2
      go_ret2
      exact ⟨0, false, rfl, .inl ⟨rfl, rfl, fun j hj => HF.out j hj (by omega)⟩, t⟩
    · obtain ⟨q, rfl⟩ : ∃ q, k = q + 1 := ⟨k - 1, by omega⟩
      have eq : ((q + 1 : Nat) : Int) - 1 = q := by omega
      have hql : q < l.length := by rw [← HN.out]; omega
      have hqN : (q : Int) < N := by omega
      have hq0 : (0 : Int) ≤ q := by omega
      obtain ⟨g, off, rfl, hg, M0, M1, M2, M3, M4, M5⟩ := hr.six q hql
      have m0 := (t.cell (p := ⟨g, off + q * 6, none⟩) hg (by simp)).trans M0
      have m1 := (t.cell (p := ⟨g, off + q * 6 + 1, none⟩) hg (by simp)).trans M1
      have m2 := (t.cell (p := ⟨g, off + q * 6 + 2, none⟩) hg (by simp)).trans M2
      have m3 := (t.cell (p := ⟨g, off + q * 6 + 3, none⟩) hg (by simp)).trans M3
      have m4 := (t.cell (p := ⟨g, off + q * 6 + 4, none⟩) hg (by simp)).trans M4
      have m5 := (t.cell (p := ⟨g, off + q * 6 + 5, none⟩) hg (by simp)).trans M5
      have HH : Hid (∀ x, hits c l[q] = x → hits c l[q] = x) := fun x h => h
      cases hh : hits c l[q] with
      | true =>
        have hF : Hid (IsLast c l q true) := .inr ⟨q, hql, rfl, rfl, hh, fun j hj h => hno j hj (by omega)⟩
        obtain ⟨x5, x1, x0⟩ := hits_true hh
        rw [x5] at m5
        rw [x1] at m1
        generalize l[q].op.kind = k0 at *
        clear M0 M1 M2 M3 M4 M5 hno hh x5 x1 hr HH
        rw [eq]
        go_wp2
        go_ret2
        exact ⟨q, true, rfl, hF.out, t.alloc _⟩
      | false =>
        have hF : Hid (∀ j (hj : j < l.length), q ≤ j → hits c l[j] = false) := fun j hj h => by
          rcases Nat.eq_or_lt_of_le h with e | e
          · subst e; exact hh
          · exact hno j hj (by omega)
        have hhf := hits_false hh
        generalize l[q].op.kind = k0 at *
        generalize l[q].op.cell = k1 at *
        generalize l[q].ok = k5 at *
        clear M0 M1 M2 M3 M4 M5 hno hh hr HH
        rw [eq]
        rcases hhf with rfl | ⟨rfl, x1⟩ | ⟨rfl, rfl, rfl⟩
        all_goals
          go_wp2
          go_roundw
          case rel => exact ⟨q, rfl, by omega, hF.out, t.alloc _⟩
          case measure => simp [intOf] <;> omega

theorem IsLast.step {c : Int} {l : List DoneD} {k : Nat} (hk : k < l.length) {a : Int} {x : Bool} (h : IsLast c (l.take k) a x) :
    (hits c l[k] = true → IsLast c (l.take (k + 1)) k true) ∧ (hits c l[k] = false → IsLast c (l.take (k + 1)) a x) := by
  have hlen : (l.take (k + 1)).length = k + 1 := by rw [List.length_take]; omega
  have hlen0 : (l.take k).length = k := by rw [List.length_take]; omega
  refine ⟨fun hh => .inr ⟨k, by omega, rfl, rfl, by rw [List.getElem_take]; exact hh, fun j hj h => by omega⟩, fun hh => ?_⟩
  rcases h with ⟨rfl, rfl, h⟩ | ⟨q, hq, rfl, rfl, hh', h⟩
  · refine .inl ⟨rfl, rfl, fun j hj => ?_⟩
    rw [List.getElem_take]
    by_cases e : j = k
    · subst e; exact hh
    · have := h j (by omega)
      rwa [List.getElem_take] at this
  · refine .inr ⟨q, by omega, rfl, rfl, by rw [List.getElem_take] at hh' ⊢; exact hh', fun j hj h1 => ?_⟩
    rw [List.getElem_take]
    by_cases e : j = k
    · subst e; exact hh
    · have := h j (by omega) h1
      rwa [List.getElem_take] at this

set_option maxRecDepth 100000 in
set_option maxHeartbeats 1600000 in
theorem rlast_any (c : Int) (hc1 : -9223372036854775808 ≤ c) (hc2 : c ≤ 9223372036854775807) (v : Value) (l : List DoneD) (hl : l.length ≤ 900) (w : World) (hr : DoneRow w v l) :
    Calls Try.prog 15 #[v, .int .i64 c] w fun e w' => ∃ a x, e = .returned (.tuple #[.int .i64 a, .bool x]) ∧ IsLast c l a x ∧ Touch w w' [] := by
  obtain ⟨ao, cap, rfl, hrow⟩ := hr
  have hr : DoneRow w (.slice ao l.length cap) l := ⟨ao, cap, rfl, hrow⟩
  clear hrow
  obtain ⟨N, hN⟩ : ∃ N, N = l.length := ⟨_, rfl⟩
  rw [← hN] at hl
  have HN : Hid (N = l.length) := hN
  go_enter Try.func15, Try.ntmps15
  rw [← hN]
  clear hN
  go_wp2_with fail
  go_loopw [6, 7, 8] (fun at' is i wr => ∃ (k : Nat) (a : Int) (x : Bool), i = .int .i64 k ∧ at' = .int .i64 a ∧ is = .bool x ∧ k ≤ N ∧ IsLast c (l.take k) a x ∧ Touch w wr []) (fun _ _ i _ => N - (intOf i).toNat)
  case atStart => exact ⟨0, 0, false, rfl, rfl, rfl, Nat.zero_le _, .inl ⟨rfl, rfl, fun k h => by simp at h⟩, Touch.refl _ _⟩
  case round =>
    obtain ⟨k, a, x, rfl, rfl, rfl, hk, hi, t⟩ := hrel
    by_cases hlt : k < N
    · have hql : k < l.length := by rw [← HN.out]; omega
      have hqN : (k : Int) < N := by omega
      have hq0 : (0 : Int) ≤ k := by omega
      have hst := hi.step hql
      obtain ⟨g, off, rfl, hg, M0, M1, M2, M3, M4, M5⟩ := hr.six k hql
      have m0 := (t.cell (p := ⟨g, off + k * 6, none⟩) hg (by simp)).trans M0
      have m1 := (t.cell (p := ⟨g, off + k * 6 + 1, none⟩) hg (by simp)).trans M1
      have m2 := (t.cell (p := ⟨g, off + k * 6 + 2, none⟩) hg (by simp)).trans M2
      have m3 := (t.cell (p := ⟨g, off + k * 6 + 3, none⟩) hg (by simp)).trans M3
      have m5 := (t.cell (p := ⟨g, off + k * 6 + 5, none⟩) hg (by simp)).trans M5
      clear M0 M1 M2 M3 M4 M5
      have n5 := cell_alloc m5
      cases hh : hits c l[k] with
      | true =>
        have hF : Hid _ := hst.1 hh
        obtain ⟨x5, x1, x0⟩ := hits_true hh
        rw [x5] at m5 n5
        rw [x1] at m1
        generalize l[k].op.kind = k0 at *
        clear hh x5 x1 hr hst hi
        go_wp2
        go_roundw
        case rel => exact ⟨k + 1, k, true, by go_num, rfl, rfl, by omega, hF.out, t.alloc _⟩
        case measure => simp [intOf] <;> omega
      | false =>
        have hF : Hid _ := hst.2 hh
        have hhf := hits_false hh
        generalize l[k].op.kind = k0 at *
        generalize l[k].op.cell = k1 at *
        generalize l[k].ok = k5 at *
        clear hh hr hst hi
        rcases hhf with rfl | ⟨rfl, x1⟩ | ⟨rfl, rfl, rfl⟩
        all_goals
          go_wp2
          go_roundw
          case rel => exact ⟨k + 1, a, x, by go_num, rfl, rfl, by omega, hF.out, t.alloc _⟩
          case measure => simp [intOf] <;> omega
    · have hk' : k = N := by omega
      subst hk'
      rw [List.take_of_length_le (by rw [← HN.out]; omega)] at hi
      have HI : Hid _ := hi
      clear hi hr
      go_wp2
      go_ret2
      exact ⟨a, x, rfl, HI.out, t⟩

theorem Try.cells_done : Try.prog.cellsOf 51 = 6 := by kernel_rfl
theorem Try.cells_bool : Try.prog.cellsOf 4 = 1 := by kernel_rfl

theorem done_of_trod {H : Type} {enc : TypeId × Value → H} {w : World} {base : Nat} {spare : Nat → Bool} {held : Bool} {fuel : Nat} {cs : List Value} {x : DataW H × List MemPlace} (h : DataW.trod enc Try.prog w base spare held fuel 51 cs = some x) :
    ∃ d : DoneD, d.op.Wf ∧ cs = d.cells := by
  obtain ⟨xs, n, _, _, hl, hlen, hf⟩ := DataW.trod_struct Try.underlying51 h
  rw [Try.cells_done] at hl
  match xs, hlen with
  | [y0, y1, y2], _ =>
    have f0 : DataW.trod enc Try.prog w base spare held n 49 ((cs.drop 0).take (Try.prog.cellsOf 49)) = some y0 := hf 0 _ rfl
    have f1 : DataW.trod enc Try.prog w base spare held n 43 ((cs.drop 4).take (Try.prog.cellsOf 43)) = some y1 := hf 1 _ rfl
    have f2 : DataW.trod enc Try.prog w base spare held n 4 ((cs.drop 5).take (Try.prog.cellsOf 4)) = some y2 := hf 2 _ rfl
    clear hf h
    match cs, hl with
    | [c0, c1, c2, c3, c4, c5], _ =>
      simp only [Try.cells_op, Try.cells_u64, Try.cells_bool, List.drop_zero, List.drop_succ_cons, List.take_succ_cons, List.take_zero, List.getElem?_cons_zero, List.getElem?_cons_succ] at f0 f1 f2
      obtain ⟨o, ho, eo⟩ := op_of_trod f0
      obtain ⟨x, e1, _, wx⟩ := DataW.trod_int Try.underlying43 f1
      obtain ⟨b, e2, _⟩ := DataW.trod_bool Try.underlying4 f2
      simp at e1 e2
      subst e1 e2
      simp only [OpD.cells, List.cons.injEq, and_true] at eo
      obtain ⟨rfl, rfl, rfl, rfl⟩ := eo
      exact ⟨⟨o, x, b⟩, ho, rfl⟩

/-- A slice of what was done that came in, and its first 60. -/
theorem dones_of_trod {H : Type} {enc : TypeId × Value → H} {W : World} {ao : Option Addr} {len cap : Nat} {d : DataW H} {p : List MemPlace} (h : DataW.Trod enc Try.prog W 0 (fun _ => true) true 30 (.slice ao len cap) d p) :
    ∃ l : List DoneD, l.length = len ∧ DoneRow W (.slice ao len cap) l ∧ (∀ d ∈ l, d.op.Wf) ∧ len ≤ cap ∧ cap ≤ maxLen ∧ (60 < len → ∃ g off, ao = some ⟨g, off, none⟩ ∧ DoneRow W (.slice ao 60 cap) (l.take 60)) := by
  obtain ⟨fuel, hf⟩ := h
  rcases open_slice Try.underlying30 hf with ⟨hcs, _⟩ | ⟨a, len', cap', m, n, D, Pl, hcs, _, hl, hm, hmm, _, hx⟩
  · simp [Value.cells] at hcs
    obtain ⟨rfl, rfl, rfl⟩ := hcs
    exact ⟨[], rfl, ⟨none, 0, rfl, fun hn => absurd rfl hn⟩, by simp, by omega, by simp, by omega⟩
  · simp [Value.cells] at hcs
    obtain ⟨rfl, rfl, rfl⟩ := hcs
    simp only [if_true] at hmm
    have hel : ∀ i, i < len → ∃ d : DoneD, d.op.Wf ∧ ∀ j, j < 6 → W.cell? (a.add (i * 6 + j)) = d.cells[j]? := fun i hi => by
      obtain ⟨cs', h1, h2⟩ := hx i (by omega)
      obtain ⟨o, ho, rfl⟩ := done_of_trod h2
      rw [Try.cells_done] at h1
      obtain ⟨_, _, h3⟩ := World.cells?_some h1
      exact ⟨o, ho, fun j hj => by rw [← add_add]; exact h3 j hj⟩
    obtain ⟨f, hf⟩ : ∃ f : Nat → DoneD, ∀ i, i < len → (f i).op.Wf ∧ ∀ j, j < 6 → W.cell? (a.add (i * 6 + j)) = (f i).cells[j]? := by
      classical
      refine ⟨fun i => if hi : i < len then Classical.choose (hel i hi) else DoneD.zero, fun i hi => ?_⟩
      simp only [dif_pos hi]
      exact Classical.choose_spec (hel i hi)
    have hspot : 0 < len → ∃ g off, a = ⟨g, off, none⟩ ∧ g < W.heap.size := fun hpos => by
      have hc0 := (hf 0 hpos).2 0 (by omega)
      have hc0' : W.cell? (a.add 0) = some (.int .u8 (f 0).op.kind) := by simpa [DoneD.cells] using hc0
      have hsp := World.cell?_spot hc0'
      obtain ⟨g, off, spot⟩ := a
      have : spot = none := by simpa [Addr.add] using hsp
      subst this
      exact ⟨g, off, rfl, by simpa [Addr.add] using World.block_lt_of_cell? W _ hc0'⟩
    have hcell : ∀ g off, a = ⟨g, off, none⟩ → ∀ (q : Nat) (hq : q ≤ len) j u, (((List.range len).map f).take q |>.flatMap DoneD.cells)[j]? = some u → W.cell? ⟨g, off + j, none⟩ = some u := by
      rintro g off rfl q hq j u hu
      have hlen : (((List.range len).map f).take q).length = q := by simp; omega
      have hj : j < q * 6 := by
        have := (List.getElem?_eq_some_iff.1 hu).1
        rwa [length_done, hlen] at this
      have hdm : j = (j / 6) * 6 + j % 6 := by omega
      rw [hdm, flatMap_get _ (j / 6) (by rw [hlen]; omega) (j % 6) (by omega)] at hu
      rw [List.getElem_take, List.getElem_map, List.getElem_range] at hu
      have := (hf (j / 6) (by omega)).2 (j % 6) (by omega)
      rw [hu, Addr.add_lit, ← hdm] at this
      exact this
    refine ⟨(List.range len).map f, by simp, ⟨some a, cap, by simp, fun hn => ?_⟩, ?_, hl, hm, fun h60 => ?_⟩
    · have hpos : 0 < len := by
        rcases Nat.eq_zero_or_pos len with h0 | h0
        · subst h0; simp at hn
        · exact h0
      obtain ⟨g, off, e, hlt⟩ := hspot hpos
      refine ⟨g, off, by rw [e], hlt, fun j u hu => hcell g off e len (Nat.le_refl _) j u ?_⟩
      rw [List.take_of_length_le (by simp)]
      exact hu
    · intro o ho
      simp only [List.mem_map, List.mem_range] at ho
      obtain ⟨i, hi, rfl⟩ := ho
      exact (hf i hi).1
    · obtain ⟨g, off, e, hlt⟩ := hspot (by omega)
      refine ⟨g, off, by rw [e], some a, cap, ?_, fun hn => ⟨g, off, by rw [e], hlt, fun j u hu => hcell g off e 60 (by omega) j u hu⟩⟩
      have : (((List.range len).map f).take 60).length = 60 := by simp; omega
      rw [this]

/-- What Replay tells: its error, how many words, which. -/
def told (n : Int) (l : List DoneD) : Int × Nat × List Int :=
  if n < 1 ∨ 32 < n then (2, 0, []) else match playLog (List.replicate n.toNat 0) [] l with
    | some (ws, _) => (0, n.toNat, ws)
    | none => (3, 0, [])

/-- The answer that goes with it. -/
def ToldPost (w : World) (r : Int × Nat × List Int) (e : Ending) (w' : World) : Prop :=
  ∃ ao c, e = .returned (.tuple #[.slice ao r.2.1 c, .int .i64 r.1]) ∧ w'.ownsRow 0 43 1 (.slice ao r.2.1 c) r.2.1 (r.2.2.map (Value.int .u64)) ∧ Touch w w' []

theorem told_of_post {w : World} {m : Nat} {l : List DoneD} (h1 : 0 < m) (h2 : m ≤ 32) {e : Ending} {w' : World} (h : ReplayPost w m l e w') : ToldPost w (told m l) e w' := by
  have hr : ¬ ((m : Int) < 1 ∨ 32 < (m : Int)) := by omega
  rcases h with ⟨ws, lg, v, hp, rfl, ho, hws, t⟩ | ⟨hp, rfl, t⟩
  · have e : told m l = (0, m, ws) := by simp only [told, if_neg hr, Int.toNat_natCast, hp]
    rw [e]
    obtain ⟨ao, c, rfl, _⟩ := owns_form ho
    exact ⟨ao, c, rfl, ownsRow_base ho (Nat.zero_le _), t⟩
  · have e : told m l = (3, 0, []) := by simp only [told, if_neg hr, Int.toNat_natCast, hp]
    rw [e]
    exact ⟨none, 0, rfl, World.ownsRow_nil _ _ _ _, t⟩

theorem replay_all (n : Int) (ao : Option Addr) (cap : Nat) (l : List DoneD) (hl : l.length ≤ 900) (hwf : ∀ d ∈ l, d.op.Wf) (w : World) (hr : DoneRow w (.slice ao l.length cap) l) :
    Calls Try.prog 12 #[.int .i64 n, .slice ao l.length cap] w (ToldPost w (told n l)) := by
  by_cases h : n < 1 ∨ 32 < n
  · refine (replay_nil n ao l.length cap w h).mono fun e w' ⟨he, hw⟩ => ?_
    subst hw
    rw [show told n l = (2, 0, []) by simp only [told, if_pos h]]
    exact ⟨none, 0, he, World.ownsRow_nil _ _ _ _, Touch.refl _ _⟩
  · obtain ⟨m, rfl⟩ : ∃ m : Nat, n = m := ⟨n.toNat, by omega⟩
    exact (replay_ok m (by omega) (by omega) _ l hl hwf w hr).mono fun e w' hp => told_of_post (by omega) (by omega) hp

theorem rreplay_all (n : Int) (ao : Option Addr) (cap : Nat) (l : List DoneD) (hl : l.length ≤ 900) (hwf : ∀ d ∈ l, d.op.Wf) (w : World) (hr : DoneRow w (.slice ao l.length cap) l) :
    Calls Try.prog 13 #[.int .i64 n, .slice ao l.length cap] w (ToldPost w (told n l)) := by
  by_cases h : n < 1 ∨ 32 < n
  · refine (rreplay_nil n ao l.length cap w h).mono fun e w' ⟨he, hw⟩ => ?_
    subst hw
    rw [show told n l = (2, 0, []) by simp only [told, if_pos h]]
    exact ⟨none, 0, he, World.ownsRow_nil _ _ _ _, Touch.refl _ _⟩
  · obtain ⟨m, rfl⟩ : ∃ m : Nat, n = m := ⟨n.toNat, by omega⟩
    exact (rreplay_ok m (by omega) (by omega) _ l hl hwf w hr).mono fun e w' hp => told_of_post (by omega) (by omega) hp

theorem right_all (n : Int) (ao : Option Addr) (cap : Nat) (l : List DoneD) (hl : l.length ≤ 900) (hwf : ∀ d ∈ l, d.op.Wf) (w : World) (hr : DoneRow w (.slice ao l.length cap) l) :
    Calls Try.prog 17 #[.int .i64 n, .slice ao l.length cap] w fun e w' => e = .returned (.bool ((told n l).1 == 0)) ∧ Touch w w' [] := by
  by_cases h : n < 1 ∨ 32 < n
  · refine (right_nil n ao l.length cap w h).mono fun e w' ⟨he, hw⟩ => ?_
    subst hw
    rw [show told n l = (2, 0, []) by simp only [told, if_pos h]]
    exact ⟨he, Touch.refl _ _⟩
  · obtain ⟨m, rfl⟩ : ∃ m : Nat, n = m := ⟨n.toNat, by omega⟩
    refine (right_ok m (by omega) (by omega) _ l hl hwf w hr).mono fun e w' ⟨he, t⟩ => ⟨?_, t⟩
    rw [he]
    cases hp : playLog (List.replicate m 0) [] l with
    | none => rw [show told m l = (3, 0, []) by simp only [told, if_neg h, Int.toNat_natCast, hp]]; rfl
    | some r => rw [show told m l = (0, m, r.1) by simp only [told, if_neg h, Int.toNat_natCast, hp]]; rfl

theorem told_small (n : Int) (l : List DoneD) : (told n l).2.1 ≤ 1000 := by
  unfold told
  split
  · simp
  · split
    · simp; omega
    · simp

set_option maxRecDepth 100000 in
set_option maxHeartbeats 3200000 in
theorem replays_any (n c : Int) (hc1 : -9223372036854775808 ≤ c) (hc2 : c ≤ 9223372036854775807) (ao : Option Addr) (len cap : Nat) (l : List DoneD) (hlen : l.length = len) (w : World) (hr : DoneRow w (.slice ao len cap) l) (hwf : ∀ d ∈ l, d.op.Wf) (hlc : len ≤ cap) (hcm : cap ≤ maxLen)
    (hcut : 60 < len → ∃ g off, ao = some ⟨g, off, none⟩ ∧ DoneRow w (.slice ao 60 cap) (l.take 60)) :
    Calls Try.prog 4 #[.int .i64 n, .slice ao len cap, .int .i64 c] w fun e w' => e = .returned (.bool true) ∧ Below w.heap.size w w' := by
  unfold maxLen at hcm
  by_cases h60 : 60 < len
  · obtain ⟨g, off, rfl, hr'⟩ := hcut h60
    have hl' : (l.take 60).length = 60 := by rw [List.length_take]; omega
    have hwf' : ∀ d ∈ l.take 60, d.op.Wf := fun d hd => hwf d (List.mem_of_mem_take hd)
    generalize l.take 60 = L at *
    have h60' : (60 : Int) < len := by omega
    clear hr hwf hcut hlen
    have HR : Hid (∀ X, Touch w X [] → DoneRow X (.slice (some ⟨g, off, none⟩) L.length cap) L) := fun X t => by rw [hl']; exact hr'.keep t (by simp)
    have hL : L.length ≤ 900 := by omega
    have HA : Hid (∀ X, Touch w X [] → Calls Try.prog 12 #[.int .i64 n, .slice (some ⟨g, off, none⟩) 60 cap] X (ToldPost X (told n L))) := fun X t => by have := replay_all n _ cap L hL hwf' X (HR.out X t); rwa [hl'] at this
    have HB : Hid (∀ X, Touch w X [] → Calls Try.prog 13 #[.int .i64 n, .slice (some ⟨g, off, none⟩) 60 cap] X (ToldPost X (told n L))) := fun X t => by have := rreplay_all n _ cap L hL hwf' X (HR.out X t); rwa [hl'] at this
    have HC : Hid (∀ X, Touch w X [] → Calls Try.prog 14 #[.slice (some ⟨g, off, none⟩) 60 cap, .int .i64 c] X fun e w' => ∃ a x, e = .returned (.tuple #[.int .i64 a, .bool x]) ∧ IsLast c L a x ∧ Touch X w' []) := fun X t => by have := last_any c hc1 hc2 _ L hL X (HR.out X t); rwa [hl'] at this
    have HD : Hid (∀ X, Touch w X [] → Calls Try.prog 15 #[.slice (some ⟨g, off, none⟩) 60 cap, .int .i64 c] X fun e w' => ∃ a x, e = .returned (.tuple #[.int .i64 a, .bool x]) ∧ IsLast c L a x ∧ Touch X w' []) := fun X t => by have := rlast_any c hc1 hc2 _ L hL X (HR.out X t); rwa [hl'] at this
    have HE : Hid (∀ X, Touch w X [] → Calls Try.prog 17 #[.int .i64 n, .slice (some ⟨g, off, none⟩) 60 cap] X fun e w' => e = .returned (.bool ((told n L).1 == 0)) ∧ Touch X w' []) := fun X t => by have := right_all n _ cap L hL hwf' X (HR.out X t); rwa [hl'] at this
    have hsm := told_small n L
    clear HR
    generalize told n L = r at *
    obtain ⟨e0, q, xs⟩ := r
    simp only [ToldPost] at HA HB HE hsm
    go_enter Try.func4, Try.ntmps4
    go_wp2_with fail
    refine (HA.out _ (Touch.refl w [])).mono ?_
    rintro e w1 ⟨a1, k1, rfl, o1, t1⟩
    go_wp2_with fail
    refine (HB.out _ t1).mono ?_
    rintro e w2 ⟨a2, k2, rfl, o2, t2⟩
    have t02 := t1.trans t2 (by simp)
    go_wp2_with fail
    refine (HC.out _ t02).mono ?_
    rintro e w3 ⟨x3, b3, rfl, i3, t3⟩
    have t03 := t02.trans t3 (by simp)
    go_wp2_with fail
    refine (HD.out _ t03).mono ?_
    rintro e w4 ⟨x4, b4, rfl, i4, t4⟩
    have t04 := t03.trans t4 (by simp)
    have hxx := i3.one i4
    obtain ⟨hx1, hx2⟩ := hxx
    subst hx1 hx2
    have o1' := ownsRow_touch (ownsRow_touch (ownsRow_touch o1 t2 (by simp)) t3 (by simp)) t4 (by simp)
    have o2' := ownsRow_touch (ownsRow_touch o2 t3 (by simp)) t4 (by simp)
    clear o1 o2 t1 t2 t3 t4 t02 t03 i3 i4
    go_wp2_with fail
    refine (live_any _).mono ?_
    rintro e w5 ⟨rfl, b5⟩
    have t45 := Touch.of_below b5 []
    have t05 := t04.trans t45 (by simp)
    go_wp2_with fail
    refine (sameWords_eq 0 0 q _ _ xs _ hsm (ownsRow_touch o1' t45 (by simp)) (ownsRow_touch o2' t45 (by simp))).mono ?_
    rintro e w6 ⟨rfl, t6⟩
    have t06 := t05.trans t6 (by simp)
    clear o1' o2' t45 t05 t04 b5 t6
    go_wp2_with fail
    refine (HE.out _ t06).mono ?_
    rintro e w7 ⟨rfl, t7⟩
    have t07 := t06.trans t7 (by simp)
    clear t06 t7 HA HB HC HD HE
    go_wp2
    all_goals
      go_ret
      exact ⟨by simp, t07.below (Nat.le_refl _) (by simp)⟩
  · have hL : l.length ≤ 900 := by omega
    generalize l = L at *
    subst hlen
    have h60' : ¬ (60 : Int) < L.length := by omega
    have HR : Hid (∀ X, Touch w X [] → DoneRow X (.slice ao L.length cap) L) := fun X t => hr.keep t (by simp)
    have HA : Hid (∀ X, Touch w X [] → Calls Try.prog 12 #[.int .i64 n, .slice ao L.length cap] X (ToldPost X (told n L))) := fun X t => replay_all n _ cap L hL hwf X (HR.out X t)
    have HB : Hid (∀ X, Touch w X [] → Calls Try.prog 13 #[.int .i64 n, .slice ao L.length cap] X (ToldPost X (told n L))) := fun X t => rreplay_all n _ cap L hL hwf X (HR.out X t)
    have HC : Hid (∀ X, Touch w X [] → Calls Try.prog 14 #[.slice ao L.length cap, .int .i64 c] X fun e w' => ∃ a x, e = .returned (.tuple #[.int .i64 a, .bool x]) ∧ IsLast c L a x ∧ Touch X w' []) := fun X t => last_any c hc1 hc2 _ L hL X (HR.out X t)
    have HD : Hid (∀ X, Touch w X [] → Calls Try.prog 15 #[.slice ao L.length cap, .int .i64 c] X fun e w' => ∃ a x, e = .returned (.tuple #[.int .i64 a, .bool x]) ∧ IsLast c L a x ∧ Touch X w' []) := fun X t => rlast_any c hc1 hc2 _ L hL X (HR.out X t)
    have HE : Hid (∀ X, Touch w X [] → Calls Try.prog 17 #[.int .i64 n, .slice ao L.length cap] X fun e w' => e = .returned (.bool ((told n L).1 == 0)) ∧ Touch X w' []) := fun X t => right_all n _ cap L hL hwf X (HR.out X t)
    clear hr hwf hcut
    have hsm := told_small n L
    clear HR
    generalize told n L = r at *
    obtain ⟨e0, q, xs⟩ := r
    simp only [ToldPost] at HA HB HE hsm
    go_enter Try.func4, Try.ntmps4
    go_wp2_with fail
    refine (HA.out _ (Touch.refl w [])).mono ?_
    rintro e w1 ⟨a1, k1, rfl, o1, t1⟩
    go_wp2_with fail
    refine (HB.out _ t1).mono ?_
    rintro e w2 ⟨a2, k2, rfl, o2, t2⟩
    have t02 := t1.trans t2 (by simp)
    go_wp2_with fail
    refine (HC.out _ t02).mono ?_
    rintro e w3 ⟨x3, b3, rfl, i3, t3⟩
    have t03 := t02.trans t3 (by simp)
    go_wp2_with fail
    refine (HD.out _ t03).mono ?_
    rintro e w4 ⟨x4, b4, rfl, i4, t4⟩
    have t04 := t03.trans t4 (by simp)
    have hxx := i3.one i4
    obtain ⟨hx1, hx2⟩ := hxx
    subst hx1 hx2
    have o1' := ownsRow_touch (ownsRow_touch (ownsRow_touch o1 t2 (by simp)) t3 (by simp)) t4 (by simp)
    have o2' := ownsRow_touch (ownsRow_touch o2 t3 (by simp)) t4 (by simp)
    clear o1 o2 t1 t2 t3 t4 t02 t03 i3 i4
    go_wp2_with fail
    refine (live_any _).mono ?_
    rintro e w5 ⟨rfl, b5⟩
    have t45 := Touch.of_below b5 []
    have t05 := t04.trans t45 (by simp)
    go_wp2_with fail
    refine (sameWords_eq 0 0 q _ _ xs _ hsm (ownsRow_touch o1' t45 (by simp)) (ownsRow_touch o2' t45 (by simp))).mono ?_
    rintro e w6 ⟨rfl, t6⟩
    have t06 := t05.trans t6 (by simp)
    clear o1' o2' t45 t05 t04 b5 t6
    go_wp2_with fail
    refine (HE.out _ t06).mono ?_
    rintro e w7 ⟨rfl, t7⟩
    have t07 := t06.trans t7 (by simp)
    clear t06 t7 HA HB HC HD HE
    go_wp2
    all_goals
      go_ret
      exact ⟨by simp, t07.below (Nat.le_refl _) (by simp)⟩

set_option maxRecDepth 100000 in
theorem cellsReplay_lifted (os : Os) (started : os.Started) (H : Type) (enc : TypeId × Value → H) :
    ReturnsInHanded {} Try.checked os 4 .any (Rows.cellsReplaySpec.pre6 enc Try.prog Try.f4 Rows.cellsReplayRow.domain false) (Rows.cellsReplaySpec.post enc Try.prog Try.f4 false true false false) := by
  refine returnsInHanded_of_change (C := Try.checked) Try.own started (by kernel_rfl) Try.func4
    (ChangeSpec.witness6 (enc := enc) (C := Try.checked) false ⟨#[], #[.int .i64 0, .slice none 0 0, .int .i64 0], []⟩ 8 (by kernel_rfl) (by kernel_rfl) (by kernel_rfl) (by kernel_rfl)) ?_
  intro W base args ds gs before hval0 hW hcnd _
  have hval : ∀ (j : Nat) t v, Try.f4.params[j]? = some t → args[j]? = some v → Value.okWide Try.prog W .any base t v := hval0
  have hW' := hW
  obtain ⟨p, q, hA0, hV, rfl, hfz, hnd⟩ := hW
  have hA : DataW.TrodAll enc Try.prog W 0 (fun _ => true) true Try.f4.params.toList args.toList ds p := hA0
  rw [Try.params4] at hA hval
  obtain ⟨v0, vs0, d0, ds0, p0, q0, hargs, rfl, rfl, h0, r0⟩ := trodAll_cons hA
  obtain ⟨v1, vs1, d1, ds1, p1, q1, rfl, rfl, rfl, h1, r1⟩ := trodAll_cons r0
  obtain ⟨v2, vs2, d2, ds2, p2, q2, rfl, rfl, rfl, h2, r2⟩ := trodAll_cons r1
  obtain ⟨rfl, rfl, rfl⟩ := trodAll_nil r2
  obtain rfl : args = #[v0, v1, v2] := by cases args; simp_all
  obtain ⟨rfl, rfl⟩ := trodVars_none hV
  have lt0 : ∀ x ∈ p0, x.block < W.heap.size := by obtain ⟨m, hm⟩ := h0; exact DataW.trod_lt m _ _ _ hm
  have lt1 : ∀ x ∈ p1, x.block < W.heap.size := by obtain ⟨m, hm⟩ := h1; exact DataW.trod_lt m _ _ _ hm
  have lt2 : ∀ x ∈ p2, x.block < W.heap.size := by obtain ⟨m, hm⟩ := h2; exact DataW.trod_lt m _ _ _ hm
  obtain ⟨n, e1, _, _, wn⟩ := open_int Try.underlying3 (hval 0 3 v0 rfl rfl) h0
  subst e1
  obtain ⟨c, e3, _, _, wc⟩ := open_int Try.underlying3 (hval 2 3 v2 rfl rfl) h2
  subst e3
  obtain ⟨ao, len, cap, e2⟩ := okWide_slice Try.underlying30 (hval 1 30 v1 rfl rfl)
  subst e2
  obtain ⟨l, hlen, hr, hwf, hlc, hcm, hcut⟩ := dones_of_trod h1
  have hc := wf_i64 wc
  refine (replays_any n c hc.1 hc.2 ao len cap l hlen W hr hwf hlc hcm hcut).mono fun e W' ⟨he, bel⟩ => ?_
  subst he
  exact ⟨_, rfl, _, _, _, [], _, [], hW', trodAll_mk1 (shut_bool Try.underlying4 _), (trodAll_cons_mk (Below.trod Try.laidOut (by kernel_rfl) (of_decide_eq_true (by kernel_rfl)) h0 bel lt0) (trodAll_cons_mk (Below.trod Try.laidOut (by kernel_rfl) (of_decide_eq_true (by kernel_rfl)) h1 bel lt1) (trodAll_cons_mk (Below.trod Try.laidOut (by kernel_rfl) (of_decide_eq_true (by kernel_rfl)) h2 bel lt2) trodAll_mk0))), rfl, bel.frame _, fun h => by cases h⟩

theorem cellsReplay_holds : Rows.CellsReplaySaid :=
  OpenClaim.holds_of_wide 4 Try.f4 rfl rfl rfl rfl rfl rfl rfl ⟨rfl, rfl, rfl, rfl, rfl⟩ rfl rfl rfl rfl rfl (by kernel_rfl) Try.func4 (by kernel_rfl)
    (of_decide_eq_true (by kernel_rfl)) (by unfold Func.isWrapper; first | (rw [if_pos (by decide +kernel)]; kernel_rfl) | (rw [if_neg (by decide +kernel)]; exact ⟨rfl, rfl⟩))
    (fun os started H enc _ => cellsReplay_lifted os started H enc)

end Go.Proofs.Ytcoacfdbcinapaa

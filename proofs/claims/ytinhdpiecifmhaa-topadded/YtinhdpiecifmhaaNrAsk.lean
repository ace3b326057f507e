/-
  package norec: refused, firstOf, Ask BY THEIR CONTRACTS.
-/
import Derived.Test.YtinhdpiecifmhaaNrStep
namespace Go.Proofs.Ytinhdpiecifmhaa.Nr
set_option linter.unusedVariables false
set_option linter.unusedSimpArgs false
open Go.RowKit Go.Maps

def refusedE (n : Nat) (d : Nat) (a : AskD) : Int :=
  if a.k = 1 ∨ a.k = 2 then (if ¬ (0 ≤ a.t ∧ a.t < n) then 2 else if a.k = 2 ∧ rightB a.v = false then 3 else 0)
  else if a.k = 4 ∨ a.k = 5 then (if d = 0 then 8 else 0) else if a.k = 6 then (if 0 < d then 8 else 0) else if a.k = 3 then (if 4 ≤ d then 4 else 0) else if a.k = 7 then 0 else 2

def firstE (k : Int) : Int := if k = 1 then 1 else if k = 6 then 3 else 0

theorem firstOf_any (k : Int) (w : World) : Calls Try.prog 27 #[.int .u8 k] w fun x w' => x = .returned (.int .i64 (firstE k)) ∧ w = w' := by
  unfold firstE
  by_cases h1 : k = 1
  · subst h1
    go_enter Try.func27, Try.ntmps27
    go_wp2
    go_ret
    exact ⟨rfl, rfl⟩
  · by_cases h6 : k = 6
    · subst h6
      go_enter Try.func27, Try.ntmps27
      go_wp2
      go_ret
      exact ⟨rfl, rfl⟩
    · rw [if_neg h1, if_neg h6]
      have h1' : (k == 1) = false := by simpa using h1
      have h6' : (k == 6) = false := by simpa using h6
      clear h1 h6
      go_enter Try.func27, Try.ntmps27
      go_wp2
      go_ret
      exact ⟨rfl, rfl⟩

set_option maxRecDepth 100000 in
set_option maxHeartbeats 3200000 in
theorem refused_any {w : World} {X : ELoc} {E : Eng} {k : Nat} {l : Loc} {A : Att} (h : At w X E k l A) (a : AskD) (hn : E.hp.length ≤ 12) (hF : A.Fs.length ≤ 5) :
    Calls Try.prog 26 #[ptr X.e, ptr l.a, a.val] w fun x w' => x = .returned (.int .i64 (refusedE E.hp.length (A.Fs.length - 1) a)) ∧ Touch w w' [] := by
  obtain ⟨ak, at', av⟩ := a
  simp only [AskD.val]
  have ta : Touch w (w.alloc (.cells #[.int .u8 ak, .int .i64 at', .int .u64 av] 32)) [] := (Touch.refl w []).alloc _
  have h1 := h.fresh ta
  have DP := HidC.mk (depth_any h1.obj.lg)
  have c11 := h.obj.cells.c11
  have hla := lt_of_heap h.obj.st
  have eb : (w.alloc (.cells #[.int .u8 ak, .int .i64 at', .int .u64 av] 32)).heap[w.heap.size]? = some (.cells #[.int .u8 ak, .int .i64 at', .int .u64 av] 32 (0, 0)) := heap_alloc_new w _
  have HEB : Hid ((w.alloc (.cells #[.int .u8 ak, .int .i64 at', .int .u64 av] 32)).heap[w.heap.size]? = some (.cells #[.int .u8 ak, .int .i64 at', .int .u64 av] 32 (0, 0))) := eb
  have HTA : Hid (Touch w (w.alloc (.cells #[.int .u8 ak, .int .i64 at', .int .u64 av] 32)) []) := ta
  have HH1 : Hid (At (w.alloc (.cells #[.int .u8 ak, .int .i64 at', .int .u64 av] 32)) X E k l A) := h1
  obtain ⟨d, hd⟩ : ∃ d, d = A.Fs.length - 1 := ⟨_, rfl⟩
  rw [← hd] at DP ⊢
  have hd4 : d ≤ 4 := by omega
  clear h h1 ta eb hd
  obtain ⟨rr, hrr⟩ : ∃ r, r = refusedE E.hp.length d ⟨ak, at', av⟩ := ⟨_, rfl⟩
  rw [← hrr]
  have HRR : Hid (rr = refusedE E.hp.length d ⟨ak, at', av⟩) := hrr
  clear hrr
  go_enter Try.func26, Try.ntmps26
  go_wp2_with fail
  refine DP.out.mono ?_
  rintro e w3 ⟨rfl, t3⟩
  have T3 : Hid (Touch w w3 []) := HTA.out.trans t3 (by simp)
  have a3 := HH1.out.fresh t3
  have e3 := (t3.block _ (lt_of_heap HEB.out) (by simp)).trans HEB.out
  have b0 : w3.cell? ⟨w.heap.size, 0, none⟩ = some (.int .u8 ak) := by simp [World.cell?, e3]
  have b1 : w3.cell? ⟨w.heap.size, 1, none⟩ = some (.int .i64 at') := by simp [World.cell?, e3]
  have b2 : w3.cell? ⟨w.heap.size, 2, none⟩ = some (.int .u64 av) := by simp [World.cell?, e3]
  obtain ⟨_, _, x2, _, _⟩ := a3.h.cells
  obtain ⟨al, cl, hv⟩ := own_slice a3.h.hp
  rw [hv] at x2
  clear DP HTA HH1 HEB t3 a3 e3 c11 hla hv
  by_cases k12 : ak = 1 ∨ ak = 2
  · have hE : ∀ r : Int, refusedE E.hp.length d ⟨ak, at', av⟩ = (if ¬ (0 ≤ at' ∧ at' < E.hp.length) then 2 else if ak = 2 ∧ rightB av = false then 3 else 0) := fun _ => if_pos k12
    have HR1 := HRR.out.trans (hE 0)
    clear HRR hE
    have RG := fun W => HidC.mk (right_any av W)
    generalize rightB av = rb at *
    by_cases t0 : at' < 0
    · rw [if_pos (by omega)] at HR1
      have HR : Hid (rr = 2) := HR1
      clear HR1 RG
      rcases k12 with rfl | rfl
      · go_wp2_with fail
        go_quiet (fail)
        go_wp2
        go_ret
        exact ⟨by rw [HR.out]; rfl, by first | exact T3.out.drew | exact T3.out.drewN _⟩
      · go_wp2_with fail
        go_quiet (fail)
        go_wp2
        go_ret
        exact ⟨by rw [HR.out]; rfl, by first | exact T3.out.drew | exact T3.out.drewN _⟩
    · by_cases t1 : (E.hp.length : Int) ≤ at'
      · rw [if_pos (by omega)] at HR1
        have HR : Hid (rr = 2) := HR1
        clear HR1 RG
        have t0' : decide (at' < 0) = false := decide_eq_false t0
        have t1' : decide ((E.hp.length : Int) ≤ at') = true := decide_eq_true t1
        rcases k12 with rfl | rfl
        · go_wp2_with fail
          go_quiet (fail)
          go_wp2
          go_ret
          exact ⟨by rw [HR.out]; rfl, by first | exact T3.out.drew | exact T3.out.drewN _⟩
        · go_wp2_with fail
          go_quiet (fail)
          go_wp2
          go_ret
          exact ⟨by rw [HR.out]; rfl, by first | exact T3.out.drew | exact T3.out.drewN _⟩
      · rw [if_neg (by omega)] at HR1
        have t0' : decide (at' < 0) = false := decide_eq_false t0
        have t1' : decide ((E.hp.length : Int) ≤ at') = false := decide_eq_false t1
        rcases k12 with rfl | rfl
        · rw [if_neg (by simp)] at HR1
          have HR : Hid (rr = 0) := HR1
          clear HR1 RG
          go_wp2_with fail
          go_quiet (fail)
          go_wp2
          go_ret
          exact ⟨by rw [HR.out]; rfl, by first | exact T3.out.drew | exact T3.out.drewN _⟩
        · cases rb with
          | false =>
            rw [if_pos (by simp)] at HR1
            have HR : Hid (rr = 3) := HR1
            clear HR1
            go_wp2_with fail
            go_quiet (fail)
            go_wp2_with fail
            refine (RG _).out.mono ?_
            rintro e w4 ⟨rfl, rfl⟩
            clear RG
            go_wp2
            go_ret
            exact ⟨by rw [HR.out]; rfl, by first | exact T3.out.drew | exact T3.out.drewN _⟩
          | true =>
            rw [if_neg (by simp)] at HR1
            have HR : Hid (rr = 0) := HR1
            clear HR1
            go_wp2_with fail
            go_quiet (fail)
            go_wp2_with fail
            refine (RG _).out.mono ?_
            rintro e w4 ⟨rfl, rfl⟩
            clear RG
            go_wp2
            go_ret
            exact ⟨by rw [HR.out]; rfl, by first | exact T3.out.drew | exact T3.out.drewN _⟩
  · have hE : ∀ r : Int, refusedE E.hp.length d ⟨ak, at', av⟩ = (if ak = 4 ∨ ak = 5 then (if d = 0 then 8 else 0) else if ak = 6 then (if 0 < d then 8 else 0) else if ak = 3 then (if 4 ≤ d then 4 else 0) else if ak = 7 then 0 else 2) := fun _ => if_neg k12
    have HR1 := HRR.out.trans (hE 0)
    clear HRR hE b1 b2 x2
    have k1' : (ak == 1) = false := by simp; omega
    have k2' : (ak == 2) = false := by simp; omega
    by_cases k45 : ak = 4 ∨ ak = 5
    · rw [if_pos k45] at HR1
      by_cases d0 : d = 0
      · rw [if_pos d0] at HR1
        have HR : Hid (rr = 8) := HR1
        subst d0
        clear HR1
        rcases k45 with rfl | rfl
        all_goals
          go_wp2
          go_ret
          exact ⟨by rw [HR.out]; rfl, T3.out⟩
      · rw [if_neg d0] at HR1
        have HR : Hid (rr = 0) := HR1
        have d0' : ((d : Int) == 0) = false := by simp; omega
        clear HR1
        rcases k45 with rfl | rfl
        all_goals
          go_wp2
          go_ret
          exact ⟨by rw [HR.out]; rfl, T3.out⟩
    · rw [if_neg k45] at HR1
      have k4' : (ak == 4) = false := by simp; omega
      have k5' : (ak == 5) = false := by simp; omega
      by_cases k6 : ak = 6
      · rw [if_pos k6] at HR1
        subst k6
        by_cases d0 : 0 < d
        · rw [if_pos d0] at HR1
          have HR : Hid (rr = 8) := HR1
          have d0' : decide (0 < (d : Int)) = true := by simp; omega
          clear HR1
          go_wp2
          go_ret
          exact ⟨by rw [HR.out]; rfl, T3.out⟩
        · rw [if_neg d0] at HR1
          have HR : Hid (rr = 0) := HR1
          have hz : d = 0 := by omega
          subst hz
          clear HR1
          go_wp2
          go_ret
          exact ⟨by rw [HR.out]; rfl, T3.out⟩
      · rw [if_neg k6] at HR1
        have k6' : (ak == 6) = false := by simpa using k6
        by_cases k3 : ak = 3
        · rw [if_pos k3] at HR1
          subst k3
          by_cases d0 : 4 ≤ d
          · rw [if_pos d0] at HR1
            have HR : Hid (rr = 4) := HR1
            have d0' : decide (4 ≤ (d : Int)) = true := by simp; omega
            have d0'' : (4 : Int) ≤ (d : Int) := by omega
            clear HR1
            go_wp2
            go_ret
            exact ⟨by rw [HR.out]; rfl, T3.out⟩
          · rw [if_neg d0] at HR1
            have HR : Hid (rr = 0) := HR1
            have d0' : ¬ (4 : Int) ≤ (d : Int) := by omega
            clear HR1
            go_wp2
            go_ret
            exact ⟨by rw [HR.out]; rfl, T3.out⟩
        · rw [if_neg k3] at HR1
          have k3' : (ak == 3) = false := by simpa using k3
          by_cases k7 : ak = 7
          · rw [if_pos k7] at HR1
            have HR : Hid (rr = 0) := HR1
            subst k7
            clear HR1
            go_wp2
            go_ret
            exact ⟨by rw [HR.out]; rfl, T3.out⟩
          · rw [if_neg k7] at HR1
            have HR : Hid (rr = 2) := HR1
            have k7' : (ak == 7) = false := by simpa using k7
            clear HR1 k12 k45 k6 k3 k7
            go_wp2
            go_ret
            exact ⟨by rw [HR.out]; rfl, T3.out⟩

/-! ### Ask -/
abbrev taskL (ak at' av : Int) : List Value := [.int .u64 0, .int .i64 0, .int .u8 ak, .int .i64 at', .int .u64 av, .int .i64 (firstE ak), .int .i64 0, .int .u64 0]
def askedA (A : Att) (a : AskD) : Att := { A with count := 0, back := 0, ask := a, place := firstE a.k, gone := 0, val := 0 }

def askE (E : Eng) (th : Int) (a : AskD) : Int × Eng :=
  if ¬ (0 ≤ th ∧ th < 4) then (2, E)
  else match E.th th.toNat with
    | none => (8, E)
    | some A => if ¬ A.ask.k = 0 then (7, E) else if ¬ refusedE E.hp.length (A.Fs.length - 1) a = 0 then (refusedE E.hp.length (A.Fs.length - 1) a, E) else (0, E.put th.toNat (some (askedA A a)))

/-- An error is answered. -/
def XPost (w : World) (X : ELoc) (E : Eng) (e : Int) (x : Ending) (w' : World) : Prop := ∃ X', x = .returned (.int .i64 e) ∧ EObj w' X' E ∧ Next w X w' X'

abbrev askC (a : AskD) : Obj := .cells #[.int .u8 a.k, .int .i64 a.t, .int .u64 a.v] 32 (0, 0)

theorem ask_no (X : ELoc) (E : Eng) (th : Int) (a : AskD) (hth : ¬ (0 ≤ th ∧ th < 4)) (w : World) (h : EObj w X E) :
    Calls Try.prog 10 #[ptr X.e, .int .i64 th, a.val] w (XPost w X E 2) := by
  have TH := HidC.mk (thread_no X th hth (w.alloc (askC a)))
  have HF : Hid (XPost w X E 2 (.returned (.int .i64 2)) (w.alloc (askC a))) := ⟨X, rfl, h.fresh ((Touch.refl w []).alloc _), Next.same ((Touch.refl w []).alloc _) (by simp)⟩
  obtain ⟨ak, at', av⟩ := a
  simp only [AskD.val]
  clear h
  go_enter Try.func10, Try.ntmps10
  go_wp2_with fail
  refine TH.out.mono ?_
  rintro x w3 ⟨rfl, rfl⟩
  clear TH
  go_wp2
  go_ret
  exact HF.out

theorem ask_none (X : ELoc) (E : Eng) (k : Nat) (hk : k < 4) (a : AskD) (hn : E.th k = none) (w : World) (h : EObj w X E) :
    Calls Try.prog 10 #[ptr X.e, .int .i64 k, a.val] w (XPost w X E 8) := by
  have h1 := h.fresh ((Touch.refl w []).alloc (askC a))
  have TH := HidC.mk (thread_any X E k hk (w.alloc (askC a)) h1)
  rw [h.noatt hn] at TH
  simp only [tptr] at TH
  have HF : Hid (XPost w X E 8 (.returned (.int .i64 8)) (w.alloc (askC a))) := ⟨X, rfl, h1, Next.same ((Touch.refl w []).alloc _) (by simp)⟩
  obtain ⟨ak, at', av⟩ := a
  simp only [AskD.val]
  clear h h1
  go_enter Try.func10, Try.ntmps10
  go_wp2_with fail
  refine TH.out.mono ?_
  rintro x w3 ⟨rfl, rfl⟩
  clear TH
  go_wp2
  go_ret
  exact HF.out

theorem ask_busy (X : ELoc) (E : Eng) (k : Nat) (hk : k < 4) (a : AskD) (l : Loc) (A : Att) (w : World) (h : At w X E k l A) (h0 : ¬ A.ask.k = 0) :
    Calls Try.prog 10 #[ptr X.e, .int .i64 k, a.val] w (XPost w X E 7) := by
  have h1 := h.fresh ((Touch.refl w []).alloc (askC a))
  have TH := HidC.mk (thread_any X E k hk (w.alloc (askC a)) h1.h)
  rw [h.hl] at TH
  simp only [tptr] at TH
  have c2 := h.obj.cells.c2
  have h0' : (A.ask.k == 0) = false := by simpa using h0
  have hla := lt_of_heap h.obj.st
  have HF : Hid (XPost w X E 7 (.returned (.int .i64 7)) (w.alloc (askC a))) := ⟨X, rfl, h1.h, Next.same ((Touch.refl w []).alloc _) (by simp)⟩
  obtain ⟨ak, at', av⟩ := a
  simp only [AskD.val]
  clear h h1 h0
  go_enter Try.func10, Try.ntmps10
  go_wp2_with fail
  refine TH.out.mono ?_
  rintro x w3 ⟨rfl, rfl⟩
  clear TH
  go_wp2
  go_ret
  exact HF.out

set_option maxRecDepth 100000 in
set_option maxHeartbeats 3200000 in
theorem ask_go (X : ELoc) (E : Eng) (k : Nat) (hk : k < 4) (a : AskD) (l : Loc) (A : Att) (w : World) (h : At w X E k l A) (h0 : A.ask.k = 0) (hn : E.hp.length ≤ 12) (hF : A.Fs.length ≤ 5) :
    Calls Try.prog 10 #[ptr X.e, .int .i64 k, a.val] w (XPost w X (if ¬ refusedE E.hp.length (A.Fs.length - 1) a = 0 then E else E.put k (some (askedA A a))) (refusedE E.hp.length (A.Fs.length - 1) a)) := by
  have t1 : Touch w (w.alloc (askC a)) [] := (Touch.refl w []).alloc _
  have h1 := h.fresh t1
  have TH := HidC.mk (thread_any X E k hk (w.alloc (askC a)) h1.h)
  rw [h.hl] at TH
  simp only [tptr] at TH
  have RF := HidC.mk (refused_any h1 a hn hF)
  have c2 := h.obj.cells.c2
  rw [h0] at c2
  have hla := lt_of_heap h.obj.st
  have HEB : Hid ((w.alloc (askC a)).heap[w.heap.size]? = some (askC a)) := heap_alloc_new w _
  have HT1 : Hid (Touch w (w.alloc (askC a)) []) := t1
  have HH1 : Hid (At (w.alloc (askC a)) X E k l A) := h1
  obtain ⟨r, hr⟩ : ∃ r, r = refusedE E.hp.length (A.Fs.length - 1) a := ⟨_, rfl⟩
  rw [← hr] at RF ⊢
  have hnq : w.heap.size ≠ l.a := by omega
  obtain ⟨ak, at', av⟩ := a
  simp only [AskD.val] at RF ⊢
  simp only [askC] at TH RF HEB HT1 HH1
  clear h h1 t1 hr
  obtain ⟨EE, hEE⟩ : ∃ EE, EE = (if ¬ r = 0 then E else E.put k (some (askedA A ⟨ak, at', av⟩))) := ⟨_, rfl⟩
  rw [← hEE]
  have HEE : Hid (EE = (if ¬ r = 0 then E else E.put k (some (askedA A ⟨ak, at', av⟩)))) := hEE
  clear hEE
  go_enter Try.func10, Try.ntmps10
  go_wp2_with fail
  refine TH.out.mono ?_
  rintro x w3 ⟨rfl, rfl⟩
  clear TH
  go_wp2_with fail
  refine RF.out.mono ?_
  rintro x w3 ⟨rfl, t3⟩
  clear RF
  have e3 := (t3.block _ (lt_of_heap HEB.out) (by simp)).trans HEB.out
  have a3 := HH1.out.fresh t3
  have T3 : Hid (Touch w w3 []) := HT1.out.trans t3 (by simp)
  have b0 : w3.cell? ⟨w.heap.size, 0, none⟩ = some (.int .u8 ak) := by simp [World.cell?, e3]
  have b1 : w3.cell? ⟨w.heap.size, 1, none⟩ = some (.int .i64 at') := by simp [World.cell?, e3]
  have b2 : w3.cell? ⟨w.heap.size, 2, none⟩ = some (.int .u64 av) := by simp [World.cell?, e3]
  by_cases hr0 : r = 0
  · subst hr0
    have eE := HEE.out
    rw [if_neg (by simp)] at eE
    subst eE
    clear HEE t3 e3 HEB HT1 HH1 c2
    have a4 := a3.fresh ((Touch.refl w3 []).drew)
    have hst := task_set a4.obj.st (.int .u64 0) (.int .i64 0) (.int .u8 ak) (.int .i64 at') (.int .u64 av) (.int .i64 (firstE ak)) (.int .i64 0) (.int .u64 0)
    have t := setCells_touch l.a (taskL ak at' av) 0 w3.drew
    obtain ⟨r1, r2⟩ := a4.h.setA (A' := askedA A ⟨ak, at', av⟩) a4.hl a4.hA rfl rfl hst t
    have hth : w3.drew.there l.a 0 (taskL ak at' av).toArray.size := fun j hj => by
      simp only [List.size_toArray, List.length_cons, List.length_nil] at hj
      simp only [World.cell?, World.frozen?, a4.obj.st]
      simp
      omega
    have HTH : Hid (World.there w3.drew l.a 0 (taskL ak at' av).toArray.size) := hth
    have HSZ : Hid ((Try.prog.info? 70).map (·.size) = some (taskL ak at' av).toArray.size) := Try.size_task
    have hql : w.heap.size < w3.heap.size := World.block_lt_of_cell? w3 _ b0
    have HE : Hid (∀ W6, W6 = w3.drew.setCells l.a 0 (taskL ak at' av).toArray.toList → W6.cell? ⟨w.heap.size, 0, none⟩ = some (.int .u8 ak) ∧ W6.cell? ⟨w.heap.size, 1, none⟩ = some (.int .i64 at') ∧ W6.cell? ⟨w.heap.size, 2, none⟩ = some (.int .u64 av) ∧ EObj W6 X (E.put k (some (askedA A ⟨ak, at', av⟩))) ∧ Next w X W6 X) := by
      rintro W6 rfl
      have hc (j : Nat) := t.cell (p := ⟨w.heap.size, j, none⟩) (by simpa using hql) (by simpa using hnq)
      exact ⟨(hc 0).trans b0, (hc 1).trans b1, (hc 2).trans b2, r1, (Next.same (T3.out.trans (Touch.refl w3 []).drew (by simp)) (by simp)).trans r2⟩
    clear a3 a4 hst t r1 r2 hth hql T3
    generalize w.heap.size = q at *
    go_wp2_with fail
    refine wp_region_held_drew (S := (fun w' => w'.cell? ⟨q, 0, none⟩ = some (.int .u8 ak) ∧ w'.cell? ⟨q, 1, none⟩ = some (.int .i64 at') ∧ w'.cell? ⟨q, 2, none⟩ = some (.int .u64 av))) (by kernel_rfl) ⟨b0, b1, b2⟩ (fun hHeld => ?_)
    refine wpAnyH_take (i := 0) (v := (.pointer (some ⟨l.a, 0, none⟩))) rfl (by kernel_rfl) (by kernel_rfl) (by kernel_rfl) (fun _ _ _ h => h) (Or.inl ⟨by rfl, ?_⟩) hHeld ?_
    · intro w' hSw
      try simp only [Act.put, List.getElem_toArray, List.getElem_cons_succ, List.getElem_cons_zero, List.setIfInBounds_toArray, List.set_cons_zero, List.set_cons_succ]
      go_simp
    try simp only [Act.put, List.getElem_toArray, List.getElem_cons_succ, List.getElem_cons_zero, List.setIfInBounds_toArray, List.set_cons_zero, List.set_cons_succ]
    refine wpAnyH_take (i := 1) (v := (.agg #[.int .u8 ak, .int .i64 at', .int .u64 av])) rfl (by kernel_rfl) (by kernel_rfl) (by kernel_rfl) (fun _ _ _ h => h) (Or.inl ⟨by rfl, ?_⟩) hHeld ?_
    · intro w' hSw
      try simp only [Act.put, List.getElem_toArray, List.getElem_cons_succ, List.getElem_cons_zero, List.setIfInBounds_toArray, List.set_cons_zero, List.set_cons_succ]
      obtain ⟨s0, s1, s2⟩ := hSw; go_simp
    try simp only [Act.put, List.getElem_toArray, List.getElem_cons_succ, List.getElem_cons_zero, List.setIfInBounds_toArray, List.set_cons_zero, List.set_cons_succ]
    refine wpAnyH_take (i := 2) (v := (.pointer (some ⟨q, 0, none⟩))) rfl (by kernel_rfl) (by kernel_rfl) (by kernel_rfl) (fun _ _ _ h => h) (Or.inl ⟨by rfl, ?_⟩) hHeld ?_
    · intro w' hSw
      try simp only [Act.put, List.getElem_toArray, List.getElem_cons_succ, List.getElem_cons_zero, List.setIfInBounds_toArray, List.set_cons_zero, List.set_cons_succ]
      go_simp
    try simp only [Act.put, List.getElem_toArray, List.getElem_cons_succ, List.getElem_cons_zero, List.setIfInBounds_toArray, List.set_cons_zero, List.set_cons_succ]
    refine wpAnyH_take (i := 3) (v := (.int .u8 ak)) rfl (by kernel_rfl) (by kernel_rfl) (by kernel_rfl) (fun _ _ _ h => h) (Or.inl ⟨by rfl, ?_⟩) hHeld ?_
    · intro w' hSw
      try simp only [Act.put, List.getElem_toArray, List.getElem_cons_succ, List.getElem_cons_zero, List.setIfInBounds_toArray, List.set_cons_zero, List.set_cons_succ]
      obtain ⟨s0, s1, s2⟩ := hSw; go_simp
    try simp only [Act.put, List.getElem_toArray, List.getElem_cons_succ, List.getElem_cons_zero, List.setIfInBounds_toArray, List.set_cons_zero, List.set_cons_succ]
    clear hHeld
    refine wpAnyH_ready (rs := [4]) (by kernel_rfl) (by simp) (AllReadyH.cons rfl (fun K hK => ?_) AllReadyH.nil)
    rw [if_pos (by rfl)]
    go_wp2_with fail
    refine (firstOf_any ak _).mono ?_
    rintro e w4 ⟨rfl, rfl⟩
    refine hK.out _ _ ⟨b0, b1, b2⟩ (fun hHeld => ?_)
    clear hK
    try simp only [Act.put, List.getElem_toArray, List.getElem_cons_succ, List.getElem_cons_zero, List.setIfInBounds_toArray, List.set_cons_zero, List.set_cons_succ]
    refine wpAnyH_take (i := 5) (v := (.agg (taskL ak at' av).toArray)) rfl (by kernel_rfl) (by kernel_rfl) (by kernel_rfl) (fun _ _ _ h => h) (Or.inl ⟨by rfl, ?_⟩) hHeld ?_
    · intro w' hSw
      try simp only [Act.put, List.getElem_toArray, List.getElem_cons_succ, List.getElem_cons_zero, List.setIfInBounds_toArray, List.set_cons_zero, List.set_cons_succ]
      go_simp
    try simp only [Act.put, List.getElem_toArray, List.getElem_cons_succ, List.getElem_cons_zero, List.setIfInBounds_toArray, List.set_cons_zero, List.set_cons_succ]
    refine wpAnyH_take (i := 6) (v := (.pointer (some ⟨l.a, 0, none⟩))) rfl (by kernel_rfl) (by kernel_rfl) (by kernel_rfl) (fun _ _ _ h => h) (Or.inl ⟨by rfl, ?_⟩) hHeld ?_
    · intro w' hSw
      try simp only [Act.put, List.getElem_toArray, List.getElem_cons_succ, List.getElem_cons_zero, List.setIfInBounds_toArray, List.set_cons_zero, List.set_cons_succ]
      go_simp
    try simp only [Act.put, List.getElem_toArray, List.getElem_cons_succ, List.getElem_cons_zero, List.setIfInBounds_toArray, List.set_cons_zero, List.set_cons_succ]
    refine wpAnyH_take (i := 7) (v := (.pointer (some ⟨l.a, 0, none⟩))) rfl (by kernel_rfl) (by kernel_rfl) (by kernel_rfl) (fun _ _ _ h => h) (Or.inl ⟨by rfl, ?_⟩) hHeld ?_
    · intro w' hSw
      try simp only [Act.put, List.getElem_toArray, List.getElem_cons_succ, List.getElem_cons_zero, List.setIfInBounds_toArray, List.set_cons_zero, List.set_cons_succ]
      go_simp
    try simp only [Act.put, List.getElem_toArray, List.getElem_cons_succ, List.getElem_cons_zero, List.setIfInBounds_toArray, List.set_cons_zero, List.set_cons_succ]
    clear hHeld
    refine wpAnyH_ready (rs := [8]) (by kernel_rfl) (by simp) (AllReadyH.cons rfl (fun K hK => ?_) AllReadyH.nil)
    rw [if_pos (by rfl)]
    refine wp_store_mid 70 _ _ rfl l.a 0 (taskL ak at' av).toArray rfl rfl HTH.out HSZ.out (by simp [Value.oneCell']) ?_
    obtain ⟨z0, z1, z2, g2, g3⟩ := HE.out _ rfl
    generalize World.setCells _ l.a 0 (taskL ak at' av).toArray.toList = W6 at *
    refine hK.out _ _ ⟨z0, z1, z2⟩ (fun hHeld => ?_)
    clear hK
    try simp only [Act.put, List.getElem_toArray, List.getElem_cons_succ, List.getElem_cons_zero, List.setIfInBounds_toArray, List.set_cons_zero, List.set_cons_succ]
    clear hHeld
    refine wpAnyH_done (by kernel_rfl) ?_ _
    clear z0 z1 z2
    go_wp2
    go_ret
    exact ⟨X, rfl, g2, g3⟩
  · have eE := HEE.out
    rw [if_pos hr0] at eE
    subst eE
    have hr0' : (r == 0) = false := by simpa using hr0
    have HF : Hid (XPost w X EE r (.returned (.int .i64 r)) w3) := ⟨X, rfl, a3.h, Next.same T3.out (by simp)⟩
    clear HEE t3 e3 HEB HT1 HH1 c2 b0 b1 b2 a3 T3 hr0
    go_wp2
    go_ret
    exact HF.out

theorem ask_any {N : Nat} (X : ELoc) (E : Eng) (th : Int) (a : AskD) (w : World) (h : EObj w X E) (hE : EWf N E) :
    Calls Try.prog 10 #[ptr X.e, .int .i64 th, a.val] w (XPost w X (askE E th a).2 (askE E th a).1) := by
  unfold askE
  by_cases hth : 0 ≤ th ∧ th < 4
  · rw [if_neg (fun e => e hth)]
    obtain ⟨k, hk⟩ : ∃ k : Nat, (k : Int) = th := ⟨th.toNat, by omega⟩
    subst hk
    simp only [Int.toNat_natCast]
    have hk4 : k < 4 := by omega
    cases hA : E.th k with
    | none => exact ask_none X E k hk4 a hA w h
    | some A =>
      obtain ⟨l, hl, hob⟩ := h.att hA
      simp only
      by_cases h0 : A.ask.k = 0
      · rw [if_neg (fun e => e h0)]
        have := ask_go X E k hk4 a l A w ⟨h, hl, hA⟩ h0 hE.hp12 (by have := hob.lg.le; have := hob.lg.len; omega)
        split
        · rename_i hr; rw [if_pos hr] at this; exact this
        · rename_i hr; rw [if_neg hr] at this; rw [Classical.not_not.1 hr] at this; exact this
      · rw [if_pos h0]; exact ask_busy X E k hk4 a l A w ⟨h, hl, hA⟩ h0
  · rw [if_pos hth]; exact ask_no X E th a hth w h

theorem ask_keep {N : Nat} {E : Eng} (h : EWf N E) (hb : N + 2 < 90000) (th : Int) (a : AskD) (hk : 0 ≤ a.k ∧ a.k ≤ 255) (ht : -9223372036854775808 ≤ a.t ∧ a.t ≤ 9223372036854775807) (hv : Wf64 a.v) : EWf (N + 2) (askE E th a).2 := by
  unfold askE
  split
  · exact h.up _ (by omega) hb
  · split
    · exact h.up _ (by omega) hb
    · rename_i A hA
      split
      · exact h.up _ (by omega) hb
      · split
        · exact h.up _ (by omega) hb
        · rename_i hr
          have hr' := Classical.not_not.1 hr
          have hA' := h.th _ _ hA
          have hkk : (a.k = 1 ∨ a.k = 2 → 0 ≤ a.t ∧ a.t < E.hp.length) ∧ a.k ≤ 7 ∧ (a.k = 6 → A.Fs.length - 1 = 0) := by
            unfold refusedE at hr'
            refine ⟨fun q => ?_, ?_, fun q => ?_⟩
            · rw [if_pos q] at hr'
              split at hr'
              · omega
              · rename_i z; exact Classical.not_not.1 z
            · by_cases q : a.k ≤ 7
              · exact q
              · rw [if_neg (by omega), if_neg (by omega), if_neg (by omega), if_neg (by omega), if_neg (by omega)] at hr'; omega
            · rw [if_neg (by omega), if_neg (by omega), if_pos q] at hr'
              split at hr'
              · omega
              · omega
          have hfl : A.Fs ≠ [] := hA'.ne
          have hfl' : A.Fs.length ≠ 0 := fun q => hfl (List.eq_nil_of_length_eq_zero q)
          have hval : Wf64 0 := ⟨by omega, by omega⟩
          refine put_keep h hb { hA' with t := ht, v := hv, val := hval, kk := ⟨hk.1, hkk.2.1⟩, rd := hkk.1, p5 := fun q => ?_, p8 := fun q => ?_, one := fun q => ?_, nz := fun q q' => ?_, pl1 := fun q => ?_, pl6 := fun q => ?_ }
          · simp only [askedA, firstE] at q; split at q; omega; split at q <;> omega
          · simp only [askedA, firstE] at q; split at q; omega; split at q <;> omega
          · simp only [askedA] at q ⊢; have := hkk.2.2 q; omega
          · simp only [askedA] at q q'; rw [q] at q'; simp [firstE] at q'
          · simp only [askedA] at q ⊢; rw [q]; left; rfl
          · simp only [askedA] at q ⊢; rw [q]; left; rfl

end Go.Proofs.Ytinhdpiecifmhaa.Nr

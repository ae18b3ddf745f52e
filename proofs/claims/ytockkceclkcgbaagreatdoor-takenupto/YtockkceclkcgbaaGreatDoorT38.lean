/- The contract of call at Retain, over any queue that keeps the contracts. -/
import Derived.Test.YtockkceclkcgbaaGreatDoorT37
import Derived.Test.YtockkceclkcgbaaGreatDoorT09
import Derived.Deep.RegionHeld3
namespace Go.Proofs.YtockkceclkcgbaaGreatDoor
open Go.RowKit

attribute [local go_sem] over_cell

set_option maxRecDepth 100000 in
set_option maxHeartbeats 4000000 in
theorem callT_ret {X : World → (Nat → Tag) → Nat → Nat → MQ → Prop} {B Bm : Int} (hX : XC X Bm) (hle : B ≤ Bm) (i p : Nat) (v : Value) (qu : Int) (nm bd : ByteArray) (n tr ms : Int) (yes : Bool) (w : World) (T : Nat → Tag) (hp : PairT X B w T i p) :
    Calls Tryz.prog 45 #[v, .pointer (some ⟨p, 0, none⟩), .agg (opCells 12 qu nm bd n tr ms yes)] w fun e w' => e = .returned (.bool true) ∧ ∃ T', Step (ST i) w T w' T' ∧ PairT X B w' T' i p := by
  obtain ⟨bx, yb, m, vs, lg, hB, hx, hy, hf⟩ := hp
  have a1 : Step (fun _ => False) w T (w.alloc (.cells (opCells 12 qu nm bd n tr ms yes) 46)) (retag T w.heap.size .free) := step_new w T _ .free _
  replace hB := hB.step a1 (fun h => h)
  replace hx := hX.step hx a1 (fun _ _ h => h)
  replace hy := hy.step a1 (fun _ _ h => h)
  have c0 := hB.cell (j := 0) rfl
  simp only [List.getElem_toArray, List.getElem_cons_zero] at c0
  go_enter Tryz.func45, Tryz.ntmps45
  go_wp2_with fail
  refine (hX.ret i bx m _ _ hx (hf.mono hle)).mono ?_
  rintro e w2 ⟨rfl, T2, hs2, hx2⟩
  have hB2 := hB.step hs2 (by simp [XT])
  have hy2 := hy.step hs2 (by simp [XT])
  have d1 := hB2.cell (j := 1) rfl
  simp only [List.getElem_toArray, List.getElem_cons_succ, List.getElem_cons_zero] at d1
  clear c0 hx hy hB
  go_wp2_with fail
  refine (yretain_any i yb m _ T2 hy2 hf.ok).mono ?_
  rintro e w4 ⟨rfl, T4, hs4, hy4⟩
  go_wp2
  go_ret
  have hs4' : Step (YT i) w2 T2 w4 T4 := hs4
  refine ⟨by first | rfl | simp, T4, (a1.mono (fun _ h => h.elim)).trans ((hs2.mono (fun _ h => .inl h)).trans (hs4'.mono (fun _ h => .inr h))), bx, yb, retainM m, vs, lg, ?_, hX.step hx2 hs4' (by rintro t h1 ⟨r, j, rfl⟩; exact absurd h1.1 (by simp)), hy4, fit_retain hf⟩
  rw [retainM_c]
  exact hB2.step hs4' (by simp [YT])

end Go.Proofs.YtockkceclkcgbaaGreatDoor

/- The contract of leases at Ack; the configuration stays. -/
namespace Go.Proofs.YtockkceclkcgbaaGreatDoor
open Go.RowKit

attribute [local go_sem] over_cell

theorem onLeased_c (m : MQ) (s : ByteArray) (off e : Int) (f : It → It) : (onLeased m s off e f).c = m.c := by
  unfold onLeased
  cases m.at s with
  | none => rfl
  | some k => simp only; cases decide (e = 0) <;> rfl
theorem ackM_c (m : MQ) (s : ByteArray) (off tr : Int) : (ackM m s off tr).c = m.c := by
  unfold ackM
  cases decide (leasedE m s off tr = 0)
  · rfl
  · exact onLeased_c m s off 0 _
theorem nackM_c (m : MQ) (s : ByteArray) (off tr d : Int) : (nackM m s off tr d).c = m.c := by
  unfold nackM
  cases decide (rangedE m s off tr d 0 = 0)
  · rfl
  · simp only [cond_true]; exact onLeased_c m s off 0 _
theorem extendM_c (m : MQ) (s : ByteArray) (off tr d : Int) : (extendM m s off tr d).c = m.c := by
  unfold extendM
  cases decide (rangedE m s off tr d 1 = 0)
  · rfl
  · simp only [cond_true]; exact onLeased_c m s off 0 _
theorem tickM_c (m : MQ) (d : Int) : (tickM m d).c = m.c := by unfold tickM; cases btw d 0 60000 <;> rfl

set_option maxRecDepth 100000 in
set_option maxHeartbeats 4000000 in
theorem leases_ack {X : World → (Nat → Tag) → Nat → Nat → MQ → Prop} {B Bm : Int} (hX : XC X Bm) (hle : B ≤ Bm) (i p : Nat) (qu : Int) (nm bd : ByteArray) (n tr ms : Int) (yes : Bool) (w : World) (T : Nat → Tag) (hp : PairT X B w T i p) :
    Calls Tryz.prog 84 #[.pointer (some ⟨p, 0, none⟩), .agg (opCells 5 qu nm bd n tr ms yes)] w fun e w' => e = .returned (.bool true) ∧ ∃ T', Step (ST i) w T w' T' ∧ PairT X B w' T' i p := by
  obtain ⟨bx, yb, m, vs, lg, hB, hx, hy, hf⟩ := hp
  have a1 : Step (fun _ => False) w T (w.alloc (.cells (opCells 5 qu nm bd n tr ms yes) 46)) (retag T w.heap.size .free) := step_new w T _ .free _
  have hO : Blk (w.alloc (.cells (opCells 5 qu nm bd n tr ms yes) 46)) (retag T w.heap.size .free) .free w.heap.size (opCells 5 qu nm bd n tr ms yes) 46 := blk_new w T _ 46 .free
  replace hB := hB.step a1 (fun h => h)
  replace hx := hX.step hx a1 (fun _ _ h => h)
  replace hy := hy.step a1 (fun _ _ h => h)
  go_enter Tryz.func84, Tryz.ntmps84
  go_wp2_with fail
  refine (try_any i p yb m _ 5 qu nm bd n tr ms yes _ _ hB rfl hy hf.ok).mono ?_
  rintro e w1 ⟨⟨t, rfl⟩, hb1⟩
  have s1 := step_below (fun _ => False) (retag T w.heap.size .free) hb1
  have s1' : Step (fun _ => False) (w.alloc (.cells (opCells 5 qu nm bd n tr ms yes) 46)) (retag T w.heap.size .free) w1.drew (retag T w.heap.size .free) := s1.trans (step_below _ _ (Below.refl _ _).drew)
  have hO1 := hO.step s1 (fun h => h)
  have hB1 := hB.step s1 (fun h => h)
  have c0 := hB1.cell (j := 0) rfl
  have o0 := hO1.cell (j := 0) rfl
  have o2 := hO1.cell (j := 2) rfl
  have o4 := hO1.cell (j := 4) rfl
  have o6 := hO1.cell (j := 6) rfl
  simp only [List.getElem_toArray, List.getElem_cons_succ, List.getElem_cons_zero] at c0 o0 o2 o4 o6
  replace hB := hB.step s1' (fun h => h)
  replace hO := hO.step s1' (fun h => h)
  replace hx := hX.step hx s1' (fun _ _ h => h)
  replace hy := hy.step s1' (fun _ _ h => h)
  replace a1 := a1.trans s1'
  clear s1 s1' hb1 hO1 hB1
  generalize retag T w.heap.size .free = T1 at *
  go_wp2_with fail
  go_region_held3 (fun w' => w'.cell? ⟨p, 0, none⟩ = some (.pointer (some ⟨bx, 0, none⟩)) ∧ w'.cell? ⟨w.heap.size, 2, none⟩ = some (.string nm) ∧ w'.cell? ⟨w.heap.size, 4, none⟩ = some (.int .i64 n)) (go_keep) (first | (go_at_call 59; refine (hX.ack i bx m nm n t _ _ hx (hf.mono hle)).mono ?_; rintro e w2 ⟨rfl, T2, hs2, hx2⟩; have kp := (hB.step hs2 (by simp [XT])).cell (j := 0) rfl; have k2 := (hO.step hs2 (by simp [XT])).cell (j := 2) rfl; have k4 := (hO.step hs2 (by simp [XT])).cell (j := 4) rfl; simp only [List.getElem_toArray, List.getElem_cons_succ, List.getElem_cons_zero] at kp k2 k4))
  all_goals
    have hB2 := hB.step hs2 (by simp [XT])
    have hO2 := hO.step hs2 (by simp [XT])
    have hy2 := hy.step hs2 (by simp [XT])
    have d1 := hB2.cell (j := 1) rfl
    have o2 := hO2.cell (j := 2) rfl
    have o4 := hO2.cell (j := 4) rfl
    have o6 := hO2.cell (j := 6) rfl
    simp only [List.getElem_toArray, List.getElem_cons_succ, List.getElem_cons_zero] at d1 o2 o4 o6
    clear c0 o0 hx hy kp k2 k4
    go_wp2_with fail
    go_region_held3 (fun w' => w'.cell? ⟨p, 1, none⟩ = some (.pointer (some ⟨yb, 0, none⟩)) ∧ w'.cell? ⟨w.heap.size, 2, none⟩ = some (.string nm) ∧ w'.cell? ⟨w.heap.size, 4, none⟩ = some (.int .i64 n)) (go_keep) (first | (go_at_call 112; refine (yack_any i yb m nm n t _ T2 ?_ hf.ok).mono ?_; (exact hy2.step (step_below (fun _ => False) T2 (Below.refl _ _).drew) (fun _ _ h => h)); rintro e w4 ⟨rfl, T4, hs4, hy4⟩; have hs4' : Step (YT i) w2 T2 w4 T4 := (step_below _ T2 (Below.refl _ _).drew).trans hs4; have jp := (hB2.step hs4' (by simp [YT])).cell (j := 1) rfl; have j2 := (hO2.step hs4' (by simp [YT])).cell (j := 2) rfl; have j4 := (hO2.step hs4' (by simp [YT])).cell (j := 4) rfl; simp only [List.getElem_toArray, List.getElem_cons_succ, List.getElem_cons_zero] at jp j2 j4))
    all_goals
      go_wp2
      go_ret
      refine ⟨by first | rfl | simp, T4, (a1.mono (fun _ h => h.elim)).trans ((hs2.mono (fun _ h => .inl h)).trans (hs4'.mono (fun _ h => .inr h))), bx, yb, ackM m nm n t, vs, lg, ?_, hX.step hx2 hs4' (by rintro t h1 ⟨r, j, rfl⟩; exact absurd h1.1 (by simp)), hy4, fit_ack hf nm n t⟩
      rw [ackM_c]
      exact hB2.step hs4' (by simp [YT])

end Go.Proofs.YtockkceclkcgbaaGreatDoor

/- The contract of leases at Tick. -/
namespace Go.Proofs.YtockkceclkcgbaaGreatDoor
open Go.RowKit

attribute [local go_sem] over_cell

set_option maxRecDepth 100000 in
set_option maxHeartbeats 4000000 in
theorem leases_tick {X : World → (Nat → Tag) → Nat → Nat → MQ → Prop} {B Bm : Int} (hX : XC X Bm) (hle : B ≤ Bm) (hlm : B ≤ 3999999999999940000) (i p : Nat) (qu : Int) (nm bd : ByteArray) (n tr ms : Int) (yes : Bool) (w : World) (T : Nat → Tag) (hp : PairT X B w T i p) :
    Calls Tryz.prog 84 #[.pointer (some ⟨p, 0, none⟩), .agg (opCells 8 qu nm bd n tr ms yes)] w fun e w' => e = .returned (.bool true) ∧ ∃ T', Step (ST i) w T w' T' ∧ PairT X (B + 60000) w' T' i p := by
  obtain ⟨bx, yb, m, vs, lg, hB, hx, hy, hf⟩ := hp
  have a1 : Step (fun _ => False) w T (w.alloc (.cells (opCells 8 qu nm bd n tr ms yes) 46)) (retag T w.heap.size .free) := step_new w T _ .free _
  have hO : Blk (w.alloc (.cells (opCells 8 qu nm bd n tr ms yes) 46)) (retag T w.heap.size .free) .free w.heap.size (opCells 8 qu nm bd n tr ms yes) 46 := blk_new w T _ 46 .free
  replace hB := hB.step a1 (fun h => h)
  replace hx := hX.step hx a1 (fun _ _ h => h)
  replace hy := hy.step a1 (fun _ _ h => h)
  go_enter Tryz.func84, Tryz.ntmps84
  go_wp2_with fail
  refine (try_any i p yb m _ 8 qu nm bd n tr ms yes _ _ hB rfl hy hf.ok).mono ?_
  rintro e w1 ⟨⟨t, rfl⟩, hb1⟩
  have s1 := step_below (fun _ => False) (retag T w.heap.size .free) hb1
  have s1' : Step (fun _ => False) (w.alloc (.cells (opCells 8 qu nm bd n tr ms yes) 46)) (retag T w.heap.size .free) w1.drew (retag T w.heap.size .free) := s1.trans (step_below _ _ (Below.refl _ _).drew)
  have hO1 := hO.step s1 (fun h => h)
  have hB1 := hB.step s1 (fun h => h)
  have c0 := hB1.cell (j := 0) rfl
  have o0 := hO1.cell (j := 0) rfl
  have o2 := hO1.cell (j := 2) rfl
  have o4 := hO1.cell (j := 4) rfl
  have o6 := hO1.cell (j := 6) rfl
  simp only [List.getElem_toArray, List.getElem_cons_succ, List.getElem_cons_zero] at c0 o0 o2 o4 o6
  replace hB := hB.step s1' (fun h => h)
  replace hO := hO.step s1' (fun h => h)
  replace hx := hX.step hx s1' (fun _ _ h => h)
  replace hy := hy.step s1' (fun _ _ h => h)
  replace a1 := a1.trans s1'
  clear s1 s1' hb1 hO1 hB1
  generalize retag T w.heap.size .free = T1 at *
  go_wp2_with fail
  go_region_law (go_simp; go_at_call 55; refine (hX.tick i bx m ms _ _ hx (hf.mono hle)).mono ?_; rintro e w2 ⟨rfl, T2, hs2, hx2⟩)
  all_goals
    have hB2 := hB.step hs2 (by simp [XT])
    have hO2 := hO.step hs2 (by simp [XT])
    have hy2 := hy.step hs2 (by simp [XT])
    have d1 := hB2.cell (j := 1) rfl
    have o2 := hO2.cell (j := 2) rfl
    have o4 := hO2.cell (j := 4) rfl
    have o6 := hO2.cell (j := 6) rfl
    simp only [List.getElem_toArray, List.getElem_cons_succ, List.getElem_cons_zero] at d1 o2 o4 o6
    clear c0 o0 hx hy
    go_wp2_with fail
    go_region_law (go_simp; go_at_call 116; refine (ytick_any i yb m ms _ T2 ?_ hf.ok).mono ?_; (exact hy2.step (step_below (fun _ => False) T2 (Below.refl _ _).drew) (fun _ _ h => h)); rintro e w4 ⟨rfl, T4, hs4, hy4⟩)
    all_goals
      go_wp2
      go_ret
      have hs4' : Step (YT i) w2 T2 w4 T4 := (step_below _ T2 (Below.refl _ _).drew).trans hs4
      refine ⟨by first | rfl | simp, T4, (a1.mono (fun _ h => h.elim)).trans ((hs2.mono (fun _ h => .inl h)).trans (hs4'.mono (fun _ h => .inr h))), bx, yb, tickM m ms, vs, lg, ?_, hX.step hx2 hs4' (by rintro t h1 ⟨r, j, rfl⟩; exact absurd h1.1 (by simp)), hy4, fit_tick hf ms hlm⟩
      rw [tickM_c]
      exact hB2.step hs4' (by simp [YT])

end Go.Proofs.YtockkceclkcgbaaGreatDoor

/- The law's world over any queue that keeps the contracts: what it is, and what a call leaves of it. -/
namespace Go.Proofs.YtockkceclkcgbaaGreatDoor
open Go.RowKit

abbrev wtCells (c d : Conf) (vP vr vd : Value) (most : Int) : Array Value := #[.int .i64 c.l, .int .i64 c.d, .int .i64 c.s, .int .i64 c.k, .int .i64 d.l, .int .i64 d.d, .int .i64 d.s, .int .i64 d.k, vP, vr, vd, .int .i64 most]

/-- The law's world in block wb: its two configurations, its pairs, its book (q lists of ranges, q' of deliveries). -/
structure WT (X : World → (Nat → Tag) → Nat → Nat → MQ → Prop) (B : Int) (w : World) (T : Nat → Tag) (wb : Nat) (c d : Conf) (most : Int) (ps : List Nat) (q q' : Nat) : Prop where
  blk : ∃ vP vr vd, Blk w T .world wb (wtCells c d vP vr vd most) 33 ∧ Row w T .row 42 1 vP ps.length (ps.map ptrV) ∧
    Bk w T 9 74 2 (fun q => patOf (markRV q)) vr q ∧ Bk w T 11 77 3 (fun q => patOf (markDV q)) vd q'
  prs : ∀ i p, ps[i]? = some p → PairT X B w T i p

theorem PairT.mono {X : World → (Nat → Tag) → Nat → Nat → MQ → Prop} {B B' : Int} {w : World} {T : Nat → Tag} {i p : Nat} (h : PairT X B w T i p) (hB : B ≤ B') : PairT X B' w T i p := by
  obtain ⟨bx, yb, m, vs, lg, h1, h2, h3, h4⟩ := h
  exact ⟨bx, yb, m, vs, lg, h1, h2, h3, h4.mono hB⟩
theorem WT.mono {X : World → (Nat → Tag) → Nat → Nat → MQ → Prop} {B B' : Int} {w : World} {T : Nat → Tag} {wb : Nat} {c d : Conf} {most : Int} {ps : List Nat} {q q' : Nat} (h : WT X B w T wb c d most ps q q') (hB : B ≤ B') : WT X B' w T wb c d most ps q q' :=
  ⟨h.blk, fun i p hi => (h.prs i p hi).mono hB⟩
theorem WT.step {X : World → (Nat → Tag) → Nat → Nat → MQ → Prop} {B Bm : Int} (hX : XC X Bm) {S : Tag → Prop} {w w' : World} {T T' : Nat → Tag} {wb : Nat} {c d : Conf} {most : Int} {ps : List Nat} {q q' : Nat} (h : WT X B w T wb c d most ps q q') (hs : Step S w T w' T') (hS : ∀ t, ¬ S t) : WT X B w' T' wb c d most ps q q' := by
  obtain ⟨⟨vP, vr, vd, h1, h2, h3, h4⟩, h5⟩ := h
  exact ⟨⟨vP, vr, vd, h1.step hs (hS _), h2.step hs (hS _), h3.step hs (hS _) (fun _ _ => hS _), h4.step hs (hS _) (fun _ _ => hS _)⟩, fun i p hi => (h5 i p hi).step hX hs (hS _) (fun _ _ => hS _) (fun _ _ => hS _)⟩

/-- The tags that a call at the pair of number k may write. -/
def CallS (k : Nat) (t : Tag) : Prop := ST k t ∨ t = .world ∨ (8 ≤ t.c ∧ t.c ≤ 13)

/-- the pairs behind a call at one of them -/
theorem pairs_next {X : World → (Nat → Tag) → Nat → Nat → MQ → Prop} {B Bm : Int} (hX : XC X Bm) {S : Tag → Prop} {w w' : World} {T T' : Nat → Tag} {ps : List Nat} {k p : Nat} (h : ∀ i p, ps[i]? = some p → PairT X B w T i p) (hs : Step S w T w' T') (hS : ∀ t, S t → CallS k t) (hk : ps[k]? = some p) (hp : PairT X B w' T' k p) : ∀ i p, ps[i]? = some p → PairT X B w' T' i p := by
  intro i x hi
  by_cases hik : i = k
  · subst hik
    rw [hk] at hi
    cases hi
    exact hp
  · refine (h i x hi).step hX hs (fun h1 => ?_) (fun t h0 h1 => ?_) (fun r j h1 => ?_)
    · rcases hS _ h1 with (h | ⟨r, j, h⟩) | h | h
      · exact absurd h.1 (by simp)
      · cases h
      · cases h
      · have := h.1; simp at this
    · rcases hS _ h1 with (h | ⟨r, j, h⟩) | h | h
      · exact hik (h0.2.symm.trans h.2)
      · rw [h] at h0; exact absurd h0.1 (by simp)
      · rw [h] at h0; exact absurd h0.1 (by simp)
      · have := h0.1; omega
    · rcases hS _ h1 with (h | ⟨r', j', h⟩) | h | h
      · exact absurd h.1 (by simp)
      · exact hik (by cases h; rfl)
      · cases h
      · have := h.1; simp at this

/-- what a call leaves; the book grows by no more than G -/
def CallPostG (G : Nat) (X : World → (Nat → Tag) → Nat → Nat → MQ → Prop) (B : Int) (w : World) (T : Nat → Tag) (wb : Nat) (c d : Conf) (most : Int) (ps : List Nat) (q q' : Nat) (e : Ending) (w' : World) : Prop :=
  e = .returned (.bool true) ∧ ∃ T' q1 q1', Step (fun t => t ≠ .old) w T w' T' ∧ WT X B w' T' wb c d most ps q1 q1' ∧ q1 ≤ q + G ∧ q1' ≤ q' + G
abbrev CallPost (X : World → (Nat → Tag) → Nat → Nat → MQ → Prop) (B : Int) (w : World) (T : Nat → Tag) (wb : Nat) (c d : Conf) (most : Int) (ps : List Nat) (q q' : Nat) (e : Ending) (w' : World) : Prop := CallPostG 2 X B w T wb c d most ps q q' e w'

theorem callS_old {k : Nat} {t : Tag} (h : CallS k t) : t ≠ .old := by
  rintro rfl
  rcases h with (h | ⟨r, j, h⟩) | h | h
  · exact absurd h.1 (by simp)
  · cases h
  · cases h
  · have := h.1; simp at this

/-- a call that touches the queues alone -/
theorem post_queues {G : Nat} {X : World → (Nat → Tag) → Nat → Nat → MQ → Prop} {B B' Bm : Int} (hX : XC X Bm) (hBB : B ≤ B') {w w' : World} {T T' : Nat → Tag} {wb : Nat} {c d : Conf} {most : Int} {ps : List Nat} {q q' k p : Nat} (h : WT X B w T wb c d most ps q q') (hk : ps[k]? = some p) (hs : Step (ST k) w T w' T') (hp : PairT X B' w' T' k p) :
    CallPostG G X B' w T wb c d most ps q q' (.returned (.bool true)) w' := by
  obtain ⟨⟨vP, vr, vd, h1, h2, h3, h4⟩, h5⟩ := h
  have n : ∀ t : Tag, t.c ≠ 5 → t.c ≠ 6 → ¬ ST k t := by
    rintro t a b (h | ⟨r, j, rfl⟩)
    · exact a h.1
    · exact b rfl
  refine ⟨rfl, T', q, q', hs.mono (fun t ht => callS_old (.inl ht)), ⟨⟨vP, vr, vd, h1.step hs (n _ (by simp) (by simp)), h2.step hs (n _ (by simp) (by simp)), h3.step hs (n _ (by simp) (by simp)) (fun _ _ => n _ (by simp) (by simp)), h4.step hs (n _ (by simp) (by simp)) (fun _ _ => n _ (by simp) (by simp))⟩, ?_⟩, by omega, by omega⟩
  exact pairs_next hX (fun i p hi => (h5 i p hi).mono hBB) hs (fun t ht => .inl ht) hk hp

/-- a call that keeps two lists of ranges -/
theorem post_done {X : World → (Nat → Tag) → Nat → Nat → MQ → Prop} {B B' Bm : Int} (hX : XC X Bm) (hBB : B ≤ B') {w w' : World} {T T' : Nat → Tag} {wb : Nat} {c d : Conf} {most : Int} {ps : List Nat} {q q' k p : Nat} {vP vr vd vr' : Value}
    (h2 : Row w T .row 42 1 vP ps.length (ps.map ptrV)) (h4 : Bk w T 11 77 3 (fun q => patOf (markDV q)) vd q') (h5 : ∀ i p, ps[i]? = some p → PairT X B w T i p) (hk : ps[k]? = some p) (hs : Step (ToldS k 9 q) w T w' T') (hp : PairT X B w' T' k p)
    (hW : Blk w' T' .world wb ((wtCells c d vP vr vd most).setIfInBounds 9 vr') 33) (hR : Bk w' T' 9 74 2 (fun q => patOf (markRV q)) vr' (q + 2)) :
    CallPost X B' w T wb c d most ps q q' (.returned (.bool true)) w' := by
  have n : ∀ t : Tag, ToldS k 9 q t → CallS k t := by
    rintro t (h | (rfl | rfl | rfl) | (rfl | rfl | rfl) | rfl)
    · exact .inl h
    · exact .inr (.inl rfl)
    · exact .inr (.inr (by decide))
    · exact .inr (.inr ⟨by simp, by simp⟩)
    · exact .inr (.inl rfl)
    · exact .inr (.inr (by decide))
    · exact .inr (.inr ⟨by simp, by simp⟩)
    · exact .inr (.inr (by decide))
  refine ⟨rfl, T', q + 2, q', hs.mono (fun t ht => callS_old (n t ht)), ⟨⟨vP, vr', vd, hW, h2.step hs (by simp [ToldS, ST, XT, YT, KeepS]), hR, h4.step hs (by simp [ToldS, ST, XT, YT, KeepS]) (fun _ _ => by simp [ToldS, ST, XT, YT, KeepS])⟩, fun i p hi => ?_⟩, by omega, by omega⟩
  exact (pairs_next hX h5 hs n hk hp i p hi).mono hBB
/-- a call that keeps two lists of deliveries -/
theorem post_dead {X : World → (Nat → Tag) → Nat → Nat → MQ → Prop} {B B' Bm : Int} (hX : XC X Bm) (hBB : B ≤ B') {w w' : World} {T T' : Nat → Tag} {wb : Nat} {c d : Conf} {most : Int} {ps : List Nat} {q q' k p : Nat} {vP vr vd vd' : Value}
    (h2 : Row w T .row 42 1 vP ps.length (ps.map ptrV)) (h3 : Bk w T 9 74 2 (fun q => patOf (markRV q)) vr q) (h5 : ∀ i p, ps[i]? = some p → PairT X B w T i p) (hk : ps[k]? = some p) (hs : Step (ToldS k 11 q') w T w' T') (hp : PairT X B w' T' k p)
    (hW : Blk w' T' .world wb ((wtCells c d vP vr vd most).setIfInBounds 10 vd') 33) (hD : Bk w' T' 11 77 3 (fun q => patOf (markDV q)) vd' (q' + 2)) :
    CallPost X B' w T wb c d most ps q q' (.returned (.bool true)) w' := by
  have n : ∀ t : Tag, ToldS k 11 q' t → CallS k t := by
    rintro t (h | (rfl | rfl | rfl) | (rfl | rfl | rfl) | rfl)
    · exact .inl h
    · exact .inr (.inl rfl)
    · exact .inr (.inr (by decide))
    · exact .inr (.inr ⟨by simp, by simp⟩)
    · exact .inr (.inl rfl)
    · exact .inr (.inr (by decide))
    · exact .inr (.inr ⟨by simp, by simp⟩)
    · exact .inr (.inr (by decide))
  refine ⟨rfl, T', q, q' + 2, hs.mono (fun t ht => callS_old (n t ht)), ⟨⟨vP, vr, vd', hW, h2.step hs (by simp [ToldS, ST, XT, YT, KeepS]), h3.step hs (by simp [ToldS, ST, XT, YT, KeepS]) (fun _ _ => by simp [ToldS, ST, XT, YT, KeepS]), hD⟩, fun i p hi => ?_⟩, by omega, by omega⟩
  exact (pairs_next hX h5 hs n hk hp i p hi).mono hBB

end Go.Proofs.YtockkceclkcgbaaGreatDoor

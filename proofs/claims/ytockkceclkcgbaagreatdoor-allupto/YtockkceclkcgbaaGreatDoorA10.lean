/- The contract of told at Span, over any queue that keeps the contracts. -/
import Derived.Test.YtockkceclkcgbaaGreatDoorA09
import Derived.Deep.RegionHeld3
namespace Go.Proofs.YtockkceclkcgbaaGreatDoor
open Go.RowKit

attribute [local go_sem] over_cell

set_option maxRecDepth 100000 in
set_option maxHeartbeats 4000000 in
theorem told_spanT {X Z : World → (Nat → Tag) → Nat → Nat → MQ → Prop} {vs : Value} {lg : ByteArray} {B Bm : Int} (hX : XZ X Z Bm) (hle : B ≤ Bm) (i p : Nat) (v : Value) (s : ByteArray) (w : World) (T : Nat → Tag) (hp : PairZ X B vs lg w T i p) :
    Calls Tryz.prog 17 #[v, .pointer (some ⟨p, 0, none⟩), .int .i64 11, .string s] w fun e w' => e = .returned (.bool true) ∧ ∃ T', Step (XT i) w T w' T' ∧ PairZ X B vs lg w' T' i p := by
  obtain ⟨bx, yb, m, hB, hx, hy, hf⟩ := hp
  have l1 := hB.lt
  have c0 := hB.cell (j := 0) rfl
  simp only [List.getElem_toArray, List.getElem_cons_zero] at c0
  go_enter Tryz.func17, Tryz.ntmps17
  go_wp2_with fail
  refine (hX.span i bx m _ _ hx (hf.mono hle)).mono ?_
  rintro e w1 ⟨rfl, T1, hs1, hx1⟩
  replace hB := hB.step hs1 (by simp [XT])
  replace hy := hy.step hs1 (by simp [XT])
  have hy0 := hy
  obtain ⟨hsm, _, _, vB, vG, vi, vd, hY, hR, _⟩ := hy
  obtain ⟨bo, bc, rfl⟩ := row_form hR
  have hbl : m.rq.bodies.length = m.bodies.length := by simp [MQ.rq]
  have e1 := hB.cell (j := 1) rfl
  have e4 := hY.cell (j := 4) rfl
  have e5 := hY.cell (j := 5) rfl
  simp only [List.getElem_toArray, List.getElem_cons_succ, List.getElem_cons_zero] at e1 e4 e5
  rw [hbl] at e4
  have e5' : w1.cell? ⟨yb, 5, none⟩ = some (.int .i64 m.floor) := e5
  have m1 := hB.lt
  have m2 := hY.lt
  clear c0 hY hR hx e5
  go_wp2_with fail
  refine wp_region_over (by kernel_rfl) (by kernel_rfl) ?_
  repeat (go_big_quiet_step (fail))
  refine wpQuiet_nil ?_
  rintro _ ⟨x, rfl⟩
  go_wp2
  go_ret
  have hb2 := ((Below.refl w1.heap.size w1).alloc (Nat.le_refl _) (.cells #[.int .i64 m.floor, .int .i64 m.bodies.length] 69)).trans ((over_below _ x).mono (by simp))
  have s2 := step_below (fun _ => False) T1 hb2
  exact ⟨by first | rfl | simp, T1, hs1.trans (s2.mono (fun _ h => h.elim)), bx, yb, m, hB.step s2 (fun h => h), hX.step hx1 s2 (fun _ _ h => h), hy0.step s2 (fun _ _ h => h), hf⟩

end Go.Proofs.YtockkceclkcgbaaGreatDoor

/- The contract of call at Receive, Done, Dead, Span and the leases' calls, over any queue that keeps the contracts. -/
namespace Go.Proofs.YtockkceclkcgbaaGreatDoor
open Go.RowKit

attribute [local go_sem] over_cell

set_option maxRecDepth 100000 in
set_option maxHeartbeats 4000000 in
theorem callT_done {X Z : World → (Nat → Tag) → Nat → Nat → MQ → Prop} {vs : Value} {lg : ByteArray} {B Bm : Int} (hX : XZ X Z Bm) (hle : B ≤ Bm) (i p wb : Nat) (cs : Array Value) (vr : Value) (q : Nat) (qu : Int) (nm bd : ByteArray) (n tr ms : Int) (yes : Bool) (w : World) (T : Nat → Tag)
    (hp : PairZ X B vs lg w T i p) (hW : Blk w T .world wb cs 33) (hc : cs[9]? = some vr) (hR : Bk w T 9 74 2 (fun q => patOf (markRV q)) vr q) (hq : q ≤ 900000000) :
    Calls Tryz.prog 45 #[.pointer (some ⟨wb, 0, none⟩), .pointer (some ⟨p, 0, none⟩), .agg (opCells 9 qu nm bd n tr ms yes)] w fun e w' => e = .returned (.bool true) ∧
      ∃ T' vr', Step (ToldS i 9 q) w T w' T' ∧ PairZ X B vs lg w' T' i p ∧ Blk w' T' .world wb (cs.setIfInBounds 9 vr') 33 ∧ Bk w' T' 9 74 2 (fun q => patOf (markRV q)) vr' (q + 2) := by
  have a1 : Step (fun _ => False) w T (w.alloc (.cells (opCells 9 qu nm bd n tr ms yes) 46)) (retag T w.heap.size .free) := step_new w T _ .free _
  have hO : Blk (w.alloc (.cells (opCells 9 qu nm bd n tr ms yes) 46)) (retag T w.heap.size .free) .free w.heap.size (opCells 9 qu nm bd n tr ms yes) 46 := blk_new w T _ 46 .free
  have o0 := hO.cell (j := 0) rfl
  have o2 := hO.cell (j := 2) rfl
  simp only [List.getElem_toArray, List.getElem_cons_succ, List.getElem_cons_zero] at o0 o2
  replace hp := hp.step hX a1 (fun h => h) (fun _ _ h => h) (fun _ _ h => h)
  replace hW := hW.step a1 (fun h => h)
  replace hR := hR.step a1 (fun h => h) (fun _ _ h => h)
  go_enter Tryz.func45, Tryz.ntmps45
  go_wp2_with fail
  refine (told_done hX hle i p wb cs vr q nm _ _ hp hW hc hR hq).mono ?_
  rintro e w2 ⟨rfl, T2, vr', hs2, hp2, hW2, hR2⟩
  go_wp2
  go_ret
  exact ⟨rfl, T2, vr', (a1.mono (fun _ h => h.elim)).trans hs2, hp2, hW2, hR2⟩

set_option maxRecDepth 100000 in
set_option maxHeartbeats 4000000 in
theorem callT_dead {X Z : World → (Nat → Tag) → Nat → Nat → MQ → Prop} {vs : Value} {lg : ByteArray} {B Bm : Int} (hX : XZ X Z Bm) (hle : B ≤ Bm) (i p wb : Nat) (cs : Array Value) (vr : Value) (q : Nat) (qu : Int) (nm bd : ByteArray) (n tr ms : Int) (yes : Bool) (w : World) (T : Nat → Tag)
    (hp : PairZ X B vs lg w T i p) (hW : Blk w T .world wb cs 33) (hc : cs[10]? = some vr) (hR : Bk w T 11 77 3 (fun q => patOf (markDV q)) vr q) (hq : q ≤ 900000000) :
    Calls Tryz.prog 45 #[.pointer (some ⟨wb, 0, none⟩), .pointer (some ⟨p, 0, none⟩), .agg (opCells 10 qu nm bd n tr ms yes)] w fun e w' => e = .returned (.bool true) ∧
      ∃ T' vr', Step (ToldS i 11 q) w T w' T' ∧ PairZ X B vs lg w' T' i p ∧ Blk w' T' .world wb (cs.setIfInBounds 10 vr') 33 ∧ Bk w' T' 11 77 3 (fun q => patOf (markDV q)) vr' (q + 2) := by
  have a1 : Step (fun _ => False) w T (w.alloc (.cells (opCells 10 qu nm bd n tr ms yes) 46)) (retag T w.heap.size .free) := step_new w T _ .free _
  have hO : Blk (w.alloc (.cells (opCells 10 qu nm bd n tr ms yes) 46)) (retag T w.heap.size .free) .free w.heap.size (opCells 10 qu nm bd n tr ms yes) 46 := blk_new w T _ 46 .free
  have o0 := hO.cell (j := 0) rfl
  have o2 := hO.cell (j := 2) rfl
  simp only [List.getElem_toArray, List.getElem_cons_succ, List.getElem_cons_zero] at o0 o2
  replace hp := hp.step hX a1 (fun h => h) (fun _ _ h => h) (fun _ _ h => h)
  replace hW := hW.step a1 (fun h => h)
  replace hR := hR.step a1 (fun h => h) (fun _ _ h => h)
  go_enter Tryz.func45, Tryz.ntmps45
  go_wp2_with fail
  refine (told_dead hX hle i p wb cs vr q nm _ _ hp hW hc hR hq).mono ?_
  rintro e w2 ⟨rfl, T2, vr', hs2, hp2, hW2, hR2⟩
  go_wp2
  go_ret
  exact ⟨rfl, T2, vr', (a1.mono (fun _ h => h.elim)).trans hs2, hp2, hW2, hR2⟩

set_option maxRecDepth 100000 in
set_option maxHeartbeats 4000000 in
theorem callT_span {X Z : World → (Nat → Tag) → Nat → Nat → MQ → Prop} {vs : Value} {lg : ByteArray} {B Bm : Int} (hX : XZ X Z Bm) (hle : B ≤ Bm) (i p wb : Nat) (qu : Int) (nm bd : ByteArray) (n tr ms : Int) (yes : Bool) (w : World) (T : Nat → Tag) (hp : PairZ X B vs lg w T i p) :
    Calls Tryz.prog 45 #[.pointer (some ⟨wb, 0, none⟩), .pointer (some ⟨p, 0, none⟩), .agg (opCells 11 qu nm bd n tr ms yes)] w fun e w' => e = .returned (.bool true) ∧ ∃ T', Step (XT i) w T w' T' ∧ PairZ X B vs lg w' T' i p := by
  have a1 : Step (fun _ => False) w T (w.alloc (.cells (opCells 11 qu nm bd n tr ms yes) 46)) (retag T w.heap.size .free) := step_new w T _ .free _
  have hO : Blk (w.alloc (.cells (opCells 11 qu nm bd n tr ms yes) 46)) (retag T w.heap.size .free) .free w.heap.size (opCells 11 qu nm bd n tr ms yes) 46 := blk_new w T _ 46 .free
  have o0 := hO.cell (j := 0) rfl
  have o2 := hO.cell (j := 2) rfl
  simp only [List.getElem_toArray, List.getElem_cons_succ, List.getElem_cons_zero] at o0 o2
  replace hp := hp.step hX a1 (fun h => h) (fun _ _ h => h) (fun _ _ h => h)
  go_enter Tryz.func45, Tryz.ntmps45
  go_wp2_with fail
  refine (told_spanT hX hle i p _ nm _ _ hp).mono ?_
  rintro e w2 ⟨rfl, T2, hs2, hp2⟩
  go_wp2
  go_ret
  exact ⟨rfl, T2, (a1.mono (fun _ h => h.elim)).trans hs2, hp2⟩

set_option maxRecDepth 100000 in
set_option maxHeartbeats 4000000 in
theorem callT_leases {X Z : World → (Nat → Tag) → Nat → Nat → MQ → Prop} {vs : Value} {lg : ByteArray} {B B' Bm : Int} (hX : XZ X Z Bm) (i p wb : Nat) (kind : Int) (hk : kind = 5 ∨ kind = 6 ∨ kind = 7 ∨ kind = 8) (qu : Int) (nm bd : ByteArray) (n tr ms : Int) (yes : Bool) (w : World) (T : Nat → Tag) (hp : PairZ X B vs lg w T i p)
    (hL : ∀ (w : World) (T : Nat → Tag), PairZ X B vs lg w T i p → Calls Tryz.prog 84 #[.pointer (some ⟨p, 0, none⟩), .agg (opCells kind qu nm bd n tr ms yes)] w fun e w' => e = .returned (.bool true) ∧ ∃ T', Step (ST i) w T w' T' ∧ PairZ Z B' vs lg w' T' i p) :
    Calls Tryz.prog 45 #[.pointer (some ⟨wb, 0, none⟩), .pointer (some ⟨p, 0, none⟩), .agg (opCells kind qu nm bd n tr ms yes)] w fun e w' => e = .returned (.bool true) ∧ ∃ T', Step (ST i) w T w' T' ∧ PairZ Z B' vs lg w' T' i p := by
  have a1 : Step (fun _ => False) w T (w.alloc (.cells (opCells kind qu nm bd n tr ms yes) 46)) (retag T w.heap.size .free) := step_new w T _ .free _
  have hO : Blk (w.alloc (.cells (opCells kind qu nm bd n tr ms yes) 46)) (retag T w.heap.size .free) .free w.heap.size (opCells kind qu nm bd n tr ms yes) 46 := blk_new w T _ 46 .free
  have o0 := hO.cell (j := 0) rfl
  have o2 := hO.cell (j := 2) rfl
  simp only [List.getElem_toArray, List.getElem_cons_succ, List.getElem_cons_zero] at o0 o2
  replace hp := hp.step hX a1 (fun h => h) (fun _ _ h => h) (fun _ _ h => h)
  rcases hk with rfl | rfl | rfl | rfl
  all_goals
    go_enter Tryz.func45, Tryz.ntmps45
    go_wp2_with fail
    refine (hL _ _ hp).mono ?_
    rintro e w2 ⟨rfl, T2, hs2, hp2⟩
    go_wp2
    go_ret
    exact ⟨rfl, T2, (a1.mono (fun _ h => h.elim)).trans hs2, hp2⟩

end Go.Proofs.YtockkceclkcgbaaGreatDoor

/- The contract of call at Enqueue and at Group, over any queue that keeps the contracts. -/
namespace Go.Proofs.YtockkceclkcgbaaGreatDoor
open Go.RowKit

attribute [local go_sem] over_cell

theorem menqM_c (m : MQ) (s : ByteArray) : (menqM m s).c = m.c := by unfold menqM; cases decide (menqE m s = 0) <;> rfl
theorem mgrpM_c (m : MQ) (s : ByteArray) (fr : Int) : (mgrpM m s fr).c = m.c := by unfold mgrpM; cases decide (mgrpE m s fr = 0) <;> rfl
theorem retainM_c (m : MQ) : (retainM m).c = m.c := by unfold retainM; cases retainB m <;> rfl

/-- the document's Enqueue and Group, in the mathematics' words -/
theorem yenqueueM (i b : Nat) (m : MQ) (s : ByteArray) (w : World) (T : Nat → Tag) (hy : YQ w T i b m.rq) :
    Calls Tryz.prog 15 #[.pointer (some ⟨b, 0, none⟩), .string s] w fun e w' => e = .returned (.tuple #[.int .i64 (bif decide (menqE m s = 0) then (m.bodies.length : Int) else 0), .int .i64 (menqE m s)]) ∧ ∃ T', Step (YT i) w T w' T' ∧ YQ w' T' i b (menqM m s).rq := by
  refine (yenqueue_any i b m.rq s w T hy).mono ?_
  rintro e w' ⟨rfl, T', hs, hy'⟩
  have e1 : m.rq.bodies.length = m.bodies.length := by simp [MQ.rq]
  refine ⟨?_, T', hs, by rw [← menqM_rq]; exact hy'⟩
  rw [e1]
  rfl
theorem ygroupM (i b : Nat) (m : MQ) (s : ByteArray) (fr : Int) (w : World) (T : Nat → Tag) (hy : YQ w T i b m.rq) :
    Calls Tryz.prog 81 #[.pointer (some ⟨b, 0, none⟩), .string s, .int .i64 fr] w fun e w' => e = .returned (.int .i64 (mgrpE m s fr)) ∧ ∃ T', Step (YT i) w T w' T' ∧ YQ w' T' i b (mgrpM m s fr).rq := by
  refine (ygroup_any i b m.rq s fr w T hy).mono ?_
  rintro e w' ⟨rfl, T', hs, hy'⟩
  exact ⟨by rw [mgrpE_rq], T', hs, by rw [← mgrpM_rq]; exact hy'⟩

set_option maxRecDepth 100000 in
set_option maxHeartbeats 4000000 in
theorem callT_enq {X Z : World → (Nat → Tag) → Nat → Nat → MQ → Prop} {vs : Value} {lg : ByteArray} {B Bm : Int} (hX : XZ X Z Bm) (hle : B ≤ Bm) (i p : Nat) (v : Value) (qu : Int) (nm bd : ByteArray) (n tr ms : Int) (yes : Bool) (w : World) (T : Nat → Tag) (hp : PairZ X B vs lg w T i p) :
    Calls Tryz.prog 45 #[v, .pointer (some ⟨p, 0, none⟩), .agg (opCells 2 qu nm bd n tr ms yes)] w fun e w' => e = .returned (.bool true) ∧ ∃ T', Step (ST i) w T w' T' ∧ PairZ Z B vs lg w' T' i p := by
  obtain ⟨bx, yb, m, hB, hx, hy, hf⟩ := hp
  have a1 : Step (fun _ => False) w T (w.alloc (.cells (opCells 2 qu nm bd n tr ms yes) 46)).drew (retag T w.heap.size .free) := (step_new w T _ .free _).trans (step_below _ _ (Below.refl _ _).drew)
  have hO : Blk (w.alloc (.cells (opCells 2 qu nm bd n tr ms yes) 46)).drew (retag T w.heap.size .free) .free w.heap.size (opCells 2 qu nm bd n tr ms yes) 46 := (blk_new w T _ 46 .free)
  have l0 := hB.lt
  have c0 := hB.cell (j := 0) rfl
  simp only [List.getElem_toArray, List.getElem_cons_zero] at c0
  replace hB := hB.step a1 (fun h => h)
  replace hx := hX.step hx a1 (fun _ _ h => h)
  replace hy := hy.step a1 (fun _ _ h => h)
  go_enter Tryz.func45, Tryz.ntmps45
  go_wp2_with fail
  have o3 := hO.cell (j := 3) rfl
  simp only [List.getElem_toArray, List.getElem_cons_succ, List.getElem_cons_zero] at o3
  go_region_held3 (fun w' => w'.cell? ⟨p, 0, none⟩ = some (.pointer (some ⟨bx, 0, none⟩)) ∧ w'.cell? ⟨w.heap.size, 3, none⟩ = some (.string bd)) (go_keep) (first | (go_at_call 14; refine (hX.enq i bx m bd _ _ hx (hf.mono hle)).mono ?_; rintro e w2 ⟨rfl, T2, hs2, hx2⟩; have kp := (hB.step hs2 (by simp [XT])).cell (j := 0) rfl; have k3 := (hO.step hs2 (by simp [XT])).cell (j := 3) rfl; simp only [List.getElem_toArray, List.getElem_cons_succ, List.getElem_cons_zero] at kp k3))
  all_goals
    have hB2 := hB.step hs2 (by simp [XT])
    have hO2 := hO.step hs2 (by simp [XT])
    have hy2 := hy.step hs2 (by simp [XT])
    have d1 := hB2.cell (j := 1) rfl
    have o2 := hO2.cell (j := 2) rfl
    have o3 := hO2.cell (j := 3) rfl
    have o4 := hO2.cell (j := 4) rfl
    simp only [List.getElem_toArray, List.getElem_cons_succ, List.getElem_cons_zero] at d1 o2 o3 o4
    clear c0 hx hy kp k3
    go_wp2_with fail
    go_region_held3 (fun w' => w'.cell? ⟨p, 1, none⟩ = some (.pointer (some ⟨yb, 0, none⟩)) ∧ w'.cell? ⟨w.heap.size, 3, none⟩ = some (.string bd)) (go_keep) (first | (go_at_call 15; refine (yenqueueM i yb m bd _ T2 ?_).mono ?_; (exact hy2.step (step_below (fun _ => False) T2 (Below.refl _ _).drew) (fun _ _ h => h)); rintro e w4 ⟨rfl, T4, hs4, hy4⟩; have hs4' : Step (YT i) w2 T2 w4 T4 := (step_below _ T2 (Below.refl _ _).drew).trans hs4; have jp := (hB2.step hs4' (by simp [YT])).cell (j := 1) rfl; have j3 := (hO2.step hs4' (by simp [YT])).cell (j := 3) rfl; simp only [List.getElem_toArray, List.getElem_cons_succ, List.getElem_cons_zero] at jp j3))
    all_goals
      go_wp2
      go_ret
      refine ⟨by first | rfl | simp, T4, (a1.mono (fun _ h => h.elim)).trans ((hs2.mono (fun _ h => .inl h)).trans (hs4'.mono (fun _ h => .inr h))), bx, yb, menqM m bd, ?_, hX.stepZ hx2 hs4' (by rintro t h1 ⟨r, j, rfl⟩; exact absurd h1.1 (by simp)), hy4, fit_enq hf bd⟩
      rw [menqM_c]
      exact hB2.step hs4' (by simp [YT])

set_option maxRecDepth 100000 in
set_option maxHeartbeats 4000000 in
theorem callT_grp {X Z : World → (Nat → Tag) → Nat → Nat → MQ → Prop} {vs : Value} {lg : ByteArray} {B Bm : Int} (hX : XZ X Z Bm) (hle : B ≤ Bm) (i p : Nat) (v : Value) (qu : Int) (nm bd : ByteArray) (n tr ms : Int) (yes : Bool) (w : World) (T : Nat → Tag) (hp : PairZ X B vs lg w T i p) :
    Calls Tryz.prog 45 #[v, .pointer (some ⟨p, 0, none⟩), .agg (opCells 3 qu nm bd n tr ms yes)] w fun e w' => e = .returned (.bool true) ∧ ∃ T', Step (ST i) w T w' T' ∧ PairZ Z B vs lg w' T' i p := by
  obtain ⟨bx, yb, m, hB, hx, hy, hf⟩ := hp
  have a1 : Step (fun _ => False) w T (w.alloc (.cells (opCells 3 qu nm bd n tr ms yes) 46)).drew (retag T w.heap.size .free) := (step_new w T _ .free _).trans (step_below _ _ (Below.refl _ _).drew)
  have hO : Blk (w.alloc (.cells (opCells 3 qu nm bd n tr ms yes) 46)).drew (retag T w.heap.size .free) .free w.heap.size (opCells 3 qu nm bd n tr ms yes) 46 := (blk_new w T _ 46 .free)
  have l0 := hB.lt
  have c0 := hB.cell (j := 0) rfl
  simp only [List.getElem_toArray, List.getElem_cons_zero] at c0
  replace hB := hB.step a1 (fun h => h)
  replace hx := hX.step hx a1 (fun _ _ h => h)
  replace hy := hy.step a1 (fun _ _ h => h)
  go_enter Tryz.func45, Tryz.ntmps45
  go_wp2_with fail
  have o2 := hO.cell (j := 2) rfl
  have o4 := hO.cell (j := 4) rfl
  simp only [List.getElem_toArray, List.getElem_cons_succ, List.getElem_cons_zero] at o2 o4
  go_region_held3 (fun w' => w'.cell? ⟨p, 0, none⟩ = some (.pointer (some ⟨bx, 0, none⟩)) ∧ w'.cell? ⟨w.heap.size, 2, none⟩ = some (.string nm) ∧ w'.cell? ⟨w.heap.size, 4, none⟩ = some (.int .i64 n)) (go_keep) (first | (go_at_call 74; refine (hX.grp i bx m nm n _ _ hx (hf.mono hle)).mono ?_; rintro e w2 ⟨rfl, T2, hs2, hx2⟩; have kp := (hB.step hs2 (by simp [XT])).cell (j := 0) rfl; have k2 := (hO.step hs2 (by simp [XT])).cell (j := 2) rfl; have k4 := (hO.step hs2 (by simp [XT])).cell (j := 4) rfl; simp only [List.getElem_toArray, List.getElem_cons_succ, List.getElem_cons_zero] at kp k2 k4))
  all_goals
    have hB2 := hB.step hs2 (by simp [XT])
    have hO2 := hO.step hs2 (by simp [XT])
    have hy2 := hy.step hs2 (by simp [XT])
    have d1 := hB2.cell (j := 1) rfl
    have o2 := hO2.cell (j := 2) rfl
    have o3 := hO2.cell (j := 3) rfl
    have o4 := hO2.cell (j := 4) rfl
    simp only [List.getElem_toArray, List.getElem_cons_succ, List.getElem_cons_zero] at d1 o2 o3 o4
    clear c0 hx hy kp k2 k4
    go_wp2_with fail
    go_region_held3 (fun w' => w'.cell? ⟨p, 1, none⟩ = some (.pointer (some ⟨yb, 0, none⟩)) ∧ w'.cell? ⟨w.heap.size, 2, none⟩ = some (.string nm) ∧ w'.cell? ⟨w.heap.size, 4, none⟩ = some (.int .i64 n)) (go_keep) (first | (go_at_call 81; refine (ygroupM i yb m nm n _ T2 ?_).mono ?_; (exact hy2.step (step_below (fun _ => False) T2 (Below.refl _ _).drew) (fun _ _ h => h)); rintro e w4 ⟨rfl, T4, hs4, hy4⟩; have hs4' : Step (YT i) w2 T2 w4 T4 := (step_below _ T2 (Below.refl _ _).drew).trans hs4; have jp := (hB2.step hs4' (by simp [YT])).cell (j := 1) rfl; have j2 := (hO2.step hs4' (by simp [YT])).cell (j := 2) rfl; have j4 := (hO2.step hs4' (by simp [YT])).cell (j := 4) rfl; simp only [List.getElem_toArray, List.getElem_cons_succ, List.getElem_cons_zero] at jp j2 j4))
    all_goals
      go_wp2
      go_ret
      refine ⟨by first | rfl | simp, T4, (a1.mono (fun _ h => h.elim)).trans ((hs2.mono (fun _ h => .inl h)).trans (hs4'.mono (fun _ h => .inr h))), bx, yb, mgrpM m nm n, ?_, hX.stepZ hx2 hs4' (by rintro t h1 ⟨r, j, rfl⟩; exact absurd h1.1 (by simp)), hy4, fit_grp hf nm n⟩
      rw [mgrpM_c]
      exact hB2.step hs4' (by simp [YT])

end Go.Proofs.YtockkceclkcgbaaGreatDoor

/- The contract of call at Retain, over any queue that keeps the contracts. -/
namespace Go.Proofs.YtockkceclkcgbaaGreatDoor
open Go.RowKit

attribute [local go_sem] over_cell

set_option maxRecDepth 100000 in
set_option maxHeartbeats 4000000 in
theorem callT_ret {X Z : World → (Nat → Tag) → Nat → Nat → MQ → Prop} {vs : Value} {lg : ByteArray} {B Bm : Int} (hX : XZ X Z Bm) (hle : B ≤ Bm) (i p : Nat) (v : Value) (qu : Int) (nm bd : ByteArray) (n tr ms : Int) (yes : Bool) (w : World) (T : Nat → Tag) (hp : PairZ X B vs lg w T i p) :
    Calls Tryz.prog 45 #[v, .pointer (some ⟨p, 0, none⟩), .agg (opCells 12 qu nm bd n tr ms yes)] w fun e w' => e = .returned (.bool true) ∧ ∃ T', Step (ST i) w T w' T' ∧ PairZ Z B vs lg w' T' i p := by
  obtain ⟨bx, yb, m, hB, hx, hy, hf⟩ := hp
  have a1 : Step (fun _ => False) w T (w.alloc (.cells (opCells 12 qu nm bd n tr ms yes) 46)) (retag T w.heap.size .free) := step_new w T _ .free _
  replace hB := hB.step a1 (fun h => h)
  replace hx := hX.step hx a1 (fun _ _ h => h)
  replace hy := hy.step a1 (fun _ _ h => h)
  have c0 := hB.cell (j := 0) rfl
  simp only [List.getElem_toArray, List.getElem_cons_zero] at c0
  go_enter Tryz.func45, Tryz.ntmps45
  go_wp2_with fail
  refine (hX.ret i bx m _ _ hx (hf.mono hle)).mono ?_
  rintro e w2 ⟨rfl, T2, hs2, hx2⟩
  have hB2 := hB.step hs2 (by simp [XT])
  have hy2 := hy.step hs2 (by simp [XT])
  have d1 := hB2.cell (j := 1) rfl
  simp only [List.getElem_toArray, List.getElem_cons_succ, List.getElem_cons_zero] at d1
  clear c0 hx hy hB
  go_wp2_with fail
  refine (yretain_any i yb m _ T2 hy2 hf.ok).mono ?_
  rintro e w4 ⟨rfl, T4, hs4, hy4⟩
  go_wp2
  go_ret
  have hs4' : Step (YT i) w2 T2 w4 T4 := hs4
  refine ⟨by first | rfl | simp, T4, (a1.mono (fun _ h => h.elim)).trans ((hs2.mono (fun _ h => .inl h)).trans (hs4'.mono (fun _ h => .inr h))), bx, yb, retainM m, ?_, hX.stepZ hx2 hs4' (by rintro t h1 ⟨r, j, rfl⟩; exact absurd h1.1 (by simp)), hy4, fit_retain hf⟩
  rw [retainM_c]
  exact hB2.step hs4' (by simp [YT])

end Go.Proofs.YtockkceclkcgbaaGreatDoor

/- The contract of leases at Ack; the configuration stays. -/
namespace Go.Proofs.YtockkceclkcgbaaGreatDoor
open Go.RowKit

attribute [local go_sem] over_cell

theorem onLeased_c (m : MQ) (s : ByteArray) (off e : Int) (f : It → It) : (onLeased m s off e f).c = m.c := by
  unfold onLeased
  cases m.at s with
  | none => rfl
  | some k => simp only; cases decide (e = 0) <;> rfl
theorem ackM_c (m : MQ) (s : ByteArray) (off tr : Int) : (ackM m s off tr).c = m.c := by
  unfold ackM
  cases decide (leasedE m s off tr = 0)
  · rfl
  · exact onLeased_c m s off 0 _
theorem nackM_c (m : MQ) (s : ByteArray) (off tr d : Int) : (nackM m s off tr d).c = m.c := by
  unfold nackM
  cases decide (rangedE m s off tr d 0 = 0)
  · rfl
  · simp only [cond_true]; exact onLeased_c m s off 0 _
theorem extendM_c (m : MQ) (s : ByteArray) (off tr d : Int) : (extendM m s off tr d).c = m.c := by
  unfold extendM
  cases decide (rangedE m s off tr d 1 = 0)
  · rfl
  · simp only [cond_true]; exact onLeased_c m s off 0 _
theorem tickM_c (m : MQ) (d : Int) : (tickM m d).c = m.c := by unfold tickM; cases btw d 0 60000 <;> rfl

set_option maxRecDepth 100000 in
set_option maxHeartbeats 4000000 in
theorem leases_ack {X Z : World → (Nat → Tag) → Nat → Nat → MQ → Prop} {vs : Value} {lg : ByteArray} {B Bm : Int} (hX : XZ X Z Bm) (hle : B ≤ Bm) (i p : Nat) (qu : Int) (nm bd : ByteArray) (n tr ms : Int) (yes : Bool) (w : World) (T : Nat → Tag) (hp : PairZ X B vs lg w T i p) :
    Calls Tryz.prog 84 #[.pointer (some ⟨p, 0, none⟩), .agg (opCells 5 qu nm bd n tr ms yes)] w fun e w' => e = .returned (.bool true) ∧ ∃ T', Step (ST i) w T w' T' ∧ PairZ Z B vs lg w' T' i p := by
  obtain ⟨bx, yb, m, hB, hx, hy, hf⟩ := hp
  have a1 : Step (fun _ => False) w T (w.alloc (.cells (opCells 5 qu nm bd n tr ms yes) 46)) (retag T w.heap.size .free) := step_new w T _ .free _
  have hO : Blk (w.alloc (.cells (opCells 5 qu nm bd n tr ms yes) 46)) (retag T w.heap.size .free) .free w.heap.size (opCells 5 qu nm bd n tr ms yes) 46 := blk_new w T _ 46 .free
  replace hB := hB.step a1 (fun h => h)
  replace hx := hX.step hx a1 (fun _ _ h => h)
  replace hy := hy.step a1 (fun _ _ h => h)
  go_enter Tryz.func84, Tryz.ntmps84
  go_wp2_with fail
  refine (try_any i p yb m _ 5 qu nm bd n tr ms yes _ _ hB rfl hy hf.ok).mono ?_
  rintro e w1 ⟨⟨t, rfl⟩, hb1⟩
  have s1 := step_below (fun _ => False) (retag T w.heap.size .free) hb1
  have s1' : Step (fun _ => False) (w.alloc (.cells (opCells 5 qu nm bd n tr ms yes) 46)) (retag T w.heap.size .free) w1.drew (retag T w.heap.size .free) := s1.trans (step_below _ _ (Below.refl _ _).drew)
  have hO1 := hO.step s1 (fun h => h)
  have hB1 := hB.step s1 (fun h => h)
  have c0 := hB1.cell (j := 0) rfl
  have o0 := hO1.cell (j := 0) rfl
  have o2 := hO1.cell (j := 2) rfl
  have o4 := hO1.cell (j := 4) rfl
  have o6 := hO1.cell (j := 6) rfl
  simp only [List.getElem_toArray, List.getElem_cons_succ, List.getElem_cons_zero] at c0 o0 o2 o4 o6
  replace hB := hB.step s1' (fun h => h)
  replace hO := hO.step s1' (fun h => h)
  replace hx := hX.step hx s1' (fun _ _ h => h)
  replace hy := hy.step s1' (fun _ _ h => h)
  replace a1 := a1.trans s1'
  clear s1 s1' hb1 hO1 hB1
  generalize retag T w.heap.size .free = T1 at *
  go_wp2_with fail
  go_region_held3 (fun w' => w'.cell? ⟨p, 0, none⟩ = some (.pointer (some ⟨bx, 0, none⟩)) ∧ w'.cell? ⟨w.heap.size, 2, none⟩ = some (.string nm) ∧ w'.cell? ⟨w.heap.size, 4, none⟩ = some (.int .i64 n)) (go_keep) (first | (go_at_call 59; refine (hX.ack i bx m nm n t _ _ hx (hf.mono hle)).mono ?_; rintro e w2 ⟨rfl, T2, hs2, hx2⟩; have kp := (hB.step hs2 (by simp [XT])).cell (j := 0) rfl; have k2 := (hO.step hs2 (by simp [XT])).cell (j := 2) rfl; have k4 := (hO.step hs2 (by simp [XT])).cell (j := 4) rfl; simp only [List.getElem_toArray, List.getElem_cons_succ, List.getElem_cons_zero] at kp k2 k4))
  all_goals
    have hB2 := hB.step hs2 (by simp [XT])
    have hO2 := hO.step hs2 (by simp [XT])
    have hy2 := hy.step hs2 (by simp [XT])
    have d1 := hB2.cell (j := 1) rfl
    have o2 := hO2.cell (j := 2) rfl
    have o4 := hO2.cell (j := 4) rfl
    have o6 := hO2.cell (j := 6) rfl
    simp only [List.getElem_toArray, List.getElem_cons_succ, List.getElem_cons_zero] at d1 o2 o4 o6
    clear c0 o0 hx hy kp k2 k4
    go_wp2_with fail
    go_region_held3 (fun w' => w'.cell? ⟨p, 1, none⟩ = some (.pointer (some ⟨yb, 0, none⟩)) ∧ w'.cell? ⟨w.heap.size, 2, none⟩ = some (.string nm) ∧ w'.cell? ⟨w.heap.size, 4, none⟩ = some (.int .i64 n)) (go_keep) (first | (go_at_call 112; refine (yack_any i yb m nm n t _ T2 ?_ hf.ok).mono ?_; (exact hy2.step (step_below (fun _ => False) T2 (Below.refl _ _).drew) (fun _ _ h => h)); rintro e w4 ⟨rfl, T4, hs4, hy4⟩; have hs4' : Step (YT i) w2 T2 w4 T4 := (step_below _ T2 (Below.refl _ _).drew).trans hs4; have jp := (hB2.step hs4' (by simp [YT])).cell (j := 1) rfl; have j2 := (hO2.step hs4' (by simp [YT])).cell (j := 2) rfl; have j4 := (hO2.step hs4' (by simp [YT])).cell (j := 4) rfl; simp only [List.getElem_toArray, List.getElem_cons_succ, List.getElem_cons_zero] at jp j2 j4))
    all_goals
      go_wp2
      go_ret
      refine ⟨by first | rfl | simp, T4, (a1.mono (fun _ h => h.elim)).trans ((hs2.mono (fun _ h => .inl h)).trans (hs4'.mono (fun _ h => .inr h))), bx, yb, ackM m nm n t, ?_, hX.stepZ hx2 hs4' (by rintro t h1 ⟨r, j, rfl⟩; exact absurd h1.1 (by simp)), hy4, fit_ack hf nm n t⟩
      rw [ackM_c]
      exact hB2.step hs4' (by simp [YT])

end Go.Proofs.YtockkceclkcgbaaGreatDoor

/- The contract of leases at Tick. -/
namespace Go.Proofs.YtockkceclkcgbaaGreatDoor
open Go.RowKit

attribute [local go_sem] over_cell

set_option maxRecDepth 100000 in
set_option maxHeartbeats 4000000 in
theorem leases_tick {X Z : World → (Nat → Tag) → Nat → Nat → MQ → Prop} {vs : Value} {lg : ByteArray} {B Bm : Int} (hX : XZ X Z Bm) (hle : B ≤ Bm) (hlm : B ≤ 3999999999999940000) (i p : Nat) (qu : Int) (nm bd : ByteArray) (n tr ms : Int) (yes : Bool) (w : World) (T : Nat → Tag) (hp : PairZ X B vs lg w T i p) :
    Calls Tryz.prog 84 #[.pointer (some ⟨p, 0, none⟩), .agg (opCells 8 qu nm bd n tr ms yes)] w fun e w' => e = .returned (.bool true) ∧ ∃ T', Step (ST i) w T w' T' ∧ PairZ Z (B + 60000) vs lg w' T' i p := by
  obtain ⟨bx, yb, m, hB, hx, hy, hf⟩ := hp
  have a1 : Step (fun _ => False) w T (w.alloc (.cells (opCells 8 qu nm bd n tr ms yes) 46)) (retag T w.heap.size .free) := step_new w T _ .free _
  have hO : Blk (w.alloc (.cells (opCells 8 qu nm bd n tr ms yes) 46)) (retag T w.heap.size .free) .free w.heap.size (opCells 8 qu nm bd n tr ms yes) 46 := blk_new w T _ 46 .free
  replace hB := hB.step a1 (fun h => h)
  replace hx := hX.step hx a1 (fun _ _ h => h)
  replace hy := hy.step a1 (fun _ _ h => h)
  go_enter Tryz.func84, Tryz.ntmps84
  go_wp2_with fail
  refine (try_any i p yb m _ 8 qu nm bd n tr ms yes _ _ hB rfl hy hf.ok).mono ?_
  rintro e w1 ⟨⟨t, rfl⟩, hb1⟩
  have s1 := step_below (fun _ => False) (retag T w.heap.size .free) hb1
  have s1' : Step (fun _ => False) (w.alloc (.cells (opCells 8 qu nm bd n tr ms yes) 46)) (retag T w.heap.size .free) w1.drew (retag T w.heap.size .free) := s1.trans (step_below _ _ (Below.refl _ _).drew)
  have hO1 := hO.step s1 (fun h => h)
  have hB1 := hB.step s1 (fun h => h)
  have c0 := hB1.cell (j := 0) rfl
  have o0 := hO1.cell (j := 0) rfl
  have o2 := hO1.cell (j := 2) rfl
  have o4 := hO1.cell (j := 4) rfl
  have o6 := hO1.cell (j := 6) rfl
  simp only [List.getElem_toArray, List.getElem_cons_succ, List.getElem_cons_zero] at c0 o0 o2 o4 o6
  replace hB := hB.step s1' (fun h => h)
  replace hO := hO.step s1' (fun h => h)
  replace hx := hX.step hx s1' (fun _ _ h => h)
  replace hy := hy.step s1' (fun _ _ h => h)
  replace a1 := a1.trans s1'
  clear s1 s1' hb1 hO1 hB1
  generalize retag T w.heap.size .free = T1 at *
  go_wp2_with fail
  go_region_law (go_simp; go_at_call 55; refine (hX.tick i bx m ms _ _ hx (hf.mono hle)).mono ?_; rintro e w2 ⟨rfl, T2, hs2, hx2⟩)
  all_goals
    have hB2 := hB.step hs2 (by simp [XT])
    have hO2 := hO.step hs2 (by simp [XT])
    have hy2 := hy.step hs2 (by simp [XT])
    have d1 := hB2.cell (j := 1) rfl
    have o2 := hO2.cell (j := 2) rfl
    have o4 := hO2.cell (j := 4) rfl
    have o6 := hO2.cell (j := 6) rfl
    simp only [List.getElem_toArray, List.getElem_cons_succ, List.getElem_cons_zero] at d1 o2 o4 o6
    clear c0 o0 hx hy
    go_wp2_with fail
    go_region_law (go_simp; go_at_call 116; refine (ytick_any i yb m ms _ T2 ?_ hf.ok).mono ?_; (exact hy2.step (step_below (fun _ => False) T2 (Below.refl _ _).drew) (fun _ _ h => h)); rintro e w4 ⟨rfl, T4, hs4, hy4⟩)
    all_goals
      go_wp2
      go_ret
      have hs4' : Step (YT i) w2 T2 w4 T4 := (step_below _ T2 (Below.refl _ _).drew).trans hs4
      refine ⟨by first | rfl | simp, T4, (a1.mono (fun _ h => h.elim)).trans ((hs2.mono (fun _ h => .inl h)).trans (hs4'.mono (fun _ h => .inr h))), bx, yb, tickM m ms, ?_, hX.stepZ hx2 hs4' (by rintro t h1 ⟨r, j, rfl⟩; exact absurd h1.1 (by simp)), hy4, fit_tick hf ms hlm⟩
      rw [tickM_c]
      exact hB2.step hs4' (by simp [YT])

end Go.Proofs.YtockkceclkcgbaaGreatDoor

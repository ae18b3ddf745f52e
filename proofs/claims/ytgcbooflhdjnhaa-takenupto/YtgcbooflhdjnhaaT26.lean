/- The contract of call at Enqueue and at Group, over any queue that keeps the contracts. -/
import Derived.Test.YtgcbooflhdjnhaaT21
import Derived.Deep.RegionHeld3
namespace Go.Proofs.Ytgcbooflhdjnhaa
open Go.RowKit

attribute [local go_sem] over_cell

theorem menqM_c (m : MQ) (s : ByteArray) : (menqM m s).c = m.c := by unfold menqM; cases decide (menqE m s = 0) <;> rfl
theorem mgrpM_c (m : MQ) (s : ByteArray) (fr : Int) : (mgrpM m s fr).c = m.c := by unfold mgrpM; cases decide (mgrpE m s fr = 0) <;> rfl
theorem retainM_c (m : MQ) : (retainM m).c = m.c := by unfold retainM; cases retainB m <;> rfl

/-- the document's Enqueue and Group, in the mathematics' words -/
theorem yenqueueM (i b : Nat) (m : MQ) (s : ByteArray) (w : World) (T : Nat → Tag) (hy : YQ w T i b m.rq) :
    Calls Try.prog 19 #[.pointer (some ⟨b, 0, none⟩), .string s] w fun e w' => e = .returned (.tuple #[.int .i64 (bif decide (menqE m s = 0) then (m.bodies.length : Int) else 0), .int .i64 (menqE m s)]) ∧ ∃ T', Step (YT i) w T w' T' ∧ YQ w' T' i b (menqM m s).rq := by
  refine (yenqueue_any i b m.rq s w T hy).mono ?_
  rintro e w' ⟨rfl, T', hs, hy'⟩
  have e1 : m.rq.bodies.length = m.bodies.length := by simp [MQ.rq]
  refine ⟨?_, T', hs, by rw [← menqM_rq]; exact hy'⟩
  rw [e1]
  rfl
theorem ygroupM (i b : Nat) (m : MQ) (s : ByteArray) (fr : Int) (w : World) (T : Nat → Tag) (hy : YQ w T i b m.rq) :
    Calls Try.prog 70 #[.pointer (some ⟨b, 0, none⟩), .string s, .int .i64 fr] w fun e w' => e = .returned (.int .i64 (mgrpE m s fr)) ∧ ∃ T', Step (YT i) w T w' T' ∧ YQ w' T' i b (mgrpM m s fr).rq := by
  refine (ygroup_any i b m.rq s fr w T hy).mono ?_
  rintro e w' ⟨rfl, T', hs, hy'⟩
  exact ⟨by rw [mgrpE_rq], T', hs, by rw [← mgrpM_rq]; exact hy'⟩

set_option maxRecDepth 100000 in
set_option maxHeartbeats 4000000 in
theorem callT_enq {X : World → (Nat → Tag) → Nat → Nat → MQ → Prop} {B Bm : Int} (hX : XC X Bm) (hle : B ≤ Bm) (i p : Nat) (v : Value) (qu : Int) (nm bd : ByteArray) (n tr ms : Int) (yes : Bool) (w : World) (T : Nat → Tag) (hp : PairT X B w T i p) :
    Calls Try.prog 45 #[v, .pointer (some ⟨p, 0, none⟩), .agg (opCells 2 qu nm bd n tr ms yes)] w fun e w' => e = .returned (.bool true) ∧ ∃ T', Step (ST i) w T w' T' ∧ PairT X B w' T' i p := by
  obtain ⟨bx, yb, m, vs, lg, hB, hx, hy, hf⟩ := hp
  have a1 : Step (fun _ => False) w T (w.alloc (.cells (opCells 2 qu nm bd n tr ms yes) 61)).drew (retag T w.heap.size .free) := (step_new w T _ .free _).trans (step_below _ _ (Below.refl _ _).drew)
  have hO : Blk (w.alloc (.cells (opCells 2 qu nm bd n tr ms yes) 61)).drew (retag T w.heap.size .free) .free w.heap.size (opCells 2 qu nm bd n tr ms yes) 61 := (blk_new w T _ 61 .free)
  have l0 := hB.lt
  have c0 := hB.cell (j := 0) rfl
  simp only [List.getElem_toArray, List.getElem_cons_zero] at c0
  replace hB := hB.step a1 (fun h => h)
  replace hx := hX.step hx a1 (fun _ _ h => h)
  replace hy := hy.step a1 (fun _ _ h => h)
  go_enter Try.func45, Try.ntmps45
  go_wp2_with fail
  have o3 := hO.cell (j := 3) rfl
  simp only [List.getElem_toArray, List.getElem_cons_succ, List.getElem_cons_zero] at o3
  go_region_held3 (fun w' => w'.cell? ⟨p, 0, none⟩ = some (.pointer (some ⟨bx, 0, none⟩)) ∧ w'.cell? ⟨w.heap.size, 3, none⟩ = some (.string bd)) (go_keep) (first | (go_at_call 18; refine (hX.enq i bx m bd _ _ hx (hf.mono hle)).mono ?_; rintro e w2 ⟨rfl, T2, hs2, hx2⟩; have kp := (hB.step hs2 (by simp [XT])).cell (j := 0) rfl; have k3 := (hO.step hs2 (by simp [XT])).cell (j := 3) rfl; simp only [List.getElem_toArray, List.getElem_cons_succ, List.getElem_cons_zero] at kp k3))
  all_goals
    have hB2 := hB.step hs2 (by simp [XT])
    have hO2 := hO.step hs2 (by simp [XT])
    have hy2 := hy.step hs2 (by simp [XT])
    have d1 := hB2.cell (j := 1) rfl
    have o2 := hO2.cell (j := 2) rfl
    have o3 := hO2.cell (j := 3) rfl
    have o4 := hO2.cell (j := 4) rfl
    simp only [List.getElem_toArray, List.getElem_cons_succ, List.getElem_cons_zero] at d1 o2 o3 o4
    clear c0 hx hy kp k3
    go_wp2_with fail
    go_region_held3 (fun w' => w'.cell? ⟨p, 1, none⟩ = some (.pointer (some ⟨yb, 0, none⟩)) ∧ w'.cell? ⟨w.heap.size, 3, none⟩ = some (.string bd)) (go_keep) (first | (go_at_call 19; refine (yenqueueM i yb m bd _ T2 ?_).mono ?_; (exact hy2.step (step_below (fun _ => False) T2 (Below.refl _ _).drew) (fun _ _ h => h)); rintro e w4 ⟨rfl, T4, hs4, hy4⟩; have hs4' : Step (YT i) w2 T2 w4 T4 := (step_below _ T2 (Below.refl _ _).drew).trans hs4; have jp := (hB2.step hs4' (by simp [YT])).cell (j := 1) rfl; have j3 := (hO2.step hs4' (by simp [YT])).cell (j := 3) rfl; simp only [List.getElem_toArray, List.getElem_cons_succ, List.getElem_cons_zero] at jp j3))
    all_goals
      go_wp2
      go_ret
      refine ⟨by first | rfl | simp, T4, (a1.mono (fun _ h => h.elim)).trans ((hs2.mono (fun _ h => .inl h)).trans (hs4'.mono (fun _ h => .inr h))), bx, yb, menqM m bd, vs, lg, ?_, hX.step hx2 hs4' (by rintro t h1 ⟨r, j, rfl⟩; exact absurd h1.1 (by simp)), hy4, fit_enq hf bd⟩
      rw [menqM_c]
      exact hB2.step hs4' (by simp [YT])

set_option maxRecDepth 100000 in
set_option maxHeartbeats 4000000 in
theorem callT_grp {X : World → (Nat → Tag) → Nat → Nat → MQ → Prop} {B Bm : Int} (hX : XC X Bm) (hle : B ≤ Bm) (i p : Nat) (v : Value) (qu : Int) (nm bd : ByteArray) (n tr ms : Int) (yes : Bool) (w : World) (T : Nat → Tag) (hp : PairT X B w T i p) :
    Calls Try.prog 45 #[v, .pointer (some ⟨p, 0, none⟩), .agg (opCells 3 qu nm bd n tr ms yes)] w fun e w' => e = .returned (.bool true) ∧ ∃ T', Step (ST i) w T w' T' ∧ PairT X B w' T' i p := by
  obtain ⟨bx, yb, m, vs, lg, hB, hx, hy, hf⟩ := hp
  have a1 : Step (fun _ => False) w T (w.alloc (.cells (opCells 3 qu nm bd n tr ms yes) 61)).drew (retag T w.heap.size .free) := (step_new w T _ .free _).trans (step_below _ _ (Below.refl _ _).drew)
  have hO : Blk (w.alloc (.cells (opCells 3 qu nm bd n tr ms yes) 61)).drew (retag T w.heap.size .free) .free w.heap.size (opCells 3 qu nm bd n tr ms yes) 61 := (blk_new w T _ 61 .free)
  have l0 := hB.lt
  have c0 := hB.cell (j := 0) rfl
  simp only [List.getElem_toArray, List.getElem_cons_zero] at c0
  replace hB := hB.step a1 (fun h => h)
  replace hx := hX.step hx a1 (fun _ _ h => h)
  replace hy := hy.step a1 (fun _ _ h => h)
  go_enter Try.func45, Try.ntmps45
  go_wp2_with fail
  have o2 := hO.cell (j := 2) rfl
  have o4 := hO.cell (j := 4) rfl
  simp only [List.getElem_toArray, List.getElem_cons_succ, List.getElem_cons_zero] at o2 o4
  go_region_held3 (fun w' => w'.cell? ⟨p, 0, none⟩ = some (.pointer (some ⟨bx, 0, none⟩)) ∧ w'.cell? ⟨w.heap.size, 2, none⟩ = some (.string nm) ∧ w'.cell? ⟨w.heap.size, 4, none⟩ = some (.int .i64 n)) (go_keep) (first | (go_at_call 61; refine (hX.grp i bx m nm n _ _ hx (hf.mono hle)).mono ?_; rintro e w2 ⟨rfl, T2, hs2, hx2⟩; have kp := (hB.step hs2 (by simp [XT])).cell (j := 0) rfl; have k2 := (hO.step hs2 (by simp [XT])).cell (j := 2) rfl; have k4 := (hO.step hs2 (by simp [XT])).cell (j := 4) rfl; simp only [List.getElem_toArray, List.getElem_cons_succ, List.getElem_cons_zero] at kp k2 k4))
  all_goals
    have hB2 := hB.step hs2 (by simp [XT])
    have hO2 := hO.step hs2 (by simp [XT])
    have hy2 := hy.step hs2 (by simp [XT])
    have d1 := hB2.cell (j := 1) rfl
    have o2 := hO2.cell (j := 2) rfl
    have o3 := hO2.cell (j := 3) rfl
    have o4 := hO2.cell (j := 4) rfl
    simp only [List.getElem_toArray, List.getElem_cons_succ, List.getElem_cons_zero] at d1 o2 o3 o4
    clear c0 hx hy kp k2 k4
    go_wp2_with fail
    go_region_held3 (fun w' => w'.cell? ⟨p, 1, none⟩ = some (.pointer (some ⟨yb, 0, none⟩)) ∧ w'.cell? ⟨w.heap.size, 2, none⟩ = some (.string nm) ∧ w'.cell? ⟨w.heap.size, 4, none⟩ = some (.int .i64 n)) (go_keep) (first | (go_at_call 70; refine (ygroupM i yb m nm n _ T2 ?_).mono ?_; (exact hy2.step (step_below (fun _ => False) T2 (Below.refl _ _).drew) (fun _ _ h => h)); rintro e w4 ⟨rfl, T4, hs4, hy4⟩; have hs4' : Step (YT i) w2 T2 w4 T4 := (step_below _ T2 (Below.refl _ _).drew).trans hs4; have jp := (hB2.step hs4' (by simp [YT])).cell (j := 1) rfl; have j2 := (hO2.step hs4' (by simp [YT])).cell (j := 2) rfl; have j4 := (hO2.step hs4' (by simp [YT])).cell (j := 4) rfl; simp only [List.getElem_toArray, List.getElem_cons_succ, List.getElem_cons_zero] at jp j2 j4))
    all_goals
      go_wp2
      go_ret
      refine ⟨by first | rfl | simp, T4, (a1.mono (fun _ h => h.elim)).trans ((hs2.mono (fun _ h => .inl h)).trans (hs4'.mono (fun _ h => .inr h))), bx, yb, mgrpM m nm n, vs, lg, ?_, hX.step hx2 hs4' (by rintro t h1 ⟨r, j, rfl⟩; exact absurd h1.1 (by simp)), hy4, fit_grp hf nm n⟩
      rw [mgrpM_c]
      exact hB2.step hs4' (by simp [YT])

end Go.Proofs.Ytgcbooflhdjnhaa

/- The contract of call at Retain, over any queue that keeps the contracts. -/
namespace Go.Proofs.Ytgcbooflhdjnhaa
open Go.RowKit

attribute [local go_sem] over_cell

set_option maxRecDepth 100000 in
set_option maxHeartbeats 4000000 in
theorem callT_ret {X : World → (Nat → Tag) → Nat → Nat → MQ → Prop} {B Bm : Int} (hX : XC X Bm) (hle : B ≤ Bm) (i p : Nat) (v : Value) (qu : Int) (nm bd : ByteArray) (n tr ms : Int) (yes : Bool) (w : World) (T : Nat → Tag) (hp : PairT X B w T i p) :
    Calls Try.prog 45 #[v, .pointer (some ⟨p, 0, none⟩), .agg (opCells 12 qu nm bd n tr ms yes)] w fun e w' => e = .returned (.bool true) ∧ ∃ T', Step (ST i) w T w' T' ∧ PairT X B w' T' i p := by
  obtain ⟨bx, yb, m, vs, lg, hB, hx, hy, hf⟩ := hp
  have a1 : Step (fun _ => False) w T (w.alloc (.cells (opCells 12 qu nm bd n tr ms yes) 61)) (retag T w.heap.size .free) := step_new w T _ .free _
  replace hB := hB.step a1 (fun h => h)
  replace hx := hX.step hx a1 (fun _ _ h => h)
  replace hy := hy.step a1 (fun _ _ h => h)
  have c0 := hB.cell (j := 0) rfl
  simp only [List.getElem_toArray, List.getElem_cons_zero] at c0
  go_enter Try.func45, Try.ntmps45
  go_wp2_with fail
  refine (hX.ret i bx m _ _ hx (hf.mono hle)).mono ?_
  rintro e w2 ⟨rfl, T2, hs2, hx2⟩
  have hB2 := hB.step hs2 (by simp [XT])
  have hy2 := hy.step hs2 (by simp [XT])
  have d1 := hB2.cell (j := 1) rfl
  simp only [List.getElem_toArray, List.getElem_cons_succ, List.getElem_cons_zero] at d1
  clear c0 hx hy hB
  go_wp2_with fail
  refine (yretain_any i yb m _ T2 hy2 hf.ok).mono ?_
  rintro e w4 ⟨rfl, T4, hs4, hy4⟩
  go_wp2
  go_ret
  have hs4' : Step (YT i) w2 T2 w4 T4 := hs4
  refine ⟨by first | rfl | simp, T4, (a1.mono (fun _ h => h.elim)).trans ((hs2.mono (fun _ h => .inl h)).trans (hs4'.mono (fun _ h => .inr h))), bx, yb, retainM m, vs, lg, ?_, hX.step hx2 hs4' (by rintro t h1 ⟨r, j, rfl⟩; exact absurd h1.1 (by simp)), hy4, fit_retain hf⟩
  rw [retainM_c]
  exact hB2.step hs4' (by simp [YT])

end Go.Proofs.Ytgcbooflhdjnhaa

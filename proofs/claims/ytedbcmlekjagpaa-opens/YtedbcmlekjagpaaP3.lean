/- The contract of call at Enqueue and at Group: both queues answer alike and go on alike. -/
import Derived.Test.YtedbcmlekjagpaaP1
import Derived.Test.YtedbcmlekjagpaaO7
import Derived.Test.YtedbcmlekjagpaaO8
namespace Go.Proofs.Ytedbcmlekjagpaa
open Go.RowKit

/-- the blocks of the queues of number i -/
def Si (i : Nat) (t : Tag) : Prop := (∃ r, t = .x i r) ∨ ∃ r k, t = .y i r k

theorem enqY_zero (len n : Nat) (k : Int) : enqY len n 0 k = enqE len n k := by simp [enqY, enqE]

/-- Enqueue of both queues -/
theorem enq_both (q : RQ) (s : ByteArray) (hf : q.floor = 0) : ∃ (A E : Int) (q' : RQ), q'.floor = 0 ∧
    (∀ (i bx : Nat) (w : World) (T : Nat → Tag), XQ w T i bx q.c q.bodies (q.groups.map (·.name)) → Calls Try.prog 16 #[.pointer (some ⟨bx, 0, none⟩), .string s] w fun e w' => e = .returned (.tuple #[.int .i64 A, .int .i64 E]) ∧ ∃ T', Step (fun t => ∃ r, t = .x i r) w T w' T' ∧ XQ w' T' i bx q'.c q'.bodies (q'.groups.map (·.name))) ∧
    (∀ (i yb : Nat) (w : World) (T : Nat → Tag), YQ w T i yb q → Calls Try.prog 17 #[.pointer (some ⟨yb, 0, none⟩), .string s] w fun e w' => e = .returned (.tuple #[.int .i64 A, .int .i64 E]) ∧ ∃ T', Step (fun t => ∃ r k, t = .y i r k) w T w' T' ∧ YQ w' T' i yb q') ∧ q'.c = q.c := by
  refine ⟨enqN s.size q.bodies.length q.c.k, enqE s.size q.bodies.length q.c.k, enqQ q s, ?_, fun i bx w T hx => ?_, fun i yb w T hy => ?_, ?_⟩
  · unfold enqQ
    cases decide (enqY s.size q.bodies.length q.floor q.c.k = 0) <;> exact hf
  · refine (xenqueue_any i bx q.c q.bodies _ s w T hx).mono ?_
    rintro e w' ⟨rfl, T', hs, hx'⟩
    refine ⟨rfl, T', hs, ?_⟩
    unfold enqQ
    unfold enqL at hx'
    rw [hf, enqY_zero]
    cases h : decide (enqE s.size q.bodies.length q.c.k = 0)
    · rw [h] at hx'; exact hx'
    · rw [h] at hx'
      simpa [growG, Function.comp_def] using hx'
  · refine (yenqueue_any i yb q s w T hy).mono ?_
    rintro e w' ⟨rfl, T', hs, hy'⟩
    refine ⟨?_, T', hs, hy'⟩
    rw [hf, enqY_zero]
    rfl
  · unfold enqQ
    cases decide (enqY s.size q.bodies.length q.floor q.c.k = 0) <;> rfl

/-- Group of both queues -/
theorem grp_both (q : RQ) (s : ByteArray) (fr : Int) (hf : q.floor = 0) : ∃ (E : Int) (q' : RQ), q'.floor = 0 ∧
    (∀ (i bx : Nat) (w : World) (T : Nat → Tag), XQ w T i bx q.c q.bodies (q.groups.map (·.name)) → Calls Try.prog 52 #[.pointer (some ⟨bx, 0, none⟩), .string s, .int .i64 fr] w fun e w' => e = .returned (.int .i64 E) ∧ ∃ T', Step (fun t => ∃ r, t = .x i r) w T w' T' ∧ XQ w' T' i bx q'.c q'.bodies (q'.groups.map (·.name))) ∧
    (∀ (i yb : Nat) (w : World) (T : Nat → Tag), YQ w T i yb q → Calls Try.prog 53 #[.pointer (some ⟨yb, 0, none⟩), .string s, .int .i64 fr] w fun e w' => e = .returned (.int .i64 E) ∧ ∃ T', Step (fun t => ∃ r k, t = .y i r k) w T w' T' ∧ YQ w' T' i yb q') ∧ q'.c = q.c := by
  have he : grpY s fr q = grpE s fr (q.groups.map (·.name)) q.bodies.length := by simp [grpY, grpE, hf]
  refine ⟨grpE s fr (q.groups.map (·.name)) q.bodies.length, grpQ q s fr, ?_, fun i bx w T hx => ?_, fun i yb w T hy => ?_, ?_⟩
  · unfold grpQ
    cases decide (grpY s fr q = 0) <;> exact hf
  · refine (xgroup_any i bx q.c q.bodies _ s fr w T hx).mono ?_
    rintro e w' ⟨rfl, T', hs, hx'⟩
    refine ⟨rfl, T', hs, ?_⟩
    unfold grpQ
    unfold grpL at hx'
    rw [he]
    cases h : decide (grpE s fr (q.groups.map (·.name)) q.bodies.length = 0)
    · rw [h] at hx'; exact hx'
    · rw [h] at hx'
      simpa using hx'
  · refine (ygroup_any i yb q s fr w T hy).mono ?_
    rintro e w' ⟨rfl, T', hs, hy'⟩
    exact ⟨by rw [he], T', hs, hy'⟩
  · unfold grpQ
    cases decide (grpY s fr q = 0) <;> rfl

/-- the cells of a step of the script -/
abbrev opCells (kind qu : Int) (nm bd : ByteArray) (n tr ms : Int) (yes : Bool) : Array Value := #[.int .i64 kind, .int .i64 qu, .string nm, .string bd, .int .i64 n, .int .i64 tr, .int .i64 ms, .bool yes]

set_option maxRecDepth 100000 in
set_option maxHeartbeats 2000000 in
theorem call_enq (i p : Nat) (v : Value) (qu : Int) (nm bd : ByteArray) (n tr ms : Int) (yes : Bool) (w : World) (T : Nat → Tag) (hp : PairI w T i p) :
    Calls Try.prog 37 #[v, .pointer (some ⟨p, 0, none⟩), .agg (opCells 2 qu nm bd n tr ms yes)] w fun e w' => e = .returned (.bool true) ∧ ∃ T', Step (Si i) w T w' T' ∧ PairI w' T' i p := by
  obtain ⟨bx, yb, q, vs, hB, hx, hy, hf⟩ := hp
  obtain ⟨A, E, q', hf', hcx, hcy, hc'⟩ := enq_both q bd hf
  have a1 : Step (fun _ => False) w T (w.alloc (.cells (opCells 2 qu nm bd n tr ms yes) 61)).drew (retag T w.heap.size .free) := (step_new w T _ .free _).trans (step_below _ _ (Below.refl _ _).drew)
  have hO : Blk (w.alloc (.cells (opCells 2 qu nm bd n tr ms yes) 61)).drew (retag T w.heap.size .free) .free w.heap.size (opCells 2 qu nm bd n tr ms yes) 61 := (blk_new w T _ 61 .free)
  have l0 := hB.lt
  have c0 := hB.cell (j := 0) rfl
  have c1 := hB.cell (j := 1) rfl
  simp only [List.getElem_toArray, List.getElem_cons_succ, List.getElem_cons_zero] at c0 c1
  replace hB := hB.step a1 (fun h => h)
  replace hx := hx.step a1 (fun _ h => h)
  replace hy := hy.step a1 (fun _ _ h => h)
  go_enter Try.func37, Try.ntmps37
  go_wp2_with fail
  go_region_law (go_simp; go_at_call 16; refine (hcx i bx _ _ hx).mono ?_; rintro e w2 ⟨rfl, T2, hs2, hx2⟩)
  all_goals
    have hB2 := hB.step hs2 (by simp)
    have hO2 := hO.step hs2 (by simp)
    have hy2 := hy.step hs2 (by simp)
    have d1 := hB2.cell (j := 1) rfl
    have o2 := hO2.cell (j := 2) rfl
    have o3 := hO2.cell (j := 3) rfl
    have o4 := hO2.cell (j := 4) rfl
    simp only [List.getElem_toArray, List.getElem_cons_succ, List.getElem_cons_zero] at d1 o2 o3 o4
    clear c0 c1 hx hy hcx
    go_wp2_with fail
    go_region_law (go_simp; go_at_call 17; refine (hcy i yb _ T2 ?_).mono ?_; (exact hy2.step (step_below (fun _ => False) T2 (Below.refl _ _).drew) (fun _ _ h => h)); rintro e w4 ⟨rfl, T4, hs4, hy4⟩)
    all_goals
      go_wp2
      go_ret
      have hs4' : Step (fun t => ∃ r k, t = .y i r k) w2 T2 w4 T4 := (step_below _ T2 (Below.refl _ _).drew).trans hs4
      refine ⟨by first | rfl | simp, T4, (a1.mono (fun _ h => h.elim)).trans ((hs2.mono (fun _ h => .inl h)).trans (hs4'.mono (fun _ h => .inr h))), bx, yb, q', vs, ?_, hx2.step hs4' (by simp), hy4, hf'⟩
      rw [hc']
      exact hB2.step hs4' (by simp)

set_option maxRecDepth 100000 in
set_option maxHeartbeats 2000000 in
theorem call_grp (i p : Nat) (v : Value) (qu : Int) (nm bd : ByteArray) (n tr ms : Int) (yes : Bool) (w : World) (T : Nat → Tag) (hp : PairI w T i p) :
    Calls Try.prog 37 #[v, .pointer (some ⟨p, 0, none⟩), .agg (opCells 3 qu nm bd n tr ms yes)] w fun e w' => e = .returned (.bool true) ∧ ∃ T', Step (Si i) w T w' T' ∧ PairI w' T' i p := by
  obtain ⟨bx, yb, q, vs, hB, hx, hy, hf⟩ := hp
  obtain ⟨E, q', hf', hcx, hcy, hc'⟩ := grp_both q nm n hf
  have a1 : Step (fun _ => False) w T (w.alloc (.cells (opCells 3 qu nm bd n tr ms yes) 61)).drew (retag T w.heap.size .free) := (step_new w T _ .free _).trans (step_below _ _ (Below.refl _ _).drew)
  have hO : Blk (w.alloc (.cells (opCells 3 qu nm bd n tr ms yes) 61)).drew (retag T w.heap.size .free) .free w.heap.size (opCells 3 qu nm bd n tr ms yes) 61 := (blk_new w T _ 61 .free)
  have l0 := hB.lt
  have c0 := hB.cell (j := 0) rfl
  have c1 := hB.cell (j := 1) rfl
  simp only [List.getElem_toArray, List.getElem_cons_succ, List.getElem_cons_zero] at c0 c1
  replace hB := hB.step a1 (fun h => h)
  replace hx := hx.step a1 (fun _ h => h)
  replace hy := hy.step a1 (fun _ _ h => h)
  go_enter Try.func37, Try.ntmps37
  go_wp2_with fail
  go_region_law (go_simp; go_at_call 52; refine (hcx i bx _ _ hx).mono ?_; rintro e w2 ⟨rfl, T2, hs2, hx2⟩)
  all_goals
    have hB2 := hB.step hs2 (by simp)
    have hO2 := hO.step hs2 (by simp)
    have hy2 := hy.step hs2 (by simp)
    have d1 := hB2.cell (j := 1) rfl
    have o2 := hO2.cell (j := 2) rfl
    have o3 := hO2.cell (j := 3) rfl
    have o4 := hO2.cell (j := 4) rfl
    simp only [List.getElem_toArray, List.getElem_cons_succ, List.getElem_cons_zero] at d1 o2 o3 o4
    clear c0 c1 hx hy hcx
    go_wp2_with fail
    go_region_law (go_simp; go_at_call 53; refine (hcy i yb _ T2 ?_).mono ?_; (exact hy2.step (step_below (fun _ => False) T2 (Below.refl _ _).drew) (fun _ _ h => h)); rintro e w4 ⟨rfl, T4, hs4, hy4⟩)
    all_goals
      go_wp2
      go_ret
      have hs4' : Step (fun t => ∃ r k, t = .y i r k) w2 T2 w4 T4 := (step_below _ T2 (Below.refl _ _).drew).trans hs4
      refine ⟨by first | rfl | simp, T4, (a1.mono (fun _ h => h.elim)).trans ((hs2.mono (fun _ h => .inl h)).trans (hs4'.mono (fun _ h => .inr h))), bx, yb, q', vs, ?_, hx2.step hs4' (by simp), hy4, hf'⟩
      rw [hc']
      exact hB2.step hs4' (by simp)

end Go.Proofs.Ytedbcmlekjagpaa

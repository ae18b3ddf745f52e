/- The contract of step at Enqueue and Group, and of step whatever the step. -/
import Derived.Test.YtedbcmlekjagpaaP4
namespace Go.Proofs.Ytedbcmlekjagpaa
open Go.RowKit

attribute [local go_sem] over_cell

set_option maxRecDepth 100000 in
set_option maxHeartbeats 2000000 in
theorem step_pair (wb : Nat) (c d : Conf) (ps : List Nat) (kind qu : Int) (nm bd : ByteArray) (n tr ms : Int) (yes : Bool) (w : World) (T : Nat → Tag) (hw : WI w T wb c d ps) (h23 : kind = 2 ∨ kind = 3) (hqu : i64 qu) (hpos : 0 < ps.length) (hlen : ps.length ≤ 17592186044416) :
    Calls Try.prog 18 #[.pointer (some ⟨wb, 0, none⟩), .agg (opCells kind qu nm bd n tr ms yes)] w (StepPost w T wb c d ps) := by
  have hcall : ∀ (v : Value) (w : World) (T : Nat → Tag) (i p : Nat), PairI w T i p → Calls Try.prog 37 #[v, .pointer (some ⟨p, 0, none⟩), .agg (opCells kind qu nm bd n tr ms yes)] w fun e w' => e = .returned (.bool true) ∧ ∃ T', Step (Si i) w T w' T' ∧ PairI w' T' i p := by
    rcases h23 with rfl | rfl
    · exact fun v w T i p hp => call_enq i p v qu nm bd n tr ms yes w T hp
    · exact fun v w T i p hp => call_grp i p v qu nm bd n tr ms yes w T hp
  unfold opCells at hcall
  have n0 : decide (kind < 1) = false := by simp; omega
  have n1 : decide (3 < kind) = false := by simp; omega
  have n2 : ¬ kind = 1 := by omega
  have n3 : ¬ kind = 13 := by omega
  have n4 : ¬ kind = 14 := by omega
  have n5 : ¬ kind < 1 := by omega
  have n6 : ¬ 3 < kind := by omega
  clear h23
  have hw0 := hw
  obtain ⟨⟨vP, hB, hR⟩, hprs⟩ := hw
  obtain ⟨gb, gc, rfl⟩ := row_some hR hpos
  obtain ⟨k, hk⟩ : ∃ k : Nat, pickQ qu ps.length = k := ⟨(pickQ qu ps.length).toNat, by have := pickQ_range qu ps.length (by omega); omega⟩
  have hkl : k < ps.length := by have := pickQ_range qu ps.length (by omega); omega
  obtain ⟨p, hp⟩ : ∃ p, ps[k]? = some p := ⟨_, List.getElem?_eq_getElem hkl⟩
  have hpick : ∀ w1 : World, Calls Try.prog 29 #[.int .i64 qu, .int .i64 (ps.length : Int)] w1 fun e w' => e = .returned (.int .i64 (k : Int)) ∧ Below w1.heap.size w1 w' := fun w1 => by
    rw [← hk]; exact pickq_any qu ps.length w1 hqu.1 hqu.2 (by omega) (by omega)
  have l0 := hB.lt
  have lr := hR.lt
  have k8 := hB.cell (j := 8) rfl
  have k11 := hB.cell (j := 11) rfl
  simp only [List.getElem_toArray, List.getElem_cons_succ, List.getElem_cons_zero] at k8 k11
  have kp : w.cell? ⟨gb, k, none⟩ = some (.pointer (some ⟨p, 0, none⟩)) := hR.cell (by simp [hp, ptrV])
  obtain ⟨bx, yb, q, vs, hP, hX, hY, _⟩ := hprs k p hp
  have lp := hP.lt
  have p1 := hP.cell (j := 1) rfl
  obtain ⟨_, _, _, _, _, _, _, hYb, _⟩ := hY
  have ly := hYb.lt
  have y8 := hYb.cell (j := 8) rfl
  simp only [List.getElem_toArray, List.getElem_cons_succ, List.getElem_cons_zero] at p1 y8
  have hpr := hprs k p hp
  clear hB hR hP hX hYb hprs hk
  -- the step's own block
  have a1 : Step (fun _ => False) w T (w.alloc (.cells (opCells kind qu nm bd n tr ms yes) 61)) (retag T w.heap.size .free) := step_new w T _ .free _
  have hO : Blk (w.alloc (.cells (opCells kind qu nm bd n tr ms yes) 61)) (retag T w.heap.size .free) .free w.heap.size (opCells kind qu nm bd n tr ms yes) 61 := (blk_new w T _ 61 .free)
  have l1 : wb < (w.alloc (.cells (opCells kind qu nm bd n tr ms yes) 61)).heap.size := by simp; omega
  have l2 : w.heap.size < (w.alloc (.cells (opCells kind qu nm bd n tr ms yes) 61)).heap.size := by simp
  go_enter Try.func18, Try.ntmps18
  go_wp2_with fail
  refine wp_region_over (by kernel_rfl) (by kernel_rfl) ?_
  repeat (go_big_quiet_step (fail))
  refine wpQuiet_nil ?_
  rintro _ ⟨x, rfl⟩
  have hb := over_below (w.alloc (.cells (opCells kind qu nm bd n tr ms yes) 61)) x
  generalize over (w.alloc (.cells (opCells kind qu nm bd n tr ms yes) 61)) x = w2 at *
  have f2 : Step (fun _ => False) w T w2 (retag T w.heap.size .free) := a1.trans (step_below _ _ hb)
  have hO2 := hO.step (step_below (fun _ => False) _ hb) (fun h => h)
  have b2 : Below w.heap.size w w2 := ((Below.refl _ _).alloc (Nat.le_refl _) _).trans (hb.mono (by simp))
  have j8 := (b2.cell (p := ⟨wb, 8, none⟩) l0).trans k8
  have j11 := (b2.cell (p := ⟨wb, 11, none⟩) l0).trans k11
  have jp := (b2.cell (p := ⟨gb, k, none⟩) lr).trans kp
  have jq := (b2.cell (p := ⟨p, 1, none⟩) lp).trans p1
  have jy := (b2.cell (p := ⟨yb, 8, none⟩) ly).trans y8
  have ml0 := Nat.lt_of_lt_of_le l0 b2.size
  have mlr := Nat.lt_of_lt_of_le lr b2.size
  have mlp := Nat.lt_of_lt_of_le lp b2.size
  have mly := Nat.lt_of_lt_of_le ly b2.size
  have mlo := hO2.lt
  have o0 := hO2.cell (j := 0) rfl
  have o1 := hO2.cell (j := 1) rfl
  simp only [List.getElem_toArray, List.getElem_cons_succ, List.getElem_cons_zero] at o0 o1
  clear k8 k11 kp p1 y8 l0 lr lp ly l1 l2 hb a1 hO
  go_wp2_with fail
  refine wp_region_over (by kernel_rfl) (by kernel_rfl) ?_
  repeat (go_big_quiet_step ((go_at_call 29; exact quiet_over hpick)))
  refine wpQuiet_nil ?_
  rintro _ ⟨x3, rfl⟩
  have hb3 := over_below w2 x3
  generalize over w2 x3 = w3 at *
  have hO3 := hO2.step (step_below (fun _ => False) _ hb3) (fun h => h)
  have f3 : Step (fun _ => False) w T w3 (retag T w.heap.size .free) := f2.trans (step_below _ _ hb3)
  have i11 := (hb3.cell (p := ⟨wb, 11, none⟩) ml0).trans j11
  have iq := (hb3.cell (p := ⟨p, 1, none⟩) mlp).trans jq
  have iy := (hb3.cell (p := ⟨yb, 8, none⟩) mly).trans jy
  have r0 := hO3.cell (j := 0) rfl
  have r1 := hO3.cell (j := 1) rfl
  have r2 := hO3.cell (j := 2) rfl
  have r3 := hO3.cell (j := 3) rfl
  have r4 := hO3.cell (j := 4) rfl
  have r5 := hO3.cell (j := 5) rfl
  have r6 := hO3.cell (j := 6) rfl
  have r7 := hO3.cell (j := 7) rfl
  simp only [List.getElem_toArray, List.getElem_cons_succ, List.getElem_cons_zero] at r0 r1 r2 r3 r4 r5 r6 r7
  have hw3 := hw0.step f3 (fun h => h) (fun h => h) (fun _ _ h => h) (fun _ _ _ h => h) (fun _ _ _ _ h => h)
  have hpr3 := hw3.prs k p hp
  clear j8 j11 jp jq jy ml0 mlr mlp mly mlo o0 o1 hb3 hO2 hO3 f2 b2 hpr hpick
  go_wp2_with fail
  refine (hcall _ w3 _ k p hpr3).mono ?_
  rintro e w4 ⟨rfl, T4, hs4, hp4⟩
  have hw4 := hw3.pair hs4 hp hp4
  obtain ⟨⟨vP4, hB4, hR4⟩, _⟩ := hw4
  have s11 := hB4.cell (j := 11) rfl
  simp only [List.getElem_toArray, List.getElem_cons_succ, List.getElem_cons_zero] at s11
  clear i11 iq iy r0 r1 r2 r3 r4 r5 r6 r7 hcall hB4 hR4
  go_wp2
  go_ret
  exact ⟨rfl, T4, ps, (f3.mono (fun _ h => h.elim)).trans (hs4.mono (fun t ht e => by subst e; simp [Si] at ht)), hw3.pair hs4 hp hp4, Nat.le_refl _, Nat.le_succ _⟩

/-- step, whatever the step -/
theorem step_any (wb : Nat) (c d : Conf) (ps : List Nat) (kind qu : Int) (nm bd : ByteArray) (n tr ms : Int) (yes : Bool) (w : World) (T : Nat → Tag) (hw : WI w T wb c d ps) (hqu : i64 qu) (hn : i64 n) (hpos : 0 < ps.length) (hlen : ps.length + 1 ≤ 17592186044416) :
    Calls Try.prog 18 #[.pointer (some ⟨wb, 0, none⟩), .agg (opCells kind qu nm bd n tr ms yes)] w (StepPost w T wb c d ps) := by
  by_cases h1 : kind < 1 ∨ 3 < kind
  · exact step_other wb c d ps kind qu nm bd n tr ms yes w T hw h1
  · by_cases h2 : kind = 1
    · subst h2
      exact step_open wb c d ps qu nm bd n tr ms yes w T hw hn hlen
    · exact step_pair wb c d ps kind qu nm bd n tr ms yes w T hw (by omega) hqu hpos (by omega)

end Go.Proofs.Ytedbcmlekjagpaa

/- The contract of step at a call, over any queue that keeps the contracts. -/
import Derived.Test.YtgcbooflhdjnhaaT27
import Derived.Test.YtgcbooflhdjnhaaT05
namespace Go.Proofs.Ytgcbooflhdjnhaa
open Go.RowKit

attribute [local go_sem] over_cell

set_option maxRecDepth 100000 in
set_option maxHeartbeats 4000000 in
theorem stepT_pair {G : Nat} {X : World → (Nat → Tag) → Nat → Nat → MQ → Prop} {B B' Bm : Int} (hX : XC X Bm) (wb : Nat) (c d : Conf) (M : Int) (hM : M ≤ 12) (ps : List Nat) (q q' : Nat) (kind qu : Int) (nm bd : ByteArray) (n tr ms : Int) (yes : Bool) (w : World) (T : Nat → Tag) (hw : WT X B w T wb c d M ps q q') (h23 : 2 ≤ kind ∧ kind ≤ M) (hqu : i64 qu) (hpos : 0 < ps.length) (hlen : ps.length ≤ 17592186044416)
    (hcall : ∀ (w : World) (T : Nat → Tag) (k p : Nat), ps[k]? = some p → WT X B w T wb c d M ps q q' → Calls Try.prog 45 #[.pointer (some ⟨wb, 0, none⟩), .pointer (some ⟨p, 0, none⟩), .agg (opCells kind qu nm bd n tr ms yes)] w (CallPostG G X B' w T wb c d M ps q q')) :
    Calls Try.prog 20 #[.pointer (some ⟨wb, 0, none⟩), .agg (opCells kind qu nm bd n tr ms yes)] w (CallPostG G X B' w T wb c d M ps q q') := by
  unfold opCells at hcall
  have n0 : decide (kind < 1) = false := by simp; omega
  have n1 : decide (M < kind) = false := by simp; omega
  have n2 : ¬ kind = 1 := by omega
  have n3 : ¬ kind = 13 := by omega
  have n4 : ¬ kind = 14 := by omega
  have n5 : ¬ kind < 1 := by omega
  have n6 : ¬ M < kind := by omega
  have n7 : M < 13 := by omega
  clear h23 hM
  have hw0 := hw
  obtain ⟨⟨vP, vr, vd, hB, hR, _, _⟩, hprs⟩ := hw
  obtain ⟨gb, gc, rfl⟩ := row_some hR hpos
  obtain ⟨k, hk⟩ : ∃ k : Nat, pickQ qu ps.length = k := ⟨(pickQ qu ps.length).toNat, by have := pickQ_range qu ps.length (by omega); omega⟩
  have hkl : k < ps.length := by have := pickQ_range qu ps.length (by omega); omega
  obtain ⟨p, hp⟩ : ∃ p, ps[k]? = some p := ⟨_, List.getElem?_eq_getElem hkl⟩
  have hpick : ∀ w1 : World, Calls Try.prog 37 #[.int .i64 qu, .int .i64 (ps.length : Int)] w1 fun e w' => e = .returned (.int .i64 (k : Int)) ∧ Below w1.heap.size w1 w' := fun w1 => by
    rw [← hk]; exact pickq_any qu ps.length w1 hqu.1 hqu.2 (by omega) (by omega)
  have l0 := hB.lt
  have lr := hR.lt
  have k8 := hB.cell (j := 8) rfl
  have k11 := hB.cell (j := 11) rfl
  simp only [List.getElem_toArray, List.getElem_cons_succ, List.getElem_cons_zero] at k8 k11
  have kp : w.cell? ⟨gb, k, none⟩ = some (.pointer (some ⟨p, 0, none⟩)) := hR.cell (by simp [hp, ptrV])
  obtain ⟨bx, yb, m, vs, lg, hP, _, hY, _⟩ := hprs k p hp
  have lp := hP.lt
  have p1 := hP.cell (j := 1) rfl
  obtain ⟨_, _, _, _, _, _, _, hYb, _⟩ := hY
  have ly := hYb.lt
  have y8 := hYb.cell (j := 8) rfl
  simp only [List.getElem_toArray, List.getElem_cons_succ, List.getElem_cons_zero] at p1 y8
  clear hB hR hP hYb hprs hk
  -- the step's own block
  have a1 : Step (fun _ => False) w T (w.alloc (.cells (opCells kind qu nm bd n tr ms yes) 61)) (retag T w.heap.size .free) := step_new w T _ .free _
  have hO : Blk (w.alloc (.cells (opCells kind qu nm bd n tr ms yes) 61)) (retag T w.heap.size .free) .free w.heap.size (opCells kind qu nm bd n tr ms yes) 61 := (blk_new w T _ 61 .free)
  have l1 : wb < (w.alloc (.cells (opCells kind qu nm bd n tr ms yes) 61)).heap.size := by simp; omega
  have l2 : w.heap.size < (w.alloc (.cells (opCells kind qu nm bd n tr ms yes) 61)).heap.size := by simp
  go_enter Try.func20, Try.ntmps20
  go_wp2_with fail
  refine wp_region_over (by kernel_rfl) (by kernel_rfl) ?_
  repeat (go_big_quiet_step (fail))
  refine wpQuiet_nil ?_
  rintro _ ⟨x, rfl⟩
  have hb := over_below (w.alloc (.cells (opCells kind qu nm bd n tr ms yes) 61)) x
  generalize over (w.alloc (.cells (opCells kind qu nm bd n tr ms yes) 61)) x = w2 at *
  have f2 : Step (fun _ => False) w T w2 (retag T w.heap.size .free) := a1.trans (step_below _ _ hb)
  have hO2 := hO.step (step_below (fun _ => False) _ hb) (fun h => h)
  have b2 : Below w.heap.size w w2 := ((Below.refl _ _).alloc (Nat.le_refl _) _).trans (hb.mono (by simp))
  have j8 := (b2.cell (p := ⟨wb, 8, none⟩) l0).trans k8
  have j11 := (b2.cell (p := ⟨wb, 11, none⟩) l0).trans k11
  have jp := (b2.cell (p := ⟨gb, k, none⟩) lr).trans kp
  have jq := (b2.cell (p := ⟨p, 1, none⟩) lp).trans p1
  have jy := (b2.cell (p := ⟨yb, 8, none⟩) ly).trans y8
  have ml0 := Nat.lt_of_lt_of_le l0 b2.size
  have mlr := Nat.lt_of_lt_of_le lr b2.size
  have mlp := Nat.lt_of_lt_of_le lp b2.size
  have mly := Nat.lt_of_lt_of_le ly b2.size
  have mlo := hO2.lt
  have o0 := hO2.cell (j := 0) rfl
  have o1 := hO2.cell (j := 1) rfl
  simp only [List.getElem_toArray, List.getElem_cons_succ, List.getElem_cons_zero] at o0 o1
  clear k8 k11 kp p1 y8 l0 lr lp ly l1 l2 hb a1 hO
  go_wp2_with fail
  refine wp_region_over (by kernel_rfl) (by kernel_rfl) ?_
  repeat (go_big_quiet_step ((go_at_call 37; exact quiet_over hpick)))
  refine wpQuiet_nil ?_
  rintro _ ⟨x3, rfl⟩
  have hb3 := over_below w2 x3
  generalize over w2 x3 = w3 at *
  have hO3 := hO2.step (step_below (fun _ => False) _ hb3) (fun h => h)
  have f3 : Step (fun _ => False) w T w3 (retag T w.heap.size .free) := f2.trans (step_below _ _ hb3)
  have i11 := (hb3.cell (p := ⟨wb, 11, none⟩) ml0).trans j11
  have iq := (hb3.cell (p := ⟨p, 1, none⟩) mlp).trans jq
  have iy := (hb3.cell (p := ⟨yb, 8, none⟩) mly).trans jy
  have r0 := hO3.cell (j := 0) rfl
  have r1 := hO3.cell (j := 1) rfl
  have r2 := hO3.cell (j := 2) rfl
  have r3 := hO3.cell (j := 3) rfl
  have r4 := hO3.cell (j := 4) rfl
  have r5 := hO3.cell (j := 5) rfl
  have r6 := hO3.cell (j := 6) rfl
  have r7 := hO3.cell (j := 7) rfl
  simp only [List.getElem_toArray, List.getElem_cons_succ, List.getElem_cons_zero] at r0 r1 r2 r3 r4 r5 r6 r7
  have hw3 := hw0.step hX f3 (fun _ h => h)
  clear j8 j11 jp jq jy ml0 mlr mlp mly mlo o0 o1 hb3 hO2 hO3 f2 b2 hpick
  go_wp2_with fail
  refine (hcall w3 _ k p hp hw3).mono ?_
  rintro e w4 ⟨rfl, T4, q1, q1', hs4, hw4, g1, g2⟩
  obtain ⟨⟨vP4, vr4, vd4, hB4, hR4, _, _⟩, _⟩ := id hw4
  have s11 := hB4.cell (j := 11) rfl
  simp only [List.getElem_toArray, List.getElem_cons_succ, List.getElem_cons_zero] at s11
  clear i11 iq iy r0 r1 r2 r3 r4 r5 r6 r7 hcall hB4 hR4
  go_wp2
  go_ret
  exact ⟨rfl, T4, q1, q1', (f3.mono (fun _ h => h.elim)).trans hs4, hw4, g1, g2⟩

end Go.Proofs.Ytgcbooflhdjnhaa

/- The contract of step at a kind that does nothing, over any queue that keeps the contracts. -/
namespace Go.Proofs.Ytgcbooflhdjnhaa
open Go.RowKit

attribute [local go_sem] over_cell

set_option maxRecDepth 100000 in
set_option maxHeartbeats 2000000 in
theorem stepT_other {X : World → (Nat → Tag) → Nat → Nat → MQ → Prop} {B Bm : Int} (hX : XC X Bm) (wb : Nat) (c d : Conf) (M : Int) (ps : List Nat) (q q' : Nat) (kind qu : Int) (nm bd : ByteArray) (n tr ms : Int) (yes : Bool) (w : World) (T : Nat → Tag) (hw : WT X B w T wb c d M ps q q') (hk : kind < 1 ∨ M < kind) :
    Calls Try.prog 20 #[.pointer (some ⟨wb, 0, none⟩), .agg (opCells kind qu nm bd n tr ms yes)] w (CallPostG 0 X B w T wb c d M ps q q') := by
  have hw0 := hw
  obtain ⟨⟨vP, vr, vd, hB, hR, _, _⟩, hprs⟩ := hw
  have l0 := hB.lt
  have k11 := hB.cell (j := 11) rfl
  simp only [List.getElem_toArray, List.getElem_cons_succ, List.getElem_cons_zero] at k11
  clear hB hR hprs
  have l1 : wb < (w.alloc (.cells (opCells kind qu nm bd n tr ms yes) 61)).heap.size := by simp; omega
  have l2 : w.heap.size < (w.alloc (.cells (opCells kind qu nm bd n tr ms yes) 61)).heap.size := by simp
  have hfin : ∀ {w' : World}, Below (w.alloc (.cells (opCells kind qu nm bd n tr ms yes) 61)).heap.size (w.alloc (.cells (opCells kind qu nm bd n tr ms yes) 61)) w' → CallPostG 0 X B w T wb c d M ps q q' (.returned (.bool true)) w' := fun {w'} h => by
    have hs : Step (fun _ => False) w T w' T := step_below _ T (((Below.refl _ _).alloc (Nat.le_refl _) _).trans (h.mono (by simp)))
    exact ⟨rfl, T, q, q', hs.mono (fun _ h => h.elim), hw0.step hX hs (fun _ h => h), by omega, by omega⟩
  by_cases h1 : kind < 1
  · go_enter Try.func20, Try.ntmps20
    go_wp2_with fail
    refine wp_region_over (by kernel_rfl) (by kernel_rfl) ?_
    repeat (go_big_quiet_step (fail))
    refine wpQuiet_nil ?_
    rintro _ ⟨x, rfl⟩
    have hb := over_below (w.alloc (.cells (opCells kind qu nm bd n tr ms yes) 61)) x
    generalize over (w.alloc (.cells (opCells kind qu nm bd n tr ms yes) 61)) x = w2 at *
    go_wp2
    go_ret
    exact hfin hb
  · have h2 : M < kind := by omega
    have h1' : decide (kind < 1) = false := by simp; omega
    go_enter Try.func20, Try.ntmps20
    go_wp2_with fail
    refine wp_region_over (by kernel_rfl) (by kernel_rfl) ?_
    repeat (go_big_quiet_step (fail))
    refine wpQuiet_nil ?_
    rintro _ ⟨x, rfl⟩
    have hb := over_below (w.alloc (.cells (opCells kind qu nm bd n tr ms yes) 61)) x
    generalize over (w.alloc (.cells (opCells kind qu nm bd n tr ms yes) 61)) x = w2 at *
    go_wp2
    go_ret
    exact hfin hb

end Go.Proofs.Ytgcbooflhdjnhaa

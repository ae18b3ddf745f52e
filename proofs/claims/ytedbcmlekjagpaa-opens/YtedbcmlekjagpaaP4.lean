/- The contract of step, for the steps of Opens: it returns true and leaves the law's world in order. -/
import Derived.Test.YtedbcmlekjagpaaP2
import Derived.Test.YtedbcmlekjagpaaP3
namespace Go.Proofs.Ytedbcmlekjagpaa
open Go.RowKit

def i64 (n : Int) : Prop := -9223372036854775808 ≤ n ∧ n ≤ 9223372036854775807

attribute [local go_sem] over_cell

/-- one pair went on -/
theorem WI.pair {w w' : World} {T T' : Nat → Tag} {wb : Nat} {c d : Conf} {ps : List Nat} {k p : Nat} (h : WI w T wb c d ps) (hs : Step (Si k) w T w' T') (hk : ps[k]? = some p) (hp : PairI w' T' k p) : WI w' T' wb c d ps := by
  obtain ⟨⟨vP, hB, hR⟩, hprs⟩ := h
  refine ⟨⟨vP, hB.step hs (by simp [Si]), hR.step hs (by simp [Si])⟩, fun i x hi => ?_⟩
  by_cases hik : i = k
  · subst hik
    rw [hk] at hi
    cases hi
    exact hp
  · exact (hprs i x hi).step hs (by simp [Si]) (by simp [Si, hik]) (by simp [Si, hik])

/-- what step leaves -/
def StepPost (w : World) (T : Nat → Tag) (wb : Nat) (c d : Conf) (ps : List Nat) (e : Ending) (w' : World) : Prop :=
  e = .returned (.bool true) ∧ ∃ T' ps', Step (fun t => t ≠ .old) w T w' T' ∧ WI w' T' wb c d ps' ∧ ps.length ≤ ps'.length ∧ ps'.length ≤ ps.length + 1

set_option maxRecDepth 100000 in
set_option maxHeartbeats 2000000 in
theorem step_other (wb : Nat) (c d : Conf) (ps : List Nat) (kind qu : Int) (nm bd : ByteArray) (n tr ms : Int) (yes : Bool) (w : World) (T : Nat → Tag) (hw : WI w T wb c d ps) (hk : kind < 1 ∨ 3 < kind) :
    Calls Try.prog 18 #[.pointer (some ⟨wb, 0, none⟩), .agg (opCells kind qu nm bd n tr ms yes)] w (StepPost w T wb c d ps) := by
  have hw0 := hw
  obtain ⟨⟨vP, hB, hR⟩, hprs⟩ := hw
  have l0 := hB.lt
  have k11 := hB.cell (j := 11) rfl
  simp only [List.getElem_toArray, List.getElem_cons_succ, List.getElem_cons_zero] at k11
  clear hB hR hprs
  have l1 : wb < (w.alloc (.cells (opCells kind qu nm bd n tr ms yes) 61)).heap.size := by simp; omega
  have l2 : w.heap.size < (w.alloc (.cells (opCells kind qu nm bd n tr ms yes) 61)).heap.size := by simp
  have hfin : ∀ {w' : World}, Below (w.alloc (.cells (opCells kind qu nm bd n tr ms yes) 61)).heap.size (w.alloc (.cells (opCells kind qu nm bd n tr ms yes) 61)) w' → StepPost w T wb c d ps (.returned (.bool true)) w' := fun {w'} h => by
    have hs : Step (fun _ => False) w T w' T := step_below _ T (((Below.refl _ _).alloc (Nat.le_refl _) _).trans (h.mono (by simp)))
    exact ⟨rfl, T, ps, hs.mono (fun _ h => h.elim), hw0.step hs (fun h => h) (fun h => h) (fun _ _ h => h) (fun _ _ _ h => h) (fun _ _ _ _ h => h), Nat.le_refl _, Nat.le_succ _⟩
  by_cases h1 : kind < 1
  · go_enter Try.func18, Try.ntmps18
    go_wp2_with fail
    refine wp_region_over (by kernel_rfl) (by kernel_rfl) ?_
    repeat (go_big_quiet_step (fail))
    refine wpQuiet_nil ?_
    rintro _ ⟨x, rfl⟩
    have hb := over_below (w.alloc (.cells (opCells kind qu nm bd n tr ms yes) 61)) x
    generalize over (w.alloc (.cells (opCells kind qu nm bd n tr ms yes) 61)) x = w2 at *
    go_wp2
    go_ret
    exact hfin hb
  · have h2 : 3 < kind := by omega
    have h1' : decide (kind < 1) = false := by simp; omega
    go_enter Try.func18, Try.ntmps18
    go_wp2_with fail
    refine wp_region_over (by kernel_rfl) (by kernel_rfl) ?_
    repeat (go_big_quiet_step (fail))
    refine wpQuiet_nil ?_
    rintro _ ⟨x, rfl⟩
    have hb := over_below (w.alloc (.cells (opCells kind qu nm bd n tr ms yes) 61)) x
    generalize over (w.alloc (.cells (opCells kind qu nm bd n tr ms yes) 61)) x = w2 at *
    go_wp2
    go_ret
    exact hfin hb

set_option maxRecDepth 100000 in
set_option maxHeartbeats 2000000 in
theorem step_open (wb : Nat) (c d : Conf) (ps : List Nat) (qu : Int) (nm bd : ByteArray) (n tr ms : Int) (yes : Bool) (w : World) (T : Nat → Tag) (hw : WI w T wb c d ps) (hn : i64 n) (hlen : ps.length + 1 ≤ 17592186044416) :
    Calls Try.prog 18 #[.pointer (some ⟨wb, 0, none⟩), .agg (opCells 1 qu nm bd n tr ms yes)] w (StepPost w T wb c d ps) := by
  have hw0 := hw
  obtain ⟨⟨vP, hB, hR⟩, hprs⟩ := hw
  have l0 := hB.lt
  have k11 := hB.cell (j := 11) rfl
  simp only [List.getElem_toArray, List.getElem_cons_succ, List.getElem_cons_zero] at k11
  clear hB hR hprs
  have l1 : wb < (w.alloc (.cells (opCells 1 qu nm bd n tr ms yes) 61)).heap.size := by simp; omega
  have l2 : w.heap.size < (w.alloc (.cells (opCells 1 qu nm bd n tr ms yes) 61)).heap.size := by simp
  go_enter Try.func18, Try.ntmps18
  go_wp2_with fail
  refine wp_region_over (by kernel_rfl) (by kernel_rfl) ?_
  repeat (go_big_quiet_step (fail))
  refine wpQuiet_nil ?_
  rintro _ ⟨x, rfl⟩
  have hb := over_below (w.alloc (.cells (opCells 1 qu nm bd n tr ms yes) 61)) x
  have o0 := hb.cell (p := ⟨w.heap.size, 0, none⟩) l2
  have o4 := hb.cell (p := ⟨w.heap.size, 4, none⟩) l2
  generalize over (w.alloc (.cells (opCells 1 qu nm bd n tr ms yes) 61)) x = w2 at *
  have hs : Step (fun _ => False) w T w2 T := step_below _ T (((Below.refl _ _).alloc (Nat.le_refl _) _).trans (hb.mono (by simp)))
  have hw2 := hw0.step hs (fun h => h) (fun h => h) (fun _ _ h => h) (fun _ _ _ h => h) (fun _ _ _ _ h => h)
  go_wp2_with fail
  refine (opened_any wb c d ps n _ T hw2 hn.1 hn.2 hlen).mono ?_
  rintro e w3 ⟨rfl, T3, ps', hs3, hw3, e1, e2, _⟩
  go_wp2
  go_ret
  exact ⟨rfl, T3, ps', (hs.mono (fun _ h => h.elim)).trans hs3, hw3, e1, e2⟩

end Go.Proofs.Ytedbcmlekjagpaa

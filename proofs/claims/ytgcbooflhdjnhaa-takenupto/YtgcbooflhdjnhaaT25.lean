/- The contract of call at Receive, Done, Dead, Span and the leases' calls, over any queue that keeps the contracts. -/
import Derived.Test.YtgcbooflhdjnhaaT23
namespace Go.Proofs.Ytgcbooflhdjnhaa
open Go.RowKit

attribute [local go_sem] over_cell

set_option maxRecDepth 100000 in
set_option maxHeartbeats 4000000 in
theorem callT_done {X : World → (Nat → Tag) → Nat → Nat → MQ → Prop} {B Bm : Int} (hX : XC X Bm) (hle : B ≤ Bm) (i p wb : Nat) (cs : Array Value) (vr : Value) (q : Nat) (qu : Int) (nm bd : ByteArray) (n tr ms : Int) (yes : Bool) (w : World) (T : Nat → Tag)
    (hp : PairT X B w T i p) (hW : Blk w T .world wb cs 50) (hc : cs[9]? = some vr) (hR : Bk w T 9 22 2 (fun q => patOf (markRV q)) vr q) (hq : q ≤ 900000000) :
    Calls Try.prog 45 #[.pointer (some ⟨wb, 0, none⟩), .pointer (some ⟨p, 0, none⟩), .agg (opCells 9 qu nm bd n tr ms yes)] w fun e w' => e = .returned (.bool true) ∧
      ∃ T' vr', Step (ToldS i 9 q) w T w' T' ∧ PairT X B w' T' i p ∧ Blk w' T' .world wb (cs.setIfInBounds 9 vr') 50 ∧ Bk w' T' 9 22 2 (fun q => patOf (markRV q)) vr' (q + 2) := by
  have a1 : Step (fun _ => False) w T (w.alloc (.cells (opCells 9 qu nm bd n tr ms yes) 61)) (retag T w.heap.size .free) := step_new w T _ .free _
  have hO : Blk (w.alloc (.cells (opCells 9 qu nm bd n tr ms yes) 61)) (retag T w.heap.size .free) .free w.heap.size (opCells 9 qu nm bd n tr ms yes) 61 := blk_new w T _ 61 .free
  have o0 := hO.cell (j := 0) rfl
  have o2 := hO.cell (j := 2) rfl
  simp only [List.getElem_toArray, List.getElem_cons_succ, List.getElem_cons_zero] at o0 o2
  replace hp := hp.step hX a1 (fun h => h) (fun _ _ h => h) (fun _ _ h => h)
  replace hW := hW.step a1 (fun h => h)
  replace hR := hR.step a1 (fun h => h) (fun _ _ h => h)
  go_enter Try.func45, Try.ntmps45
  go_wp2_with fail
  refine (told_done hX hle i p wb cs vr q nm _ _ hp hW hc hR hq).mono ?_
  rintro e w2 ⟨rfl, T2, vr', hs2, hp2, hW2, hR2⟩
  go_wp2
  go_ret
  exact ⟨rfl, T2, vr', (a1.mono (fun _ h => h.elim)).trans hs2, hp2, hW2, hR2⟩

set_option maxRecDepth 100000 in
set_option maxHeartbeats 4000000 in
theorem callT_dead {X : World → (Nat → Tag) → Nat → Nat → MQ → Prop} {B Bm : Int} (hX : XC X Bm) (hle : B ≤ Bm) (i p wb : Nat) (cs : Array Value) (vr : Value) (q : Nat) (qu : Int) (nm bd : ByteArray) (n tr ms : Int) (yes : Bool) (w : World) (T : Nat → Tag)
    (hp : PairT X B w T i p) (hW : Blk w T .world wb cs 50) (hc : cs[10]? = some vr) (hR : Bk w T 11 87 3 (fun q => patOf (markDV q)) vr q) (hq : q ≤ 900000000) :
    Calls Try.prog 45 #[.pointer (some ⟨wb, 0, none⟩), .pointer (some ⟨p, 0, none⟩), .agg (opCells 10 qu nm bd n tr ms yes)] w fun e w' => e = .returned (.bool true) ∧
      ∃ T' vr', Step (ToldS i 11 q) w T w' T' ∧ PairT X B w' T' i p ∧ Blk w' T' .world wb (cs.setIfInBounds 10 vr') 50 ∧ Bk w' T' 11 87 3 (fun q => patOf (markDV q)) vr' (q + 2) := by
  have a1 : Step (fun _ => False) w T (w.alloc (.cells (opCells 10 qu nm bd n tr ms yes) 61)) (retag T w.heap.size .free) := step_new w T _ .free _
  have hO : Blk (w.alloc (.cells (opCells 10 qu nm bd n tr ms yes) 61)) (retag T w.heap.size .free) .free w.heap.size (opCells 10 qu nm bd n tr ms yes) 61 := blk_new w T _ 61 .free
  have o0 := hO.cell (j := 0) rfl
  have o2 := hO.cell (j := 2) rfl
  simp only [List.getElem_toArray, List.getElem_cons_succ, List.getElem_cons_zero] at o0 o2
  replace hp := hp.step hX a1 (fun h => h) (fun _ _ h => h) (fun _ _ h => h)
  replace hW := hW.step a1 (fun h => h)
  replace hR := hR.step a1 (fun h => h) (fun _ _ h => h)
  go_enter Try.func45, Try.ntmps45
  go_wp2_with fail
  refine (told_dead hX hle i p wb cs vr q nm _ _ hp hW hc hR hq).mono ?_
  rintro e w2 ⟨rfl, T2, vr', hs2, hp2, hW2, hR2⟩
  go_wp2
  go_ret
  exact ⟨rfl, T2, vr', (a1.mono (fun _ h => h.elim)).trans hs2, hp2, hW2, hR2⟩

set_option maxRecDepth 100000 in
set_option maxHeartbeats 4000000 in
theorem callT_span {X : World → (Nat → Tag) → Nat → Nat → MQ → Prop} {B Bm : Int} (hX : XC X Bm) (hle : B ≤ Bm) (i p wb : Nat) (qu : Int) (nm bd : ByteArray) (n tr ms : Int) (yes : Bool) (w : World) (T : Nat → Tag) (hp : PairT X B w T i p) :
    Calls Try.prog 45 #[.pointer (some ⟨wb, 0, none⟩), .pointer (some ⟨p, 0, none⟩), .agg (opCells 11 qu nm bd n tr ms yes)] w fun e w' => e = .returned (.bool true) ∧ ∃ T', Step (XT i) w T w' T' ∧ PairT X B w' T' i p := by
  have a1 : Step (fun _ => False) w T (w.alloc (.cells (opCells 11 qu nm bd n tr ms yes) 61)) (retag T w.heap.size .free) := step_new w T _ .free _
  have hO : Blk (w.alloc (.cells (opCells 11 qu nm bd n tr ms yes) 61)) (retag T w.heap.size .free) .free w.heap.size (opCells 11 qu nm bd n tr ms yes) 61 := blk_new w T _ 61 .free
  have o0 := hO.cell (j := 0) rfl
  have o2 := hO.cell (j := 2) rfl
  simp only [List.getElem_toArray, List.getElem_cons_succ, List.getElem_cons_zero] at o0 o2
  replace hp := hp.step hX a1 (fun h => h) (fun _ _ h => h) (fun _ _ h => h)
  go_enter Try.func45, Try.ntmps45
  go_wp2_with fail
  refine (told_spanT hX hle i p _ nm _ _ hp).mono ?_
  rintro e w2 ⟨rfl, T2, hs2, hp2⟩
  go_wp2
  go_ret
  exact ⟨rfl, T2, (a1.mono (fun _ h => h.elim)).trans hs2, hp2⟩

set_option maxRecDepth 100000 in
set_option maxHeartbeats 4000000 in
theorem callT_leases {X : World → (Nat → Tag) → Nat → Nat → MQ → Prop} {B B' Bm : Int} (hX : XC X Bm) (i p wb : Nat) (kind : Int) (hk : kind = 5 ∨ kind = 6 ∨ kind = 7 ∨ kind = 8) (qu : Int) (nm bd : ByteArray) (n tr ms : Int) (yes : Bool) (w : World) (T : Nat → Tag) (hp : PairT X B w T i p)
    (hL : ∀ (w : World) (T : Nat → Tag), PairT X B w T i p → Calls Try.prog 74 #[.pointer (some ⟨p, 0, none⟩), .agg (opCells kind qu nm bd n tr ms yes)] w fun e w' => e = .returned (.bool true) ∧ ∃ T', Step (ST i) w T w' T' ∧ PairT X B' w' T' i p) :
    Calls Try.prog 45 #[.pointer (some ⟨wb, 0, none⟩), .pointer (some ⟨p, 0, none⟩), .agg (opCells kind qu nm bd n tr ms yes)] w fun e w' => e = .returned (.bool true) ∧ ∃ T', Step (ST i) w T w' T' ∧ PairT X B' w' T' i p := by
  have a1 : Step (fun _ => False) w T (w.alloc (.cells (opCells kind qu nm bd n tr ms yes) 61)) (retag T w.heap.size .free) := step_new w T _ .free _
  have hO : Blk (w.alloc (.cells (opCells kind qu nm bd n tr ms yes) 61)) (retag T w.heap.size .free) .free w.heap.size (opCells kind qu nm bd n tr ms yes) 61 := blk_new w T _ 61 .free
  have o0 := hO.cell (j := 0) rfl
  have o2 := hO.cell (j := 2) rfl
  simp only [List.getElem_toArray, List.getElem_cons_succ, List.getElem_cons_zero] at o0 o2
  replace hp := hp.step hX a1 (fun h => h) (fun _ _ h => h) (fun _ _ h => h)
  rcases hk with rfl | rfl | rfl | rfl
  all_goals
    go_enter Try.func45, Try.ntmps45
    go_wp2_with fail
    refine (hL _ _ hp).mono ?_
    rintro e w2 ⟨rfl, T2, hs2, hp2⟩
    go_wp2
    go_ret
    exact ⟨rfl, T2, (a1.mono (fun _ h => h.elim)).trans hs2, hp2⟩

end Go.Proofs.Ytgcbooflhdjnhaa

/- The contract of leases at Ack; the configuration stays. -/
import Derived.Test.YtgcbooflhdjnhaaT21
import Derived.Deep.RegionHeld3
namespace Go.Proofs.Ytgcbooflhdjnhaa
open Go.RowKit

attribute [local go_sem] over_cell

theorem onLeased_c (m : MQ) (s : ByteArray) (off e : Int) (f : It → It) : (onLeased m s off e f).c = m.c := by
  unfold onLeased
  cases m.at s with
  | none => rfl
  | some k => simp only; cases decide (e = 0) <;> rfl
theorem ackM_c (m : MQ) (s : ByteArray) (off tr : Int) : (ackM m s off tr).c = m.c := by
  unfold ackM
  cases decide (leasedE m s off tr = 0)
  · rfl
  · exact onLeased_c m s off 0 _
theorem nackM_c (m : MQ) (s : ByteArray) (off tr d : Int) : (nackM m s off tr d).c = m.c := by
  unfold nackM
  cases decide (rangedE m s off tr d 0 = 0)
  · rfl
  · simp only [cond_true]; exact onLeased_c m s off 0 _
theorem extendM_c (m : MQ) (s : ByteArray) (off tr d : Int) : (extendM m s off tr d).c = m.c := by
  unfold extendM
  cases decide (rangedE m s off tr d 1 = 0)
  · rfl
  · simp only [cond_true]; exact onLeased_c m s off 0 _
theorem tickM_c (m : MQ) (d : Int) : (tickM m d).c = m.c := by unfold tickM; cases btw d 0 60000 <;> rfl

set_option maxRecDepth 100000 in
set_option maxHeartbeats 4000000 in
theorem leases_ack {X : World → (Nat → Tag) → Nat → Nat → MQ → Prop} {B Bm : Int} (hX : XC X Bm) (hle : B ≤ Bm) (i p : Nat) (qu : Int) (nm bd : ByteArray) (n tr ms : Int) (yes : Bool) (w : World) (T : Nat → Tag) (hp : PairT X B w T i p) :
    Calls Try.prog 74 #[.pointer (some ⟨p, 0, none⟩), .agg (opCells 5 qu nm bd n tr ms yes)] w fun e w' => e = .returned (.bool true) ∧ ∃ T', Step (ST i) w T w' T' ∧ PairT X B w' T' i p := by
  obtain ⟨bx, yb, m, vs, lg, hB, hx, hy, hf⟩ := hp
  have a1 : Step (fun _ => False) w T (w.alloc (.cells (opCells 5 qu nm bd n tr ms yes) 61)) (retag T w.heap.size .free) := step_new w T _ .free _
  have hO : Blk (w.alloc (.cells (opCells 5 qu nm bd n tr ms yes) 61)) (retag T w.heap.size .free) .free w.heap.size (opCells 5 qu nm bd n tr ms yes) 61 := blk_new w T _ 61 .free
  replace hB := hB.step a1 (fun h => h)
  replace hx := hX.step hx a1 (fun _ _ h => h)
  replace hy := hy.step a1 (fun _ _ h => h)
  go_enter Try.func74, Try.ntmps74
  go_wp2_with fail
  refine (try_any i p yb m _ 5 qu nm bd n tr ms yes _ _ hB rfl hy hf.ok).mono ?_
  rintro e w1 ⟨⟨t, rfl⟩, hb1⟩
  have s1 := step_below (fun _ => False) (retag T w.heap.size .free) hb1
  have s1' : Step (fun _ => False) (w.alloc (.cells (opCells 5 qu nm bd n tr ms yes) 61)) (retag T w.heap.size .free) w1.drew (retag T w.heap.size .free) := s1.trans (step_below _ _ (Below.refl _ _).drew)
  have hO1 := hO.step s1 (fun h => h)
  have hB1 := hB.step s1 (fun h => h)
  have c0 := hB1.cell (j := 0) rfl
  have o0 := hO1.cell (j := 0) rfl
  have o2 := hO1.cell (j := 2) rfl
  have o4 := hO1.cell (j := 4) rfl
  have o6 := hO1.cell (j := 6) rfl
  simp only [List.getElem_toArray, List.getElem_cons_succ, List.getElem_cons_zero] at c0 o0 o2 o4 o6
  replace hB := hB.step s1' (fun h => h)
  replace hO := hO.step s1' (fun h => h)
  replace hx := hX.step hx s1' (fun _ _ h => h)
  replace hy := hy.step s1' (fun _ _ h => h)
  replace a1 := a1.trans s1'
  clear s1 s1' hb1 hO1 hB1
  generalize retag T w.heap.size .free = T1 at *
  go_wp2_with fail
  go_region_held3 (fun w' => w'.cell? ⟨p, 0, none⟩ = some (.pointer (some ⟨bx, 0, none⟩)) ∧ w'.cell? ⟨w.heap.size, 2, none⟩ = some (.string nm) ∧ w'.cell? ⟨w.heap.size, 4, none⟩ = some (.int .i64 n)) (go_keep) (first | (go_at_call 82; refine (hX.ack i bx m nm n t _ _ hx (hf.mono hle)).mono ?_; rintro e w2 ⟨rfl, T2, hs2, hx2⟩; have kp := (hB.step hs2 (by simp [XT])).cell (j := 0) rfl; have k2 := (hO.step hs2 (by simp [XT])).cell (j := 2) rfl; have k4 := (hO.step hs2 (by simp [XT])).cell (j := 4) rfl; simp only [List.getElem_toArray, List.getElem_cons_succ, List.getElem_cons_zero] at kp k2 k4))
  all_goals
    have hB2 := hB.step hs2 (by simp [XT])
    have hO2 := hO.step hs2 (by simp [XT])
    have hy2 := hy.step hs2 (by simp [XT])
    have d1 := hB2.cell (j := 1) rfl
    have o2 := hO2.cell (j := 2) rfl
    have o4 := hO2.cell (j := 4) rfl
    have o6 := hO2.cell (j := 6) rfl
    simp only [List.getElem_toArray, List.getElem_cons_succ, List.getElem_cons_zero] at d1 o2 o4 o6
    clear c0 o0 hx hy kp k2 k4
    go_wp2_with fail
    go_region_held3 (fun w' => w'.cell? ⟨p, 1, none⟩ = some (.pointer (some ⟨yb, 0, none⟩)) ∧ w'.cell? ⟨w.heap.size, 2, none⟩ = some (.string nm) ∧ w'.cell? ⟨w.heap.size, 4, none⟩ = some (.int .i64 n)) (go_keep) (first | (go_at_call 92; refine (yack_any i yb m nm n t _ T2 ?_ hf.ok).mono ?_; (exact hy2.step (step_below (fun _ => False) T2 (Below.refl _ _).drew) (fun _ _ h => h)); rintro e w4 ⟨rfl, T4, hs4, hy4⟩; have hs4' : Step (YT i) w2 T2 w4 T4 := (step_below _ T2 (Below.refl _ _).drew).trans hs4; have jp := (hB2.step hs4' (by simp [YT])).cell (j := 1) rfl; have j2 := (hO2.step hs4' (by simp [YT])).cell (j := 2) rfl; have j4 := (hO2.step hs4' (by simp [YT])).cell (j := 4) rfl; simp only [List.getElem_toArray, List.getElem_cons_succ, List.getElem_cons_zero] at jp j2 j4))
    all_goals
      go_wp2
      go_ret
      refine ⟨by first | rfl | simp, T4, (a1.mono (fun _ h => h.elim)).trans ((hs2.mono (fun _ h => .inl h)).trans (hs4'.mono (fun _ h => .inr h))), bx, yb, ackM m nm n t, vs, lg, ?_, hX.step hx2 hs4' (by rintro t h1 ⟨r, j, rfl⟩; exact absurd h1.1 (by simp)), hy4, fit_ack hf nm n t⟩
      rw [ackM_c]
      exact hB2.step hs4' (by simp [YT])

end Go.Proofs.Ytgcbooflhdjnhaa

/- The contract of leases at Nack. -/
namespace Go.Proofs.Ytgcbooflhdjnhaa
open Go.RowKit

attribute [local go_sem] over_cell

set_option maxRecDepth 100000 in
set_option maxHeartbeats 4000000 in
theorem leases_nack {X : World → (Nat → Tag) → Nat → Nat → MQ → Prop} {B Bm : Int} (hX : XC X Bm) (hle : B ≤ Bm) (i p : Nat) (qu : Int) (nm bd : ByteArray) (n tr ms : Int) (yes : Bool) (w : World) (T : Nat → Tag) (hp : PairT X B w T i p) :
    Calls Try.prog 74 #[.pointer (some ⟨p, 0, none⟩), .agg (opCells 6 qu nm bd n tr ms yes)] w fun e w' => e = .returned (.bool true) ∧ ∃ T', Step (ST i) w T w' T' ∧ PairT X B w' T' i p := by
  obtain ⟨bx, yb, m, vs, lg, hB, hx, hy, hf⟩ := hp
  have a1 : Step (fun _ => False) w T (w.alloc (.cells (opCells 6 qu nm bd n tr ms yes) 61)) (retag T w.heap.size .free) := step_new w T _ .free _
  have hO : Blk (w.alloc (.cells (opCells 6 qu nm bd n tr ms yes) 61)) (retag T w.heap.size .free) .free w.heap.size (opCells 6 qu nm bd n tr ms yes) 61 := blk_new w T _ 61 .free
  replace hB := hB.step a1 (fun h => h)
  replace hx := hX.step hx a1 (fun _ _ h => h)
  replace hy := hy.step a1 (fun _ _ h => h)
  go_enter Try.func74, Try.ntmps74
  go_wp2_with fail
  refine (try_any i p yb m _ 6 qu nm bd n tr ms yes _ _ hB rfl hy hf.ok).mono ?_
  rintro e w1 ⟨⟨t, rfl⟩, hb1⟩
  have s1 := step_below (fun _ => False) (retag T w.heap.size .free) hb1
  have s1' : Step (fun _ => False) (w.alloc (.cells (opCells 6 qu nm bd n tr ms yes) 61)) (retag T w.heap.size .free) w1.drew (retag T w.heap.size .free) := s1.trans (step_below _ _ (Below.refl _ _).drew)
  have hO1 := hO.step s1 (fun h => h)
  have hB1 := hB.step s1 (fun h => h)
  have c0 := hB1.cell (j := 0) rfl
  have o0 := hO1.cell (j := 0) rfl
  have o2 := hO1.cell (j := 2) rfl
  have o4 := hO1.cell (j := 4) rfl
  have o6 := hO1.cell (j := 6) rfl
  simp only [List.getElem_toArray, List.getElem_cons_succ, List.getElem_cons_zero] at c0 o0 o2 o4 o6
  replace hB := hB.step s1' (fun h => h)
  replace hO := hO.step s1' (fun h => h)
  replace hx := hX.step hx s1' (fun _ _ h => h)
  replace hy := hy.step s1' (fun _ _ h => h)
  replace a1 := a1.trans s1'
  clear s1 s1' hb1 hO1 hB1
  generalize retag T w.heap.size .free = T1 at *
  go_wp2_with fail
  go_region_held3 (fun w' => w'.cell? ⟨p, 0, none⟩ = some (.pointer (some ⟨bx, 0, none⟩)) ∧ w'.cell? ⟨w.heap.size, 2, none⟩ = some (.string nm) ∧ w'.cell? ⟨w.heap.size, 4, none⟩ = some (.int .i64 n) ∧ w'.cell? ⟨w.heap.size, 6, none⟩ = some (.int .i64 ms)) (go_keep) (first | (go_at_call 86; refine (hX.nack i bx m nm n t ms _ _ hx (hf.mono hle)).mono ?_; rintro e w2 ⟨rfl, T2, hs2, hx2⟩; have k0 := (hB.step hs2 (by simp [XT])).cell (j := 0) rfl; have k2 := (hO.step hs2 (by simp [XT])).cell (j := 2) rfl; have k4 := (hO.step hs2 (by simp [XT])).cell (j := 4) rfl; have k6 := (hO.step hs2 (by simp [XT])).cell (j := 6) rfl; simp only [List.getElem_toArray, List.getElem_cons_succ, List.getElem_cons_zero] at k0 k2 k4 k6))
  all_goals
    have hB2 := hB.step hs2 (by simp [XT])
    have hO2 := hO.step hs2 (by simp [XT])
    have hy2 := hy.step hs2 (by simp [XT])
    have d1 := hB2.cell (j := 1) rfl
    have o2 := hO2.cell (j := 2) rfl
    have o4 := hO2.cell (j := 4) rfl
    have o6 := hO2.cell (j := 6) rfl
    simp only [List.getElem_toArray, List.getElem_cons_succ, List.getElem_cons_zero] at d1 o2 o4 o6
    clear c0 o0 hx hy k0 k2 k4 k6
    go_wp2_with fail
    go_region_held3 (fun w' => w'.cell? ⟨p, 1, none⟩ = some (.pointer (some ⟨yb, 0, none⟩)) ∧ w'.cell? ⟨w.heap.size, 2, none⟩ = some (.string nm) ∧ w'.cell? ⟨w.heap.size, 4, none⟩ = some (.int .i64 n) ∧ w'.cell? ⟨w.heap.size, 6, none⟩ = some (.int .i64 ms)) (go_keep) (first | (go_at_call 93; refine (ynack_any i yb m nm n t ms _ T2 ?_ hf.ok).mono ?_; (exact hy2.step (step_below (fun _ => False) T2 (Below.refl _ _).drew) (fun _ _ h => h)); rintro e w4 ⟨rfl, T4, hs4, hy4⟩; have hs4' : Step (YT i) w2 T2 w4 T4 := (step_below _ T2 (Below.refl _ _).drew).trans hs4; have j0 := (hB2.step hs4' (by simp [YT])).cell (j := 1) rfl; have j2 := (hO2.step hs4' (by simp [YT])).cell (j := 2) rfl; have j4 := (hO2.step hs4' (by simp [YT])).cell (j := 4) rfl; have j6 := (hO2.step hs4' (by simp [YT])).cell (j := 6) rfl; simp only [List.getElem_toArray, List.getElem_cons_succ, List.getElem_cons_zero] at j0 j2 j4 j6))
    all_goals
      go_wp2
      go_ret
      refine ⟨by first | rfl | simp, T4, (a1.mono (fun _ h => h.elim)).trans ((hs2.mono (fun _ h => .inl h)).trans (hs4'.mono (fun _ h => .inr h))), bx, yb, nackM m nm n t ms, vs, lg, ?_, hX.step hx2 hs4' (by rintro t h1 ⟨r, j, rfl⟩; exact absurd h1.1 (by simp)), hy4, fit_nack hf nm n t ms⟩
      rw [nackM_c]
      exact hB2.step hs4' (by simp [YT])

end Go.Proofs.Ytgcbooflhdjnhaa

/- The contract of leases at Extend. -/
namespace Go.Proofs.Ytgcbooflhdjnhaa
open Go.RowKit

attribute [local go_sem] over_cell

set_option maxRecDepth 100000 in
set_option maxHeartbeats 4000000 in
theorem leases_extend {X : World → (Nat → Tag) → Nat → Nat → MQ → Prop} {B Bm : Int} (hX : XC X Bm) (hle : B ≤ Bm) (i p : Nat) (qu : Int) (nm bd : ByteArray) (n tr ms : Int) (yes : Bool) (w : World) (T : Nat → Tag) (hp : PairT X B w T i p) :
    Calls Try.prog 74 #[.pointer (some ⟨p, 0, none⟩), .agg (opCells 7 qu nm bd n tr ms yes)] w fun e w' => e = .returned (.bool true) ∧ ∃ T', Step (ST i) w T w' T' ∧ PairT X B w' T' i p := by
  obtain ⟨bx, yb, m, vs, lg, hB, hx, hy, hf⟩ := hp
  have a1 : Step (fun _ => False) w T (w.alloc (.cells (opCells 7 qu nm bd n tr ms yes) 61)) (retag T w.heap.size .free) := step_new w T _ .free _
  have hO : Blk (w.alloc (.cells (opCells 7 qu nm bd n tr ms yes) 61)) (retag T w.heap.size .free) .free w.heap.size (opCells 7 qu nm bd n tr ms yes) 61 := blk_new w T _ 61 .free
  replace hB := hB.step a1 (fun h => h)
  replace hx := hX.step hx a1 (fun _ _ h => h)
  replace hy := hy.step a1 (fun _ _ h => h)
  go_enter Try.func74, Try.ntmps74
  go_wp2_with fail
  refine (try_any i p yb m _ 7 qu nm bd n tr ms yes _ _ hB rfl hy hf.ok).mono ?_
  rintro e w1 ⟨⟨t, rfl⟩, hb1⟩
  have s1 := step_below (fun _ => False) (retag T w.heap.size .free) hb1
  have s1' : Step (fun _ => False) (w.alloc (.cells (opCells 7 qu nm bd n tr ms yes) 61)) (retag T w.heap.size .free) w1.drew (retag T w.heap.size .free) := s1.trans (step_below _ _ (Below.refl _ _).drew)
  have hO1 := hO.step s1 (fun h => h)
  have hB1 := hB.step s1 (fun h => h)
  have c0 := hB1.cell (j := 0) rfl
  have o0 := hO1.cell (j := 0) rfl
  have o2 := hO1.cell (j := 2) rfl
  have o4 := hO1.cell (j := 4) rfl
  have o6 := hO1.cell (j := 6) rfl
  simp only [List.getElem_toArray, List.getElem_cons_succ, List.getElem_cons_zero] at c0 o0 o2 o4 o6
  replace hB := hB.step s1' (fun h => h)
  replace hO := hO.step s1' (fun h => h)
  replace hx := hX.step hx s1' (fun _ _ h => h)
  replace hy := hy.step s1' (fun _ _ h => h)
  replace a1 := a1.trans s1'
  clear s1 s1' hb1 hO1 hB1
  generalize retag T w.heap.size .free = T1 at *
  go_wp2_with fail
  go_region_held3 (fun w' => w'.cell? ⟨p, 0, none⟩ = some (.pointer (some ⟨bx, 0, none⟩)) ∧ w'.cell? ⟨w.heap.size, 2, none⟩ = some (.string nm) ∧ w'.cell? ⟨w.heap.size, 4, none⟩ = some (.int .i64 n) ∧ w'.cell? ⟨w.heap.size, 6, none⟩ = some (.int .i64 ms)) (go_keep) (first | (go_at_call 94; refine (hX.ext i bx m nm n t ms _ _ hx (hf.mono hle)).mono ?_; rintro e w2 ⟨rfl, T2, hs2, hx2⟩; have k0 := (hB.step hs2 (by simp [XT])).cell (j := 0) rfl; have k2 := (hO.step hs2 (by simp [XT])).cell (j := 2) rfl; have k4 := (hO.step hs2 (by simp [XT])).cell (j := 4) rfl; have k6 := (hO.step hs2 (by simp [XT])).cell (j := 6) rfl; simp only [List.getElem_toArray, List.getElem_cons_succ, List.getElem_cons_zero] at k0 k2 k4 k6))
  all_goals
    have hB2 := hB.step hs2 (by simp [XT])
    have hO2 := hO.step hs2 (by simp [XT])
    have hy2 := hy.step hs2 (by simp [XT])
    have d1 := hB2.cell (j := 1) rfl
    have o2 := hO2.cell (j := 2) rfl
    have o4 := hO2.cell (j := 4) rfl
    have o6 := hO2.cell (j := 6) rfl
    simp only [List.getElem_toArray, List.getElem_cons_succ, List.getElem_cons_zero] at d1 o2 o4 o6
    clear c0 o0 hx hy k0 k2 k4 k6
    go_wp2_with fail
    go_region_held3 (fun w' => w'.cell? ⟨p, 1, none⟩ = some (.pointer (some ⟨yb, 0, none⟩)) ∧ w'.cell? ⟨w.heap.size, 2, none⟩ = some (.string nm) ∧ w'.cell? ⟨w.heap.size, 4, none⟩ = some (.int .i64 n) ∧ w'.cell? ⟨w.heap.size, 6, none⟩ = some (.int .i64 ms)) (go_keep) (first | (go_at_call 95; refine (yextend_any i yb m nm n t ms _ T2 ?_ hf.ok).mono ?_; (exact hy2.step (step_below (fun _ => False) T2 (Below.refl _ _).drew) (fun _ _ h => h)); rintro e w4 ⟨rfl, T4, hs4, hy4⟩; have hs4' : Step (YT i) w2 T2 w4 T4 := (step_below _ T2 (Below.refl _ _).drew).trans hs4; have j0 := (hB2.step hs4' (by simp [YT])).cell (j := 1) rfl; have j2 := (hO2.step hs4' (by simp [YT])).cell (j := 2) rfl; have j4 := (hO2.step hs4' (by simp [YT])).cell (j := 4) rfl; have j6 := (hO2.step hs4' (by simp [YT])).cell (j := 6) rfl; simp only [List.getElem_toArray, List.getElem_cons_succ, List.getElem_cons_zero] at j0 j2 j4 j6))
    all_goals
      go_wp2
      go_ret
      refine ⟨by first | rfl | simp, T4, (a1.mono (fun _ h => h.elim)).trans ((hs2.mono (fun _ h => .inl h)).trans (hs4'.mono (fun _ h => .inr h))), bx, yb, extendM m nm n t ms, vs, lg, ?_, hX.step hx2 hs4' (by rintro t h1 ⟨r, j, rfl⟩; exact absurd h1.1 (by simp)), hy4, fit_extend hf nm n t ms⟩
      rw [extendM_c]
      exact hB2.step hs4' (by simp [YT])

end Go.Proofs.Ytgcbooflhdjnhaa

/- The contract of leases at Tick. -/
namespace Go.Proofs.Ytgcbooflhdjnhaa
open Go.RowKit

attribute [local go_sem] over_cell

set_option maxRecDepth 100000 in
set_option maxHeartbeats 4000000 in
theorem leases_tick {X : World → (Nat → Tag) → Nat → Nat → MQ → Prop} {B Bm : Int} (hX : XC X Bm) (hle : B ≤ Bm) (hlm : B ≤ 3999999999999940000) (i p : Nat) (qu : Int) (nm bd : ByteArray) (n tr ms : Int) (yes : Bool) (w : World) (T : Nat → Tag) (hp : PairT X B w T i p) :
    Calls Try.prog 74 #[.pointer (some ⟨p, 0, none⟩), .agg (opCells 8 qu nm bd n tr ms yes)] w fun e w' => e = .returned (.bool true) ∧ ∃ T', Step (ST i) w T w' T' ∧ PairT X (B + 60000) w' T' i p := by
  obtain ⟨bx, yb, m, vs, lg, hB, hx, hy, hf⟩ := hp
  have a1 : Step (fun _ => False) w T (w.alloc (.cells (opCells 8 qu nm bd n tr ms yes) 61)) (retag T w.heap.size .free) := step_new w T _ .free _
  have hO : Blk (w.alloc (.cells (opCells 8 qu nm bd n tr ms yes) 61)) (retag T w.heap.size .free) .free w.heap.size (opCells 8 qu nm bd n tr ms yes) 61 := blk_new w T _ 61 .free
  replace hB := hB.step a1 (fun h => h)
  replace hx := hX.step hx a1 (fun _ _ h => h)
  replace hy := hy.step a1 (fun _ _ h => h)
  go_enter Try.func74, Try.ntmps74
  go_wp2_with fail
  refine (try_any i p yb m _ 8 qu nm bd n tr ms yes _ _ hB rfl hy hf.ok).mono ?_
  rintro e w1 ⟨⟨t, rfl⟩, hb1⟩
  have s1 := step_below (fun _ => False) (retag T w.heap.size .free) hb1
  have s1' : Step (fun _ => False) (w.alloc (.cells (opCells 8 qu nm bd n tr ms yes) 61)) (retag T w.heap.size .free) w1.drew (retag T w.heap.size .free) := s1.trans (step_below _ _ (Below.refl _ _).drew)
  have hO1 := hO.step s1 (fun h => h)
  have hB1 := hB.step s1 (fun h => h)
  have c0 := hB1.cell (j := 0) rfl
  have o0 := hO1.cell (j := 0) rfl
  have o2 := hO1.cell (j := 2) rfl
  have o4 := hO1.cell (j := 4) rfl
  have o6 := hO1.cell (j := 6) rfl
  simp only [List.getElem_toArray, List.getElem_cons_succ, List.getElem_cons_zero] at c0 o0 o2 o4 o6
  replace hB := hB.step s1' (fun h => h)
  replace hO := hO.step s1' (fun h => h)
  replace hx := hX.step hx s1' (fun _ _ h => h)
  replace hy := hy.step s1' (fun _ _ h => h)
  replace a1 := a1.trans s1'
  clear s1 s1' hb1 hO1 hB1
  generalize retag T w.heap.size .free = T1 at *
  go_wp2_with fail
  go_region_law (go_simp; go_at_call 87; refine (hX.tick i bx m ms _ _ hx (hf.mono hle)).mono ?_; rintro e w2 ⟨rfl, T2, hs2, hx2⟩)
  all_goals
    have hB2 := hB.step hs2 (by simp [XT])
    have hO2 := hO.step hs2 (by simp [XT])
    have hy2 := hy.step hs2 (by simp [XT])
    have d1 := hB2.cell (j := 1) rfl
    have o2 := hO2.cell (j := 2) rfl
    have o4 := hO2.cell (j := 4) rfl
    have o6 := hO2.cell (j := 6) rfl
    simp only [List.getElem_toArray, List.getElem_cons_succ, List.getElem_cons_zero] at d1 o2 o4 o6
    clear c0 o0 hx hy
    go_wp2_with fail
    go_region_law (go_simp; go_at_call 96; refine (ytick_any i yb m ms _ T2 ?_ hf.ok).mono ?_; (exact hy2.step (step_below (fun _ => False) T2 (Below.refl _ _).drew) (fun _ _ h => h)); rintro e w4 ⟨rfl, T4, hs4, hy4⟩)
    all_goals
      go_wp2
      go_ret
      have hs4' : Step (YT i) w2 T2 w4 T4 := (step_below _ T2 (Below.refl _ _).drew).trans hs4
      refine ⟨by first | rfl | simp, T4, (a1.mono (fun _ h => h.elim)).trans ((hs2.mono (fun _ h => .inl h)).trans (hs4'.mono (fun _ h => .inr h))), bx, yb, tickM m ms, vs, lg, ?_, hX.step hx2 hs4' (by rintro t h1 ⟨r, j, rfl⟩; exact absurd h1.1 (by simp)), hy4, fit_tick hf ms hlm⟩
      rw [tickM_c]
      exact hB2.step hs4' (by simp [YT])

end Go.Proofs.Ytgcbooflhdjnhaa

/- The contract of received: Receive of both queues; the list that came out is kept. -/
import Derived.Test.YtockkceclkcgbaaGreatDoorA09
import Derived.Test.YtockkceclkcgbaaGreatDoorA11
import Derived.Deep.RegionHeld3
import Derived.Test.YtockkceclkcgbaaGreatDoorA10
namespace Go.Proofs.YtockkceclkcgbaaGreatDoor
open Go.RowKit

attribute [local go_sem] over_cell

theorem recvOne_out (m : MQ) (start : Int) (st : RS) (n : Nat) (x : It) : (recvOne m start st n x).out.length ≤ st.out.length + 1 := by
  unfold recvOne
  cases passed m start n x
  · cases decide (m.c.d ≤ x.tries) <;> simp
  · simp
theorem recvStep_out (m : MQ) (start : Int) (fr : List Nat) (st : RS) (k : Nat) : (recvStep m start fr st k).out.length ≤ st.out.length + 1 := by
  unfold recvStep
  cases decide (k < m.bodies.length)
  · simp only [cond_false]
    cases fr[k - m.bodies.length]? with
    | none => simp
    | some n =>
      simp only
      cases st.items[n]? with
      | none => simp
      | some x => exact recvOne_out m start st n x
  · simp only [cond_true]
    cases st.items[k]? with
    | none => simp
    | some x =>
      simp only
      cases decide (x.tries = 0)
      · exact recvOne_out m start st k x
      · simp
theorem recvRun_out (m : MQ) (start : Int) (fr : List Nat) (n : Int) (hn : n ≤ 32) : ∀ (f k : Nat) (st : RS), st.out.length ≤ 32 → (recvRun m start fr n f k st).out.length ≤ 32
  | 0, _, _, h => h
  | f + 1, k, st, h => by
    unfold recvRun
    by_cases h1 : n ≤ st.out.length
    · simp only [h1, decide_true, cond_true]; exact h
    · simp only [h1, decide_false, cond_false]
      have := recvStep_out m start fr st k
      exact recvRun_out m start fr n hn f (k + 1) _ (by omega)
theorem recvL_len (m : MQ) (s : ByteArray) (n : Int) : (recvL m s n).length ≤ 32 := by
  unfold recvL
  cases m.at s with
  | none => simp
  | some k =>
    simp only
    cases m.groups[k]? with
    | none => simp
    | some g =>
      simp only
      cases hb : btw n 1 32
      · simp
      · exact recvRun_out m _ _ n (btw_true hb).2 _ _ _ (by simp)
theorem recvM_c (m : MQ) (s : ByteArray) (n : Int) : (recvM m s n).c = m.c := by
  unfold recvM
  cases m.at s with
  | none => rfl
  | some k =>
    simp only
    cases m.groups[k]? with
    | none => rfl
    | some g => simp only; cases btw n 1 32 <;> rfl

/-- what a step that asks may write -/
def AskS (i c q : Nat) (s : Tag) : Prop := ST i s ∨ KeepS c q s ∨ s = .scr ∨ s = .out

set_option maxRecDepth 100000 in
set_option maxHeartbeats 4000000 in
theorem received_any {X Z : World → (Nat → Tag) → Nat → Nat → MQ → Prop} {vs : Value} {lg : ByteArray} {B Bm : Int} (hX : XZ X Z Bm) (hle : B ≤ Bm) (i p wb : Nat) (cs : Array Value) (vd : Value) (q' : Nat) (kind qu : Int) (nm bd : ByteArray) (n tr ms : Int) (yes : Bool) (w : World) (T : Nat → Tag)
    (hp : PairZ X B vs lg w T i p) (hW : Blk w T .world wb cs 33) (hc : cs[10]? = some vd) (hD : Bk w T 11 77 3 (fun q => patOf (markDV q)) vd q') (hq : q' ≤ 1000000000) :
    Calls Tryz.prog 82 #[.pointer (some ⟨wb, 0, none⟩), .pointer (some ⟨p, 0, none⟩), .agg (opCells kind qu nm bd n tr ms yes)] w fun e w' => e = .returned (.bool true) ∧
      ∃ T' vd', Step (AskS i 11 q') w T w' T' ∧ PairZ Z B vs lg w' T' i p ∧ Blk w' T' .world wb (cs.setIfInBounds 10 vd') 33 ∧ Bk w' T' 11 77 3 (fun q => patOf (markDV q)) vd' (q' + 1) := by
  obtain ⟨bx, yb, m, hB, hx, hy, hf⟩ := hp
  have hdl := hf.dead (by have := hy.small; simpa [MQ.rq] using this)
  have a1 : Step (fun _ => False) w T (w.alloc (.cells (opCells kind qu nm bd n tr ms yes) 46)).drew (retag T w.heap.size .free) := (step_new w T _ .free _).trans (step_below _ _ (Below.refl _ _).drew)
  have hO : Blk (w.alloc (.cells (opCells kind qu nm bd n tr ms yes) 46)).drew (retag T w.heap.size .free) .free w.heap.size (opCells kind qu nm bd n tr ms yes) 46 := (blk_new w T _ 46 .free)
  have l0 := hB.lt
  have c0 := hB.cell (j := 0) rfl
  simp only [List.getElem_toArray, List.getElem_cons_zero] at c0
  replace hB := hB.step a1 (fun h => h)
  replace hx := hX.step hx a1 (fun _ _ h => h)
  replace hy := hy.step a1 (fun _ _ h => h)
  replace hW := hW.step a1 (fun h => h)
  replace hD := hD.step a1 (fun h => h) (fun _ _ h => h)
  go_enter Tryz.func82, Tryz.ntmps82
  go_wp2_with fail
  have o2 := hO.cell (j := 2) rfl
  have o4 := hO.cell (j := 4) rfl
  simp only [List.getElem_toArray, List.getElem_cons_succ, List.getElem_cons_zero] at o2 o4
  go_region_held3 (fun w' => w'.cell? ⟨p, 0, none⟩ = some (.pointer (some ⟨bx, 0, none⟩)) ∧ w'.cell? ⟨w.heap.size, 2, none⟩ = some (.string nm) ∧ w'.cell? ⟨w.heap.size, 4, none⟩ = some (.int .i64 n)) (go_keep) (first | (go_at_call 30; refine (hX.recv i bx m nm n ⟨12, q', 0, 0⟩ _ _ hx (hf.mono hle)).mono ?_; rintro e w2 ⟨ao, cap, rfl, T2, hs2, hx2, hA2⟩; have k0 := (hB.step hs2 (by simp [XT])).cell (j := 0) rfl; have k2 := (hO.step hs2 (by simp [XT])).cell (j := 2) rfl; have k4 := (hO.step hs2 (by simp [XT])).cell (j := 4) rfl; simp only [List.getElem_toArray, List.getElem_cons_succ, List.getElem_cons_zero] at k0 k2 k4))
  all_goals
    have hB2 := hB.step hs2 (by simp [XT])
    have hO2 := hO.step hs2 (by simp [XT])
    have hy2 := hy.step hs2 (by simp [XT])
    have hW2 := hW.step hs2 (by simp [XT])
    have hD2 := hD.step hs2 (by simp [XT]) (fun _ _ => by simp [XT])
    have d1 := hB2.cell (j := 1) rfl
    have o2 := hO2.cell (j := 2) rfl
    have o4 := hO2.cell (j := 4) rfl
    simp only [List.getElem_toArray, List.getElem_cons_succ, List.getElem_cons_zero] at d1 o2 o4
    clear c0 hx hy hB hO hW hD k0 k2 k4
    go_wp2_with fail
    go_region_held3 (fun w' => w'.cell? ⟨p, 1, none⟩ = some (.pointer (some ⟨yb, 0, none⟩)) ∧ w'.cell? ⟨w.heap.size, 2, none⟩ = some (.string nm) ∧ w'.cell? ⟨w.heap.size, 4, none⟩ = some (.int .i64 n)) (go_keep) (first | (go_at_call 109; refine (yreceive_any i yb m nm n .out _ T2 ?_ hf.ok hdl (by decide)).mono ?_; (exact hy2.step (step_below (fun _ => False) T2 (Below.refl _ _).drew) (fun _ _ h => h)); rintro e w4 ⟨bo, bcap, rfl, T4, hs4, hy4, hA4⟩; have hs4' : Step (RecvS i .out) w2 T2 w4 T4 := (step_below _ T2 (Below.refl _ _).drew).trans hs4; have j0 := (hB2.step hs4' (by simp [RecvS])).cell (j := 1) rfl; have j2 := (hO2.step hs4' (by simp [RecvS])).cell (j := 2) rfl; have j4 := (hO2.step hs4' (by simp [RecvS])).cell (j := 4) rfl; simp only [List.getElem_toArray, List.getElem_cons_succ, List.getElem_cons_zero] at j0 j2 j4))
    all_goals
      have hA := hA2.step hs4' (by simp [RecvS])
      have hB4 := hB2.step hs4' (by simp [RecvS])
      have hx4 := hX.stepZ hx2 hs4' (by
        rintro s h1 (⟨r, j, rfl⟩ | rfl | rfl)
        · exact absurd h1.1 (by simp)
        · exact absurd h1.1 (by simp)
        · exact absurd h1.1 (by simp))
      have hW4 := hW2.step hs4' (by simp [RecvS])
      have hD4 := hD2.step hs4' (by simp [RecvS]) (fun _ _ => by simp [RecvS])
      have hlen := recvL_len m nm n
      clear hs4 j0 j2 j4 hA2 hB2 hx2 hW2 hD2 hO2 hy2 d1 o2 o4
      go_wp2_with fail
      refine (sameD_any (recvL m nm n) _ _ T4 T4 _ _ _ hA hA4 (by omega)).mono ?_
      rintro e w5 ⟨rfl, hb5⟩
      have s5 := step_below (fun _ => False) T4 hb5
      go_wp2_with fail
      refine (keepD_any w5 T4 wb cs q' _ vd _ _ (hW4.step s5 (fun h => h)) hc (hD4.step s5 (fun h => h) (fun _ _ h => h)) (hA.step s5 (fun h => h)) (by omega) hq).mono ?_
      rintro e w6 ⟨rfl, T6, vd', hs6, hW6, hD6⟩
      go_wp2
      go_ret
      have s6 : Step (KeepS 11 q') w4 T4 w6 T6 := (step_below _ T4 hb5).trans hs6
      refine ⟨by first | rfl | simp, T6, vd', (a1.mono (fun _ h => h.elim)).trans (((hs2.mono (fun _ h => .inl (.inl h))).trans (hs4'.mono ?_)).trans (s6.mono (fun _ h => .inr (.inl h)))), ⟨bx, yb, recvM m nm n, ?_, hX.stepZ hx4 s6 ?_, hy4.step s6 (by simp [KeepS]), fit_recv hf nm n⟩, hW6, hD6⟩
      · rintro s (h | rfl | rfl)
        · exact .inl (.inr h)
        · exact .inr (.inr (.inr rfl))
        · exact .inr (.inr (.inl rfl))
      · rw [recvM_c]
        exact hB4.step s6 (by simp [KeepS])
      · rintro s h1 (rfl | rfl | rfl)
        · exact absurd h1.1 (by simp)
        · exact absurd h1.1 (by simp)
        · exact absurd h1.1 (by simp)

end Go.Proofs.YtockkceclkcgbaaGreatDoor

/- The contract of call at Receive, over any queue that keeps the contracts. -/
namespace Go.Proofs.YtockkceclkcgbaaGreatDoor
open Go.RowKit

attribute [local go_sem] over_cell

set_option maxRecDepth 100000 in
set_option maxHeartbeats 4000000 in
theorem callT_recv {X Z : World → (Nat → Tag) → Nat → Nat → MQ → Prop} {vs : Value} {lg : ByteArray} {B Bm : Int} (hX : XZ X Z Bm) (hle : B ≤ Bm) (i p wb : Nat) (cs : Array Value) (vd : Value) (q' : Nat) (qu : Int) (nm bd : ByteArray) (n tr ms : Int) (yes : Bool) (w : World) (T : Nat → Tag)
    (hp : PairZ X B vs lg w T i p) (hW : Blk w T .world wb cs 33) (hc : cs[10]? = some vd) (hD : Bk w T 11 77 3 (fun q => patOf (markDV q)) vd q') (hq : q' ≤ 1000000000) :
    Calls Tryz.prog 45 #[.pointer (some ⟨wb, 0, none⟩), .pointer (some ⟨p, 0, none⟩), .agg (opCells 4 qu nm bd n tr ms yes)] w fun e w' => e = .returned (.bool true) ∧
      ∃ T' vd', Step (AskS i 11 q') w T w' T' ∧ PairZ Z B vs lg w' T' i p ∧ Blk w' T' .world wb (cs.setIfInBounds 10 vd') 33 ∧ Bk w' T' 11 77 3 (fun q => patOf (markDV q)) vd' (q' + 1) := by
  have a1 : Step (fun _ => False) w T (w.alloc (.cells (opCells 4 qu nm bd n tr ms yes) 46)) (retag T w.heap.size .free) := step_new w T _ .free _
  have hO : Blk (w.alloc (.cells (opCells 4 qu nm bd n tr ms yes) 46)) (retag T w.heap.size .free) .free w.heap.size (opCells 4 qu nm bd n tr ms yes) 46 := blk_new w T _ 46 .free
  have o0 := hO.cell (j := 0) rfl
  have o2 := hO.cell (j := 2) rfl
  simp only [List.getElem_toArray, List.getElem_cons_succ, List.getElem_cons_zero] at o0 o2
  replace hp := hp.step hX a1 (fun h => h) (fun _ _ h => h) (fun _ _ h => h)
  replace hW := hW.step a1 (fun h => h)
  replace hD := hD.step a1 (fun h => h) (fun _ _ h => h)
  go_enter Tryz.func45, Tryz.ntmps45
  go_wp2_with fail
  refine (received_any hX hle i p wb cs vd q' 4 qu nm bd n tr ms yes _ _ hp hW hc hD hq).mono ?_
  rintro e w2 ⟨rfl, T2, vd', hs2, hp2, hW2, hD2⟩
  go_wp2
  go_ret
  exact ⟨rfl, T2, vd', (a1.mono (fun _ h => h.elim)).trans hs2, hp2, hW2, hD2⟩

end Go.Proofs.YtockkceclkcgbaaGreatDoor

/- The contract of leases at Nack. -/
namespace Go.Proofs.YtockkceclkcgbaaGreatDoor
open Go.RowKit

attribute [local go_sem] over_cell

set_option maxRecDepth 100000 in
set_option maxHeartbeats 4000000 in
theorem leases_nack {X Z : World → (Nat → Tag) → Nat → Nat → MQ → Prop} {vs : Value} {lg : ByteArray} {B Bm : Int} (hX : XZ X Z Bm) (hle : B ≤ Bm) (i p : Nat) (qu : Int) (nm bd : ByteArray) (n tr ms : Int) (yes : Bool) (w : World) (T : Nat → Tag) (hp : PairZ X B vs lg w T i p) :
    Calls Tryz.prog 84 #[.pointer (some ⟨p, 0, none⟩), .agg (opCells 6 qu nm bd n tr ms yes)] w fun e w' => e = .returned (.bool true) ∧ ∃ T', Step (ST i) w T w' T' ∧ PairZ Z B vs lg w' T' i p := by
  obtain ⟨bx, yb, m, hB, hx, hy, hf⟩ := hp
  have a1 : Step (fun _ => False) w T (w.alloc (.cells (opCells 6 qu nm bd n tr ms yes) 46)) (retag T w.heap.size .free) := step_new w T _ .free _
  have hO : Blk (w.alloc (.cells (opCells 6 qu nm bd n tr ms yes) 46)) (retag T w.heap.size .free) .free w.heap.size (opCells 6 qu nm bd n tr ms yes) 46 := blk_new w T _ 46 .free
  replace hB := hB.step a1 (fun h => h)
  replace hx := hX.step hx a1 (fun _ _ h => h)
  replace hy := hy.step a1 (fun _ _ h => h)
  go_enter Tryz.func84, Tryz.ntmps84
  go_wp2_with fail
  refine (try_any i p yb m _ 6 qu nm bd n tr ms yes _ _ hB rfl hy hf.ok).mono ?_
  rintro e w1 ⟨⟨t, rfl⟩, hb1⟩
  have s1 := step_below (fun _ => False) (retag T w.heap.size .free) hb1
  have s1' : Step (fun _ => False) (w.alloc (.cells (opCells 6 qu nm bd n tr ms yes) 46)) (retag T w.heap.size .free) w1.drew (retag T w.heap.size .free) := s1.trans (step_below _ _ (Below.refl _ _).drew)
  have hO1 := hO.step s1 (fun h => h)
  have hB1 := hB.step s1 (fun h => h)
  have c0 := hB1.cell (j := 0) rfl
  have o0 := hO1.cell (j := 0) rfl
  have o2 := hO1.cell (j := 2) rfl
  have o4 := hO1.cell (j := 4) rfl
  have o6 := hO1.cell (j := 6) rfl
  simp only [List.getElem_toArray, List.getElem_cons_succ, List.getElem_cons_zero] at c0 o0 o2 o4 o6
  replace hB := hB.step s1' (fun h => h)
  replace hO := hO.step s1' (fun h => h)
  replace hx := hX.step hx s1' (fun _ _ h => h)
  replace hy := hy.step s1' (fun _ _ h => h)
  replace a1 := a1.trans s1'
  clear s1 s1' hb1 hO1 hB1
  generalize retag T w.heap.size .free = T1 at *
  go_wp2_with fail
  go_region_held3 (fun w' => w'.cell? ⟨p, 0, none⟩ = some (.pointer (some ⟨bx, 0, none⟩)) ∧ w'.cell? ⟨w.heap.size, 2, none⟩ = some (.string nm) ∧ w'.cell? ⟨w.heap.size, 4, none⟩ = some (.int .i64 n) ∧ w'.cell? ⟨w.heap.size, 6, none⟩ = some (.int .i64 ms)) (go_keep) (first | (go_at_call 108; refine (hX.nack i bx m nm n t ms _ _ hx (hf.mono hle)).mono ?_; rintro e w2 ⟨rfl, T2, hs2, hx2⟩; have k0 := (hB.step hs2 (by simp [XT])).cell (j := 0) rfl; have k2 := (hO.step hs2 (by simp [XT])).cell (j := 2) rfl; have k4 := (hO.step hs2 (by simp [XT])).cell (j := 4) rfl; have k6 := (hO.step hs2 (by simp [XT])).cell (j := 6) rfl; simp only [List.getElem_toArray, List.getElem_cons_succ, List.getElem_cons_zero] at k0 k2 k4 k6))
  all_goals
    have hB2 := hB.step hs2 (by simp [XT])
    have hO2 := hO.step hs2 (by simp [XT])
    have hy2 := hy.step hs2 (by simp [XT])
    have d1 := hB2.cell (j := 1) rfl
    have o2 := hO2.cell (j := 2) rfl
    have o4 := hO2.cell (j := 4) rfl
    have o6 := hO2.cell (j := 6) rfl
    simp only [List.getElem_toArray, List.getElem_cons_succ, List.getElem_cons_zero] at d1 o2 o4 o6
    clear c0 o0 hx hy k0 k2 k4 k6
    go_wp2_with fail
    go_region_held3 (fun w' => w'.cell? ⟨p, 1, none⟩ = some (.pointer (some ⟨yb, 0, none⟩)) ∧ w'.cell? ⟨w.heap.size, 2, none⟩ = some (.string nm) ∧ w'.cell? ⟨w.heap.size, 4, none⟩ = some (.int .i64 n) ∧ w'.cell? ⟨w.heap.size, 6, none⟩ = some (.int .i64 ms)) (go_keep) (first | (go_at_call 113; refine (ynack_any i yb m nm n t ms _ T2 ?_ hf.ok).mono ?_; (exact hy2.step (step_below (fun _ => False) T2 (Below.refl _ _).drew) (fun _ _ h => h)); rintro e w4 ⟨rfl, T4, hs4, hy4⟩; have hs4' : Step (YT i) w2 T2 w4 T4 := (step_below _ T2 (Below.refl _ _).drew).trans hs4; have j0 := (hB2.step hs4' (by simp [YT])).cell (j := 1) rfl; have j2 := (hO2.step hs4' (by simp [YT])).cell (j := 2) rfl; have j4 := (hO2.step hs4' (by simp [YT])).cell (j := 4) rfl; have j6 := (hO2.step hs4' (by simp [YT])).cell (j := 6) rfl; simp only [List.getElem_toArray, List.getElem_cons_succ, List.getElem_cons_zero] at j0 j2 j4 j6))
    all_goals
      go_wp2
      go_ret
      refine ⟨by first | rfl | simp, T4, (a1.mono (fun _ h => h.elim)).trans ((hs2.mono (fun _ h => .inl h)).trans (hs4'.mono (fun _ h => .inr h))), bx, yb, nackM m nm n t ms, ?_, hX.stepZ hx2 hs4' (by rintro t h1 ⟨r, j, rfl⟩; exact absurd h1.1 (by simp)), hy4, fit_nack hf nm n t ms⟩
      rw [nackM_c]
      exact hB2.step hs4' (by simp [YT])

end Go.Proofs.YtockkceclkcgbaaGreatDoor

/- The contract of leases at Extend. -/
namespace Go.Proofs.YtockkceclkcgbaaGreatDoor
open Go.RowKit

attribute [local go_sem] over_cell

set_option maxRecDepth 100000 in
set_option maxHeartbeats 4000000 in
theorem leases_extend {X Z : World → (Nat → Tag) → Nat → Nat → MQ → Prop} {vs : Value} {lg : ByteArray} {B Bm : Int} (hX : XZ X Z Bm) (hle : B ≤ Bm) (i p : Nat) (qu : Int) (nm bd : ByteArray) (n tr ms : Int) (yes : Bool) (w : World) (T : Nat → Tag) (hp : PairZ X B vs lg w T i p) :
    Calls Tryz.prog 84 #[.pointer (some ⟨p, 0, none⟩), .agg (opCells 7 qu nm bd n tr ms yes)] w fun e w' => e = .returned (.bool true) ∧ ∃ T', Step (ST i) w T w' T' ∧ PairZ Z B vs lg w' T' i p := by
  obtain ⟨bx, yb, m, hB, hx, hy, hf⟩ := hp
  have a1 : Step (fun _ => False) w T (w.alloc (.cells (opCells 7 qu nm bd n tr ms yes) 46)) (retag T w.heap.size .free) := step_new w T _ .free _
  have hO : Blk (w.alloc (.cells (opCells 7 qu nm bd n tr ms yes) 46)) (retag T w.heap.size .free) .free w.heap.size (opCells 7 qu nm bd n tr ms yes) 46 := blk_new w T _ 46 .free
  replace hB := hB.step a1 (fun h => h)
  replace hx := hX.step hx a1 (fun _ _ h => h)
  replace hy := hy.step a1 (fun _ _ h => h)
  go_enter Tryz.func84, Tryz.ntmps84
  go_wp2_with fail
  refine (try_any i p yb m _ 7 qu nm bd n tr ms yes _ _ hB rfl hy hf.ok).mono ?_
  rintro e w1 ⟨⟨t, rfl⟩, hb1⟩
  have s1 := step_below (fun _ => False) (retag T w.heap.size .free) hb1
  have s1' : Step (fun _ => False) (w.alloc (.cells (opCells 7 qu nm bd n tr ms yes) 46)) (retag T w.heap.size .free) w1.drew (retag T w.heap.size .free) := s1.trans (step_below _ _ (Below.refl _ _).drew)
  have hO1 := hO.step s1 (fun h => h)
  have hB1 := hB.step s1 (fun h => h)
  have c0 := hB1.cell (j := 0) rfl
  have o0 := hO1.cell (j := 0) rfl
  have o2 := hO1.cell (j := 2) rfl
  have o4 := hO1.cell (j := 4) rfl
  have o6 := hO1.cell (j := 6) rfl
  simp only [List.getElem_toArray, List.getElem_cons_succ, List.getElem_cons_zero] at c0 o0 o2 o4 o6
  replace hB := hB.step s1' (fun h => h)
  replace hO := hO.step s1' (fun h => h)
  replace hx := hX.step hx s1' (fun _ _ h => h)
  replace hy := hy.step s1' (fun _ _ h => h)
  replace a1 := a1.trans s1'
  clear s1 s1' hb1 hO1 hB1
  generalize retag T w.heap.size .free = T1 at *
  go_wp2_with fail
  go_region_held3 (fun w' => w'.cell? ⟨p, 0, none⟩ = some (.pointer (some ⟨bx, 0, none⟩)) ∧ w'.cell? ⟨w.heap.size, 2, none⟩ = some (.string nm) ∧ w'.cell? ⟨w.heap.size, 4, none⟩ = some (.int .i64 n) ∧ w'.cell? ⟨w.heap.size, 6, none⟩ = some (.int .i64 ms)) (go_keep) (first | (go_at_call 114; refine (hX.ext i bx m nm n t ms _ _ hx (hf.mono hle)).mono ?_; rintro e w2 ⟨rfl, T2, hs2, hx2⟩; have k0 := (hB.step hs2 (by simp [XT])).cell (j := 0) rfl; have k2 := (hO.step hs2 (by simp [XT])).cell (j := 2) rfl; have k4 := (hO.step hs2 (by simp [XT])).cell (j := 4) rfl; have k6 := (hO.step hs2 (by simp [XT])).cell (j := 6) rfl; simp only [List.getElem_toArray, List.getElem_cons_succ, List.getElem_cons_zero] at k0 k2 k4 k6))
  all_goals
    have hB2 := hB.step hs2 (by simp [XT])
    have hO2 := hO.step hs2 (by simp [XT])
    have hy2 := hy.step hs2 (by simp [XT])
    have d1 := hB2.cell (j := 1) rfl
    have o2 := hO2.cell (j := 2) rfl
    have o4 := hO2.cell (j := 4) rfl
    have o6 := hO2.cell (j := 6) rfl
    simp only [List.getElem_toArray, List.getElem_cons_succ, List.getElem_cons_zero] at d1 o2 o4 o6
    clear c0 o0 hx hy k0 k2 k4 k6
    go_wp2_with fail
    go_region_held3 (fun w' => w'.cell? ⟨p, 1, none⟩ = some (.pointer (some ⟨yb, 0, none⟩)) ∧ w'.cell? ⟨w.heap.size, 2, none⟩ = some (.string nm) ∧ w'.cell? ⟨w.heap.size, 4, none⟩ = some (.int .i64 n) ∧ w'.cell? ⟨w.heap.size, 6, none⟩ = some (.int .i64 ms)) (go_keep) (first | (go_at_call 115; refine (yextend_any i yb m nm n t ms _ T2 ?_ hf.ok).mono ?_; (exact hy2.step (step_below (fun _ => False) T2 (Below.refl _ _).drew) (fun _ _ h => h)); rintro e w4 ⟨rfl, T4, hs4, hy4⟩; have hs4' : Step (YT i) w2 T2 w4 T4 := (step_below _ T2 (Below.refl _ _).drew).trans hs4; have j0 := (hB2.step hs4' (by simp [YT])).cell (j := 1) rfl; have j2 := (hO2.step hs4' (by simp [YT])).cell (j := 2) rfl; have j4 := (hO2.step hs4' (by simp [YT])).cell (j := 4) rfl; have j6 := (hO2.step hs4' (by simp [YT])).cell (j := 6) rfl; simp only [List.getElem_toArray, List.getElem_cons_succ, List.getElem_cons_zero] at j0 j2 j4 j6))
    all_goals
      go_wp2
      go_ret
      refine ⟨by first | rfl | simp, T4, (a1.mono (fun _ h => h.elim)).trans ((hs2.mono (fun _ h => .inl h)).trans (hs4'.mono (fun _ h => .inr h))), bx, yb, extendM m nm n t ms, ?_, hX.stepZ hx2 hs4' (by rintro t h1 ⟨r, j, rfl⟩; exact absurd h1.1 (by simp)), hy4, fit_extend hf nm n t ms⟩
      rw [extendM_c]
      exact hB2.step hs4' (by simp [YT])

end Go.Proofs.YtockkceclkcgbaaGreatDoor

/- The law's world at All: its block, its row of pairs and its book; what a call leaves of it. -/
namespace Go.Proofs.YtockkceclkcgbaaGreatDoor
open Go.RowKit

abbrev wtCells (c d : Conf) (vP vr vd : Value) (most : Int) : Array Value := #[.int .i64 c.l, .int .i64 c.d, .int .i64 c.s, .int .i64 c.k, .int .i64 d.l, .int .i64 d.d, .int .i64 d.s, .int .i64 d.k, vP, vr, vd, .int .i64 most]

/-- The law's world in block wb: its two configurations, its row of pairs, its book (q lists of ranges, q' of deliveries). -/
def WB (w : World) (T : Nat → Tag) (wb : Nat) (c d : Conf) (most : Int) (ps : List Nat) (q q' : Nat) : Prop :=
  ∃ vP vr vd, Blk w T .world wb (wtCells c d vP vr vd most) 33 ∧ Row w T .row 42 1 vP ps.length (ps.map ptrV) ∧
    Bk w T 9 74 2 (fun q => patOf (markRV q)) vr q ∧ Bk w T 11 77 3 (fun q => patOf (markDV q)) vd q'

theorem WB.step {S : Tag → Prop} {w w' : World} {T T' : Nat → Tag} {wb : Nat} {c d : Conf} {most : Int} {ps : List Nat} {q q' : Nat} (h : WB w T wb c d most ps q q') (hs : Step S w T w' T') (h0 : ¬ S .world) (h0' : ¬ S .row) (hb : ∀ t : Tag, 8 ≤ t.c → t.c ≤ 13 → ¬ S t) : WB w' T' wb c d most ps q q' := by
  obtain ⟨vP, vr, vd, e1, e2, e3, e4⟩ := h
  exact ⟨vP, vr, vd, e1.step hs h0, e2.step hs h0', e3.step hs (hb _ (by simp) (by simp)) (fun _ _ => hb _ (by simp) (by simp)), e4.step hs (hb _ (by simp) (by simp)) (fun _ _ => hb _ (by simp) (by simp))⟩

/-- The tags that a call at the pair of number k may write. -/
def CallS (k : Nat) (t : Tag) : Prop := ST k t ∨ t = .world ∨ (8 ≤ t.c ∧ t.c ≤ 13)

theorem callS_old {k : Nat} {t : Tag} (h : CallS k t) : t ≠ .old := by
  rintro rfl
  rcases h with (h | ⟨r, j, h⟩) | h | h
  · exact absurd h.1 (by simp)
  · cases h
  · cases h
  · have := h.1; simp at this

/-- what a call leaves -/
def CallPostZ (Z : World → (Nat → Tag) → Nat → Nat → MQ → Prop) (B : Int) (vs : Value) (lg : ByteArray) (w : World) (T : Nat → Tag) (wb : Nat) (c d : Conf) (most : Int) (ps : List Nat) (q q' k p : Nat) (e : Ending) (w' : World) : Prop :=
  e = .returned (.bool true) ∧ ∃ T' q1 q1', Step (CallS k) w T w' T' ∧ WB w' T' wb c d most ps q1 q1' ∧ PairZ Z B vs lg w' T' k p ∧ q1 ≤ q + 2 ∧ q1' ≤ q' + 2

/-- a call that touches the queues alone -/
theorem post_queues {Z : World → (Nat → Tag) → Nat → Nat → MQ → Prop} {B : Int} {vs : Value} {lg : ByteArray} {w w' : World} {T T' : Nat → Tag} {wb : Nat} {c d : Conf} {most : Int} {ps : List Nat} {q q' k p : Nat} (h : WB w T wb c d most ps q q') (hs : Step (ST k) w T w' T') (hp : PairZ Z B vs lg w' T' k p) :
    CallPostZ Z B vs lg w T wb c d most ps q q' k p (.returned (.bool true)) w' := by
  have n : ∀ t : Tag, t.c ≠ 5 → t.c ≠ 6 → ¬ ST k t := by
    rintro t a b (h | ⟨r, j, rfl⟩)
    · exact a h.1
    · exact b rfl
  exact ⟨rfl, T', q, q', hs.mono (fun t ht => .inl ht), h.step hs (n _ (by simp) (by simp)) (n _ (by simp) (by simp)) (fun t h1 _ => n t (by omega) (by omega)), hp, by omega, by omega⟩

theorem told_call9 {k q : Nat} : ∀ t : Tag, ToldS k 9 q t → CallS k t := by
  rintro t (h | (rfl | rfl | rfl) | (rfl | rfl | rfl) | rfl)
  · exact .inl h
  · exact .inr (.inl rfl)
  · exact .inr (.inr (by decide))
  · exact .inr (.inr ⟨by simp, by simp⟩)
  · exact .inr (.inl rfl)
  · exact .inr (.inr (by decide))
  · exact .inr (.inr ⟨by simp, by simp⟩)
  · exact .inr (.inr (by decide))
theorem told_call11 {k q : Nat} : ∀ t : Tag, ToldS k 11 q t → CallS k t := by
  rintro t (h | (rfl | rfl | rfl) | (rfl | rfl | rfl) | rfl)
  · exact .inl h
  · exact .inr (.inl rfl)
  · exact .inr (.inr (by decide))
  · exact .inr (.inr ⟨by simp, by simp⟩)
  · exact .inr (.inl rfl)
  · exact .inr (.inr (by decide))
  · exact .inr (.inr ⟨by simp, by simp⟩)
  · exact .inr (.inr (by decide))
/-- a call that keeps two lists of ranges -/
theorem post_done {Z : World → (Nat → Tag) → Nat → Nat → MQ → Prop} {B : Int} {vs : Value} {lg : ByteArray} {w w' : World} {T T' : Nat → Tag} {wb : Nat} {c d : Conf} {most : Int} {ps : List Nat} {q q' k p : Nat} {vP vr vd vr' : Value}
    (h2 : Row w T .row 42 1 vP ps.length (ps.map ptrV)) (h4 : Bk w T 11 77 3 (fun q => patOf (markDV q)) vd q') (hs : Step (ToldS k 9 q) w T w' T') (hp : PairZ Z B vs lg w' T' k p)
    (hW : Blk w' T' .world wb ((wtCells c d vP vr vd most).setIfInBounds 9 vr') 33) (hR : Bk w' T' 9 74 2 (fun q => patOf (markRV q)) vr' (q + 2)) :
    CallPostZ Z B vs lg w T wb c d most ps q q' k p (.returned (.bool true)) w' :=
  ⟨rfl, T', q + 2, q', hs.mono told_call9, ⟨vP, vr', vd, hW, h2.step hs (by simp [ToldS, ST, XT, YT, KeepS]), hR, h4.step hs (by simp [ToldS, ST, XT, YT, KeepS]) (fun _ _ => by simp [ToldS, ST, XT, YT, KeepS])⟩, hp, by omega, by omega⟩
/-- a call that keeps two lists of deliveries -/
theorem post_dead {Z : World → (Nat → Tag) → Nat → Nat → MQ → Prop} {B : Int} {vs : Value} {lg : ByteArray} {w w' : World} {T T' : Nat → Tag} {wb : Nat} {c d : Conf} {most : Int} {ps : List Nat} {q q' k p : Nat} {vP vr vd vd' : Value}
    (h2 : Row w T .row 42 1 vP ps.length (ps.map ptrV)) (h3 : Bk w T 9 74 2 (fun q => patOf (markRV q)) vr q) (hs : Step (ToldS k 11 q') w T w' T') (hp : PairZ Z B vs lg w' T' k p)
    (hW : Blk w' T' .world wb ((wtCells c d vP vr vd most).setIfInBounds 10 vd') 33) (hD : Bk w' T' 11 77 3 (fun q => patOf (markDV q)) vd' (q' + 2)) :
    CallPostZ Z B vs lg w T wb c d most ps q q' k p (.returned (.bool true)) w' :=
  ⟨rfl, T', q, q' + 2, hs.mono told_call11, ⟨vP, vr, vd', hW, h2.step hs (by simp [ToldS, ST, XT, YT, KeepS]), h3.step hs (by simp [ToldS, ST, XT, YT, KeepS]) (fun _ _ => by simp [ToldS, ST, XT, YT, KeepS]), hD⟩, hp, by omega, by omega⟩
/-- a call that keeps one list of deliveries -/
theorem post_recv {Z : World → (Nat → Tag) → Nat → Nat → MQ → Prop} {B : Int} {vs : Value} {lg : ByteArray} {w w' : World} {T T' : Nat → Tag} {wb : Nat} {c d : Conf} {most : Int} {ps : List Nat} {q q' k p : Nat} {vP vr vd vd' : Value}
    (h2 : Row w T .row 42 1 vP ps.length (ps.map ptrV)) (h3 : Bk w T 9 74 2 (fun q => patOf (markRV q)) vr q) (hs : Step (AskS k 11 q') w T w' T') (hp : PairZ Z B vs lg w' T' k p)
    (hW : Blk w' T' .world wb ((wtCells c d vP vr vd most).setIfInBounds 10 vd') 33) (hD : Bk w' T' 11 77 3 (fun q => patOf (markDV q)) vd' (q' + 1)) :
    CallPostZ Z B vs lg w T wb c d most ps q q' k p (.returned (.bool true)) w' := by
  have n : ∀ t : Tag, AskS k 11 q' t → CallS k t := by
    rintro t (h | (rfl | rfl | rfl) | rfl | rfl)
    · exact .inl h
    · exact .inr (.inl rfl)
    · exact .inr (.inr (by decide))
    · exact .inr (.inr ⟨by simp, by simp⟩)
    · exact .inr (.inr (by decide))
    · exact .inr (.inr (by decide))
  exact ⟨rfl, T', q, q' + 1, hs.mono n, ⟨vP, vr, vd', hW, h2.step hs (by simp [AskS, ST, XT, YT, KeepS]), h3.step hs (by simp [AskS, ST, XT, YT, KeepS]) (fun _ _ => by simp [AskS, ST, XT, YT, KeepS]), hD⟩, hp, by omega, by omega⟩

theorem callZ_any {X Z : World → (Nat → Tag) → Nat → Nat → MQ → Prop} {vs : Value} {lg : ByteArray} {B Bm : Int} (hX : XZ X Z Bm) (hle : B ≤ Bm) (hlm : B ≤ 3999999999999940000) (wb : Nat) (c d : Conf) (most : Int) (ps : List Nat) (q q' k p : Nat) (kind qu : Int) (nm bd : ByteArray) (n tr ms : Int) (yes : Bool) (w : World) (T : Nat → Tag)
    (hw : WB w T wb c d most ps q q') (hp : PairZ X B vs lg w T k p) (hkind : 2 ≤ kind ∧ kind ≤ 12) (hq : q ≤ 900000000) (hq' : q' ≤ 900000000) :
    Calls Tryz.prog 45 #[.pointer (some ⟨wb, 0, none⟩), .pointer (some ⟨p, 0, none⟩), .agg (opCells kind qu nm bd n tr ms yes)] w (CallPostZ Z (B + 60000) vs lg w T wb c d most ps q q' k p) := by
  have hBB : B ≤ B + 60000 := by omega
  have fin : ∀ {e : Ending} {w' : World}, (e = .returned (.bool true) ∧ ∃ T', Step (ST k) w T w' T' ∧ PairZ Z B vs lg w' T' k p) → CallPostZ Z (B + 60000) vs lg w T wb c d most ps q q' k p e w' := by
    rintro e w' ⟨rfl, T', hs, hp'⟩
    exact post_queues hw hs (hp'.mono hBB)
  obtain ⟨vP, vr, vd, h1, h2, h3, h4⟩ := id hw
  have hK : kind = 2 ∨ kind = 3 ∨ kind = 4 ∨ kind = 5 ∨ kind = 6 ∨ kind = 7 ∨ kind = 8 ∨ kind = 9 ∨ kind = 10 ∨ kind = 11 ∨ kind = 12 := by omega
  rcases hK with rfl | rfl | rfl | rfl | rfl | rfl | rfl | rfl | rfl | rfl | rfl
  · exact (callT_enq hX hle k p _ qu nm bd n tr ms yes w T hp).mono (fun _ _ h => fin h)
  · exact (callT_grp hX hle k p _ qu nm bd n tr ms yes w T hp).mono (fun _ _ h => fin h)
  · refine (callT_recv hX hle k p wb _ vd q' qu nm bd n tr ms yes w T hp h1 rfl h4 (by omega)).mono ?_
    rintro e w' ⟨rfl, T', vd', hs, hp', hW, hD⟩
    exact post_recv h2 h3 hs (hp'.mono hBB) hW hD
  · exact (callT_leases hX k p wb 5 (by omega) qu nm bd n tr ms yes w T hp (fun w T h => leases_ack hX hle k p qu nm bd n tr ms yes w T h)).mono (fun _ _ h => fin h)
  · exact (callT_leases hX k p wb 6 (by omega) qu nm bd n tr ms yes w T hp (fun w T h => leases_nack hX hle k p qu nm bd n tr ms yes w T h)).mono (fun _ _ h => fin h)
  · exact (callT_leases hX k p wb 7 (by omega) qu nm bd n tr ms yes w T hp (fun w T h => leases_extend hX hle k p qu nm bd n tr ms yes w T h)).mono (fun _ _ h => fin h)
  · refine (callT_leases hX k p wb 8 (by omega) qu nm bd n tr ms yes w T hp (fun w T h => leases_tick hX hle hlm k p qu nm bd n tr ms yes w T h)).mono ?_
    rintro e w' ⟨rfl, T', hs, hp'⟩
    exact post_queues hw hs hp'
  · refine (callT_done hX hle k p wb _ vr q qu nm bd n tr ms yes w T hp h1 rfl h3 hq).mono ?_
    rintro e w' ⟨rfl, T', vr', hs, hp', hW, hR⟩
    exact post_done h2 h4 hs ((hp'.sub hX).mono hBB) hW hR
  · refine (callT_dead hX hle k p wb _ vd q' qu nm bd n tr ms yes w T hp h1 rfl h4 hq').mono ?_
    rintro e w' ⟨rfl, T', vd', hs, hp', hW, hD⟩
    exact post_dead h2 h3 hs ((hp'.sub hX).mono hBB) hW hD
  · refine (callT_span hX hle k p wb qu nm bd n tr ms yes w T hp).mono ?_
    rintro e w' ⟨rfl, T', hs, hp'⟩
    exact fin ⟨rfl, T', hs.mono (fun _ h => .inl h), hp'.sub hX⟩
  · exact (callT_ret hX hle k p _ qu nm bd n tr ms yes w T hp).mono (fun _ _ h => fin h)

end Go.Proofs.YtockkceclkcgbaaGreatDoor

/- The script among the arguments; the first steps. -/
namespace Go.Proofs.YtockkceclkcgbaaGreatDoor
open Go.RowKit

/-- A step of the script. -/
structure OpV where
  kind : Int
  qu : Int
  nm : ByteArray
  bd : ByteArray
  n : Int
  tr : Int
  ms : Int
  yes : Bool

abbrev OpV.cells (o : OpV) : Array Value := opCells o.kind o.qu o.nm o.bd o.n o.tr o.ms o.yes

/-- The script among the arguments. -/
def ArgO (w : World) (ao : Option Addr) (l : List OpV) : Prop := ∀ k o, l[k]? = some o → i64 o.qu ∧ i64 o.n ∧ ∃ b off, ao = some ⟨b, off, none⟩ ∧ b < w.heap.size ∧ ∀ j v, o.cells[j]? = some v → w.cell? ⟨b, off + k * 8 + j, none⟩ = some v

def conf0 : Conf := ⟨10, 2, 2, 5⟩
def confZ : Conf := ⟨0, 0, 0, 0⟩
def letterA : ByteArray := ⟨#[97]⟩
def letterG : ByteArray := ⟨#[103]⟩
def nought : ByteArray := ⟨#[]⟩

/-- the cells of a row of steps -/
def opsCells : List OpV → List Value
  | [] => []
  | o :: r => o.cells.toList ++ opsCells r
theorem opsCells_at : ∀ (l : List OpV) (k : Nat) (o : OpV) (j : Nat) (v : Value), l[k]? = some o → o.cells[j]? = some v → (opsCells l)[k * 8 + j]? = some v
  | [], _, _, _, _, h, _ => by simp at h
  | x :: r, 0, o, j, v, h, hj => by
    simp only [List.getElem?_cons_zero, Option.some.injEq] at h
    subst h
    have hlt : j < x.cells.toList.length := by
      rcases Nat.lt_or_ge j x.cells.size with h | h
      · simpa using h
      · rw [Array.getElem?_eq_none h] at hj; cases hj
    rw [Nat.zero_mul, Nat.zero_add, opsCells, List.getElem?_append_left hlt]
    simpa using hj
  | x :: r, k + 1, o, j, v, h, hj => by
    have h2 := opsCells_at r k o j v (by simpa using h) hj
    have e : x.cells.toList.length = 8 := rfl
    rw [opsCells, List.getElem?_append_right (by rw [e]; omega), e, show (k + 1) * 8 + j - 8 = k * 8 + j by omega]
    exact h2

def firstOps : List OpV := [⟨1, 0, nought, nought, 0, 0, 0, false⟩, ⟨2, 0, nought, letterA, 0, 0, 0, false⟩, ⟨3, 0, letterG, nought, 0, 0, 0, false⟩, ⟨4, 0, letterG, nought, 9, 0, 0, false⟩, ⟨5, 0, letterG, nought, 0, 0, 0, false⟩, ⟨9, 0, letterG, nought, 0, 0, 0, false⟩]

theorem firstOps_i64 : ∀ o ∈ firstOps, i64 o.qu ∧ i64 o.n := by
  intro o ho
  simp only [firstOps, List.mem_cons, List.not_mem_nil, or_false] at ho
  rcases ho with rfl | rfl | rfl | rfl | rfl | rfl <;> exact ⟨⟨by decide, by decide⟩, ⟨by decide, by decide⟩⟩

/-- the first steps' own row -/
theorem first_arg (w : World) : ArgO (w.alloc (.cells (opsCells firstOps).toArray 46)) (some ⟨w.heap.size, 0, none⟩) firstOps := by
  intro k o hk
  obtain ⟨h1, h2⟩ := firstOps_i64 o (List.mem_of_getElem? hk)
  refine ⟨h1, h2, w.heap.size, 0, rfl, by simp, fun j v hj => ?_⟩
  have h := heap_alloc_new w (.cells (opsCells firstOps).toArray 46)
  unfold World.cell?
  simp only [h, Nat.zero_add]
  have := opsCells_at _ k o j v hk hj
  simpa using this

theorem notOld_world {S : Tag → Prop} {w w' : World} {T T' : Nat → Tag} (h : Step S w T w' T') (hS : ¬ S .old) : Step (fun t => t ≠ .old) w T w' T' := h.mono (fun t ht e => hS (by rw [← e]; exact ht))

end Go.Proofs.YtockkceclkcgbaaGreatDoor

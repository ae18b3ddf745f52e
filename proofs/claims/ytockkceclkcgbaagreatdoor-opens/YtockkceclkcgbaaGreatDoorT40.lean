/- The contract of received: Receive of both queues; the list that came out is kept. -/
import Derived.Test.YtockkceclkcgbaaGreatDoorT37
import Derived.Test.YtockkceclkcgbaaGreatDoorT39
import Derived.Deep.RegionHeld3
import Derived.Test.YtockkceclkcgbaaGreatDoorT38
import Derived.Test.YtockkceclkcgbaaGreatDoorT02
namespace Go.Proofs.YtockkceclkcgbaaGreatDoor
open Go.RowKit

attribute [local go_sem] over_cell

theorem recvOne_out (m : MQ) (start : Int) (st : RS) (n : Nat) (x : It) : (recvOne m start st n x).out.length ≤ st.out.length + 1 := by
  unfold recvOne
  cases passed m start n x
  · cases decide (m.c.d ≤ x.tries) <;> simp
  · simp
theorem recvStep_out (m : MQ) (start : Int) (fr : List Nat) (st : RS) (k : Nat) : (recvStep m start fr st k).out.length ≤ st.out.length + 1 := by
  unfold recvStep
  cases decide (k < m.bodies.length)
  · simp only [cond_false]
    cases fr[k - m.bodies.length]? with
    | none => simp
    | some n =>
      simp only
      cases st.items[n]? with
      | none => simp
      | some x => exact recvOne_out m start st n x
  · simp only [cond_true]
    cases st.items[k]? with
    | none => simp
    | some x =>
      simp only
      cases decide (x.tries = 0)
      · exact recvOne_out m start st k x
      · simp
theorem recvRun_out (m : MQ) (start : Int) (fr : List Nat) (n : Int) (hn : n ≤ 32) : ∀ (f k : Nat) (st : RS), st.out.length ≤ 32 → (recvRun m start fr n f k st).out.length ≤ 32
  | 0, _, _, h => h
  | f + 1, k, st, h => by
    unfold recvRun
    by_cases h1 : n ≤ st.out.length
    · simp only [h1, decide_true, cond_true]; exact h
    · simp only [h1, decide_false, cond_false]
      have := recvStep_out m start fr st k
      exact recvRun_out m start fr n hn f (k + 1) _ (by omega)
theorem recvL_len (m : MQ) (s : ByteArray) (n : Int) : (recvL m s n).length ≤ 32 := by
  unfold recvL
  cases m.at s with
  | none => simp
  | some k =>
    simp only
    cases m.groups[k]? with
    | none => simp
    | some g =>
      simp only
      cases hb : btw n 1 32
      · simp
      · exact recvRun_out m _ _ n (btw_true hb).2 _ _ _ (by simp)
theorem recvM_c (m : MQ) (s : ByteArray) (n : Int) : (recvM m s n).c = m.c := by
  unfold recvM
  cases m.at s with
  | none => rfl
  | some k =>
    simp only
    cases m.groups[k]? with
    | none => rfl
    | some g => simp only; cases btw n 1 32 <;> rfl

/-- what a step that asks may write -/
def AskS (i c q : Nat) (s : Tag) : Prop := ST i s ∨ KeepS c q s ∨ s = .scr ∨ s = .out

set_option maxRecDepth 100000 in
set_option maxHeartbeats 4000000 in
theorem received_any {X : World → (Nat → Tag) → Nat → Nat → MQ → Prop} {B Bm : Int} (hX : XC X Bm) (hle : B ≤ Bm) (i p wb : Nat) (cs : Array Value) (vd : Value) (q' : Nat) (kind qu : Int) (nm bd : ByteArray) (n tr ms : Int) (yes : Bool) (w : World) (T : Nat → Tag)
    (hp : PairT X B w T i p) (hW : Blk w T .world wb cs 33) (hc : cs[10]? = some vd) (hD : Bk w T 11 77 3 (fun q => patOf (markDV q)) vd q') (hq : q' ≤ 1000000000) :
    Calls Tryz.prog 82 #[.pointer (some ⟨wb, 0, none⟩), .pointer (some ⟨p, 0, none⟩), .agg (opCells kind qu nm bd n tr ms yes)] w fun e w' => e = .returned (.bool true) ∧
      ∃ T' vd', Step (AskS i 11 q') w T w' T' ∧ PairT X B w' T' i p ∧ Blk w' T' .world wb (cs.setIfInBounds 10 vd') 33 ∧ Bk w' T' 11 77 3 (fun q => patOf (markDV q)) vd' (q' + 1) := by
  obtain ⟨bx, yb, m, vs, lg, hB, hx, hy, hf⟩ := hp
  have hdl := hf.dead (by have := hy.small; simpa [MQ.rq] using this)
  have a1 : Step (fun _ => False) w T (w.alloc (.cells (opCells kind qu nm bd n tr ms yes) 46)).drew (retag T w.heap.size .free) := (step_new w T _ .free _).trans (step_below _ _ (Below.refl _ _).drew)
  have hO : Blk (w.alloc (.cells (opCells kind qu nm bd n tr ms yes) 46)).drew (retag T w.heap.size .free) .free w.heap.size (opCells kind qu nm bd n tr ms yes) 46 := (blk_new w T _ 46 .free)
  have l0 := hB.lt
  have c0 := hB.cell (j := 0) rfl
  simp only [List.getElem_toArray, List.getElem_cons_zero] at c0
  replace hB := hB.step a1 (fun h => h)
  replace hx := hX.step hx a1 (fun _ _ h => h)
  replace hy := hy.step a1 (fun _ _ h => h)
  replace hW := hW.step a1 (fun h => h)
  replace hD := hD.step a1 (fun h => h) (fun _ _ h => h)
  go_enter Tryz.func82, Tryz.ntmps82
  go_wp2_with fail
  have o2 := hO.cell (j := 2) rfl
  have o4 := hO.cell (j := 4) rfl
  simp only [List.getElem_toArray, List.getElem_cons_succ, List.getElem_cons_zero] at o2 o4
  go_region_held3 (fun w' => w'.cell? ⟨p, 0, none⟩ = some (.pointer (some ⟨bx, 0, none⟩)) ∧ w'.cell? ⟨w.heap.size, 2, none⟩ = some (.string nm) ∧ w'.cell? ⟨w.heap.size, 4, none⟩ = some (.int .i64 n)) (go_keep) (first | (go_at_call 30; refine (hX.recv i bx m nm n ⟨12, q', 0, 0⟩ _ _ hx (hf.mono hle)).mono ?_; rintro e w2 ⟨ao, cap, rfl, T2, hs2, hx2, hA2⟩; have k0 := (hB.step hs2 (by simp [XT])).cell (j := 0) rfl; have k2 := (hO.step hs2 (by simp [XT])).cell (j := 2) rfl; have k4 := (hO.step hs2 (by simp [XT])).cell (j := 4) rfl; simp only [List.getElem_toArray, List.getElem_cons_succ, List.getElem_cons_zero] at k0 k2 k4))
  all_goals
    have hB2 := hB.step hs2 (by simp [XT])
    have hO2 := hO.step hs2 (by simp [XT])
    have hy2 := hy.step hs2 (by simp [XT])
    have hW2 := hW.step hs2 (by simp [XT])
    have hD2 := hD.step hs2 (by simp [XT]) (fun _ _ => by simp [XT])
    have d1 := hB2.cell (j := 1) rfl
    have o2 := hO2.cell (j := 2) rfl
    have o4 := hO2.cell (j := 4) rfl
    simp only [List.getElem_toArray, List.getElem_cons_succ, List.getElem_cons_zero] at d1 o2 o4
    clear c0 hx hy hB hO hW hD k0 k2 k4
    go_wp2_with fail
    go_region_held3 (fun w' => w'.cell? ⟨p, 1, none⟩ = some (.pointer (some ⟨yb, 0, none⟩)) ∧ w'.cell? ⟨w.heap.size, 2, none⟩ = some (.string nm) ∧ w'.cell? ⟨w.heap.size, 4, none⟩ = some (.int .i64 n)) (go_keep) (first | (go_at_call 109; refine (yreceive_any i yb m nm n .out _ T2 ?_ hf.ok hdl (by decide)).mono ?_; (exact hy2.step (step_below (fun _ => False) T2 (Below.refl _ _).drew) (fun _ _ h => h)); rintro e w4 ⟨bo, bcap, rfl, T4, hs4, hy4, hA4⟩; have hs4' : Step (RecvS i .out) w2 T2 w4 T4 := (step_below _ T2 (Below.refl _ _).drew).trans hs4; have j0 := (hB2.step hs4' (by simp [RecvS])).cell (j := 1) rfl; have j2 := (hO2.step hs4' (by simp [RecvS])).cell (j := 2) rfl; have j4 := (hO2.step hs4' (by simp [RecvS])).cell (j := 4) rfl; simp only [List.getElem_toArray, List.getElem_cons_succ, List.getElem_cons_zero] at j0 j2 j4))
    all_goals
      have hA := hA2.step hs4' (by simp [RecvS])
      have hB4 := hB2.step hs4' (by simp [RecvS])
      have hx4 := hX.step hx2 hs4' (by
        rintro s h1 (⟨r, j, rfl⟩ | rfl | rfl)
        · exact absurd h1.1 (by simp)
        · exact absurd h1.1 (by simp)
        · exact absurd h1.1 (by simp))
      have hW4 := hW2.step hs4' (by simp [RecvS])
      have hD4 := hD2.step hs4' (by simp [RecvS]) (fun _ _ => by simp [RecvS])
      have hlen := recvL_len m nm n
      clear hs4 j0 j2 j4 hA2 hB2 hx2 hW2 hD2 hO2 hy2 d1 o2 o4
      go_wp2_with fail
      refine (sameD_any (recvL m nm n) _ _ T4 T4 _ _ _ hA hA4 (by omega)).mono ?_
      rintro e w5 ⟨rfl, hb5⟩
      have s5 := step_below (fun _ => False) T4 hb5
      go_wp2_with fail
      refine (keepD_any w5 T4 wb cs q' _ vd _ _ (hW4.step s5 (fun h => h)) hc (hD4.step s5 (fun h => h) (fun _ _ h => h)) (hA.step s5 (fun h => h)) (by omega) hq).mono ?_
      rintro e w6 ⟨rfl, T6, vd', hs6, hW6, hD6⟩
      go_wp2
      go_ret
      have s6 : Step (KeepS 11 q') w4 T4 w6 T6 := (step_below _ T4 hb5).trans hs6
      refine ⟨by first | rfl | simp, T6, vd', (a1.mono (fun _ h => h.elim)).trans (((hs2.mono (fun _ h => .inl (.inl h))).trans (hs4'.mono ?_)).trans (s6.mono (fun _ h => .inr (.inl h)))), ⟨bx, yb, recvM m nm n, vs, lg, ?_, hX.step hx4 s6 ?_, hy4.step s6 (by simp [KeepS]), fit_recv hf nm n⟩, hW6, hD6⟩
      · rintro s (h | rfl | rfl)
        · exact .inl (.inr h)
        · exact .inr (.inr (.inr rfl))
        · exact .inr (.inr (.inl rfl))
      · rw [recvM_c]
        exact hB4.step s6 (by simp [KeepS])
      · rintro s h1 (rfl | rfl | rfl)
        · exact absurd h1.1 (by simp)
        · exact absurd h1.1 (by simp)
        · exact absurd h1.1 (by simp)

end Go.Proofs.YtockkceclkcgbaaGreatDoor

/- The contract of call at Receive, over any queue that keeps the contracts. -/
namespace Go.Proofs.YtockkceclkcgbaaGreatDoor
open Go.RowKit

attribute [local go_sem] over_cell

set_option maxRecDepth 100000 in
set_option maxHeartbeats 4000000 in
theorem callT_recv {X : World → (Nat → Tag) → Nat → Nat → MQ → Prop} {B Bm : Int} (hX : XC X Bm) (hle : B ≤ Bm) (i p wb : Nat) (cs : Array Value) (vd : Value) (q' : Nat) (qu : Int) (nm bd : ByteArray) (n tr ms : Int) (yes : Bool) (w : World) (T : Nat → Tag)
    (hp : PairT X B w T i p) (hW : Blk w T .world wb cs 33) (hc : cs[10]? = some vd) (hD : Bk w T 11 77 3 (fun q => patOf (markDV q)) vd q') (hq : q' ≤ 1000000000) :
    Calls Tryz.prog 45 #[.pointer (some ⟨wb, 0, none⟩), .pointer (some ⟨p, 0, none⟩), .agg (opCells 4 qu nm bd n tr ms yes)] w fun e w' => e = .returned (.bool true) ∧
      ∃ T' vd', Step (AskS i 11 q') w T w' T' ∧ PairT X B w' T' i p ∧ Blk w' T' .world wb (cs.setIfInBounds 10 vd') 33 ∧ Bk w' T' 11 77 3 (fun q => patOf (markDV q)) vd' (q' + 1) := by
  have a1 : Step (fun _ => False) w T (w.alloc (.cells (opCells 4 qu nm bd n tr ms yes) 46)) (retag T w.heap.size .free) := step_new w T _ .free _
  have hO : Blk (w.alloc (.cells (opCells 4 qu nm bd n tr ms yes) 46)) (retag T w.heap.size .free) .free w.heap.size (opCells 4 qu nm bd n tr ms yes) 46 := blk_new w T _ 46 .free
  have o0 := hO.cell (j := 0) rfl
  have o2 := hO.cell (j := 2) rfl
  simp only [List.getElem_toArray, List.getElem_cons_succ, List.getElem_cons_zero] at o0 o2
  replace hp := hp.step hX a1 (fun h => h) (fun _ _ h => h) (fun _ _ h => h)
  replace hW := hW.step a1 (fun h => h)
  replace hD := hD.step a1 (fun h => h) (fun _ _ h => h)
  go_enter Tryz.func45, Tryz.ntmps45
  go_wp2_with fail
  refine (received_any hX hle i p wb cs vd q' 4 qu nm bd n tr ms yes _ _ hp hW hc hD hq).mono ?_
  rintro e w2 ⟨rfl, T2, vd', hs2, hp2, hW2, hD2⟩
  go_wp2
  go_ret
  exact ⟨rfl, T2, vd', (a1.mono (fun _ h => h.elim)).trans hs2, hp2, hW2, hD2⟩

end Go.Proofs.YtockkceclkcgbaaGreatDoor

/- The contract of leases at Nack. -/
namespace Go.Proofs.YtockkceclkcgbaaGreatDoor
open Go.RowKit

attribute [local go_sem] over_cell

set_option maxRecDepth 100000 in
set_option maxHeartbeats 4000000 in
theorem leases_nack {X : World → (Nat → Tag) → Nat → Nat → MQ → Prop} {B Bm : Int} (hX : XC X Bm) (hle : B ≤ Bm) (i p : Nat) (qu : Int) (nm bd : ByteArray) (n tr ms : Int) (yes : Bool) (w : World) (T : Nat → Tag) (hp : PairT X B w T i p) :
    Calls Tryz.prog 84 #[.pointer (some ⟨p, 0, none⟩), .agg (opCells 6 qu nm bd n tr ms yes)] w fun e w' => e = .returned (.bool true) ∧ ∃ T', Step (ST i) w T w' T' ∧ PairT X B w' T' i p := by
  obtain ⟨bx, yb, m, vs, lg, hB, hx, hy, hf⟩ := hp
  have a1 : Step (fun _ => False) w T (w.alloc (.cells (opCells 6 qu nm bd n tr ms yes) 46)) (retag T w.heap.size .free) := step_new w T _ .free _
  have hO : Blk (w.alloc (.cells (opCells 6 qu nm bd n tr ms yes) 46)) (retag T w.heap.size .free) .free w.heap.size (opCells 6 qu nm bd n tr ms yes) 46 := blk_new w T _ 46 .free
  replace hB := hB.step a1 (fun h => h)
  replace hx := hX.step hx a1 (fun _ _ h => h)
  replace hy := hy.step a1 (fun _ _ h => h)
  go_enter Tryz.func84, Tryz.ntmps84
  go_wp2_with fail
  refine (try_any i p yb m _ 6 qu nm bd n tr ms yes _ _ hB rfl hy hf.ok).mono ?_
  rintro e w1 ⟨⟨t, rfl⟩, hb1⟩
  have s1 := step_below (fun _ => False) (retag T w.heap.size .free) hb1
  have s1' : Step (fun _ => False) (w.alloc (.cells (opCells 6 qu nm bd n tr ms yes) 46)) (retag T w.heap.size .free) w1.drew (retag T w.heap.size .free) := s1.trans (step_below _ _ (Below.refl _ _).drew)
  have hO1 := hO.step s1 (fun h => h)
  have hB1 := hB.step s1 (fun h => h)
  have c0 := hB1.cell (j := 0) rfl
  have o0 := hO1.cell (j := 0) rfl
  have o2 := hO1.cell (j := 2) rfl
  have o4 := hO1.cell (j := 4) rfl
  have o6 := hO1.cell (j := 6) rfl
  simp only [List.getElem_toArray, List.getElem_cons_succ, List.getElem_cons_zero] at c0 o0 o2 o4 o6
  replace hB := hB.step s1' (fun h => h)
  replace hO := hO.step s1' (fun h => h)
  replace hx := hX.step hx s1' (fun _ _ h => h)
  replace hy := hy.step s1' (fun _ _ h => h)
  replace a1 := a1.trans s1'
  clear s1 s1' hb1 hO1 hB1
  generalize retag T w.heap.size .free = T1 at *
  go_wp2_with fail
  go_region_held3 (fun w' => w'.cell? ⟨p, 0, none⟩ = some (.pointer (some ⟨bx, 0, none⟩)) ∧ w'.cell? ⟨w.heap.size, 2, none⟩ = some (.string nm) ∧ w'.cell? ⟨w.heap.size, 4, none⟩ = some (.int .i64 n) ∧ w'.cell? ⟨w.heap.size, 6, none⟩ = some (.int .i64 ms)) (go_keep) (first | (go_at_call 108; refine (hX.nack i bx m nm n t ms _ _ hx (hf.mono hle)).mono ?_; rintro e w2 ⟨rfl, T2, hs2, hx2⟩; have k0 := (hB.step hs2 (by simp [XT])).cell (j := 0) rfl; have k2 := (hO.step hs2 (by simp [XT])).cell (j := 2) rfl; have k4 := (hO.step hs2 (by simp [XT])).cell (j := 4) rfl; have k6 := (hO.step hs2 (by simp [XT])).cell (j := 6) rfl; simp only [List.getElem_toArray, List.getElem_cons_succ, List.getElem_cons_zero] at k0 k2 k4 k6))
  all_goals
    have hB2 := hB.step hs2 (by simp [XT])
    have hO2 := hO.step hs2 (by simp [XT])
    have hy2 := hy.step hs2 (by simp [XT])
    have d1 := hB2.cell (j := 1) rfl
    have o2 := hO2.cell (j := 2) rfl
    have o4 := hO2.cell (j := 4) rfl
    have o6 := hO2.cell (j := 6) rfl
    simp only [List.getElem_toArray, List.getElem_cons_succ, List.getElem_cons_zero] at d1 o2 o4 o6
    clear c0 o0 hx hy k0 k2 k4 k6
    go_wp2_with fail
    go_region_held3 (fun w' => w'.cell? ⟨p, 1, none⟩ = some (.pointer (some ⟨yb, 0, none⟩)) ∧ w'.cell? ⟨w.heap.size, 2, none⟩ = some (.string nm) ∧ w'.cell? ⟨w.heap.size, 4, none⟩ = some (.int .i64 n) ∧ w'.cell? ⟨w.heap.size, 6, none⟩ = some (.int .i64 ms)) (go_keep) (first | (go_at_call 113; refine (ynack_any i yb m nm n t ms _ T2 ?_ hf.ok).mono ?_; (exact hy2.step (step_below (fun _ => False) T2 (Below.refl _ _).drew) (fun _ _ h => h)); rintro e w4 ⟨rfl, T4, hs4, hy4⟩; have hs4' : Step (YT i) w2 T2 w4 T4 := (step_below _ T2 (Below.refl _ _).drew).trans hs4; have j0 := (hB2.step hs4' (by simp [YT])).cell (j := 1) rfl; have j2 := (hO2.step hs4' (by simp [YT])).cell (j := 2) rfl; have j4 := (hO2.step hs4' (by simp [YT])).cell (j := 4) rfl; have j6 := (hO2.step hs4' (by simp [YT])).cell (j := 6) rfl; simp only [List.getElem_toArray, List.getElem_cons_succ, List.getElem_cons_zero] at j0 j2 j4 j6))
    all_goals
      go_wp2
      go_ret
      refine ⟨by first | rfl | simp, T4, (a1.mono (fun _ h => h.elim)).trans ((hs2.mono (fun _ h => .inl h)).trans (hs4'.mono (fun _ h => .inr h))), bx, yb, nackM m nm n t ms, vs, lg, ?_, hX.step hx2 hs4' (by rintro t h1 ⟨r, j, rfl⟩; exact absurd h1.1 (by simp)), hy4, fit_nack hf nm n t ms⟩
      rw [nackM_c]
      exact hB2.step hs4' (by simp [YT])

end Go.Proofs.YtockkceclkcgbaaGreatDoor

/- The contract of leases at Extend. -/
namespace Go.Proofs.YtockkceclkcgbaaGreatDoor
open Go.RowKit

attribute [local go_sem] over_cell

set_option maxRecDepth 100000 in
set_option maxHeartbeats 4000000 in
theorem leases_extend {X : World → (Nat → Tag) → Nat → Nat → MQ → Prop} {B Bm : Int} (hX : XC X Bm) (hle : B ≤ Bm) (i p : Nat) (qu : Int) (nm bd : ByteArray) (n tr ms : Int) (yes : Bool) (w : World) (T : Nat → Tag) (hp : PairT X B w T i p) :
    Calls Tryz.prog 84 #[.pointer (some ⟨p, 0, none⟩), .agg (opCells 7 qu nm bd n tr ms yes)] w fun e w' => e = .returned (.bool true) ∧ ∃ T', Step (ST i) w T w' T' ∧ PairT X B w' T' i p := by
  obtain ⟨bx, yb, m, vs, lg, hB, hx, hy, hf⟩ := hp
  have a1 : Step (fun _ => False) w T (w.alloc (.cells (opCells 7 qu nm bd n tr ms yes) 46)) (retag T w.heap.size .free) := step_new w T _ .free _
  have hO : Blk (w.alloc (.cells (opCells 7 qu nm bd n tr ms yes) 46)) (retag T w.heap.size .free) .free w.heap.size (opCells 7 qu nm bd n tr ms yes) 46 := blk_new w T _ 46 .free
  replace hB := hB.step a1 (fun h => h)
  replace hx := hX.step hx a1 (fun _ _ h => h)
  replace hy := hy.step a1 (fun _ _ h => h)
  go_enter Tryz.func84, Tryz.ntmps84
  go_wp2_with fail
  refine (try_any i p yb m _ 7 qu nm bd n tr ms yes _ _ hB rfl hy hf.ok).mono ?_
  rintro e w1 ⟨⟨t, rfl⟩, hb1⟩
  have s1 := step_below (fun _ => False) (retag T w.heap.size .free) hb1
  have s1' : Step (fun _ => False) (w.alloc (.cells (opCells 7 qu nm bd n tr ms yes) 46)) (retag T w.heap.size .free) w1.drew (retag T w.heap.size .free) := s1.trans (step_below _ _ (Below.refl _ _).drew)
  have hO1 := hO.step s1 (fun h => h)
  have hB1 := hB.step s1 (fun h => h)
  have c0 := hB1.cell (j := 0) rfl
  have o0 := hO1.cell (j := 0) rfl
  have o2 := hO1.cell (j := 2) rfl
  have o4 := hO1.cell (j := 4) rfl
  have o6 := hO1.cell (j := 6) rfl
  simp only [List.getElem_toArray, List.getElem_cons_succ, List.getElem_cons_zero] at c0 o0 o2 o4 o6
  replace hB := hB.step s1' (fun h => h)
  replace hO := hO.step s1' (fun h => h)
  replace hx := hX.step hx s1' (fun _ _ h => h)
  replace hy := hy.step s1' (fun _ _ h => h)
  replace a1 := a1.trans s1'
  clear s1 s1' hb1 hO1 hB1
  generalize retag T w.heap.size .free = T1 at *
  go_wp2_with fail
  go_region_held3 (fun w' => w'.cell? ⟨p, 0, none⟩ = some (.pointer (some ⟨bx, 0, none⟩)) ∧ w'.cell? ⟨w.heap.size, 2, none⟩ = some (.string nm) ∧ w'.cell? ⟨w.heap.size, 4, none⟩ = some (.int .i64 n) ∧ w'.cell? ⟨w.heap.size, 6, none⟩ = some (.int .i64 ms)) (go_keep) (first | (go_at_call 114; refine (hX.ext i bx m nm n t ms _ _ hx (hf.mono hle)).mono ?_; rintro e w2 ⟨rfl, T2, hs2, hx2⟩; have k0 := (hB.step hs2 (by simp [XT])).cell (j := 0) rfl; have k2 := (hO.step hs2 (by simp [XT])).cell (j := 2) rfl; have k4 := (hO.step hs2 (by simp [XT])).cell (j := 4) rfl; have k6 := (hO.step hs2 (by simp [XT])).cell (j := 6) rfl; simp only [List.getElem_toArray, List.getElem_cons_succ, List.getElem_cons_zero] at k0 k2 k4 k6))
  all_goals
    have hB2 := hB.step hs2 (by simp [XT])
    have hO2 := hO.step hs2 (by simp [XT])
    have hy2 := hy.step hs2 (by simp [XT])
    have d1 := hB2.cell (j := 1) rfl
    have o2 := hO2.cell (j := 2) rfl
    have o4 := hO2.cell (j := 4) rfl
    have o6 := hO2.cell (j := 6) rfl
    simp only [List.getElem_toArray, List.getElem_cons_succ, List.getElem_cons_zero] at d1 o2 o4 o6
    clear c0 o0 hx hy k0 k2 k4 k6
    go_wp2_with fail
    go_region_held3 (fun w' => w'.cell? ⟨p, 1, none⟩ = some (.pointer (some ⟨yb, 0, none⟩)) ∧ w'.cell? ⟨w.heap.size, 2, none⟩ = some (.string nm) ∧ w'.cell? ⟨w.heap.size, 4, none⟩ = some (.int .i64 n) ∧ w'.cell? ⟨w.heap.size, 6, none⟩ = some (.int .i64 ms)) (go_keep) (first | (go_at_call 115; refine (yextend_any i yb m nm n t ms _ T2 ?_ hf.ok).mono ?_; (exact hy2.step (step_below (fun _ => False) T2 (Below.refl _ _).drew) (fun _ _ h => h)); rintro e w4 ⟨rfl, T4, hs4, hy4⟩; have hs4' : Step (YT i) w2 T2 w4 T4 := (step_below _ T2 (Below.refl _ _).drew).trans hs4; have j0 := (hB2.step hs4' (by simp [YT])).cell (j := 1) rfl; have j2 := (hO2.step hs4' (by simp [YT])).cell (j := 2) rfl; have j4 := (hO2.step hs4' (by simp [YT])).cell (j := 4) rfl; have j6 := (hO2.step hs4' (by simp [YT])).cell (j := 6) rfl; simp only [List.getElem_toArray, List.getElem_cons_succ, List.getElem_cons_zero] at j0 j2 j4 j6))
    all_goals
      go_wp2
      go_ret
      refine ⟨by first | rfl | simp, T4, (a1.mono (fun _ h => h.elim)).trans ((hs2.mono (fun _ h => .inl h)).trans (hs4'.mono (fun _ h => .inr h))), bx, yb, extendM m nm n t ms, vs, lg, ?_, hX.step hx2 hs4' (by rintro t h1 ⟨r, j, rfl⟩; exact absurd h1.1 (by simp)), hy4, fit_extend hf nm n t ms⟩
      rw [extendM_c]
      exact hB2.step hs4' (by simp [YT])

end Go.Proofs.YtockkceclkcgbaaGreatDoor

/- The contract of call at every kind, over any queue that keeps the contracts. -/
namespace Go.Proofs.YtockkceclkcgbaaGreatDoor
open Go.RowKit

/-- a call that keeps one list of deliveries -/
theorem post_recv {X : World → (Nat → Tag) → Nat → Nat → MQ → Prop} {B B' Bm : Int} (hX : XC X Bm) (hBB : B ≤ B') {w w' : World} {T T' : Nat → Tag} {wb : Nat} {c d : Conf} {most : Int} {ps : List Nat} {q q' k p : Nat} {vP vr vd vd' : Value}
    (h2 : Row w T .row 42 1 vP ps.length (ps.map ptrV)) (h3 : Bk w T 9 74 2 (fun q => patOf (markRV q)) vr q) (h5 : ∀ i p, ps[i]? = some p → PairT X B w T i p) (hk : ps[k]? = some p) (hs : Step (AskS k 11 q') w T w' T') (hp : PairT X B w' T' k p)
    (hW : Blk w' T' .world wb ((wtCells c d vP vr vd most).setIfInBounds 10 vd') 33) (hD : Bk w' T' 11 77 3 (fun q => patOf (markDV q)) vd' (q' + 1)) :
    CallPost X B' w T wb c d most ps q q' (.returned (.bool true)) w' := by
  have n : ∀ t : Tag, AskS k 11 q' t → CallS k t := by
    rintro t (h | (rfl | rfl | rfl) | rfl | rfl)
    · exact .inl h
    · exact .inr (.inl rfl)
    · exact .inr (.inr (by decide))
    · exact .inr (.inr ⟨by simp, by simp⟩)
    · exact .inr (.inr (by decide))
    · exact .inr (.inr (by decide))
  refine ⟨rfl, T', q, q' + 1, hs.mono (fun t ht => callS_old (n t ht)), ⟨⟨vP, vr, vd', hW, h2.step hs (by simp [AskS, ST, XT, YT, KeepS]), h3.step hs (by simp [AskS, ST, XT, YT, KeepS]) (fun _ _ => by simp [AskS, ST, XT, YT, KeepS]), hD⟩, fun i p hi => ?_⟩, by omega, by omega⟩
  exact (pairs_next hX h5 hs n hk hp i p hi).mono hBB

theorem callT_any {X : World → (Nat → Tag) → Nat → Nat → MQ → Prop} {B Bm : Int} (hX : XC X Bm) (hle : B ≤ Bm) (hlm : B ≤ 3999999999999940000) (wb : Nat) (c d : Conf) (most : Int) (ps : List Nat) (q q' k p : Nat) (kind qu : Int) (nm bd : ByteArray) (n tr ms : Int) (yes : Bool) (w : World) (T : Nat → Tag)
    (hw : WT X B w T wb c d most ps q q') (hk : ps[k]? = some p) (hkind : 2 ≤ kind ∧ kind ≤ 12) (hq : q ≤ 900000000) (hq' : q' ≤ 900000000) :
    Calls Tryz.prog 45 #[.pointer (some ⟨wb, 0, none⟩), .pointer (some ⟨p, 0, none⟩), .agg (opCells kind qu nm bd n tr ms yes)] w (CallPost X (B + 60000) w T wb c d most ps q q') := by
  have hp := hw.prs k p hk
  have hBB : B ≤ B + 60000 := by omega
  have fin : ∀ {e : Ending} {w' : World}, (e = .returned (.bool true) ∧ ∃ T', Step (ST k) w T w' T' ∧ PairT X B w' T' k p) → CallPost X (B + 60000) w T wb c d most ps q q' e w' := by
    rintro e w' ⟨rfl, T', hs, hp'⟩
    exact post_queues hX hBB hw hk hs (hp'.mono hBB)
  obtain ⟨⟨vP, vr, vd, h1, h2, h3, h4⟩, h5⟩ := id hw
  have hK : kind = 2 ∨ kind = 3 ∨ kind = 4 ∨ kind = 5 ∨ kind = 6 ∨ kind = 7 ∨ kind = 8 ∨ kind = 9 ∨ kind = 10 ∨ kind = 11 ∨ kind = 12 := by omega
  rcases hK with rfl | rfl | rfl | rfl | rfl | rfl | rfl | rfl | rfl | rfl | rfl
  · exact (callT_enq hX hle k p _ qu nm bd n tr ms yes w T hp).mono (fun _ _ h => fin h)
  · exact (callT_grp hX hle k p _ qu nm bd n tr ms yes w T hp).mono (fun _ _ h => fin h)
  · refine (callT_recv hX hle k p wb _ vd q' qu nm bd n tr ms yes w T hp h1 rfl h4 (by omega)).mono ?_
    rintro e w' ⟨rfl, T', vd', hs, hp', hW, hD⟩
    exact post_recv hX hBB h2 h3 h5 hk hs hp' hW hD
  · exact (callT_leases hX k p wb 5 (by omega) qu nm bd n tr ms yes w T hp (fun w T h => leases_ack hX hle k p qu nm bd n tr ms yes w T h)).mono (fun _ _ h => fin h)
  · exact (callT_leases hX k p wb 6 (by omega) qu nm bd n tr ms yes w T hp (fun w T h => leases_nack hX hle k p qu nm bd n tr ms yes w T h)).mono (fun _ _ h => fin h)
  · exact (callT_leases hX k p wb 7 (by omega) qu nm bd n tr ms yes w T hp (fun w T h => leases_extend hX hle k p qu nm bd n tr ms yes w T h)).mono (fun _ _ h => fin h)
  · refine (callT_leases hX k p wb 8 (by omega) qu nm bd n tr ms yes w T hp (fun w T h => leases_tick hX hle hlm k p qu nm bd n tr ms yes w T h)).mono ?_
    rintro e w' ⟨rfl, T', hs, hp'⟩
    exact post_queues hX hBB hw hk hs hp'
  · refine (callT_done hX hle k p wb _ vr q qu nm bd n tr ms yes w T hp h1 rfl h3 hq).mono ?_
    rintro e w' ⟨rfl, T', vr', hs, hp', hW, hR⟩
    exact post_done hX hBB h2 h4 h5 hk hs hp' hW hR
  · refine (callT_dead hX hle k p wb _ vd q' qu nm bd n tr ms yes w T hp h1 rfl h4 hq').mono ?_
    rintro e w' ⟨rfl, T', vd', hs, hp', hW, hD⟩
    exact post_dead hX hBB h2 h3 h5 hk hs hp' hW hD
  · refine (callT_span hX hle k p wb qu nm bd n tr ms yes w T hp).mono ?_
    rintro e w' ⟨rfl, T', hs, hp'⟩
    exact fin ⟨rfl, T', hs.mono (fun _ h => .inl h), hp'⟩
  · exact (callT_ret hX hle k p _ qu nm bd n tr ms yes w T hp).mono (fun _ _ h => fin h)

end Go.Proofs.YtockkceclkcgbaaGreatDoor

/- The contract of step at a call, over any queue that keeps the contracts. -/
namespace Go.Proofs.YtockkceclkcgbaaGreatDoor
open Go.RowKit

attribute [local go_sem] over_cell

set_option maxRecDepth 100000 in
set_option maxHeartbeats 4000000 in
theorem stepT_pair {G : Nat} {X : World → (Nat → Tag) → Nat → Nat → MQ → Prop} {B B' Bm : Int} (hX : XC X Bm) (wb : Nat) (c d : Conf) (M : Int) (hM : M ≤ 12) (ps : List Nat) (q q' : Nat) (kind qu : Int) (nm bd : ByteArray) (n tr ms : Int) (yes : Bool) (w : World) (T : Nat → Tag) (hw : WT X B w T wb c d M ps q q') (h23 : 2 ≤ kind ∧ kind ≤ M) (hqu : i64 qu) (hpos : 0 < ps.length) (hlen : ps.length ≤ 17592186044416)
    (hcall : ∀ (w : World) (T : Nat → Tag) (k p : Nat), ps[k]? = some p → WT X B w T wb c d M ps q q' → Calls Tryz.prog 45 #[.pointer (some ⟨wb, 0, none⟩), .pointer (some ⟨p, 0, none⟩), .agg (opCells kind qu nm bd n tr ms yes)] w (CallPostG G X B' w T wb c d M ps q q')) :
    Calls Tryz.prog 16 #[.pointer (some ⟨wb, 0, none⟩), .agg (opCells kind qu nm bd n tr ms yes)] w (CallPostG G X B' w T wb c d M ps q q') := by
  unfold opCells at hcall
  have n0 : decide (kind < 1) = false := by simp; omega
  have n1 : decide (M < kind) = false := by simp; omega
  have n2 : ¬ kind = 1 := by omega
  have n3 : ¬ kind = 13 := by omega
  have n4 : ¬ kind = 14 := by omega
  have n5 : ¬ kind < 1 := by omega
  have n6 : ¬ M < kind := by omega
  have n7 : M < 13 := by omega
  clear h23 hM
  have hw0 := hw
  obtain ⟨⟨vP, vr, vd, hB, hR, _, _⟩, hprs⟩ := hw
  obtain ⟨gb, gc, rfl⟩ := row_some hR hpos
  obtain ⟨k, hk⟩ : ∃ k : Nat, pickQ qu ps.length = k := ⟨(pickQ qu ps.length).toNat, by have := pickQ_range qu ps.length (by omega); omega⟩
  have hkl : k < ps.length := by have := pickQ_range qu ps.length (by omega); omega
  obtain ⟨p, hp⟩ : ∃ p, ps[k]? = some p := ⟨_, List.getElem?_eq_getElem hkl⟩
  have hpick : ∀ w1 : World, Calls Tryz.prog 38 #[.int .i64 qu, .int .i64 (ps.length : Int)] w1 fun e w' => e = .returned (.int .i64 (k : Int)) ∧ Below w1.heap.size w1 w' := fun w1 => by
    rw [← hk]; exact pickq_any qu ps.length w1 hqu.1 hqu.2 (by omega) (by omega)
  have l0 := hB.lt
  have lr := hR.lt
  have k8 := hB.cell (j := 8) rfl
  have k11 := hB.cell (j := 11) rfl
  simp only [List.getElem_toArray, List.getElem_cons_succ, List.getElem_cons_zero] at k8 k11
  have kp : w.cell? ⟨gb, k, none⟩ = some (.pointer (some ⟨p, 0, none⟩)) := hR.cell (by simp [hp, ptrV])
  obtain ⟨bx, yb, m, vs, lg, hP, _, hY, _⟩ := hprs k p hp
  have lp := hP.lt
  have p1 := hP.cell (j := 1) rfl
  obtain ⟨_, _, _, _, _, _, _, hYb, _⟩ := hY
  have ly := hYb.lt
  have y8 := hYb.cell (j := 8) rfl
  simp only [List.getElem_toArray, List.getElem_cons_succ, List.getElem_cons_zero] at p1 y8
  clear hB hR hP hYb hprs hk
  -- the step's own block
  have a1 : Step (fun _ => False) w T (w.alloc (.cells (opCells kind qu nm bd n tr ms yes) 46)) (retag T w.heap.size .free) := step_new w T _ .free _
  have hO : Blk (w.alloc (.cells (opCells kind qu nm bd n tr ms yes) 46)) (retag T w.heap.size .free) .free w.heap.size (opCells kind qu nm bd n tr ms yes) 46 := (blk_new w T _ 46 .free)
  have l1 : wb < (w.alloc (.cells (opCells kind qu nm bd n tr ms yes) 46)).heap.size := by simp; omega
  have l2 : w.heap.size < (w.alloc (.cells (opCells kind qu nm bd n tr ms yes) 46)).heap.size := by simp
  go_enter Tryz.func16, Tryz.ntmps16
  go_wp2_with fail
  refine wp_region_over (by kernel_rfl) (by kernel_rfl) ?_
  repeat (go_big_quiet_step (fail))
  refine wpQuiet_nil ?_
  rintro _ ⟨x, rfl⟩
  have hb := over_below (w.alloc (.cells (opCells kind qu nm bd n tr ms yes) 46)) x
  generalize over (w.alloc (.cells (opCells kind qu nm bd n tr ms yes) 46)) x = w2 at *
  have f2 : Step (fun _ => False) w T w2 (retag T w.heap.size .free) := a1.trans (step_below _ _ hb)
  have hO2 := hO.step (step_below (fun _ => False) _ hb) (fun h => h)
  have b2 : Below w.heap.size w w2 := ((Below.refl _ _).alloc (Nat.le_refl _) _).trans (hb.mono (by simp))
  have j8 := (b2.cell (p := ⟨wb, 8, none⟩) l0).trans k8
  have j11 := (b2.cell (p := ⟨wb, 11, none⟩) l0).trans k11
  have jp := (b2.cell (p := ⟨gb, k, none⟩) lr).trans kp
  have jq := (b2.cell (p := ⟨p, 1, none⟩) lp).trans p1
  have jy := (b2.cell (p := ⟨yb, 8, none⟩) ly).trans y8
  have ml0 := Nat.lt_of_lt_of_le l0 b2.size
  have mlr := Nat.lt_of_lt_of_le lr b2.size
  have mlp := Nat.lt_of_lt_of_le lp b2.size
  have mly := Nat.lt_of_lt_of_le ly b2.size
  have mlo := hO2.lt
  have o0 := hO2.cell (j := 0) rfl
  have o1 := hO2.cell (j := 1) rfl
  simp only [List.getElem_toArray, List.getElem_cons_succ, List.getElem_cons_zero] at o0 o1
  clear k8 k11 kp p1 y8 l0 lr lp ly l1 l2 hb a1 hO
  go_wp2_with fail
  refine wp_region_over (by kernel_rfl) (by kernel_rfl) ?_
  repeat (go_big_quiet_step ((go_at_call 38; exact quiet_over hpick)))
  refine wpQuiet_nil ?_
  rintro _ ⟨x3, rfl⟩
  have hb3 := over_below w2 x3
  generalize over w2 x3 = w3 at *
  have hO3 := hO2.step (step_below (fun _ => False) _ hb3) (fun h => h)
  have f3 : Step (fun _ => False) w T w3 (retag T w.heap.size .free) := f2.trans (step_below _ _ hb3)
  have i11 := (hb3.cell (p := ⟨wb, 11, none⟩) ml0).trans j11
  have iq := (hb3.cell (p := ⟨p, 1, none⟩) mlp).trans jq
  have iy := (hb3.cell (p := ⟨yb, 8, none⟩) mly).trans jy
  have r0 := hO3.cell (j := 0) rfl
  have r1 := hO3.cell (j := 1) rfl
  have r2 := hO3.cell (j := 2) rfl
  have r3 := hO3.cell (j := 3) rfl
  have r4 := hO3.cell (j := 4) rfl
  have r5 := hO3.cell (j := 5) rfl
  have r6 := hO3.cell (j := 6) rfl
  have r7 := hO3.cell (j := 7) rfl
  simp only [List.getElem_toArray, List.getElem_cons_succ, List.getElem_cons_zero] at r0 r1 r2 r3 r4 r5 r6 r7
  have hw3 := hw0.step hX f3 (fun _ h => h)
  clear j8 j11 jp jq jy ml0 mlr mlp mly mlo o0 o1 hb3 hO2 hO3 f2 b2 hpick
  go_wp2_with fail
  refine (hcall w3 _ k p hp hw3).mono ?_
  rintro e w4 ⟨rfl, T4, q1, q1', hs4, hw4, g1, g2⟩
  obtain ⟨⟨vP4, vr4, vd4, hB4, hR4, _, _⟩, _⟩ := id hw4
  have s11 := hB4.cell (j := 11) rfl
  simp only [List.getElem_toArray, List.getElem_cons_succ, List.getElem_cons_zero] at s11
  clear i11 iq iy r0 r1 r2 r3 r4 r5 r6 r7 hcall hB4 hR4
  go_wp2
  go_ret
  exact ⟨rfl, T4, q1, q1', (f3.mono (fun _ h => h.elim)).trans hs4, hw4, g1, g2⟩

end Go.Proofs.YtockkceclkcgbaaGreatDoor

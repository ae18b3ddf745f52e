/- The contract of received: Receive of both queues; the list that came out is kept. -/
import Derived.Test.YtgcbooflhdjnhaaT23
import Derived.Test.YtgcbooflhdjnhaaT16
import Derived.Deep.RegionHeld3
namespace Go.Proofs.Ytgcbooflhdjnhaa
open Go.RowKit

attribute [local go_sem] over_cell

theorem recvOne_out (m : MQ) (start : Int) (st : RS) (n : Nat) (x : It) : (recvOne m start st n x).out.length ≤ st.out.length + 1 := by
  unfold recvOne
  cases passed m start n x
  · cases decide (m.c.d ≤ x.tries) <;> simp
  · simp
theorem recvStep_out (m : MQ) (start : Int) (fr : List Nat) (st : RS) (k : Nat) : (recvStep m start fr st k).out.length ≤ st.out.length + 1 := by
  unfold recvStep
  cases decide (k < m.bodies.length)
  · simp only [cond_false]
    cases fr[k - m.bodies.length]? with
    | none => simp
    | some n =>
      simp only
      cases st.items[n]? with
      | none => simp
      | some x => exact recvOne_out m start st n x
  · simp only [cond_true]
    cases st.items[k]? with
    | none => simp
    | some x =>
      simp only
      cases decide (x.tries = 0)
      · exact recvOne_out m start st k x
      · simp
theorem recvRun_out (m : MQ) (start : Int) (fr : List Nat) (n : Int) (hn : n ≤ 32) : ∀ (f k : Nat) (st : RS), st.out.length ≤ 32 → (recvRun m start fr n f k st).out.length ≤ 32
  | 0, _, _, h => h
  | f + 1, k, st, h => by
    unfold recvRun
    by_cases h1 : n ≤ st.out.length
    · simp only [h1, decide_true, cond_true]; exact h
    · simp only [h1, decide_false, cond_false]
      have := recvStep_out m start fr st k
      exact recvRun_out m start fr n hn f (k + 1) _ (by omega)
theorem recvL_len (m : MQ) (s : ByteArray) (n : Int) : (recvL m s n).length ≤ 32 := by
  unfold recvL
  cases m.at s with
  | none => simp
  | some k =>
    simp only
    cases m.groups[k]? with
    | none => simp
    | some g =>
      simp only
      cases hb : btw n 1 32
      · simp
      · exact recvRun_out m _ _ n (btw_true hb).2 _ _ _ (by simp)
theorem recvM_c (m : MQ) (s : ByteArray) (n : Int) : (recvM m s n).c = m.c := by
  unfold recvM
  cases m.at s with
  | none => rfl
  | some k =>
    simp only
    cases m.groups[k]? with
    | none => rfl
    | some g => simp only; cases btw n 1 32 <;> rfl

/-- what a step that asks may write -/
def AskS (i c q : Nat) (s : Tag) : Prop := ST i s ∨ KeepS c q s ∨ s = .scr ∨ s = .out

set_option maxRecDepth 100000 in
set_option maxHeartbeats 4000000 in
theorem received_any {X : World → (Nat → Tag) → Nat → Nat → MQ → Prop} {B Bm : Int} (hX : XC X Bm) (hle : B ≤ Bm) (i p wb : Nat) (cs : Array Value) (vd : Value) (q' : Nat) (kind qu : Int) (nm bd : ByteArray) (n tr ms : Int) (yes : Bool) (w : World) (T : Nat → Tag)
    (hp : PairT X B w T i p) (hW : Blk w T .world wb cs 50) (hc : cs[10]? = some vd) (hD : Bk w T 11 87 3 (fun q => patOf (markDV q)) vd q') (hq : q' ≤ 1000000000) :
    Calls Try.prog 71 #[.pointer (some ⟨wb, 0, none⟩), .pointer (some ⟨p, 0, none⟩), .agg (opCells kind qu nm bd n tr ms yes)] w fun e w' => e = .returned (.bool true) ∧
      ∃ T' vd', Step (AskS i 11 q') w T w' T' ∧ PairT X B w' T' i p ∧ Blk w' T' .world wb (cs.setIfInBounds 10 vd') 50 ∧ Bk w' T' 11 87 3 (fun q => patOf (markDV q)) vd' (q' + 1) := by
  obtain ⟨bx, yb, m, vs, lg, hB, hx, hy, hf⟩ := hp
  have hdl := hf.dead (by have := hy.small; simpa [MQ.rq] using this)
  have a1 : Step (fun _ => False) w T (w.alloc (.cells (opCells kind qu nm bd n tr ms yes) 61)).drew (retag T w.heap.size .free) := (step_new w T _ .free _).trans (step_below _ _ (Below.refl _ _).drew)
  have hO : Blk (w.alloc (.cells (opCells kind qu nm bd n tr ms yes) 61)).drew (retag T w.heap.size .free) .free w.heap.size (opCells kind qu nm bd n tr ms yes) 61 := (blk_new w T _ 61 .free)
  have l0 := hB.lt
  have c0 := hB.cell (j := 0) rfl
  simp only [List.getElem_toArray, List.getElem_cons_zero] at c0
  replace hB := hB.step a1 (fun h => h)
  replace hx := hX.step hx a1 (fun _ _ h => h)
  replace hy := hy.step a1 (fun _ _ h => h)
  replace hW := hW.step a1 (fun h => h)
  replace hD := hD.step a1 (fun h => h) (fun _ _ h => h)
  go_enter Try.func71, Try.ntmps71
  go_wp2_with fail
  have o2 := hO.cell (j := 2) rfl
  have o4 := hO.cell (j := 4) rfl
  simp only [List.getElem_toArray, List.getElem_cons_succ, List.getElem_cons_zero] at o2 o4
  go_region_held3 (fun w' => w'.cell? ⟨p, 0, none⟩ = some (.pointer (some ⟨bx, 0, none⟩)) ∧ w'.cell? ⟨w.heap.size, 2, none⟩ = some (.string nm) ∧ w'.cell? ⟨w.heap.size, 4, none⟩ = some (.int .i64 n)) (go_keep) (first | (go_at_call 78; refine (hX.recv i bx m nm n ⟨12, q', 0, 0⟩ _ _ hx (hf.mono hle)).mono ?_; rintro e w2 ⟨ao, cap, rfl, T2, hs2, hx2, hA2⟩; have k0 := (hB.step hs2 (by simp [XT])).cell (j := 0) rfl; have k2 := (hO.step hs2 (by simp [XT])).cell (j := 2) rfl; have k4 := (hO.step hs2 (by simp [XT])).cell (j := 4) rfl; simp only [List.getElem_toArray, List.getElem_cons_succ, List.getElem_cons_zero] at k0 k2 k4))
  all_goals
    have hB2 := hB.step hs2 (by simp [XT])
    have hO2 := hO.step hs2 (by simp [XT])
    have hy2 := hy.step hs2 (by simp [XT])
    have hW2 := hW.step hs2 (by simp [XT])
    have hD2 := hD.step hs2 (by simp [XT]) (fun _ _ => by simp [XT])
    have d1 := hB2.cell (j := 1) rfl
    have o2 := hO2.cell (j := 2) rfl
    have o4 := hO2.cell (j := 4) rfl
    simp only [List.getElem_toArray, List.getElem_cons_succ, List.getElem_cons_zero] at d1 o2 o4
    clear c0 hx hy hB hO hW hD k0 k2 k4
    go_wp2_with fail
    go_region_held3 (fun w' => w'.cell? ⟨p, 1, none⟩ = some (.pointer (some ⟨yb, 0, none⟩)) ∧ w'.cell? ⟨w.heap.size, 2, none⟩ = some (.string nm) ∧ w'.cell? ⟨w.heap.size, 4, none⟩ = some (.int .i64 n)) (go_keep) (first | (go_at_call 88; refine (yreceive_any i yb m nm n .out _ T2 ?_ hf.ok hdl (by decide)).mono ?_; (exact hy2.step (step_below (fun _ => False) T2 (Below.refl _ _).drew) (fun _ _ h => h)); rintro e w4 ⟨bo, bcap, rfl, T4, hs4, hy4, hA4⟩; have hs4' : Step (RecvS i .out) w2 T2 w4 T4 := (step_below _ T2 (Below.refl _ _).drew).trans hs4; have j0 := (hB2.step hs4' (by simp [RecvS])).cell (j := 1) rfl; have j2 := (hO2.step hs4' (by simp [RecvS])).cell (j := 2) rfl; have j4 := (hO2.step hs4' (by simp [RecvS])).cell (j := 4) rfl; simp only [List.getElem_toArray, List.getElem_cons_succ, List.getElem_cons_zero] at j0 j2 j4))
    all_goals
      have hA := hA2.step hs4' (by simp [RecvS])
      have hB4 := hB2.step hs4' (by simp [RecvS])
      have hx4 := hX.step hx2 hs4' (by
        rintro s h1 (⟨r, j, rfl⟩ | rfl | rfl)
        · exact absurd h1.1 (by simp)
        · exact absurd h1.1 (by simp)
        · exact absurd h1.1 (by simp))
      have hW4 := hW2.step hs4' (by simp [RecvS])
      have hD4 := hD2.step hs4' (by simp [RecvS]) (fun _ _ => by simp [RecvS])
      have hlen := recvL_len m nm n
      clear hs4 j0 j2 j4 hA2 hB2 hx2 hW2 hD2 hO2 hy2 d1 o2 o4
      go_wp2_with fail
      refine (sameD_any (recvL m nm n) _ _ T4 T4 _ _ _ hA hA4 (by omega)).mono ?_
      rintro e w5 ⟨rfl, hb5⟩
      have s5 := step_below (fun _ => False) T4 hb5
      go_wp2_with fail
      refine (keepD_any w5 T4 wb cs q' _ vd _ _ (hW4.step s5 (fun h => h)) hc (hD4.step s5 (fun h => h) (fun _ _ h => h)) (hA.step s5 (fun h => h)) (by omega) hq).mono ?_
      rintro e w6 ⟨rfl, T6, vd', hs6, hW6, hD6⟩
      go_wp2
      go_ret
      have s6 : Step (KeepS 11 q') w4 T4 w6 T6 := (step_below _ T4 hb5).trans hs6
      refine ⟨by first | rfl | simp, T6, vd', (a1.mono (fun _ h => h.elim)).trans (((hs2.mono (fun _ h => .inl (.inl h))).trans (hs4'.mono ?_)).trans (s6.mono (fun _ h => .inr (.inl h)))), ⟨bx, yb, recvM m nm n, vs, lg, ?_, hX.step hx4 s6 ?_, hy4.step s6 (by simp [KeepS]), fit_recv hf nm n⟩, hW6, hD6⟩
      · rintro s (h | rfl | rfl)
        · exact .inl (.inr h)
        · exact .inr (.inr (.inr rfl))
        · exact .inr (.inr (.inl rfl))
      · rw [recvM_c]
        exact hB4.step s6 (by simp [KeepS])
      · rintro s h1 (rfl | rfl | rfl)
        · exact absurd h1.1 (by simp)
        · exact absurd h1.1 (by simp)
        · exact absurd h1.1 (by simp)

end Go.Proofs.Ytgcbooflhdjnhaa

/- The contract of call at Receive, over any queue that keeps the contracts. -/
namespace Go.Proofs.Ytgcbooflhdjnhaa
open Go.RowKit

attribute [local go_sem] over_cell

set_option maxRecDepth 100000 in
set_option maxHeartbeats 4000000 in
theorem callT_recv {X : World → (Nat → Tag) → Nat → Nat → MQ → Prop} {B Bm : Int} (hX : XC X Bm) (hle : B ≤ Bm) (i p wb : Nat) (cs : Array Value) (vd : Value) (q' : Nat) (qu : Int) (nm bd : ByteArray) (n tr ms : Int) (yes : Bool) (w : World) (T : Nat → Tag)
    (hp : PairT X B w T i p) (hW : Blk w T .world wb cs 50) (hc : cs[10]? = some vd) (hD : Bk w T 11 87 3 (fun q => patOf (markDV q)) vd q') (hq : q' ≤ 1000000000) :
    Calls Try.prog 45 #[.pointer (some ⟨wb, 0, none⟩), .pointer (some ⟨p, 0, none⟩), .agg (opCells 4 qu nm bd n tr ms yes)] w fun e w' => e = .returned (.bool true) ∧
      ∃ T' vd', Step (AskS i 11 q') w T w' T' ∧ PairT X B w' T' i p ∧ Blk w' T' .world wb (cs.setIfInBounds 10 vd') 50 ∧ Bk w' T' 11 87 3 (fun q => patOf (markDV q)) vd' (q' + 1) := by
  have a1 : Step (fun _ => False) w T (w.alloc (.cells (opCells 4 qu nm bd n tr ms yes) 61)) (retag T w.heap.size .free) := step_new w T _ .free _
  have hO : Blk (w.alloc (.cells (opCells 4 qu nm bd n tr ms yes) 61)) (retag T w.heap.size .free) .free w.heap.size (opCells 4 qu nm bd n tr ms yes) 61 := blk_new w T _ 61 .free
  have o0 := hO.cell (j := 0) rfl
  have o2 := hO.cell (j := 2) rfl
  simp only [List.getElem_toArray, List.getElem_cons_succ, List.getElem_cons_zero] at o0 o2
  replace hp := hp.step hX a1 (fun h => h) (fun _ _ h => h) (fun _ _ h => h)
  replace hW := hW.step a1 (fun h => h)
  replace hD := hD.step a1 (fun h => h) (fun _ _ h => h)
  go_enter Try.func45, Try.ntmps45
  go_wp2_with fail
  refine (received_any hX hle i p wb cs vd q' 4 qu nm bd n tr ms yes _ _ hp hW hc hD hq).mono ?_
  rintro e w2 ⟨rfl, T2, vd', hs2, hp2, hW2, hD2⟩
  go_wp2
  go_ret
  exact ⟨rfl, T2, vd', (a1.mono (fun _ h => h.elim)).trans hs2, hp2, hW2, hD2⟩

end Go.Proofs.Ytgcbooflhdjnhaa

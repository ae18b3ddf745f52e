/- The contract of told at Done: both queues tell the same; the lists that came out are kept. -/
import Derived.Test.YtockkceclkcgbaaGreatDoorT09
import Derived.Deep.RegionHeld3
namespace Go.Proofs.YtockkceclkcgbaaGreatDoor
open Go.RowKit

attribute [local go_sem] over_cell

/-- the tag of a list that the document's queue hands out -/
abbrev Tag.out : Tag := ⟨13, 0, 0, 0⟩
theorem doneL_len (m : MQ) (s : ByteArray) (hok : m.Ok) (hn : m.bodies.length ≤ 400) : (doneL m s).length ≤ 400 := by
  unfold doneL
  cases ha : m.at s with
  | none => simp
  | some k =>
    simp only
    cases hg : m.groups[k]? with
    | none => simp
    | some g =>
      simp only
      have := hok.len g (List.mem_of_getElem? hg)
      exact Nat.le_trans (doneTo_len _ _) (by omega)

/-- what Done or Dead of both queues may write -/
def ToldS (i c q : Nat) (s : Tag) : Prop := ST i s ∨ KeepS c q s ∨ KeepS c (q + 1) s ∨ s = .out

/-- The pair of number i, the document's queue told. -/
def PairM (X : World → (Nat → Tag) → Nat → Nat → MQ → Prop) (B : Int) (m : MQ) (w : World) (T : Nat → Tag) (i p : Nat) : Prop :=
  ∃ (bx yb : Nat) (vs : Value) (lg : ByteArray), Blk w T (.pair i) p #[.pointer (some ⟨bx, 0, none⟩), .pointer (some ⟨yb, 0, none⟩), .int .i64 m.c.l, .int .i64 m.c.d, .int .i64 m.c.s, .int .i64 m.c.k, vs, .string lg] 41 ∧
    X w T i bx m ∧ YQ w T i yb m.rq ∧ m.Fit B
theorem pairM_of {X : World → (Nat → Tag) → Nat → Nat → MQ → Prop} {B : Int} {w : World} {T : Nat → Tag} {i p : Nat} (h : PairT X B w T i p) : ∃ m, PairM X B m w T i p := by
  obtain ⟨bx, yb, m, vs, lg, h⟩ := h
  exact ⟨m, bx, yb, vs, lg, h⟩
theorem PairM.pair {X : World → (Nat → Tag) → Nat → Nat → MQ → Prop} {B : Int} {m : MQ} {w : World} {T : Nat → Tag} {i p : Nat} (h : PairM X B m w T i p) : PairT X B w T i p := by
  obtain ⟨bx, yb, vs, lg, h⟩ := h
  exact ⟨bx, yb, m, vs, lg, h⟩

set_option maxRecDepth 100000 in
set_option maxHeartbeats 4000000 in
theorem told_doneM {X : World → (Nat → Tag) → Nat → Nat → MQ → Prop} {B Bm : Int} (hX : XC X Bm) (hle : B ≤ Bm) (i p wb : Nat) (cs : Array Value) (vr : Value) (q : Nat) (s : ByteArray) (m : MQ) (w : World) (T : Nat → Tag)
    (hp : PairM X B m w T i p) (hW : Blk w T .world wb cs 33) (hc : cs[9]? = some vr) (hR : Bk w T 9 74 2 (fun q => patOf (markRV q)) vr q) (hq : q ≤ 900000000) :
    Calls Tryz.prog 17 #[.pointer (some ⟨wb, 0, none⟩), .pointer (some ⟨p, 0, none⟩), .int .i64 9, .string s] w fun e w' => e = .returned (.bool true) ∧
      ∃ T' vr', Step (ToldS i 9 q) w T w' T' ∧ PairM X B m w' T' i p ∧ Blk w' T' .world wb (cs.setIfInBounds 9 vr') 33 ∧ Bk w' T' 9 74 2 (fun q => patOf (markRV q)) vr' (q + 2) := by
  obtain ⟨bx, yb, vs, lg, hB, hx, hy, hf⟩ := hp
  have hn4 : m.bodies.length ≤ 400 := by have := hy.small; simpa [MQ.rq] using this
  have hlen := doneL_len m s hf.ok hn4
  have l0 := hB.lt
  have c0 := hB.cell (j := 0) rfl
  simp only [List.getElem_toArray, List.getElem_cons_zero] at c0
  go_enter Tryz.func17, Tryz.ntmps17
  go_wp2_with fail
  refine (hX.done i bx m s ⟨10, q, 0, 0⟩ _ _ hx (hf.mono hle)).mono ?_
  rintro e w1 ⟨ao, ac, rfl, T1, hs1, hx1, hA1⟩
  replace hB := hB.step hs1 (by simp [XT])
  replace hy := hy.step hs1 (by simp [XT])
  replace hW := hW.step hs1 (by simp [XT])
  replace hR := hR.step hs1 (by simp [XT]) (fun _ _ => by simp [XT])
  have l1 := hB.lt
  have c1 := hB.cell (j := 0) rfl
  simp only [List.getElem_toArray, List.getElem_cons_zero] at c1
  clear c0 l0 hx
  go_wp2_with fail
  refine (hX.done i bx m s ⟨10, q + 1, 0, 0⟩ _ _ hx1 (hf.mono hle)).mono ?_
  rintro e w2 ⟨co, cc, rfl, T2, hs2, hx2, hC2⟩
  replace hB := hB.step hs2 (by simp [XT])
  replace hy := hy.step hs2 (by simp [XT])
  replace hW := hW.step hs2 (by simp [XT])
  replace hR := hR.step hs2 (by simp [XT]) (fun _ _ => by simp [XT])
  replace hA1 := hA1.step hs2 (by simp [XT])
  have l2 := hB.lt
  have c2 := hB.cell (j := 1) rfl
  simp only [List.getElem_toArray, List.getElem_cons_succ, List.getElem_cons_zero] at c2
  clear c1 l1 hx1
  go_wp2_with fail
  refine (ydone_any i yb m s _ T2 hy hf.ok).mono ?_
  rintro e w3 ⟨bo, bc, rfl, hb3, hO3⟩
  obtain ⟨T3, hs3, hb⟩ := own_row hb3 hO3 T2 .out
  replace hB := hB.step hs3 (fun h => h)
  replace hy := hy.step hs3 (fun _ _ h => h)
  replace hW := hW.step hs3 (fun h => h)
  replace hR := hR.step hs3 (fun h => h) (fun _ _ h => h)
  replace hA1 := hA1.step hs3 (fun h => h)
  replace hC2 := hC2.step hs3 (fun h => h)
  replace hx2 := hX.step hx2 hs3 (fun _ _ h => h)
  clear c2 l2 hO3 hb3
  go_wp2_with fail
  refine (sameR_any (doneL m s) _ _ T3 T3 _ _ _ hA1 hb (by omega)).mono ?_
  rintro e w4 ⟨rfl, hb4⟩
  have s4 := step_below (fun _ => False) T3 hb4
  replace hB := hB.step s4 (fun h => h)
  replace hy := hy.step s4 (fun _ _ h => h)
  replace hW := hW.step s4 (fun h => h)
  replace hR := hR.step s4 (fun h => h) (fun _ _ h => h)
  replace hA1 := hA1.step s4 (fun h => h)
  replace hC2 := hC2.step s4 (fun h => h)
  replace hb := hb.step s4 (fun h => h)
  replace hx2 := hX.step hx2 s4 (fun _ _ h => h)
  go_wp2_with fail
  refine (sameR_any (doneL m s) _ _ T3 T3 _ _ _ hC2 hb (by omega)).mono ?_
  rintro e w5 ⟨rfl, hb5⟩
  have s5 := step_below (fun _ => False) T3 hb5
  replace hB := hB.step s5 (fun h => h)
  replace hy := hy.step s5 (fun _ _ h => h)
  replace hW := hW.step s5 (fun h => h)
  replace hR := hR.step s5 (fun h => h) (fun _ _ h => h)
  replace hA1 := hA1.step s5 (fun h => h)
  replace hC2 := hC2.step s5 (fun h => h)
  replace hx2 := hX.step hx2 s5 (fun _ _ h => h)
  go_wp2_with fail
  refine (keepR_any w5 T3 wb cs q _ vr _ _ hW hc hR hA1 (by omega) (by omega)).mono ?_
  rintro e w6 ⟨rfl, T6, v6, hs6, hW6, hR6⟩
  have nx : ∀ q : Nat, ∀ t, XT i t → ¬ KeepS 9 q t := by
    rintro q t h1 (rfl | rfl | rfl)
    · exact absurd h1.1 (by simp)
    · exact absurd h1.1 (by simp)
    · exact absurd h1.1 (by simp)
  replace hB := hB.step hs6 (by simp [KeepS])
  replace hy := hy.step hs6 (by simp [KeepS])
  replace hC2 := hC2.step hs6 (by simp [KeepS])
  replace hx2 := hX.step hx2 hs6 (nx q)
  have hsz : 9 < cs.size := (Array.getElem?_eq_some_iff.1 hc).1
  go_wp2_with fail
  refine (keepR_any w6 T6 wb (cs.setIfInBounds 9 v6) (q + 1) _ v6 _ _ hW6 (by rw [Array.getElem?_setIfInBounds_self_of_lt hsz]) hR6 hC2 (by omega) (by omega)).mono ?_
  rintro e w7 ⟨rfl, T7, v7, hs7, hW7, hR7⟩
  go_wp2
  go_ret
  rw [Array.setIfInBounds_setIfInBounds] at hW7
  have h13 : Step (ToldS i 9 q) w T w3 T3 := ((hs1.mono (fun _ h => .inl (.inl h))).trans (hs2.mono (fun _ h => .inl (.inl h)))).trans (hs3.mono (fun _ h => h.elim))
  have h57 : Step (ToldS i 9 q) w5 T3 w7 T7 := (hs6.mono (fun _ h => .inr (.inl h))).trans (hs7.mono (fun _ h => .inr (.inr (.inl h))))
  exact ⟨by first | rfl | simp, T7, v7, (h13.trans ((s4.trans s5).mono (fun _ h => h.elim))).trans h57, ⟨bx, yb, vs, lg, hB.step hs7 (by simp [KeepS]), hX.step hx2 hs7 (nx (q + 1)), hy.step hs7 (by simp [KeepS]), hf⟩, hW7, hR7⟩

theorem told_done {X : World → (Nat → Tag) → Nat → Nat → MQ → Prop} {B Bm : Int} (hX : XC X Bm) (hle : B ≤ Bm) (i p wb : Nat) (cs : Array Value) (vr : Value) (q : Nat) (s : ByteArray) (w : World) (T : Nat → Tag)
    (hp : PairT X B w T i p) (hW : Blk w T .world wb cs 33) (hc : cs[9]? = some vr) (hR : Bk w T 9 74 2 (fun q => patOf (markRV q)) vr q) (hq : q ≤ 900000000) :
    Calls Tryz.prog 17 #[.pointer (some ⟨wb, 0, none⟩), .pointer (some ⟨p, 0, none⟩), .int .i64 9, .string s] w fun e w' => e = .returned (.bool true) ∧
      ∃ T' vr', Step (ToldS i 9 q) w T w' T' ∧ PairT X B w' T' i p ∧ Blk w' T' .world wb (cs.setIfInBounds 9 vr') 33 ∧ Bk w' T' 9 74 2 (fun q => patOf (markRV q)) vr' (q + 2) := by
  obtain ⟨m, hm⟩ := pairM_of hp
  refine (told_doneM hX hle i p wb cs vr q s m w T hm hW hc hR hq).mono ?_
  rintro e w' ⟨rfl, T', vr', h1, h2, h3, h4⟩
  exact ⟨rfl, T', vr', h1, h2.pair, h3, h4⟩

end Go.Proofs.YtockkceclkcgbaaGreatDoor

/- The contract of told at Dead: both queues tell the same; the lists that came out are kept. -/
namespace Go.Proofs.YtockkceclkcgbaaGreatDoor
open Go.RowKit

attribute [local go_sem] over_cell

theorem deadL_len (m : MQ) (s : ByteArray) {B : Int} (hf : m.Fit B) (hn : m.bodies.length ≤ 400) : (deadL m s).length ≤ 4000 := by
  unfold deadL
  cases ha : m.at s with
  | none => simp
  | some k =>
    simp only
    cases hg : m.groups[k]? with
    | none => simp
    | some g =>
      simp only
      have := hf.dead hn g (List.mem_of_getElem? hg)
      simpa using this

set_option maxRecDepth 100000 in
set_option maxHeartbeats 4000000 in
theorem told_dead {X : World → (Nat → Tag) → Nat → Nat → MQ → Prop} {B Bm : Int} (hX : XC X Bm) (hle : B ≤ Bm) (i p wb : Nat) (cs : Array Value) (vr : Value) (q : Nat) (s : ByteArray) (w : World) (T : Nat → Tag)
    (hp : PairT X B w T i p) (hW : Blk w T .world wb cs 33) (hc : cs[10]? = some vr) (hR : Bk w T 11 77 3 (fun q => patOf (markDV q)) vr q) (hq : q ≤ 900000000) :
    Calls Tryz.prog 17 #[.pointer (some ⟨wb, 0, none⟩), .pointer (some ⟨p, 0, none⟩), .int .i64 10, .string s] w fun e w' => e = .returned (.bool true) ∧
      ∃ T' vr', Step (ToldS i 11 q) w T w' T' ∧ PairT X B w' T' i p ∧ Blk w' T' .world wb (cs.setIfInBounds 10 vr') 33 ∧ Bk w' T' 11 77 3 (fun q => patOf (markDV q)) vr' (q + 2) := by
  obtain ⟨bx, yb, m, vs, lg, hB, hx, hy, hf⟩ := hp
  have hn4 : m.bodies.length ≤ 400 := by have := hy.small; simpa [MQ.rq] using this
  have hlen := deadL_len m s hf hn4
  have l0 := hB.lt
  have c0 := hB.cell (j := 0) rfl
  simp only [List.getElem_toArray, List.getElem_cons_zero] at c0
  go_enter Tryz.func17, Tryz.ntmps17
  go_wp2_with fail
  refine (hX.dead i bx m s ⟨12, q, 0, 0⟩ _ _ hx (hf.mono hle)).mono ?_
  rintro e w1 ⟨ao, ac, rfl, T1, hs1, hx1, hA1⟩
  replace hB := hB.step hs1 (by simp [XT])
  replace hy := hy.step hs1 (by simp [XT])
  replace hW := hW.step hs1 (by simp [XT])
  replace hR := hR.step hs1 (by simp [XT]) (fun _ _ => by simp [XT])
  have l1 := hB.lt
  have c1 := hB.cell (j := 0) rfl
  simp only [List.getElem_toArray, List.getElem_cons_zero] at c1
  clear c0 l0 hx
  go_wp2_with fail
  refine (hX.dead i bx m s ⟨12, q + 1, 0, 0⟩ _ _ hx1 (hf.mono hle)).mono ?_
  rintro e w2 ⟨co, cc, rfl, T2, hs2, hx2, hC2⟩
  replace hB := hB.step hs2 (by simp [XT])
  replace hy := hy.step hs2 (by simp [XT])
  replace hW := hW.step hs2 (by simp [XT])
  replace hR := hR.step hs2 (by simp [XT]) (fun _ _ => by simp [XT])
  replace hA1 := hA1.step hs2 (by simp [XT])
  have l2 := hB.lt
  have c2 := hB.cell (j := 1) rfl
  simp only [List.getElem_toArray, List.getElem_cons_succ, List.getElem_cons_zero] at c2
  clear c1 l1 hx1
  go_wp2_with fail
  refine (ydead_any i yb m s _ T2 hy hf.ok (hf.dead hn4)).mono ?_
  rintro e w3 ⟨bo, bc, rfl, hb3, hO3⟩
  obtain ⟨T3, hs3, hb⟩ := own_row hb3 hO3 T2 .out
  replace hB := hB.step hs3 (fun h => h)
  replace hy := hy.step hs3 (fun _ _ h => h)
  replace hW := hW.step hs3 (fun h => h)
  replace hR := hR.step hs3 (fun h => h) (fun _ _ h => h)
  replace hA1 := hA1.step hs3 (fun h => h)
  replace hC2 := hC2.step hs3 (fun h => h)
  replace hx2 := hX.step hx2 hs3 (fun _ _ h => h)
  clear c2 l2 hO3 hb3
  go_wp2_with fail
  refine (sameD_any (deadL m s) _ _ T3 T3 _ _ _ hA1 hb (by omega)).mono ?_
  rintro e w4 ⟨rfl, hb4⟩
  have s4 := step_below (fun _ => False) T3 hb4
  replace hB := hB.step s4 (fun h => h)
  replace hy := hy.step s4 (fun _ _ h => h)
  replace hW := hW.step s4 (fun h => h)
  replace hR := hR.step s4 (fun h => h) (fun _ _ h => h)
  replace hA1 := hA1.step s4 (fun h => h)
  replace hC2 := hC2.step s4 (fun h => h)
  replace hb := hb.step s4 (fun h => h)
  replace hx2 := hX.step hx2 s4 (fun _ _ h => h)
  go_wp2_with fail
  refine (sameD_any (deadL m s) _ _ T3 T3 _ _ _ hC2 hb (by omega)).mono ?_
  rintro e w5 ⟨rfl, hb5⟩
  have s5 := step_below (fun _ => False) T3 hb5
  replace hB := hB.step s5 (fun h => h)
  replace hy := hy.step s5 (fun _ _ h => h)
  replace hW := hW.step s5 (fun h => h)
  replace hR := hR.step s5 (fun h => h) (fun _ _ h => h)
  replace hA1 := hA1.step s5 (fun h => h)
  replace hC2 := hC2.step s5 (fun h => h)
  replace hx2 := hX.step hx2 s5 (fun _ _ h => h)
  go_wp2_with fail
  refine (keepD_any w5 T3 wb cs q _ vr _ _ hW hc hR hA1 (by omega) (by omega)).mono ?_
  rintro e w6 ⟨rfl, T6, v6, hs6, hW6, hR6⟩
  have nx : ∀ q : Nat, ∀ t, XT i t → ¬ KeepS 11 q t := by
    rintro q t h1 (rfl | rfl | rfl)
    · exact absurd h1.1 (by simp)
    · exact absurd h1.1 (by simp)
    · exact absurd h1.1 (by simp)
  replace hB := hB.step hs6 (by simp [KeepS])
  replace hy := hy.step hs6 (by simp [KeepS])
  replace hC2 := hC2.step hs6 (by simp [KeepS])
  replace hx2 := hX.step hx2 hs6 (nx q)
  have hsz : 10 < cs.size := (Array.getElem?_eq_some_iff.1 hc).1
  go_wp2_with fail
  refine (keepD_any w6 T6 wb (cs.setIfInBounds 10 v6) (q + 1) _ v6 _ _ hW6 (by rw [Array.getElem?_setIfInBounds_self_of_lt hsz]) hR6 hC2 (by omega) (by omega)).mono ?_
  rintro e w7 ⟨rfl, T7, v7, hs7, hW7, hR7⟩
  go_wp2
  go_ret
  rw [Array.setIfInBounds_setIfInBounds] at hW7
  have h13 : Step (ToldS i 11 q) w T w3 T3 := ((hs1.mono (fun _ h => .inl (.inl h))).trans (hs2.mono (fun _ h => .inl (.inl h)))).trans (hs3.mono (fun _ h => h.elim))
  have h57 : Step (ToldS i 11 q) w5 T3 w7 T7 := (hs6.mono (fun _ h => .inr (.inl h))).trans (hs7.mono (fun _ h => .inr (.inr (.inl h))))
  exact ⟨by first | rfl | simp, T7, v7, (h13.trans ((s4.trans s5).mono (fun _ h => h.elim))).trans h57, ⟨bx, yb, m, vs, lg, hB.step hs7 (by simp [KeepS]), hX.step hx2 hs7 (nx (q + 1)), hy.step hs7 (by simp [KeepS]), hf⟩, hW7, hR7⟩

end Go.Proofs.YtockkceclkcgbaaGreatDoor

/- The contract of told at Span, over any queue that keeps the contracts. -/
namespace Go.Proofs.YtockkceclkcgbaaGreatDoor
open Go.RowKit

attribute [local go_sem] over_cell

set_option maxRecDepth 100000 in
set_option maxHeartbeats 4000000 in
theorem told_spanT {X : World → (Nat → Tag) → Nat → Nat → MQ → Prop} {B Bm : Int} (hX : XC X Bm) (hle : B ≤ Bm) (i p : Nat) (v : Value) (s : ByteArray) (w : World) (T : Nat → Tag) (hp : PairT X B w T i p) :
    Calls Tryz.prog 17 #[v, .pointer (some ⟨p, 0, none⟩), .int .i64 11, .string s] w fun e w' => e = .returned (.bool true) ∧ ∃ T', Step (XT i) w T w' T' ∧ PairT X B w' T' i p := by
  obtain ⟨bx, yb, m, vs, lg, hB, hx, hy, hf⟩ := hp
  have l1 := hB.lt
  have c0 := hB.cell (j := 0) rfl
  simp only [List.getElem_toArray, List.getElem_cons_zero] at c0
  go_enter Tryz.func17, Tryz.ntmps17
  go_wp2_with fail
  refine (hX.span i bx m _ _ hx (hf.mono hle)).mono ?_
  rintro e w1 ⟨rfl, T1, hs1, hx1⟩
  replace hB := hB.step hs1 (by simp [XT])
  replace hy := hy.step hs1 (by simp [XT])
  have hy0 := hy
  obtain ⟨hsm, _, _, vB, vG, vi, vd, hY, hR, _⟩ := hy
  obtain ⟨bo, bc, rfl⟩ := row_form hR
  have hbl : m.rq.bodies.length = m.bodies.length := by simp [MQ.rq]
  have e1 := hB.cell (j := 1) rfl
  have e4 := hY.cell (j := 4) rfl
  have e5 := hY.cell (j := 5) rfl
  simp only [List.getElem_toArray, List.getElem_cons_succ, List.getElem_cons_zero] at e1 e4 e5
  rw [hbl] at e4
  have e5' : w1.cell? ⟨yb, 5, none⟩ = some (.int .i64 m.floor) := e5
  have m1 := hB.lt
  have m2 := hY.lt
  clear c0 hY hR hx e5
  go_wp2_with fail
  refine wp_region_over (by kernel_rfl) (by kernel_rfl) ?_
  repeat (go_big_quiet_step (fail))
  refine wpQuiet_nil ?_
  rintro _ ⟨x, rfl⟩
  go_wp2
  go_ret
  have hb2 := ((Below.refl w1.heap.size w1).alloc (Nat.le_refl _) (.cells #[.int .i64 m.floor, .int .i64 m.bodies.length] 69)).trans ((over_below _ x).mono (by simp))
  have s2 := step_below (fun _ => False) T1 hb2
  exact ⟨by first | rfl | simp, T1, hs1.trans (s2.mono (fun _ h => h.elim)), bx, yb, m, vs, lg, hB.step s2 (fun h => h), hX.step hx1 s2 (fun _ _ h => h), hy0.step s2 (fun _ _ h => h), hf⟩

end Go.Proofs.YtockkceclkcgbaaGreatDoor

/- The contract of call at Receive, Done, Dead, Span and the leases' calls, over any queue that keeps the contracts. -/
namespace Go.Proofs.YtockkceclkcgbaaGreatDoor
open Go.RowKit

attribute [local go_sem] over_cell

set_option maxRecDepth 100000 in
set_option maxHeartbeats 4000000 in
theorem callT_done {X : World → (Nat → Tag) → Nat → Nat → MQ → Prop} {B Bm : Int} (hX : XC X Bm) (hle : B ≤ Bm) (i p wb : Nat) (cs : Array Value) (vr : Value) (q : Nat) (qu : Int) (nm bd : ByteArray) (n tr ms : Int) (yes : Bool) (w : World) (T : Nat → Tag)
    (hp : PairT X B w T i p) (hW : Blk w T .world wb cs 33) (hc : cs[9]? = some vr) (hR : Bk w T 9 74 2 (fun q => patOf (markRV q)) vr q) (hq : q ≤ 900000000) :
    Calls Tryz.prog 45 #[.pointer (some ⟨wb, 0, none⟩), .pointer (some ⟨p, 0, none⟩), .agg (opCells 9 qu nm bd n tr ms yes)] w fun e w' => e = .returned (.bool true) ∧
      ∃ T' vr', Step (ToldS i 9 q) w T w' T' ∧ PairT X B w' T' i p ∧ Blk w' T' .world wb (cs.setIfInBounds 9 vr') 33 ∧ Bk w' T' 9 74 2 (fun q => patOf (markRV q)) vr' (q + 2) := by
  have a1 : Step (fun _ => False) w T (w.alloc (.cells (opCells 9 qu nm bd n tr ms yes) 46)) (retag T w.heap.size .free) := step_new w T _ .free _
  have hO : Blk (w.alloc (.cells (opCells 9 qu nm bd n tr ms yes) 46)) (retag T w.heap.size .free) .free w.heap.size (opCells 9 qu nm bd n tr ms yes) 46 := blk_new w T _ 46 .free
  have o0 := hO.cell (j := 0) rfl
  have o2 := hO.cell (j := 2) rfl
  simp only [List.getElem_toArray, List.getElem_cons_succ, List.getElem_cons_zero] at o0 o2
  replace hp := hp.step hX a1 (fun h => h) (fun _ _ h => h) (fun _ _ h => h)
  replace hW := hW.step a1 (fun h => h)
  replace hR := hR.step a1 (fun h => h) (fun _ _ h => h)
  go_enter Tryz.func45, Tryz.ntmps45
  go_wp2_with fail
  refine (told_done hX hle i p wb cs vr q nm _ _ hp hW hc hR hq).mono ?_
  rintro e w2 ⟨rfl, T2, vr', hs2, hp2, hW2, hR2⟩
  go_wp2
  go_ret
  exact ⟨rfl, T2, vr', (a1.mono (fun _ h => h.elim)).trans hs2, hp2, hW2, hR2⟩

set_option maxRecDepth 100000 in
set_option maxHeartbeats 4000000 in
theorem callT_dead {X : World → (Nat → Tag) → Nat → Nat → MQ → Prop} {B Bm : Int} (hX : XC X Bm) (hle : B ≤ Bm) (i p wb : Nat) (cs : Array Value) (vr : Value) (q : Nat) (qu : Int) (nm bd : ByteArray) (n tr ms : Int) (yes : Bool) (w : World) (T : Nat → Tag)
    (hp : PairT X B w T i p) (hW : Blk w T .world wb cs 33) (hc : cs[10]? = some vr) (hR : Bk w T 11 77 3 (fun q => patOf (markDV q)) vr q) (hq : q ≤ 900000000) :
    Calls Tryz.prog 45 #[.pointer (some ⟨wb, 0, none⟩), .pointer (some ⟨p, 0, none⟩), .agg (opCells 10 qu nm bd n tr ms yes)] w fun e w' => e = .returned (.bool true) ∧
      ∃ T' vr', Step (ToldS i 11 q) w T w' T' ∧ PairT X B w' T' i p ∧ Blk w' T' .world wb (cs.setIfInBounds 10 vr') 33 ∧ Bk w' T' 11 77 3 (fun q => patOf (markDV q)) vr' (q + 2) := by
  have a1 : Step (fun _ => False) w T (w.alloc (.cells (opCells 10 qu nm bd n tr ms yes) 46)) (retag T w.heap.size .free) := step_new w T _ .free _
  have hO : Blk (w.alloc (.cells (opCells 10 qu nm bd n tr ms yes) 46)) (retag T w.heap.size .free) .free w.heap.size (opCells 10 qu nm bd n tr ms yes) 46 := blk_new w T _ 46 .free
  have o0 := hO.cell (j := 0) rfl
  have o2 := hO.cell (j := 2) rfl
  simp only [List.getElem_toArray, List.getElem_cons_succ, List.getElem_cons_zero] at o0 o2
  replace hp := hp.step hX a1 (fun h => h) (fun _ _ h => h) (fun _ _ h => h)
  replace hW := hW.step a1 (fun h => h)
  replace hR := hR.step a1 (fun h => h) (fun _ _ h => h)
  go_enter Tryz.func45, Tryz.ntmps45
  go_wp2_with fail
  refine (told_dead hX hle i p wb cs vr q nm _ _ hp hW hc hR hq).mono ?_
  rintro e w2 ⟨rfl, T2, vr', hs2, hp2, hW2, hR2⟩
  go_wp2
  go_ret
  exact ⟨rfl, T2, vr', (a1.mono (fun _ h => h.elim)).trans hs2, hp2, hW2, hR2⟩

set_option maxRecDepth 100000 in
set_option maxHeartbeats 4000000 in
theorem callT_span {X : World → (Nat → Tag) → Nat → Nat → MQ → Prop} {B Bm : Int} (hX : XC X Bm) (hle : B ≤ Bm) (i p wb : Nat) (qu : Int) (nm bd : ByteArray) (n tr ms : Int) (yes : Bool) (w : World) (T : Nat → Tag) (hp : PairT X B w T i p) :
    Calls Tryz.prog 45 #[.pointer (some ⟨wb, 0, none⟩), .pointer (some ⟨p, 0, none⟩), .agg (opCells 11 qu nm bd n tr ms yes)] w fun e w' => e = .returned (.bool true) ∧ ∃ T', Step (XT i) w T w' T' ∧ PairT X B w' T' i p := by
  have a1 : Step (fun _ => False) w T (w.alloc (.cells (opCells 11 qu nm bd n tr ms yes) 46)) (retag T w.heap.size .free) := step_new w T _ .free _
  have hO : Blk (w.alloc (.cells (opCells 11 qu nm bd n tr ms yes) 46)) (retag T w.heap.size .free) .free w.heap.size (opCells 11 qu nm bd n tr ms yes) 46 := blk_new w T _ 46 .free
  have o0 := hO.cell (j := 0) rfl
  have o2 := hO.cell (j := 2) rfl
  simp only [List.getElem_toArray, List.getElem_cons_succ, List.getElem_cons_zero] at o0 o2
  replace hp := hp.step hX a1 (fun h => h) (fun _ _ h => h) (fun _ _ h => h)
  go_enter Tryz.func45, Tryz.ntmps45
  go_wp2_with fail
  refine (told_spanT hX hle i p _ nm _ _ hp).mono ?_
  rintro e w2 ⟨rfl, T2, hs2, hp2⟩
  go_wp2
  go_ret
  exact ⟨rfl, T2, (a1.mono (fun _ h => h.elim)).trans hs2, hp2⟩

set_option maxRecDepth 100000 in
set_option maxHeartbeats 4000000 in
theorem callT_leases {X : World → (Nat → Tag) → Nat → Nat → MQ → Prop} {B B' Bm : Int} (hX : XC X Bm) (i p wb : Nat) (kind : Int) (hk : kind = 5 ∨ kind = 6 ∨ kind = 7 ∨ kind = 8) (qu : Int) (nm bd : ByteArray) (n tr ms : Int) (yes : Bool) (w : World) (T : Nat → Tag) (hp : PairT X B w T i p)
    (hL : ∀ (w : World) (T : Nat → Tag), PairT X B w T i p → Calls Tryz.prog 84 #[.pointer (some ⟨p, 0, none⟩), .agg (opCells kind qu nm bd n tr ms yes)] w fun e w' => e = .returned (.bool true) ∧ ∃ T', Step (ST i) w T w' T' ∧ PairT X B' w' T' i p) :
    Calls Tryz.prog 45 #[.pointer (some ⟨wb, 0, none⟩), .pointer (some ⟨p, 0, none⟩), .agg (opCells kind qu nm bd n tr ms yes)] w fun e w' => e = .returned (.bool true) ∧ ∃ T', Step (ST i) w T w' T' ∧ PairT X B' w' T' i p := by
  have a1 : Step (fun _ => False) w T (w.alloc (.cells (opCells kind qu nm bd n tr ms yes) 46)) (retag T w.heap.size .free) := step_new w T _ .free _
  have hO : Blk (w.alloc (.cells (opCells kind qu nm bd n tr ms yes) 46)) (retag T w.heap.size .free) .free w.heap.size (opCells kind qu nm bd n tr ms yes) 46 := blk_new w T _ 46 .free
  have o0 := hO.cell (j := 0) rfl
  have o2 := hO.cell (j := 2) rfl
  simp only [List.getElem_toArray, List.getElem_cons_succ, List.getElem_cons_zero] at o0 o2
  replace hp := hp.step hX a1 (fun h => h) (fun _ _ h => h) (fun _ _ h => h)
  rcases hk with rfl | rfl | rfl | rfl
  all_goals
    go_enter Tryz.func45, Tryz.ntmps45
    go_wp2_with fail
    refine (hL _ _ hp).mono ?_
    rintro e w2 ⟨rfl, T2, hs2, hp2⟩
    go_wp2
    go_ret
    exact ⟨rfl, T2, (a1.mono (fun _ h => h.elim)).trans hs2, hp2⟩

end Go.Proofs.YtockkceclkcgbaaGreatDoor

/- The contract of call at Enqueue and at Group, over any queue that keeps the contracts. -/
namespace Go.Proofs.YtockkceclkcgbaaGreatDoor
open Go.RowKit

attribute [local go_sem] over_cell

theorem menqM_c (m : MQ) (s : ByteArray) : (menqM m s).c = m.c := by unfold menqM; cases decide (menqE m s = 0) <;> rfl
theorem mgrpM_c (m : MQ) (s : ByteArray) (fr : Int) : (mgrpM m s fr).c = m.c := by unfold mgrpM; cases decide (mgrpE m s fr = 0) <;> rfl
theorem retainM_c (m : MQ) : (retainM m).c = m.c := by unfold retainM; cases retainB m <;> rfl

/-- the document's Enqueue and Group, in the mathematics' words -/
theorem yenqueueM (i b : Nat) (m : MQ) (s : ByteArray) (w : World) (T : Nat → Tag) (hy : YQ w T i b m.rq) :
    Calls Tryz.prog 15 #[.pointer (some ⟨b, 0, none⟩), .string s] w fun e w' => e = .returned (.tuple #[.int .i64 (bif decide (menqE m s = 0) then (m.bodies.length : Int) else 0), .int .i64 (menqE m s)]) ∧ ∃ T', Step (YT i) w T w' T' ∧ YQ w' T' i b (menqM m s).rq := by
  refine (yenqueue_any i b m.rq s w T hy).mono ?_
  rintro e w' ⟨rfl, T', hs, hy'⟩
  have e1 : m.rq.bodies.length = m.bodies.length := by simp [MQ.rq]
  refine ⟨?_, T', hs, by rw [← menqM_rq]; exact hy'⟩
  rw [e1]
  rfl
theorem ygroupM (i b : Nat) (m : MQ) (s : ByteArray) (fr : Int) (w : World) (T : Nat → Tag) (hy : YQ w T i b m.rq) :
    Calls Tryz.prog 81 #[.pointer (some ⟨b, 0, none⟩), .string s, .int .i64 fr] w fun e w' => e = .returned (.int .i64 (mgrpE m s fr)) ∧ ∃ T', Step (YT i) w T w' T' ∧ YQ w' T' i b (mgrpM m s fr).rq := by
  refine (ygroup_any i b m.rq s fr w T hy).mono ?_
  rintro e w' ⟨rfl, T', hs, hy'⟩
  exact ⟨by rw [mgrpE_rq], T', hs, by rw [← mgrpM_rq]; exact hy'⟩

set_option maxRecDepth 100000 in
set_option maxHeartbeats 4000000 in
theorem callT_enq {X : World → (Nat → Tag) → Nat → Nat → MQ → Prop} {B Bm : Int} (hX : XC X Bm) (hle : B ≤ Bm) (i p : Nat) (v : Value) (qu : Int) (nm bd : ByteArray) (n tr ms : Int) (yes : Bool) (w : World) (T : Nat → Tag) (hp : PairT X B w T i p) :
    Calls Tryz.prog 45 #[v, .pointer (some ⟨p, 0, none⟩), .agg (opCells 2 qu nm bd n tr ms yes)] w fun e w' => e = .returned (.bool true) ∧ ∃ T', Step (ST i) w T w' T' ∧ PairT X B w' T' i p := by
  obtain ⟨bx, yb, m, vs, lg, hB, hx, hy, hf⟩ := hp
  have a1 : Step (fun _ => False) w T (w.alloc (.cells (opCells 2 qu nm bd n tr ms yes) 46)).drew (retag T w.heap.size .free) := (step_new w T _ .free _).trans (step_below _ _ (Below.refl _ _).drew)
  have hO : Blk (w.alloc (.cells (opCells 2 qu nm bd n tr ms yes) 46)).drew (retag T w.heap.size .free) .free w.heap.size (opCells 2 qu nm bd n tr ms yes) 46 := (blk_new w T _ 46 .free)
  have l0 := hB.lt
  have c0 := hB.cell (j := 0) rfl
  simp only [List.getElem_toArray, List.getElem_cons_zero] at c0
  replace hB := hB.step a1 (fun h => h)
  replace hx := hX.step hx a1 (fun _ _ h => h)
  replace hy := hy.step a1 (fun _ _ h => h)
  go_enter Tryz.func45, Tryz.ntmps45
  go_wp2_with fail
  have o3 := hO.cell (j := 3) rfl
  simp only [List.getElem_toArray, List.getElem_cons_succ, List.getElem_cons_zero] at o3
  go_region_held3 (fun w' => w'.cell? ⟨p, 0, none⟩ = some (.pointer (some ⟨bx, 0, none⟩)) ∧ w'.cell? ⟨w.heap.size, 3, none⟩ = some (.string bd)) (go_keep) (first | (go_at_call 14; refine (hX.enq i bx m bd _ _ hx (hf.mono hle)).mono ?_; rintro e w2 ⟨rfl, T2, hs2, hx2⟩; have kp := (hB.step hs2 (by simp [XT])).cell (j := 0) rfl; have k3 := (hO.step hs2 (by simp [XT])).cell (j := 3) rfl; simp only [List.getElem_toArray, List.getElem_cons_succ, List.getElem_cons_zero] at kp k3))
  all_goals
    have hB2 := hB.step hs2 (by simp [XT])
    have hO2 := hO.step hs2 (by simp [XT])
    have hy2 := hy.step hs2 (by simp [XT])
    have d1 := hB2.cell (j := 1) rfl
    have o2 := hO2.cell (j := 2) rfl
    have o3 := hO2.cell (j := 3) rfl
    have o4 := hO2.cell (j := 4) rfl
    simp only [List.getElem_toArray, List.getElem_cons_succ, List.getElem_cons_zero] at d1 o2 o3 o4
    clear c0 hx hy kp k3
    go_wp2_with fail
    go_region_held3 (fun w' => w'.cell? ⟨p, 1, none⟩ = some (.pointer (some ⟨yb, 0, none⟩)) ∧ w'.cell? ⟨w.heap.size, 3, none⟩ = some (.string bd)) (go_keep) (first | (go_at_call 15; refine (yenqueueM i yb m bd _ T2 ?_).mono ?_; (exact hy2.step (step_below (fun _ => False) T2 (Below.refl _ _).drew) (fun _ _ h => h)); rintro e w4 ⟨rfl, T4, hs4, hy4⟩; have hs4' : Step (YT i) w2 T2 w4 T4 := (step_below _ T2 (Below.refl _ _).drew).trans hs4; have jp := (hB2.step hs4' (by simp [YT])).cell (j := 1) rfl; have j3 := (hO2.step hs4' (by simp [YT])).cell (j := 3) rfl; simp only [List.getElem_toArray, List.getElem_cons_succ, List.getElem_cons_zero] at jp j3))
    all_goals
      go_wp2
      go_ret
      refine ⟨by first | rfl | simp, T4, (a1.mono (fun _ h => h.elim)).trans ((hs2.mono (fun _ h => .inl h)).trans (hs4'.mono (fun _ h => .inr h))), bx, yb, menqM m bd, vs, lg, ?_, hX.step hx2 hs4' (by rintro t h1 ⟨r, j, rfl⟩; exact absurd h1.1 (by simp)), hy4, fit_enq hf bd⟩
      rw [menqM_c]
      exact hB2.step hs4' (by simp [YT])

set_option maxRecDepth 100000 in
set_option maxHeartbeats 4000000 in
theorem callT_grp {X : World → (Nat → Tag) → Nat → Nat → MQ → Prop} {B Bm : Int} (hX : XC X Bm) (hle : B ≤ Bm) (i p : Nat) (v : Value) (qu : Int) (nm bd : ByteArray) (n tr ms : Int) (yes : Bool) (w : World) (T : Nat → Tag) (hp : PairT X B w T i p) :
    Calls Tryz.prog 45 #[v, .pointer (some ⟨p, 0, none⟩), .agg (opCells 3 qu nm bd n tr ms yes)] w fun e w' => e = .returned (.bool true) ∧ ∃ T', Step (ST i) w T w' T' ∧ PairT X B w' T' i p := by
  obtain ⟨bx, yb, m, vs, lg, hB, hx, hy, hf⟩ := hp
  have a1 : Step (fun _ => False) w T (w.alloc (.cells (opCells 3 qu nm bd n tr ms yes) 46)).drew (retag T w.heap.size .free) := (step_new w T _ .free _).trans (step_below _ _ (Below.refl _ _).drew)
  have hO : Blk (w.alloc (.cells (opCells 3 qu nm bd n tr ms yes) 46)).drew (retag T w.heap.size .free) .free w.heap.size (opCells 3 qu nm bd n tr ms yes) 46 := (blk_new w T _ 46 .free)
  have l0 := hB.lt
  have c0 := hB.cell (j := 0) rfl
  simp only [List.getElem_toArray, List.getElem_cons_zero] at c0
  replace hB := hB.step a1 (fun h => h)
  replace hx := hX.step hx a1 (fun _ _ h => h)
  replace hy := hy.step a1 (fun _ _ h => h)
  go_enter Tryz.func45, Tryz.ntmps45
  go_wp2_with fail
  have o2 := hO.cell (j := 2) rfl
  have o4 := hO.cell (j := 4) rfl
  simp only [List.getElem_toArray, List.getElem_cons_succ, List.getElem_cons_zero] at o2 o4
  go_region_held3 (fun w' => w'.cell? ⟨p, 0, none⟩ = some (.pointer (some ⟨bx, 0, none⟩)) ∧ w'.cell? ⟨w.heap.size, 2, none⟩ = some (.string nm) ∧ w'.cell? ⟨w.heap.size, 4, none⟩ = some (.int .i64 n)) (go_keep) (first | (go_at_call 74; refine (hX.grp i bx m nm n _ _ hx (hf.mono hle)).mono ?_; rintro e w2 ⟨rfl, T2, hs2, hx2⟩; have kp := (hB.step hs2 (by simp [XT])).cell (j := 0) rfl; have k2 := (hO.step hs2 (by simp [XT])).cell (j := 2) rfl; have k4 := (hO.step hs2 (by simp [XT])).cell (j := 4) rfl; simp only [List.getElem_toArray, List.getElem_cons_succ, List.getElem_cons_zero] at kp k2 k4))
  all_goals
    have hB2 := hB.step hs2 (by simp [XT])
    have hO2 := hO.step hs2 (by simp [XT])
    have hy2 := hy.step hs2 (by simp [XT])
    have d1 := hB2.cell (j := 1) rfl
    have o2 := hO2.cell (j := 2) rfl
    have o3 := hO2.cell (j := 3) rfl
    have o4 := hO2.cell (j := 4) rfl
    simp only [List.getElem_toArray, List.getElem_cons_succ, List.getElem_cons_zero] at d1 o2 o3 o4
    clear c0 hx hy kp k2 k4
    go_wp2_with fail
    go_region_held3 (fun w' => w'.cell? ⟨p, 1, none⟩ = some (.pointer (some ⟨yb, 0, none⟩)) ∧ w'.cell? ⟨w.heap.size, 2, none⟩ = some (.string nm) ∧ w'.cell? ⟨w.heap.size, 4, none⟩ = some (.int .i64 n)) (go_keep) (first | (go_at_call 81; refine (ygroupM i yb m nm n _ T2 ?_).mono ?_; (exact hy2.step (step_below (fun _ => False) T2 (Below.refl _ _).drew) (fun _ _ h => h)); rintro e w4 ⟨rfl, T4, hs4, hy4⟩; have hs4' : Step (YT i) w2 T2 w4 T4 := (step_below _ T2 (Below.refl _ _).drew).trans hs4; have jp := (hB2.step hs4' (by simp [YT])).cell (j := 1) rfl; have j2 := (hO2.step hs4' (by simp [YT])).cell (j := 2) rfl; have j4 := (hO2.step hs4' (by simp [YT])).cell (j := 4) rfl; simp only [List.getElem_toArray, List.getElem_cons_succ, List.getElem_cons_zero] at jp j2 j4))
    all_goals
      go_wp2
      go_ret
      refine ⟨by first | rfl | simp, T4, (a1.mono (fun _ h => h.elim)).trans ((hs2.mono (fun _ h => .inl h)).trans (hs4'.mono (fun _ h => .inr h))), bx, yb, mgrpM m nm n, vs, lg, ?_, hX.step hx2 hs4' (by rintro t h1 ⟨r, j, rfl⟩; exact absurd h1.1 (by simp)), hy4, fit_grp hf nm n⟩
      rw [mgrpM_c]
      exact hB2.step hs4' (by simp [YT])

end Go.Proofs.YtockkceclkcgbaaGreatDoor

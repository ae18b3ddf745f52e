/- The contract of the document's Group. -/
import Derived.Test.YtockkceclkcgbaaGreatDoorB02
namespace Go.Proofs.YtockkceclkcgbaaGreatDoor
open Go.RowKit

def zeros4 (n : Nat) : List Value := List.replicate (n * 4) (.int .i64 0)
def grpY (s : ByteArray) (fr : Int) (q : RQ) : Int :=
  bif btw s.size 1 16 then bif memB s (q.groups.map (·.name)) then 7 else bif decide (6 ≤ q.groups.length) then 8 else bif btw fr q.floor q.bodies.length then 0 else 9 else 6
def grpQ (q : RQ) (s : ByteArray) (fr : Int) : RQ :=
  bif decide (grpY s fr q = 0) then { q with groups := q.groups ++ [⟨s, fr, zeros4 q.bodies.length, []⟩], changes := wrap64 (q.changes + 1) } else q

theorem info91 : (Tryz.prog.info? 109).map (fun i => (i.zero, i.size, i.bytes)) = some (some (.agg #[.string ⟨#[]⟩, .int .i64 0, .slice none 0 0, .slice none 0 0]), 4, 72) := by kernel_rfl
theorem info93g : (Tryz.prog.info? 111).map (fun i => (i.zero, i.size, i.bytes)) = some (some (.agg #[.int .i64 0, .int .i64 0, .int .i64 0, .int .i64 0]), 4, 32) := by kernel_rfl

theorem placeOf_yes {s : ByteArray} {l : List ByteArray} (h : memB s l = true) : 0 ≤ placeOf s l := (placeFrom_neg s l 0).2 (memB_iff.1 h)
theorem placeFrom_no (s : ByteArray) : ∀ (l : List ByteArray) (k : Nat), s ∉ l → placeFrom s l k = -1
  | [], _, _ => rfl
  | x :: r, k, h => by
    unfold placeFrom
    have h1 : ¬ x = s := fun e => h (by simp [e])
    simp [h1, placeFrom_no s r (k + 1) (fun h2 => h (by simp [h2]))]
theorem placeOf_no {s : ByteArray} {l : List ByteArray} (h : memB s l = false) : placeOf s l = -1 := placeFrom_no s l 0 (memB_not.1 h)

theorem made4 (n : Nat) : (madeCells (Value.agg #[.int .i64 0, .int .i64 0, .int .i64 0, .int .i64 0]).cells (n * 4)).toList = zeros4 n := by
  unfold zeros4
  rw [List.eq_replicate_iff]
  refine ⟨by simp [size_madeCells], fun u hu => ?_⟩
  simp only [madeCells, Array.toList_map, List.mem_map] at hu
  obtain ⟨k, _, rfl⟩ := hu
  have h4 : k % 4 < 4 := Nat.mod_lt _ (by decide)
  show (#[Value.int .i64 0, .int .i64 0, .int .i64 0, .int .i64 0] : Array Value)[k % 4]! = _
  generalize k % 4 = r at h4
  match r, h4 with
  | 0, _ => rfl
  | 1, _ => rfl
  | 2, _ => rfl
  | 3, _ => rfl

theorem cells_newg (w : World) (xs : List Value) (t : TypeId) : ∀ j u, xs[j]? = some u → (w.alloc (.cells xs.toArray t)).cell? ((⟨w.heap.size, 0, none⟩ : Addr).add j) = some u := by
  intro j u hj
  have h := heap_alloc_new w (.cells xs.toArray t)
  rw [Addr.add_lit, Nat.zero_add]
  unfold World.cell?
  simp only [h]
  simpa using hj

/-- a new group, its items' row laid and its cells appended -/
theorem grp_done {w w5 : World} {T T5 : Nat → Tag} {i b : Nat} {q : RQ} {s : ByteArray} {fr : Int} {vB vG : Value} {vi vd : Nat → Value} {X : Array Value} {g2 cap2 : Nat} (hX : X.toList = zeros4 q.bodies.length)
    (hsm : q.bodies.length ≤ 400) (hfew : q.groups.length < 6) (hfl : 0 ≤ q.floor ∧ q.floor ≤ q.bodies.length)
    (hB : Blk w T (.y i 0 0) b #[.int .i64 q.c.l, .int .i64 q.c.d, .int .i64 q.c.s, .int .i64 q.c.k, vB, .int .i64 q.floor, vG, .int .i64 q.time, .int .i64 q.changes] 95)
    (hR : Row w T (.y i 1 0) 9 1 vB q.bodies.length q.bodies) (hI : ∀ k g, q.groups[k]? = some g → GrpAt w T i k g q.bodies.length (vi k) (vd k))
    (hs5 : Step (fun t => t = .y i 2 0) ((w.drew.alloc (.cells X 111)).alloc (.cells #[.string s, .int .i64 fr, .slice (some ⟨w.heap.size, 0, none⟩) q.bodies.length q.bodies.length, .slice none 0 0] 109)) (retag T w.heap.size (.y i 3 q.groups.length)) w5 T5)
    (hR5 : Row w5 T5 (.y i 2 0) 109 4 (.slice (some ⟨g2, 0, none⟩) (q.groups.length + 1) cap2) (q.groups.length + 1) (groupCells q.groups vi vd ++ [.string s, .int .i64 fr, .slice (some ⟨w.heap.size, 0, none⟩) q.bodies.length q.bodies.length, .slice none 0 0])) :
    Step (fun t => ∃ r j, t = .y i r j) w T ((w5.setCell ⟨b, 6, none⟩ (.slice (some ⟨g2, 0, none⟩) (q.groups.length + 1) cap2)).setCell ⟨b, 8, none⟩ (.int .i64 (wrap64 (q.changes + 1)))) T5 ∧
    YQ ((w5.setCell ⟨b, 6, none⟩ (.slice (some ⟨g2, 0, none⟩) (q.groups.length + 1) cap2)).setCell ⟨b, 8, none⟩ (.int .i64 (wrap64 (q.changes + 1)))) T5 i b { q with groups := q.groups ++ [⟨s, fr, zeros4 q.bodies.length, []⟩], changes := wrap64 (q.changes + 1) } ∧
    Blk w5 T5 (.y i 0 0) b #[.int .i64 q.c.l, .int .i64 q.c.d, .int .i64 q.c.s, .int .i64 q.c.k, vB, .int .i64 q.floor, vG, .int .i64 q.time, .int .i64 q.changes] 95 := by
  have hs0 : Step (fun _ => False) w T (w.drew.alloc (.cells X 111)) (retag T w.heap.size (.y i 3 q.groups.length)) := (step_below _ T (Below.refl _ _).drew).trans (step_new w.drew T _ _ _)
  have hs1 := hs0.trans (step_alloc _ _ (.cells #[.string s, .int .i64 fr, .slice (some ⟨w.heap.size, 0, none⟩) q.bodies.length q.bodies.length, .slice none 0 0] 109) _)
  have hB5 := (hB.step hs1 (fun h => h)).step hs5 (by simp)
  have hs6 : Step (fun t => t = .y i 0 0) w5 T5 ((w5.setCell ⟨b, 6, none⟩ (.slice (some ⟨g2, 0, none⟩) (q.groups.length + 1) cap2)).setCell ⟨b, 8, none⟩ (.int .i64 (wrap64 (q.changes + 1)))) T5 :=
    (step_setCell w5 T5 b 6 _ (S := fun t => t = .y i 0 0) hB5.1).trans (step_setCell _ T5 b 8 _ (S := fun t => t = .y i 0 0) hB5.1)
  have hnew : Row (w.drew.alloc (.cells X 111)) (retag T w.heap.size (.y i 3 q.groups.length)) (.y i 3 q.groups.length) 111 4 (.slice (some ⟨w.heap.size, 0, none⟩) q.bodies.length q.bodies.length) q.bodies.length (zeros4 q.bodies.length) := by
    have hsz : X.size = q.bodies.length * 4 := by rw [← Array.length_toList, hX]; simp [zeros4]
    refine ⟨⟨by simp [zeros4], .inr ⟨w.heap.size, q.bodies.length, X, rfl, Nat.zero_le _, heap_alloc_new w.drew _, Nat.le_refl _, by unfold maxLen; omega, hsz, ?_⟩⟩, fun g hg => ?_⟩
    · rw [← hsz, ← Array.length_toList, List.take_length, hX]
    · simp [Value.ownBlock] at hg
      rw [← hg, retag_same]
  have hnew5 := ((hnew.step (step_alloc _ _ (.cells #[.string s, .int .i64 fr, .slice (some ⟨w.heap.size, 0, none⟩) q.bodies.length q.bodies.length, .slice none 0 0] 109) (fun _ => False)) (fun h => h)).step hs5 (by simp)).step hs6 (by simp)
  refine ⟨?_, ⟨hsm, by simp; omega, hfl, vB, .slice (some ⟨g2, 0, none⟩) (q.groups.length + 1) cap2, fun k => if k = q.groups.length then .slice (some ⟨w.heap.size, 0, none⟩) q.bodies.length q.bodies.length else vi k, fun k => if k = q.groups.length then .slice none 0 0 else vd k, ?_, ?_, ?_, ?_⟩, hB5⟩
  · exact (hs1.mono (fun _ h => h.elim)).trans ((hs5.mono (fun t ht => ⟨2, 0, ht⟩)).trans (hs6.mono (fun t ht => ⟨0, 0, ht⟩)))
  · exact (hB5.set 6 _).set 8 _
  · exact ((hR.step hs1 (fun h => h)).step hs5 (by simp)).step hs6 (by simp)
  · have h6 := hR5.step hs6 (by simp)
    rw [groupCells_snoc, groupCells_congr q.groups q.groups vi vd _ _ rfl (fun k hk => if_neg (by omega)) (fun k hk => if_neg (by omega))]
    simpa using h6
  · intro k g hk
    by_cases hkl : k < q.groups.length
    · rw [List.getElem?_append_left hkl] at hk
      have hne : ¬ k = q.groups.length := by omega
      simp only [if_neg hne]
      exact (((hI k g hk).step hs1 (fun h => h) (fun h => h)).step hs5 (by simp) (by simp)).step hs6 (by simp) (by simp)
    · rw [List.getElem?_append_right (by omega)] at hk
      have hk0 : k = q.groups.length := by
        rcases Nat.lt_or_ge (k - q.groups.length) 1 with h | h
        · omega
        · rw [List.getElem?_eq_none (by simpa using h)] at hk; cases hk
      subst hk0
      simp at hk
      subst hk
      simp only [if_true]
      exact ⟨hnew5, row_nil _ _ _ _ _⟩

set_option maxRecDepth 100000 in
set_option maxHeartbeats 4000000 in
theorem ygroup_any (i b : Nat) (q : RQ) (s : ByteArray) (fr : Int) (w : World) (T : Nat → Tag) (hy : YQ w T i b q) :
    Calls Tryz.prog 81 #[.pointer (some ⟨b, 0, none⟩), .string s, .int .i64 fr] w fun e w' => e = .returned (.int .i64 (grpY s fr q)) ∧
      ∃ T', Step (fun t => ∃ r j, t = .y i r j) w T w' T' ∧ YQ w' T' i b (grpQ q s fr) := by
  go_enter Tryz.func81, Tryz.ntmps81
  go_wp2_with fail
  refine (yat_any i b q s w T hy).mono ?_
  rintro e w1 ⟨rfl, rfl⟩
  cases h1 : btw s.size 1 16
  · have h1' := btw_false h1
    by_cases hl : s.size < 1
    · go_wp2
      go_ret
      exact ⟨by simp [grpY, h1], T, Step.refl _ _ _, by simpa [grpQ, grpY, h1] using hy⟩
    · have hl2 : 16 < s.size := by omega
      go_wp2
      go_ret
      exact ⟨by simp [grpY, h1], T, Step.refl _ _ _, by simpa [grpQ, grpY, h1] using hy⟩
  have h1' := btw_true h1
  have hl : ¬ s.size < 1 := by omega
  have hl2 : ¬ 16 < s.size := by omega
  cases h2 : memB s (q.groups.map (·.name))
  case true =>
    have hp := placeOf_yes h2
    generalize placeOf s (q.groups.map (·.name)) = p at *
    go_wp2
    go_ret
    exact ⟨by simp [grpY, h1, h2], T, Step.refl _ _ _, by simpa [grpQ, grpY, h1, h2] using hy⟩
  rw [placeOf_no h2]
  have hy0 := hy
  obtain ⟨hsm, hfew, hfl, vB, vG, vi, vd, hB, hR, hG, hI⟩ := hy
  obtain ⟨bo, bc, rfl⟩ := row_form hR
  obtain ⟨go, gc, rfl⟩ := row_form hG
  have hlt := hB.lt
  have c4 := hB.cell (j := 4) rfl
  have c5 := hB.cell (j := 5) rfl
  have c6 := hB.cell (j := 6) rfl
  simp only [List.getElem_toArray, List.getElem_cons_succ, List.getElem_cons_zero] at c4 c5 c6
  by_cases h3 : 6 ≤ q.groups.length
  · go_wp2
    go_ret
    exact ⟨by simp [grpY, h1, h2, h3], T, Step.refl _ _ _, by simpa [grpQ, grpY, h1, h2, h3] using hy0⟩
  cases h4 : btw fr q.floor q.bodies.length
  · have h4' := btw_false h4
    by_cases h5 : fr < q.floor
    · go_wp2
      go_ret
      exact ⟨by simp [grpY, h1, h2, h3, h4], T, Step.refl _ _ _, by simpa [grpQ, grpY, h1, h2, h3, h4] using hy0⟩
    · have h6 : q.bodies.length < fr := by omega
      go_wp2
      go_ret
      exact ⟨by simp [grpY, h1, h2, h3, h4], T, Step.refl _ _ _, by simpa [grpQ, grpY, h1, h2, h3, h4] using hy0⟩
  have h4' := btw_true h4
  have h5 : ¬ fr < q.floor := by omega
  have h6 : ¬ (q.bodies.length : Int) < fr := by omega
  have e0 : grpY s fr q = 0 := by simp [grpY, h1, h2, h3, h4]
  obtain ⟨i0, hi, hz0, hz1, hz2⟩ := info_parts info91
  obtain ⟨j0, hj, hj0, hj1, hj2⟩ := info_parts info93g
  obtain ⟨X, hX, hmk⟩ : ∃ X : Array Value, X.toList = zeros4 q.bodies.length ∧ ∀ w : World, (Instr.makeSlice 107 (.int .i64 (q.bodies.length : Int)) (.int .i64 (q.bodies.length : Int))).run Tryz.prog w = .ok (.slice (some ⟨w.heap.size, 0, none⟩) q.bodies.length q.bodies.length) (w.alloc (.cells X 111)) :=
    ⟨_, made4 _, fun w => by have := run_make (P := Tryz.prog) w 107 111 j0 _ Tryz.underlying107 hj hj0 .i64 .i64 q.bodies.length q.bodies.length (by omega) (Int.le_refl _) (by rw [hj2]; omega) (by omega); rw [hj1] at this; simpa using this⟩
  have hs1 : Step (fun _ => False) w1 T ((w1.drew.alloc (.cells X 111)).alloc (.cells #[.string s, .int .i64 fr, .slice (some ⟨w1.heap.size, 0, none⟩) q.bodies.length q.bodies.length, .slice none 0 0] 109)) (retag T w1.heap.size (.y i 3 q.groups.length)) :=
    ((step_below _ T (Below.refl _ _).drew).trans (step_new w1.drew T _ _ _)).trans (step_alloc _ _ _ _)
  obtain ⟨g2, cap2, w5, T5, hrun, hR5, hs5⟩ := run_append_row (P := Tryz.prog) 93 93 109 i0 _ 4 72 Tryz.underlying93 hi hz0 hz1 hz2 rfl (by decide) _ _ _ (hG.step hs1 (fun h => h)) ⟨w1.heap.size + 1, 0, none⟩ 1 1 [.string s, .int .i64 fr, .slice (some ⟨w1.heap.size, 0, none⟩) q.bodies.length q.bodies.length, .slice none 0 0] rfl
    (by have := cells_newg (w1.drew.alloc (.cells X 111)) [.string s, .int .i64 fr, .slice (some ⟨w1.heap.size, 0, none⟩) q.bodies.length q.bodies.length, .slice none 0 0] 109; simpa using this) (by simp [Value.oneCell']) (by decide) (by unfold maxLen; omega) (by omega)
  obtain ⟨k1, k2, hB5⟩ := grp_done (fr := fr) hX hsm (by omega) hfl hB hR hI hs5 hR5
  have p6 := hB5.cell (j := 6) rfl
  have p8 := hB5.cell (j := 8) rfl
  have r6 := hB5.frozen 6
  have r8 := hB5.frozen 8
  simp only [List.getElem_toArray, List.getElem_cons_succ, List.getElem_cons_zero] at p6 p8
  have k3 : grpQ q s fr = { q with groups := q.groups ++ [⟨s, fr, zeros4 q.bodies.length, []⟩], changes := wrap64 (q.changes + 1) } := by
    unfold grpQ
    rw [e0]
    rfl
  rw [← k3] at k2
  clear hB hR hG hI hs1 hs5 hR5 hB5 hX hy0 k3
  go_wp2_with fail
  go_region_law (refine step_append_known rfl _ _ 93 rfl _ _ _ rfl rfl hrun ?_)
  all_goals
    go_wp2
    go_ret
    refine ⟨?_, T5, k1, k2⟩
    rw [e0]; rfl

end Go.Proofs.YtockkceclkcgbaaGreatDoor

/- The document's queue as plain mathematics: groups, items, what a call finds and changes; and how it lies in memory. -/
namespace Go.Proofs.YtockkceclkcgbaaGreatDoor
open Go.RowKit

/-- What has become of a message with a group. -/
structure It where
  tries : Int
  done : Int
  till : Int
  after : Int

def It.vals (x : It) : List Value := [.int .i64 x.tries, .int .i64 x.done, .int .i64 x.till, .int .i64 x.after]
def itVals : List It → List Value
  | [] => []
  | x :: r => .int .i64 x.tries :: .int .i64 x.done :: .int .i64 x.till :: .int .i64 x.after :: itVals r

structure MG where
  name : ByteArray
  start : Int
  items : List It
  dead : List Nat

structure MQ where
  c : Conf
  bodies : List ByteArray
  floor : Int
  groups : List MG
  time : Int
  changes : Int

def natV (n : Nat) : Value := .int .i64 n
def MG.rg (g : MG) : RG := ⟨g.name, g.start, itVals g.items, g.dead.map natV⟩
def MQ.rq (m : MQ) : RQ := ⟨m.c, m.bodies.map .string, m.floor, m.groups.map MG.rg, m.time, m.changes⟩

theorem itVals_length : ∀ l : List It, (itVals l).length = l.length * 4
  | [] => rfl
  | x :: r => by simp [itVals, itVals_length r]; omega
theorem itVals_at : ∀ (l : List It) (n : Nat) (x : It), l[n]? = some x →
    (itVals l)[n * 4]? = some (.int .i64 x.tries) ∧ (itVals l)[n * 4 + 1]? = some (.int .i64 x.done) ∧ (itVals l)[n * 4 + 2]? = some (.int .i64 x.till) ∧ (itVals l)[n * 4 + 3]? = some (.int .i64 x.after)
  | [], _, _, h => by simp at h
  | y :: r, 0, x, h => by simp at h; subst h; simp [itVals]
  | y :: r, n + 1, x, h => by
    have h2 := itVals_at r n x (by simpa using h)
    have e : ∀ j, (n + 1) * 4 + j = (n * 4 + j) + 4 := fun j => by omega
    refine ⟨?_, ?_, ?_, ?_⟩
    · rw [show (n + 1) * 4 = n * 4 + 4 by omega]; simpa [itVals] using h2.1
    · rw [e]; simpa [itVals] using h2.2.1
    · rw [e]; simpa [itVals] using h2.2.2.1
    · rw [e]; simpa [itVals] using h2.2.2.2
theorem itVals_append : ∀ a b : List It, itVals (a ++ b) = itVals a ++ itVals b
  | [], _ => rfl
  | x :: r, b => by simp [itVals, itVals_append r b]
theorem itVals_set : ∀ (l : List It) (n : Nat) (x : It), l[n]? = some x →
    (∀ v, (itVals l).set (n * 4) (.int .i64 v) = itVals (l.set n { x with tries := v })) ∧ (∀ v, (itVals l).set (n * 4 + 1) (.int .i64 v) = itVals (l.set n { x with done := v })) ∧
    (∀ v, (itVals l).set (n * 4 + 2) (.int .i64 v) = itVals (l.set n { x with till := v })) ∧ (∀ v, (itVals l).set (n * 4 + 3) (.int .i64 v) = itVals (l.set n { x with after := v }))
  | [], _, _, h => by simp at h
  | y :: r, 0, x, h => by simp at h; subst h; simp [itVals]
  | y :: r, n + 1, x, h => by
    have h2 := itVals_set r n x (by simpa using h)
    have e : ∀ j, (n + 1) * 4 + j = (n * 4 + j) + 4 := fun j => by omega
    refine ⟨fun v => ?_, fun v => ?_, fun v => ?_, fun v => ?_⟩
    · rw [show (n + 1) * 4 = n * 4 + 4 by omega]; simp [itVals, h2.1]
    · rw [e]; simp [itVals, h2.2.1]
    · rw [e]; simp [itVals, h2.2.2.1]
    · rw [e]; simp [itVals, h2.2.2.2]

/-- the place of a name -/
def idx (s : ByteArray) : List ByteArray → Option Nat
  | [] => none
  | x :: r => bif decide (x = s) then some 0 else (idx s r).map (· + 1)
theorem placeFrom_idx (s : ByteArray) : ∀ (l : List ByteArray) (k : Nat), placeFrom s l k = match idx s l with | some j => ((k + j : Nat) : Int) | none => -1
  | [], k => rfl
  | x :: r, k => by
    unfold placeFrom idx
    by_cases h : x = s
    · simp [h]
    · simp only [h, decide_false, cond_false]
      rw [placeFrom_idx s r (k + 1)]
      cases idx s r with
      | none => rfl
      | some j =>
        show ((k + 1 + j : Nat) : Int) = ((k + (j + 1) : Nat) : Int)
        congr 1
        omega
theorem idx_some {s : ByteArray} : ∀ {l : List ByteArray} {k : Nat}, idx s l = some k → l[k]? = some s
  | [], k, h => by simp [idx] at h
  | x :: r, k, h => by
    unfold idx at h
    by_cases hx : x = s
    · simp [hx] at h; subst h; simp [hx]
    · simp only [hx, decide_false, cond_false, Option.map_eq_some_iff] at h
      obtain ⟨j, hj, rfl⟩ := h
      simpa using idx_some hj

def MQ.names (m : MQ) : List ByteArray := m.groups.map (·.name)
/-- the group of a name -/
def MQ.at (m : MQ) (s : ByteArray) : Option Nat := idx s m.names
theorem names_rq (m : MQ) : m.rq.groups.map (·.name) = m.names := by simp [MQ.rq, MQ.names, MG.rg, Function.comp_def]
theorem place_none {m : MQ} {s : ByteArray} (h : m.at s = none) : placeOf s (m.rq.groups.map (·.name)) = -1 := by
  rw [names_rq, placeOf, placeFrom_idx]
  unfold MQ.at at h
  rw [h]
theorem place_some {m : MQ} {s : ByteArray} {k : Nat} (h : m.at s = some k) : placeOf s (m.rq.groups.map (·.name)) = k := by
  rw [names_rq, placeOf, placeFrom_idx]
  unfold MQ.at at h
  rw [h]
  simp
theorem at_group {m : MQ} {s : ByteArray} {k : Nat} (h : m.at s = some k) : ∃ g, m.groups[k]? = some g ∧ g.name = s := by
  have h1 := idx_some h
  simpa [MQ.names] using h1

/-- What holds of every such queue. -/
structure MQ.Ok (m : MQ) : Prop where
  good : goodC m.c = true
  len : ∀ g ∈ m.groups, g.items.length = m.bodies.length
  dead : ∀ g ∈ m.groups, ∀ n ∈ g.dead, n < m.bodies.length
  time : 0 ≤ m.time ∧ m.time ≤ 4000000000000000000
  fl : 0 ≤ m.floor ∧ m.floor ≤ m.bodies.length
  start : ∀ g ∈ m.groups, 0 ≤ g.start ∧ g.start ≤ m.bodies.length

theorem rq_group {m : MQ} {k : Nat} {g : MG} (h : m.groups[k]? = some g) : m.rq.groups[k]? = some g.rg := by simp [MQ.rq, h]

/-- one item of one group, written -/
def MQ.setI (m : MQ) (k n : Nat) (x : It) : MQ := { m with groups := m.groups.modify k (fun g => { g with items := g.items.set n x }) }

theorem setI_group {m : MQ} {k n : Nat} {x : It} {j : Nat} : (m.setI k n x).groups[j]? = (m.groups[j]?).map (fun g => if k = j then { g with items := g.items.set n x } else g) := by
  simp [MQ.setI, List.getElem?_modify]
theorem setI_len {m : MQ} {k n : Nat} {x : It} : (m.setI k n x).groups.length = m.groups.length := by simp [MQ.setI]
theorem setI_names {m : MQ} {k n : Nat} {x : It} : (m.setI k n x).names = m.names := by
  apply List.ext_getElem?
  intro j
  simp only [MQ.names, List.getElem?_map, setI_group, Option.map_map]
  cases m.groups[j]? with
  | none => rfl
  | some g => by_cases h : k = j <;> simp [h]
theorem setI_nameStart {m : MQ} {k n : Nat} {x : It} : (m.setI k n x).rq.groups.map (fun g => (g.name, g.start)) = m.rq.groups.map (fun g => (g.name, g.start)) := by
  apply List.ext_getElem?
  intro j
  simp only [MQ.rq, List.map_map, List.getElem?_map, setI_group, Option.map_map]
  cases m.groups[j]? with
  | none => rfl
  | some g => by_cases h : k = j <;> simp [h, MG.rg]
theorem setI_ok {m : MQ} {k n : Nat} {x : It} (h : m.Ok) : (m.setI k n x).Ok := by
  have hg : ∀ g ∈ (m.setI k n x).groups, ∃ g0 ∈ m.groups, g.items.length = g0.items.length ∧ g.dead = g0.dead ∧ g.start = g0.start := by
    intro g hg
    obtain ⟨j, hj⟩ := List.getElem?_of_mem hg
    rw [setI_group] at hj
    obtain ⟨g0, h0, rfl⟩ := Option.map_eq_some_iff.1 hj
    refine ⟨g0, List.mem_of_getElem? h0, ?_⟩
    by_cases hk : k = j <;> simp [hk]
  refine ⟨h.good, fun g hg1 => ?_, fun g hg1 d hd => ?_, h.time, h.fl, fun g hg1 => ?_⟩
  · obtain ⟨g0, h0, e1, _⟩ := hg g hg1
    rw [e1]; exact h.len g0 h0
  · obtain ⟨g0, h0, _, e2, _⟩ := hg g hg1
    rw [e2] at hd
    exact h.dead g0 h0 d hd
  · obtain ⟨g0, h0, _, _, e3⟩ := hg g hg1
    rw [e3]; exact h.start g0 h0

/-- the queue behind a write into a cell of an item -/
theorem YQ.setItem {w : World} {T : Nat → Tag} {i b : Nat} {m : MQ} {vB vG : Value} {vi vd : Nat → Value} {k n f gi cap : Nat} {g : MG} {x : It} {v : Value}
    (hsm : m.rq.bodies.length ≤ 400) (hfew : m.rq.groups.length ≤ 6) (hfl : 0 ≤ m.rq.floor ∧ m.rq.floor ≤ m.rq.bodies.length)
    (hB : Blk w T (.y i 0 0) b #[.int .i64 m.c.l, .int .i64 m.c.d, .int .i64 m.c.s, .int .i64 m.c.k, vB, .int .i64 m.floor, vG, .int .i64 m.time, .int .i64 m.changes] 95)
    (hR : Row w T (.y i 1 0) 9 1 vB m.rq.bodies.length m.rq.bodies) (hG : Row w T (.y i 2 0) 109 4 vG m.rq.groups.length (groupCells m.rq.groups vi vd))
    (hI : ∀ j r, m.rq.groups[j]? = some r → GrpAt w T i j r m.rq.bodies.length (vi j) (vd j))
    (hg : m.groups[k]? = some g) (hv : vi k = .slice (some ⟨gi, 0, none⟩) m.rq.bodies.length cap) (hf : n * 4 + f < g.items.length * 4) (hs : (itVals g.items).set (n * 4 + f) v = itVals (g.items.set n x)) :
    YQ (w.setCell ⟨gi, n * 4 + f, none⟩ v) T i b (m.setI k n x).rq ∧ Step (fun t => ∃ r j, t = .y i r j) w T (w.setCell ⟨gi, n * 4 + f, none⟩ v) T := by
  have hrow := (hI k g.rg (rq_group hg)).1
  rw [hv] at hrow
  have hs4 : Step (fun t => t = .y i 3 k) w T (w.setCell ⟨gi, n * 4 + f, none⟩ v) T := step_setCell _ _ _ _ _ (hrow.2 gi rfl)
  have hset := hrow.set (j := n * 4 + f) (by simp [MG.rg, itVals_length]; exact hf) v
  refine ⟨⟨hsm, by simpa [MQ.rq, setI_len] using hfew, hfl, vB, vG, vi, vd, hB.step hs4 (by simp), hR.step hs4 (by simp), ?_, fun j r hj => ?_⟩, hs4.mono (fun t ht => ⟨3, k, ht⟩)⟩
  · rw [groupCells_congr m.rq.groups (m.setI k n x).rq.groups vi vd vi vd setI_nameStart (fun _ _ => rfl) (fun _ _ => rfl)]
    simpa [MQ.rq, setI_len] using hG.step hs4 (by simp)
  · have h0 : (m.setI k n x).groups[j]?.map MG.rg = some r := by simpa [MQ.rq] using hj
    rw [setI_group] at h0
    obtain ⟨g1, h1, h2⟩ := Option.map_eq_some_iff.1 h0
    obtain ⟨g0, h3, h4⟩ := Option.map_eq_some_iff.1 h1
    by_cases hjk : k = j
    · subst hjk
      rw [hg] at h3
      cases h3
      simp only [if_true] at h4
      subst h4
      subst h2
      have hd := (hI k g.rg (rq_group hg)).2
      refine ⟨?_, hd.step hs4 (by simp)⟩
      rw [hv]
      show Row _ T (.y i 3 k) 111 4 _ _ (itVals (g.items.set n x))
      rw [← hs]
      exact hset
    · rw [if_neg hjk] at h4
      subst h4
      subst h2
      exact (hI j g0.rg (rq_group h3)).step hs4 (by simp; exact fun e => hjk e.symm) (by simp)

/-- the queue, opened at one item of one group: the cells that are read, and what a write into the item leaves -/
theorem YQ.item {w : World} {T : Nat → Tag} {i b : Nat} {m : MQ} {k n : Nat} {g : MG} {x : It} (hy : YQ w T i b m.rq) (hok : m.Ok) (hg : m.groups[k]? = some g) (hx : g.items[n]? = some x) :
    ∃ gb gc gi ic, w.cell? ⟨b, 6, none⟩ = some (.slice (some ⟨gb, 0, none⟩) m.groups.length gc) ∧ w.cell? ⟨gb, k * 4 + 2, none⟩ = some (.slice (some ⟨gi, 0, none⟩) m.bodies.length ic) ∧
      (w.cell? ⟨gi, n * 4, none⟩ = some (.int .i64 x.tries) ∧ w.cell? ⟨gi, n * 4 + 1, none⟩ = some (.int .i64 x.done) ∧ w.cell? ⟨gi, n * 4 + 2, none⟩ = some (.int .i64 x.till) ∧ w.cell? ⟨gi, n * 4 + 3, none⟩ = some (.int .i64 x.after)) ∧
      (∀ j, w.frozen? ⟨gi, j, none⟩ = false) ∧ (∀ j, w.frozen? ⟨b, j, none⟩ = false) ∧ gi ≠ b ∧ gi ≠ gb ∧ gb ≠ b ∧ b < w.heap.size ∧ gb < w.heap.size ∧ gi < w.heap.size ∧
      w.cell? ⟨b, 7, none⟩ = some (.int .i64 m.time) ∧ w.cell? ⟨b, 8, none⟩ = some (.int .i64 m.changes) ∧ k < m.groups.length ∧ m.groups.length ≤ 6 ∧ n < m.bodies.length ∧ m.bodies.length ≤ 400 ∧
      ∀ (f : Nat) (v : Value) (y : It), f < 4 → (itVals g.items).set (n * 4 + f) v = itVals (g.items.set n y) → YQ (w.setCell ⟨gi, n * 4 + f, none⟩ v) T i b (m.setI k n y).rq ∧ Step (fun t => ∃ r j, t = .y i r j) w T (w.setCell ⟨gi, n * 4 + f, none⟩ v) T := by
  have hkl : k < m.groups.length := (List.getElem?_eq_some_iff.1 hg).1
  have hnl : n < g.items.length := (List.getElem?_eq_some_iff.1 hx).1
  have hlen : g.items.length = m.bodies.length := hok.len g (List.mem_of_getElem? hg)
  obtain ⟨hsm, hfew, hfl, vB, vG, vi, vd, hB, hR, hG, hI⟩ := hy
  have hgl : m.rq.groups.length = m.groups.length := by simp [MQ.rq]
  have hbl : m.rq.bodies.length = m.bodies.length := by simp [MQ.rq]
  obtain ⟨gb, gc, rfl⟩ := row_some hG (by omega)
  have hgi := (hI k g.rg (rq_group hg)).1
  obtain ⟨gi, ic, hvi⟩ := row_some hgi (by omega)
  have hset := fun (f : Nat) (v : Value) (y : It) (hf : f < 4) hs => YQ.setItem (f := f) (v := v) (x := y) hsm hfew hfl hB hR hG hI hg hvi (n := n) (by omega) hs
  rw [hvi] at hgi
  have t := itVals_at g.items n x hx
  have d2 := (groupCells_at m.rq.groups vi vd k g.rg (rq_group hg)).2.2.1
  rw [hvi] at d2
  have c6 := hB.cell (j := 6) rfl
  have c7 := hB.cell (j := 7) rfl
  have c8 := hB.cell (j := 8) rfl
  simp only [List.getElem_toArray, List.getElem_cons_succ, List.getElem_cons_zero] at c6 c7 c8
  have d2' := hG.cell d2
  rw [hgl] at c6
  rw [hbl] at d2'
  have hne1 : gi ≠ b := fun e => by have h1 := hgi.2 gi rfl; rw [e, hB.1] at h1; simp at h1
  have hne2 : gi ≠ gb := fun e => by have h1 := hgi.2 gi rfl; rw [e, hG.2 gb rfl] at h1; simp at h1
  have hne3 : gb ≠ b := fun e => by have h1 := hG.2 gb rfl; rw [e, hB.1] at h1; simp at h1
  exact ⟨gb, gc, gi, ic, c6, d2', ⟨hgi.cell t.1, hgi.cell t.2.1, hgi.cell t.2.2.1, hgi.cell t.2.2.2⟩, hgi.frozen, hB.frozen, hne1, hne2, hne3, hB.lt, hG.lt, hgi.lt, c7, c8, hkl, by omega, by omega, by omega, hset⟩

/-- the queue behind a write of its count of changes, of its time -/
theorem YQ.setChanges {w : World} {T : Nat → Tag} {i b : Nat} {m : MQ} (hy : YQ w T i b m.rq) (v : Int) : YQ (w.setCell ⟨b, 8, none⟩ (.int .i64 v)) T i b { m with changes := v }.rq ∧ Step (fun t => ∃ r j, t = .y i r j) w T (w.setCell ⟨b, 8, none⟩ (.int .i64 v)) T := by
  obtain ⟨hsm, hfew, hfl, vB, vG, vi, vd, hB, hR, hG, hI⟩ := hy
  have hs : Step (fun t => t = .y i 0 0) w T (w.setCell ⟨b, 8, none⟩ (.int .i64 v)) T := step_setCell _ _ _ _ _ hB.1
  exact ⟨⟨hsm, hfew, hfl, vB, vG, vi, vd, hB.set 8 _, hR.step hs (by simp), hG.step hs (by simp), fun k g hk => (hI k g hk).step hs (by simp) (by simp)⟩, hs.mono (fun t ht => ⟨0, 0, ht⟩)⟩
theorem YQ.setFloor {w : World} {T : Nat → Tag} {i b : Nat} {m : MQ} (hy : YQ w T i b m.rq) (v : Int) (h0 : 0 ≤ v) (h1 : v ≤ m.bodies.length) : YQ (w.setCell ⟨b, 5, none⟩ (.int .i64 v)) T i b { m with floor := v }.rq ∧ Step (fun t => ∃ r j, t = .y i r j) w T (w.setCell ⟨b, 5, none⟩ (.int .i64 v)) T := by
  obtain ⟨hsm, hfew, hfl, vB, vG, vi, vd, hB, hR, hG, hI⟩ := hy
  have hs : Step (fun t => t = .y i 0 0) w T (w.setCell ⟨b, 5, none⟩ (.int .i64 v)) T := step_setCell _ _ _ _ _ hB.1
  exact ⟨⟨hsm, hfew, by simp [MQ.rq]; exact ⟨h0, h1⟩, vB, vG, vi, vd, hB.set 5 _, hR.step hs (by simp), hG.step hs (by simp), fun k g hk => (hI k g hk).step hs (by simp) (by simp)⟩, hs.mono (fun t ht => ⟨0, 0, ht⟩)⟩
theorem YQ.setTime {w : World} {T : Nat → Tag} {i b : Nat} {m : MQ} (hy : YQ w T i b m.rq) (v : Int) : YQ (w.setCell ⟨b, 7, none⟩ (.int .i64 v)) T i b { m with time := v }.rq ∧ Step (fun t => ∃ r j, t = .y i r j) w T (w.setCell ⟨b, 7, none⟩ (.int .i64 v)) T := by
  obtain ⟨hsm, hfew, hfl, vB, vG, vi, vd, hB, hR, hG, hI⟩ := hy
  have hs : Step (fun t => t = .y i 0 0) w T (w.setCell ⟨b, 7, none⟩ (.int .i64 v)) T := step_setCell _ _ _ _ _ hB.1
  exact ⟨⟨hsm, hfew, hfl, vB, vG, vi, vd, hB.set 7 _, hR.step hs (by simp), hG.step hs (by simp), fun k g hk => (hI k g hk).step hs (by simp) (by simp)⟩, hs.mono (fun t ht => ⟨0, 0, ht⟩)⟩

end Go.Proofs.YtockkceclkcgbaaGreatDoor

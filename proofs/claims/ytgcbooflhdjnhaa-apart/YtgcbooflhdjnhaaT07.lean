/- The contract of the document's Enqueue. -/
import Derived.Test.YtgcbooflhdjnhaaT05
namespace Go.Proofs.Ytgcbooflhdjnhaa
open Go.RowKit

def enqY (len n : Nat) (fl kept : Int) : Int := bif decide (64 < len) then 3 else bif decide (400 ≤ n) then 5 else bif decide (kept ≤ n - fl) then 4 else 0
def zero4 : List Value := [.int .i64 0, .int .i64 0, .int .i64 0, .int .i64 0]
def growG (g : RG) : RG := { g with items := g.items ++ zero4 }
def enqQ (q : RQ) (s : ByteArray) : RQ :=
  bif decide (enqY s.size q.bodies.length q.floor q.c.k = 0) then { q with bodies := q.bodies ++ [.string s], groups := q.groups.map growG, changes := wrap64 (q.changes + 1) } else q

/-- The document's queue while Enqueue goes through its groups: those before k have their new item. -/
structure EnqL (w : World) (T : Nat → Tag) (wr : World) (T' : Nat → Tag) (i b : Nat) (q : RQ) (s : ByteArray) (vB vG : Value) (vi vd : Nat → Value) (k : Nat) : Prop where
  step : Step (fun t => ∃ r j, t = .y i r j) w T wr T'
  blk : Blk wr T' (.y i 0 0) b #[.int .i64 q.c.l, .int .i64 q.c.d, .int .i64 q.c.s, .int .i64 q.c.k, vB, .int .i64 q.floor, vG, .int .i64 q.time, .int .i64 q.changes] 97
  bod : Row wr T' (.y i 1 0) 9 1 vB (q.bodies.length + 1) (q.bodies ++ [.string s])
  grp : Row wr T' (.y i 2 0) 108 4 vG q.groups.length (groupCells q.groups vi vd)
  its : ∀ j g, q.groups[j]? = some g → (j < k → GrpAt wr T' i j (growG g) (q.bodies.length + 1) (vi j) (vd j)) ∧ (k ≤ j → GrpAt wr T' i j g q.bodies.length (vi j) (vd j))

theorem EnqL.below {w wr w' : World} {T T' : Nat → Tag} {i b : Nat} {q : RQ} {s : ByteArray} {vB vG : Value} {vi vd : Nat → Value} {k : Nat} (h : EnqL w T wr T' i b q s vB vG vi vd k) (hb : Below wr.heap.size wr w') : EnqL w T w' T' i b q s vB vG vi vd k := by
  have hs := step_below (fun _ => False) T' hb
  exact ⟨h.step.trans (step_below _ T' hb), h.blk.step hs (fun h => h), h.bod.step hs (fun h => h), h.grp.step hs (fun h => h), fun j g hj => ⟨fun a => ((h.its j g hj).1 a).step hs (fun h => h) (fun h => h), fun a => ((h.its j g hj).2 a).step hs (fun h => h) (fun h => h)⟩⟩

theorem EnqL.round {w wr w3 : World} {T T' T3 : Nat → Tag} {i b : Nat} {q : RQ} {s : ByteArray} {vB : Value} {vi vd : Nat → Value} {k gb cap : Nat} {v : Value} {g : RG} (h : EnqL w T wr T' i b q s vB (.slice (some ⟨gb, 0, none⟩) q.groups.length cap) vi vd k)
    (hg : q.groups[k]? = some g) (hs : Step (fun t => t = .y i 3 k) wr T' w3 T3) (hr : Row w3 T3 (.y i 3 k) 110 4 v (q.bodies.length + 1) (g.items ++ zero4)) :
    EnqL w T (w3.setCell ⟨gb, k * 4 + 2, none⟩ v) T3 i b q s vB (.slice (some ⟨gb, 0, none⟩) q.groups.length cap) (fun j => if j = k then v else vi j) vd (k + 1) := by
  have hk : k < q.groups.length := (List.getElem?_eq_some_iff.1 hg).1
  have hg3 := h.grp.step hs (by simp)
  have hset := hg3.set (j := k * 4 + 2) (by rw [groupCells_length]; omega) v
  rw [groupCells_items _ _ _ _ _ hk] at hset
  have hs4 : Step (fun t => t = .y i 2 0) w3 T3 (w3.setCell ⟨gb, k * 4 + 2, none⟩ v) T3 := step_setCell _ _ _ _ _ (hg3.2 gb rfl)
  refine ⟨(h.step.trans (hs.mono (fun t ht => ⟨3, k, ht⟩))).trans (hs4.mono (fun t ht => ⟨2, 0, ht⟩)), (h.blk.step hs (by simp)).step hs4 (by simp), (h.bod.step hs (by simp)).step hs4 (by simp), hset, fun j x hj => ?_⟩
  by_cases hjk : j = k
  · subst hjk
    rw [hg] at hj
    cases hj
    refine ⟨fun _ => ?_, fun h => by omega⟩
    have h0 := (h.its j g hg).2 (Nat.le_refl _)
    exact ⟨by simpa [growG] using hr.step hs4 (by simp), (h0.2.step hs (by simp)).step hs4 (by simp)⟩
  · simp only [if_neg hjk]
    exact ⟨fun a => (((h.its j x hj).1 (by omega)).step hs (by simp [hjk]) (by simp)).step hs4 (by simp) (by simp), fun a => (((h.its j x hj).2 (by omega)).step hs (by simp [hjk]) (by simp)).step hs4 (by simp) (by simp)⟩

theorem EnqL.done {w wr : World} {T T' : Nat → Tag} {i b : Nat} {q : RQ} {s : ByteArray} {vB vG : Value} {vi vd : Nat → Value} (h : EnqL w T wr T' i b q s vB vG vi vd q.groups.length) (hsm : q.bodies.length < 400) (hfew : q.groups.length ≤ 6) (hfl : 0 ≤ q.floor ∧ q.floor ≤ q.bodies.length) :
    Step (fun t => ∃ r j, t = .y i r j) w T (wr.setCell ⟨b, 8, none⟩ (.int .i64 (wrap64 (q.changes + 1)))) T' ∧
    YQ (wr.setCell ⟨b, 8, none⟩ (.int .i64 (wrap64 (q.changes + 1)))) T' i b { q with bodies := q.bodies ++ [.string s], groups := q.groups.map growG, changes := wrap64 (q.changes + 1) } := by
  have hs4 : Step (fun t => t = .y i 0 0) wr T' (wr.setCell ⟨b, 8, none⟩ (.int .i64 (wrap64 (q.changes + 1)))) T' := step_setCell _ _ _ _ _ h.blk.1
  refine ⟨h.step.trans (hs4.mono (fun t ht => ⟨0, 0, ht⟩)), by simp; omega, by simp; exact hfew, by simp; omega, vB, vG, vi, vd, h.blk.set 8 _, ?_, ?_, ?_⟩
  · simpa using h.bod.step hs4 (by simp)
  · have h0 := h.grp.step hs4 (by simp)
    have e : groupCells (q.groups.map growG) vi vd = groupCells q.groups vi vd := groupCells_congr _ _ _ _ _ _ (by simp [growG, Function.comp_def]) (fun _ _ => rfl) (fun _ _ => rfl)
    simpa [e] using h0
  · intro k x hx
    simp only [List.getElem?_map, Option.map_eq_some_iff] at hx
    obtain ⟨g, hg, rfl⟩ := hx
    have h0 := ((h.its k g hg).1 (List.getElem?_eq_some_iff.1 hg).1).step hs4 (by simp) (by simp)
    simpa using h0

theorem cells_new (w : World) (xs : List Value) (t : TypeId) : ∀ j u, xs[j]? = some u → (w.alloc (.cells xs.toArray t)).cell? ((⟨w.heap.size, 0, none⟩ : Addr).add j) = some u := by
  intro j u hj
  have h := heap_alloc_new w (.cells xs.toArray t)
  rw [Addr.add_lit, Nat.zero_add]
  unfold World.cell?
  simp only [h]
  simpa using hj

attribute [local go_sem] over_cell

theorem info9y : (Try.prog.info? 9).map (fun i => (i.zero, i.size, i.bytes)) = some (some (.string ⟨#[]⟩), 1, 16) := by kernel_rfl
theorem info93 : (Try.prog.info? 110).map (fun i => (i.zero, i.size, i.bytes)) = some (some (.agg #[.int .i64 0, .int .i64 0, .int .i64 0, .int .i64 0]), 4, 32) := by kernel_rfl

set_option maxRecDepth 100000 in
set_option maxHeartbeats 4000000 in
theorem yenqueue_any (i b : Nat) (q : RQ) (s : ByteArray) (w : World) (T : Nat → Tag) (hy : YQ w T i b q) :
    Calls Try.prog 19 #[.pointer (some ⟨b, 0, none⟩), .string s] w fun e w' => e = .returned (.tuple #[.int .i64 (bif decide (enqY s.size q.bodies.length q.floor q.c.k = 0) then (q.bodies.length : Int) else 0), .int .i64 (enqY s.size q.bodies.length q.floor q.c.k)]) ∧
      ∃ T', Step (fun t => ∃ r j, t = .y i r j) w T w' T' ∧ YQ w' T' i b (enqQ q s) := by
  have hy0 := hy
  obtain ⟨hsm, hfew, hfl, vB, vG, vi, vd, hB, hR, hG, hI⟩ := hy
  obtain ⟨bo, bc, rfl⟩ := row_form hR
  have hlt := hB.lt
  have c3 := hB.cell (j := 3) rfl
  have c4 := hB.cell (j := 4) rfl
  have c5 := hB.cell (j := 5) rfl
  simp only [List.getElem_toArray, List.getElem_cons_succ, List.getElem_cons_zero] at c3 c4 c5
  by_cases h1 : 64 < s.size
  · go_enter Try.func19, Try.ntmps19
    go_wp2
    go_ret2
    exact ⟨by simp [enqY, h1], T, Step.refl _ _ _, by simpa [enqQ, enqY, h1] using hy0⟩
  by_cases h2 : 400 ≤ q.bodies.length
  · go_enter Try.func19, Try.ntmps19
    go_wp2
    go_ret2
    exact ⟨by simp [enqY, h1, h2], T, Step.refl _ _ _, by simpa [enqQ, enqY, h1, h2] using hy0⟩
  obtain ⟨i0, hi, hz0, hz1, hz2⟩ := info_parts info9y
  obtain ⟨j0, hj, hj0, hj1, hj2⟩ := info_parts info93
  go_enter Try.func19, Try.ntmps19
  go_wp2_with fail
  refine wp_region_over (by kernel_rfl) (by kernel_rfl) ?_
  repeat (go_big_quiet_step (fail))
  refine wpQuiet_nil ?_
  rintro _ ⟨x, rfl⟩
  have hb2 := over_below w x
  generalize over w x = w2 at *
  have g2 := step_below (fun _ => False) T hb2
  have f1 : Step (fun t => ∃ r j, t = .y i r j) w T w2 T := step_below _ T hb2
  replace hy0 := hy0.step g2 (fun _ _ h => h)
  replace hB := hB.step g2 (fun h => h)
  replace hR := hR.step g2 (fun h => h)
  replace hG := hG.step g2 (fun h => h)
  replace hI := fun k g hk => (hI k g hk).step g2 (fun h => h) (fun h => h)
  clear c3 c4 c5 hlt g2 hb2
  by_cases h3 : q.c.k ≤ q.bodies.length - q.floor
  · go_wp2
    go_ret2
    exact ⟨by simp [enqY, h1, h2, h3], T, f1, by simpa [enqQ, enqY, h1, h2, h3] using hy0⟩
  have e0 : enqY s.size q.bodies.length q.floor q.c.k = 0 := by simp [enqY, h1, h2, h3]
  have hlt := hB.lt
  have c4 := hB.cell (j := 4) rfl
  simp only [List.getElem_toArray, List.getElem_cons_succ, List.getElem_cons_zero] at c4
  have hal := step_alloc w2 T (.cells #[.string s] 9) (fun _ => False)
  have hR1 := hR.step hal (fun h => h)
  have hB1 := hB.step hal (fun h => h)
  go_wp2_with (first
    | (at_builtin; refine wpList_append_row rfl _ _ 75 rfl 9 i0 (.string ⟨#[]⟩) 1 16 Try.underlying75 hi hz0 hz1 hz2 rfl (by decide) _ _ _ rfl hR1 ⟨w2.heap.size, 0, none⟩ 1 1 [.string s] rfl rfl (cell_one_new _ _ _) (by simp [Value.oneCell']) (by decide) (by unfold maxLen; omega) (by omega) ?_; intro g cap' w3 T3 hR3 hs3; have hB3 := hB1.step hs3 (by simp); have d4 := hB3.cell (j := 4) rfl; have e4 := hB3.frozen 4)
    | go_in)
  have hs4 : Step (fun t => t = .y i 0 0) w3 T3 (w3.setCell ⟨b, 4, none⟩ (.slice (some ⟨g, 0, none⟩) (q.bodies.length + 1) cap')) T3 := step_setCell _ _ _ _ _ hB3.1
  have hL : EnqL w T (w3.setCell ⟨b, 4, none⟩ (.slice (some ⟨g, 0, none⟩) (q.bodies.length + 1) cap')) T3 i b q s (.slice (some ⟨g, 0, none⟩) (q.bodies.length + 1) cap') vG vi vd 0 :=
    ⟨f1.trans ((step_alloc _ _ _ _).trans ((hs3.mono (fun t ht => ⟨1, 0, ht⟩)).trans (hs4.mono (fun t ht => ⟨0, 0, ht⟩)))), hB3.set 4 _, hR3.step hs4 (by simp), ((hG.step hal (fun h => h)).step hs3 (by simp)).step hs4 (by simp),
      fun j x hj => ⟨fun h => by omega, fun _ => (((hI j x hj).step hal (fun h => h) (fun h => h)).step hs3 (by simp) (by simp)).step hs4 (by simp) (by simp)⟩⟩
  clear hB hR hG hI hR1 hB1 hB3 hR3 hs3 hs4 hal d4 e4 c4 hlt hy0 f1
  generalize w3.setCell ⟨b, 4, none⟩ (.slice (some ⟨g, 0, none⟩) (q.bodies.length + 1) cap') = w4 at *
  go_loopw [7] (fun x wr => ∃ (k : Nat) (T' : Nat → Tag) (vj : Nat → Value), k ≤ q.groups.length ∧ x = .int .i64 k ∧ EnqL w T wr T' i b q s (.slice (some ⟨g, 0, none⟩) (q.bodies.length + 1) cap') vG vj vd k) (fun x _ => q.groups.length - (intOf x).toNat)
  case atStart => exact ⟨0, T3, vi, Nat.zero_le _, rfl, hL⟩
  case round =>
    obtain ⟨k, T', vj, hk, rfl, hI⟩ := hrel
    obtain ⟨go, gc, rfl⟩ := row_form hI.grp
    have c6 := hI.blk.cell (j := 6) rfl
    simp only [List.getElem_toArray, List.getElem_cons_succ, List.getElem_cons_zero] at c6
    by_cases hlt : k < q.groups.length
    · obtain ⟨x, hx⟩ : ∃ x, q.groups[k]? = some x := ⟨_, List.getElem?_eq_getElem hlt⟩
      obtain ⟨gb, gc', e⟩ := row_some hI.grp (by omega)
      cases e
      have d2 := hI.grp.cell (groupCells_at q.groups vj vd k x hx).2.2.1
      have hit := ((hI.its k x hx).2 (Nat.le_refl _)).1
      have hal := step_alloc wr.drew T' (.cells #[.int .i64 0, .int .i64 0, .int .i64 0, .int .i64 0] 110) (fun _ => False)
      have hI1 := hI.below (w' := wr.drew.alloc (.cells #[.int .i64 0, .int .i64 0, .int .i64 0, .int .i64 0] 110)) ((Below.refl _ _).drew.alloc (Nat.le_refl _) _)
      obtain ⟨go2, gc2, w5, T5, hrun, hR5, hs5⟩ := run_append_row (P := Try.prog) 106 106 110 j0 _ 4 32 Try.underlying106 hj hj0 hj1 hj2 rfl (by decide) _ _ _ ((hI1.its k x hx).2 (Nat.le_refl _)).1 ⟨wr.heap.size, 0, none⟩ 1 1 zero4 rfl (cells_new wr.drew zero4 110) (by simp [zero4, Value.oneCell']) (by decide) (by unfold maxLen; omega) (by omega)
      have hB5 := hI1.blk.step hs5 (by simp)
      have hG5 := hI1.grp.step hs5 (by simp)
      have p6 := hB5.cell (j := 6) rfl
      simp only [List.getElem_toArray, List.getElem_cons_succ, List.getElem_cons_zero] at p6
      have p2 := hG5.cell (groupCells_at q.groups vj vd k x hx).2.2.1
      have r2 := hG5.frozen (k * 4 + 2)
      have hfin := hI1.round hx hs5 hR5
      have b1 := hI.blk.lt
      have b2 := hI.grp.lt
      clear hL hI1 hR5 hs5 hB5 hG5 hit hal
      go_wp2_with fail
      go_region_law (refine step_append_known rfl _ _ 106 rfl _ _ _ rfl rfl hrun ?_)
      all_goals
        go_wp2
        refine ⟨⟨k + 1, T5, _, by omega, by simp, hfin⟩, by simp [intOf]; omega⟩
    · have hk2 : k = q.groups.length := by omega
      have c8 := hI.blk.cell (j := 8) rfl
      have e8 := hI.blk.frozen 8
      simp only [List.getElem_toArray, List.getElem_cons_succ, List.getElem_cons_zero] at c8
      clear hL
      go_wp2
      go_ret2
      subst hk2
      obtain ⟨d1, d2⟩ := hI.done (by omega) hfew hfl
      refine ⟨?_, T', d1, ?_⟩
      · rw [e0]; rfl
      · unfold enqQ
        rw [e0]
        exact d2

end Go.Proofs.Ytgcbooflhdjnhaa

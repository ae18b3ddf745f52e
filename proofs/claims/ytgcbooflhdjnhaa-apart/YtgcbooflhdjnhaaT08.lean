/- The contract of the document's Group. -/
import Derived.Test.YtgcbooflhdjnhaaT05
namespace Go.Proofs.Ytgcbooflhdjnhaa
open Go.RowKit

def zeros4 (n : Nat) : List Value := List.replicate (n * 4) (.int .i64 0)
def grpY (s : ByteArray) (fr : Int) (q : RQ) : Int :=
  bif btw s.size 1 16 then bif memB s (q.groups.map (·.name)) then 7 else bif decide (6 ≤ q.groups.length) then 8 else bif btw fr q.floor q.bodies.length then 0 else 9 else 6
def grpQ (q : RQ) (s : ByteArray) (fr : Int) : RQ :=
  bif decide (grpY s fr q = 0) then { q with groups := q.groups ++ [⟨s, fr, zeros4 q.bodies.length, []⟩], changes := wrap64 (q.changes + 1) } else q

theorem info91 : (Try.prog.info? 108).map (fun i => (i.zero, i.size, i.bytes)) = some (some (.agg #[.string ⟨#[]⟩, .int .i64 0, .slice none 0 0, .slice none 0 0]), 4, 72) := by kernel_rfl
theorem info93g : (Try.prog.info? 110).map (fun i => (i.zero, i.size, i.bytes)) = some (some (.agg #[.int .i64 0, .int .i64 0, .int .i64 0, .int .i64 0]), 4, 32) := by kernel_rfl

theorem placeOf_yes {s : ByteArray} {l : List ByteArray} (h : memB s l = true) : 0 ≤ placeOf s l := (placeFrom_neg s l 0).2 (memB_iff.1 h)
theorem placeFrom_no (s : ByteArray) : ∀ (l : List ByteArray) (k : Nat), s ∉ l → placeFrom s l k = -1
  | [], _, _ => rfl
  | x :: r, k, h => by
    unfold placeFrom
    have h1 : ¬ x = s := fun e => h (by simp [e])
    simp [h1, placeFrom_no s r (k + 1) (fun h2 => h (by simp [h2]))]
theorem placeOf_no {s : ByteArray} {l : List ByteArray} (h : memB s l = false) : placeOf s l = -1 := placeFrom_no s l 0 (memB_not.1 h)

theorem made4 (n : Nat) : (madeCells (Value.agg #[.int .i64 0, .int .i64 0, .int .i64 0, .int .i64 0]).cells (n * 4)).toList = zeros4 n := by
  unfold zeros4
  rw [List.eq_replicate_iff]
  refine ⟨by simp [size_madeCells], fun u hu => ?_⟩
  simp only [madeCells, Array.toList_map, List.mem_map] at hu
  obtain ⟨k, _, rfl⟩ := hu
  have h4 : k % 4 < 4 := Nat.mod_lt _ (by decide)
  show (#[Value.int .i64 0, .int .i64 0, .int .i64 0, .int .i64 0] : Array Value)[k % 4]! = _
  generalize k % 4 = r at h4
  match r, h4 with
  | 0, _ => rfl
  | 1, _ => rfl
  | 2, _ => rfl
  | 3, _ => rfl

theorem cells_newg (w : World) (xs : List Value) (t : TypeId) : ∀ j u, xs[j]? = some u → (w.alloc (.cells xs.toArray t)).cell? ((⟨w.heap.size, 0, none⟩ : Addr).add j) = some u := by
  intro j u hj
  have h := heap_alloc_new w (.cells xs.toArray t)
  rw [Addr.add_lit, Nat.zero_add]
  unfold World.cell?
  simp only [h]
  simpa using hj

/-- a new group, its items' row laid and its cells appended -/
theorem grp_done {w w5 : World} {T T5 : Nat → Tag} {i b : Nat} {q : RQ} {s : ByteArray} {fr : Int} {vB vG : Value} {vi vd : Nat → Value} {X : Array Value} {g2 cap2 : Nat} (hX : X.toList = zeros4 q.bodies.length)
    (hsm : q.bodies.length ≤ 400) (hfew : q.groups.length < 6) (hfl : 0 ≤ q.floor ∧ q.floor ≤ q.bodies.length)
    (hB : Blk w T (.y i 0 0) b #[.int .i64 q.c.l, .int .i64 q.c.d, .int .i64 q.c.s, .int .i64 q.c.k, vB, .int .i64 q.floor, vG, .int .i64 q.time, .int .i64 q.changes] 97)
    (hR : Row w T (.y i 1 0) 9 1 vB q.bodies.length q.bodies) (hI : ∀ k g, q.groups[k]? = some g → GrpAt w T i k g q.bodies.length (vi k) (vd k))
    (hs5 : Step (fun t => t = .y i 2 0) ((w.drew.alloc (.cells X 110)).alloc (.cells #[.string s, .int .i64 fr, .slice (some ⟨w.heap.size, 0, none⟩) q.bodies.length q.bodies.length, .slice none 0 0] 108)) (retag T w.heap.size (.y i 3 q.groups.length)) w5 T5)
    (hR5 : Row w5 T5 (.y i 2 0) 108 4 (.slice (some ⟨g2, 0, none⟩) (q.groups.length + 1) cap2) (q.groups.length + 1) (groupCells q.groups vi vd ++ [.string s, .int .i64 fr, .slice (some ⟨w.heap.size, 0, none⟩) q.bodies.length q.bodies.length, .slice none 0 0])) :
    Step (fun t => ∃ r j, t = .y i r j) w T ((w5.setCell ⟨b, 6, none⟩ (.slice (some ⟨g2, 0, none⟩) (q.groups.length + 1) cap2)).setCell ⟨b, 8, none⟩ (.int .i64 (wrap64 (q.changes + 1)))) T5 ∧
    YQ ((w5.setCell ⟨b, 6, none⟩ (.slice (some ⟨g2, 0, none⟩) (q.groups.length + 1) cap2)).setCell ⟨b, 8, none⟩ (.int .i64 (wrap64 (q.changes + 1)))) T5 i b { q with groups := q.groups ++ [⟨s, fr, zeros4 q.bodies.length, []⟩], changes := wrap64 (q.changes + 1) } ∧
    Blk w5 T5 (.y i 0 0) b #[.int .i64 q.c.l, .int .i64 q.c.d, .int .i64 q.c.s, .int .i64 q.c.k, vB, .int .i64 q.floor, vG, .int .i64 q.time, .int .i64 q.changes] 97 := by
  have hs0 : Step (fun _ => False) w T (w.drew.alloc (.cells X 110)) (retag T w.heap.size (.y i 3 q.groups.length)) := (step_below _ T (Below.refl _ _).drew).trans (step_new w.drew T _ _ _)
  have hs1 := hs0.trans (step_alloc _ _ (.cells #[.string s, .int .i64 fr, .slice (some ⟨w.heap.size, 0, none⟩) q.bodies.length q.bodies.length, .slice none 0 0] 108) _)
  have hB5 := (hB.step hs1 (fun h => h)).step hs5 (by simp)
  have hs6 : Step (fun t => t = .y i 0 0) w5 T5 ((w5.setCell ⟨b, 6, none⟩ (.slice (some ⟨g2, 0, none⟩) (q.groups.length + 1) cap2)).setCell ⟨b, 8, none⟩ (.int .i64 (wrap64 (q.changes + 1)))) T5 :=
    (step_setCell w5 T5 b 6 _ (S := fun t => t = .y i 0 0) hB5.1).trans (step_setCell _ T5 b 8 _ (S := fun t => t = .y i 0 0) hB5.1)
  have hnew : Row (w.drew.alloc (.cells X 110)) (retag T w.heap.size (.y i 3 q.groups.length)) (.y i 3 q.groups.length) 110 4 (.slice (some ⟨w.heap.size, 0, none⟩) q.bodies.length q.bodies.length) q.bodies.length (zeros4 q.bodies.length) := by
    have hsz : X.size = q.bodies.length * 4 := by rw [← Array.length_toList, hX]; simp [zeros4]
    refine ⟨⟨by simp [zeros4], .inr ⟨w.heap.size, q.bodies.length, X, rfl, Nat.zero_le _, heap_alloc_new w.drew _, Nat.le_refl _, by unfold maxLen; omega, hsz, ?_⟩⟩, fun g hg => ?_⟩
    · rw [← hsz, ← Array.length_toList, List.take_length, hX]
    · simp [Value.ownBlock] at hg
      rw [← hg, retag_same]
  have hnew5 := ((hnew.step (step_alloc _ _ (.cells #[.string s, .int .i64 fr, .slice (some ⟨w.heap.size, 0, none⟩) q.bodies.length q.bodies.length, .slice none 0 0] 108) (fun _ => False)) (fun h => h)).step hs5 (by simp)).step hs6 (by simp)
  refine ⟨?_, ⟨hsm, by simp; omega, hfl, vB, .slice (some ⟨g2, 0, none⟩) (q.groups.length + 1) cap2, fun k => if k = q.groups.length then .slice (some ⟨w.heap.size, 0, none⟩) q.bodies.length q.bodies.length else vi k, fun k => if k = q.groups.length then .slice none 0 0 else vd k, ?_, ?_, ?_, ?_⟩, hB5⟩
  · exact (hs1.mono (fun _ h => h.elim)).trans ((hs5.mono (fun t ht => ⟨2, 0, ht⟩)).trans (hs6.mono (fun t ht => ⟨0, 0, ht⟩)))
  · exact (hB5.set 6 _).set 8 _
  · exact ((hR.step hs1 (fun h => h)).step hs5 (by simp)).step hs6 (by simp)
  · have h6 := hR5.step hs6 (by simp)
    rw [groupCells_snoc, groupCells_congr q.groups q.groups vi vd _ _ rfl (fun k hk => if_neg (by omega)) (fun k hk => if_neg (by omega))]
    simpa using h6
  · intro k g hk
    by_cases hkl : k < q.groups.length
    · rw [List.getElem?_append_left hkl] at hk
      have hne : ¬ k = q.groups.length := by omega
      simp only [if_neg hne]
      exact (((hI k g hk).step hs1 (fun h => h) (fun h => h)).step hs5 (by simp) (by simp)).step hs6 (by simp) (by simp)
    · rw [List.getElem?_append_right (by omega)] at hk
      have hk0 : k = q.groups.length := by
        rcases Nat.lt_or_ge (k - q.groups.length) 1 with h | h
        · omega
        · rw [List.getElem?_eq_none (by simpa using h)] at hk; cases hk
      subst hk0
      simp at hk
      subst hk
      simp only [if_true]
      exact ⟨hnew5, row_nil _ _ _ _ _⟩

set_option maxRecDepth 100000 in
set_option maxHeartbeats 4000000 in
theorem ygroup_any (i b : Nat) (q : RQ) (s : ByteArray) (fr : Int) (w : World) (T : Nat → Tag) (hy : YQ w T i b q) :
    Calls Try.prog 70 #[.pointer (some ⟨b, 0, none⟩), .string s, .int .i64 fr] w fun e w' => e = .returned (.int .i64 (grpY s fr q)) ∧
      ∃ T', Step (fun t => ∃ r j, t = .y i r j) w T w' T' ∧ YQ w' T' i b (grpQ q s fr) := by
  go_enter Try.func70, Try.ntmps70
  go_wp2_with fail
  refine (yat_any i b q s w T hy).mono ?_
  rintro e w1 ⟨rfl, rfl⟩
  cases h1 : btw s.size 1 16
  · have h1' := btw_false h1
    by_cases hl : s.size < 1
    · go_wp2
      go_ret
      exact ⟨by simp [grpY, h1], T, Step.refl _ _ _, by simpa [grpQ, grpY, h1] using hy⟩
    · have hl2 : 16 < s.size := by omega
      go_wp2
      go_ret
      exact ⟨by simp [grpY, h1], T, Step.refl _ _ _, by simpa [grpQ, grpY, h1] using hy⟩
  have h1' := btw_true h1
  have hl : ¬ s.size < 1 := by omega
  have hl2 : ¬ 16 < s.size := by omega
  cases h2 : memB s (q.groups.map (·.name))
  case true =>
    have hp := placeOf_yes h2
    generalize placeOf s (q.groups.map (·.name)) = p at *
    go_wp2
    go_ret
    exact ⟨by simp [grpY, h1, h2], T, Step.refl _ _ _, by simpa [grpQ, grpY, h1, h2] using hy⟩
  rw [placeOf_no h2]
  have hy0 := hy
  obtain ⟨hsm, hfew, hfl, vB, vG, vi, vd, hB, hR, hG, hI⟩ := hy
  obtain ⟨bo, bc, rfl⟩ := row_form hR
  obtain ⟨go, gc, rfl⟩ := row_form hG
  have hlt := hB.lt
  have c4 := hB.cell (j := 4) rfl
  have c5 := hB.cell (j := 5) rfl
  have c6 := hB.cell (j := 6) rfl
  simp only [List.getElem_toArray, List.getElem_cons_succ, List.getElem_cons_zero] at c4 c5 c6
  by_cases h3 : 6 ≤ q.groups.length
  · go_wp2
    go_ret
    exact ⟨by simp [grpY, h1, h2, h3], T, Step.refl _ _ _, by simpa [grpQ, grpY, h1, h2, h3] using hy0⟩
  cases h4 : btw fr q.floor q.bodies.length
  · have h4' := btw_false h4
    by_cases h5 : fr < q.floor
    · go_wp2
      go_ret
      exact ⟨by simp [grpY, h1, h2, h3, h4], T, Step.refl _ _ _, by simpa [grpQ, grpY, h1, h2, h3, h4] using hy0⟩
    · have h6 : q.bodies.length < fr := by omega
      go_wp2
      go_ret
      exact ⟨by simp [grpY, h1, h2, h3, h4], T, Step.refl _ _ _, by simpa [grpQ, grpY, h1, h2, h3, h4] using hy0⟩
  have h4' := btw_true h4
  have h5 : ¬ fr < q.floor := by omega
  have h6 : ¬ (q.bodies.length : Int) < fr := by omega
  have e0 : grpY s fr q = 0 := by simp [grpY, h1, h2, h3, h4]
  obtain ⟨i0, hi, hz0, hz1, hz2⟩ := info_parts info91
  obtain ⟨j0, hj, hj0, hj1, hj2⟩ := info_parts info93g
  obtain ⟨X, hX, hmk⟩ : ∃ X : Array Value, X.toList = zeros4 q.bodies.length ∧ ∀ w : World, (Instr.makeSlice 106 (.int .i64 (q.bodies.length : Int)) (.int .i64 (q.bodies.length : Int))).run Try.prog w = .ok (.slice (some ⟨w.heap.size, 0, none⟩) q.bodies.length q.bodies.length) (w.alloc (.cells X 110)) :=
    ⟨_, made4 _, fun w => by have := run_make (P := Try.prog) w 106 110 j0 _ Try.underlying106 hj hj0 .i64 .i64 q.bodies.length q.bodies.length (by omega) (Int.le_refl _) (by rw [hj2]; omega) (by omega); rw [hj1] at this; simpa using this⟩
  have hs1 : Step (fun _ => False) w1 T ((w1.drew.alloc (.cells X 110)).alloc (.cells #[.string s, .int .i64 fr, .slice (some ⟨w1.heap.size, 0, none⟩) q.bodies.length q.bodies.length, .slice none 0 0] 108)) (retag T w1.heap.size (.y i 3 q.groups.length)) :=
    ((step_below _ T (Below.refl _ _).drew).trans (step_new w1.drew T _ _ _)).trans (step_alloc _ _ _ _)
  obtain ⟨g2, cap2, w5, T5, hrun, hR5, hs5⟩ := run_append_row (P := Try.prog) 95 95 108 i0 _ 4 72 Try.underlying95 hi hz0 hz1 hz2 rfl (by decide) _ _ _ (hG.step hs1 (fun h => h)) ⟨w1.heap.size + 1, 0, none⟩ 1 1 [.string s, .int .i64 fr, .slice (some ⟨w1.heap.size, 0, none⟩) q.bodies.length q.bodies.length, .slice none 0 0] rfl
    (by have := cells_newg (w1.drew.alloc (.cells X 110)) [.string s, .int .i64 fr, .slice (some ⟨w1.heap.size, 0, none⟩) q.bodies.length q.bodies.length, .slice none 0 0] 108; simpa using this) (by simp [Value.oneCell']) (by decide) (by unfold maxLen; omega) (by omega)
  obtain ⟨k1, k2, hB5⟩ := grp_done (fr := fr) hX hsm (by omega) hfl hB hR hI hs5 hR5
  have p6 := hB5.cell (j := 6) rfl
  have p8 := hB5.cell (j := 8) rfl
  have r6 := hB5.frozen 6
  have r8 := hB5.frozen 8
  simp only [List.getElem_toArray, List.getElem_cons_succ, List.getElem_cons_zero] at p6 p8
  have k3 : grpQ q s fr = { q with groups := q.groups ++ [⟨s, fr, zeros4 q.bodies.length, []⟩], changes := wrap64 (q.changes + 1) } := by
    unfold grpQ
    rw [e0]
    rfl
  rw [← k3] at k2
  clear hB hR hG hI hs1 hs5 hR5 hB5 hX hy0 k3
  go_wp2_with fail
  go_region_law (refine step_append_known rfl _ _ 95 rfl _ _ _ rfl rfl hrun ?_)
  all_goals
    go_wp2
    go_ret
    refine ⟨?_, T5, k1, k2⟩
    rw [e0]; rfl

end Go.Proofs.Ytgcbooflhdjnhaa

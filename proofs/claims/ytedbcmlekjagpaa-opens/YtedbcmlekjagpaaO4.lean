/- Contracts of the program's Enqueue and Group. -/
import Derived.Test.YtedbcmlekjagpaaO3
namespace Go.Proofs.Ytedbcmlekjagpaa
open Go.RowKit Go.Maps

/-- Enqueue's error: of a body's length, of how many messages there are, of Kept. -/
def enqE (len n : Nat) (kept : Int) : Int := bif decide (64 < len) then 3 else bif decide (400 ≤ n) then 5 else bif decide (kept ≤ n) then 4 else 0
def enqN (len n : Nat) (kept : Int) : Int := bif decide (enqE len n kept = 0) then n else 0
def enqL (len : Nat) (kept : Int) (l : List Value) (v : Value) : List Value := bif decide (enqE len l.length kept = 0) then l ++ [v] else l

attribute [local go_sem] over_cell

theorem info9 : (Try.prog.info? 9).map (fun i => (i.zero, i.size, i.bytes)) = some (some (.string ⟨#[]⟩), 1, 16) := by kernel_rfl

set_option maxRecDepth 100000 in
set_option maxHeartbeats 2000000 in
theorem xenqueue_any (i b : Nat) (c : Conf) (bodies : List Value) (names : List ByteArray) (s : ByteArray) (w : World) (T : Nat → Tag) (hx : XQ w T i b c bodies names) :
    Calls Try.prog 16 #[.pointer (some ⟨b, 0, none⟩), .string s] w fun e w' => e = .returned (.tuple #[.int .i64 (enqN s.size bodies.length c.k), .int .i64 (enqE s.size bodies.length c.k)]) ∧
      ∃ T', Step (fun t => ∃ r, t = .x i r) w T w' T' ∧ XQ w' T' i b c (enqL s.size c.k bodies (.string s)) names := by
  have hx0 := hx
  obtain ⟨hs, hnd, vB, m, n, hB, hR, hTm, hM⟩ := hx
  by_cases h1 : 64 < s.size
  · go_enter Try.func16, Try.ntmps16
    go_wp2
    go_ret2
    exact ⟨by simp [enqN, enqE, h1], T, Step.refl _ _ _, by simpa [enqL, enqE, h1] using hx0⟩
  obtain ⟨i0, hi, hz0, hz1, hz2⟩ := info_parts info9
  go_enter Try.func16, Try.ntmps16
  go_wp2_with fail
  refine (xend_any i b c bodies names _ T hx0).mono ?_
  rintro e w1 ⟨rfl, hb1⟩
  have f1 : Step (fun t => ∃ r, t = .x i r) w T w1 T := step_below _ T hb1
  have g1 := step_below (fun _ => False) T hb1
  replace hx0 := hx0.step g1 (fun _ h => h)
  replace hB := hB.step g1 (fun h => h)
  replace hR := hR.step g1 (fun h => h)
  replace hM := ownsMap_step hM g1 (fun h => h)
  by_cases h2 : 400 ≤ bodies.length
  · go_wp2
    go_ret2
    exact ⟨by simp [enqN, enqE, h1, h2], T, f1, by simpa [enqL, enqE, h1, h2] using hx0⟩
  obtain ⟨ao, cap, rfl⟩ := row_form hR
  have hlt := hB.lt
  have c3 := hB.cell (j := 3) rfl
  have c5 := hB.cell (j := 5) rfl
  simp only [List.getElem_toArray, List.getElem_cons_succ, List.getElem_cons_zero] at c3 c5
  go_wp2_with fail
  refine wp_region_over (by kernel_rfl) (by kernel_rfl) ?_
  repeat (go_big_quiet_step (fail))
  refine wpQuiet_nil ?_
  rintro _ ⟨x, rfl⟩
  have hb2 := over_below w1 x
  generalize over w1 x = w2 at *
  have g2 := step_below (fun _ => False) T hb2
  replace f1 := f1.trans (step_below _ T hb2)
  replace hx0 := hx0.step g2 (fun _ h => h)
  replace hB := hB.step g2 (fun h => h)
  replace hR := hR.step g2 (fun h => h)
  replace hM := ownsMap_step hM g2 (fun h => h)
  clear c3 c5 hlt g1 g2 hb1 hb2
  by_cases h3 : c.k ≤ bodies.length
  · go_wp2
    go_ret2
    exact ⟨by simp [enqN, enqE, h1, h2, h3], T, f1, by simpa [enqL, enqE, h1, h2, h3] using hx0⟩
  have hlt := hB.lt
  have c5 := hB.cell (j := 5) rfl
  have q5 := hB.frozen 5
  simp only [List.getElem_toArray, List.getElem_cons_succ, List.getElem_cons_zero] at c5
  have hR1 := hR.step (step_alloc w2 T (.cells #[.string s] 9) (fun _ => False)) (fun h => h)
  have hB1 := hB.step (step_alloc w2 T (.cells #[.string s] 9) (fun _ => False)) (fun h => h)
  have hM1 := ownsMap_step hM (step_alloc w2 T (.cells #[.string s] 9) (fun _ => False)) (fun h => h)
  go_wp2_with (first
    | (at_builtin; refine wpList_append_row rfl _ _ 77 rfl 9 i0 (.string ⟨#[]⟩) 1 16 Try.underlying77 hi hz0 hz1 hz2 rfl (by decide) _ _ _ rfl hR1 ⟨w2.heap.size, 0, none⟩ 1 1 [.string s] rfl rfl (cell_one_new _ _ _) (by simp [Value.oneCell']) (by decide) (by unfold maxLen; omega) (by omega) ?_; intro g cap' w3 T3 hR3 hs3; have hB3 := hB1.step hs3 (by simp); have d5 := hB3.cell (j := 5) rfl; have e5 := hB3.frozen 5)
    | go_in)
  go_ret2
  have h3' : ¬ c.k ≤ bodies.length := by omega
  have e0 : enqE s.size bodies.length c.k = 0 := by simp [enqE, h1, h2, h3']
  refine ⟨by simp [enqN, e0], T3, ?_, ?_⟩
  · exact f1.trans ((step_alloc _ _ _ _).trans ((hs3.mono (fun t ht => ⟨1, ht⟩)).trans (step_setCell _ _ _ _ _ ⟨0, hB3.1⟩)))
  · have hss := step_setCell w3 T3 b 5 (.slice (some ⟨g, 0, none⟩) (bodies.length + 1) cap') (S := fun t => t = .x i 0) hB3.1
    have hTm3 : T3 m = .x i 2 := (hs3.tag m hM1.lt).trans hTm
    refine ⟨by simp [enqL, e0]; omega, hnd, .slice (some ⟨g, 0, none⟩) (bodies.length + 1) cap', m, n, hB3.set 5 _, ?_, hTm3, ?_⟩
    · simpa [enqL, e0] using hR3.step hss (by simp)
    · exact ownsMap_step (ownsMap_step hM1 hs3 (by rw [hTm]; simp)) hss (by rw [hTm3]; simp)

end Go.Proofs.Ytedbcmlekjagpaa

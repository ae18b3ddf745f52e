/- The contract of the document's Copy of a queue that has nothing yet: it only makes new memory. -/
import Derived.Test.YtgcbooflhdjnhaaT05
import Derived.BigRegion
namespace Go.Proofs.Ytgcbooflhdjnhaa
open Go.RowKit

theorem append_nils (w : World) : (Builtin.append_ #[75, 75] 75 #[.slice none 0 0, .slice none 0 0]).run Try.prog w = .ok (.slice none 0 0) w := by
  obtain ⟨i0, hi, hz0, hz1, hz2⟩ := info_parts (show (Try.prog.info? 9).map (fun i => (i.zero, i.size, i.bytes)) = some (some (.string ⟨#[]⟩), 1, 16) by kernel_rfl)
  simp [Builtin.append_, run_underlying Try.underlying75, sizeOf, typeInfo, hi, Builtin.lenOf, Builtin.firstCells]

set_option maxRecDepth 100000 in
set_option maxHeartbeats 4000000 in
theorem ycopy_fresh (b : Nat) (c : Conf) (w : World) (hB : w.heap[b]? = some (.cells #[.int .i64 c.l, .int .i64 c.d, .int .i64 c.s, .int .i64 c.k, .slice none 0 0, .int .i64 0, .slice none 0 0, .int .i64 0, .int .i64 0] 97 (0, 0))) :
    Calls Try.prog 41 #[.pointer (some ⟨b, 0, none⟩)] w fun e w' => ∃ p, e = .returned (.pointer (some p)) ∧ Below w.heap.size w w' := by
  have hB0 : Blk w (fun _ => .free) .free b _ 97 := ⟨rfl, hB⟩
  have hlt := hB0.lt
  have c0 := hB0.cell (j := 0) rfl
  have c1 := hB0.cell (j := 1) rfl
  have c2 := hB0.cell (j := 2) rfl
  have c3 := hB0.cell (j := 3) rfl
  have c4 := hB0.cell (j := 4) rfl
  have c5 := hB0.cell (j := 5) rfl
  have c6 := hB0.cell (j := 6) rfl
  have c7 := hB0.cell (j := 7) rfl
  have c8 := hB0.cell (j := 8) rfl
  simp only [List.getElem_toArray, List.getElem_cons_succ, List.getElem_cons_zero] at c0 c1 c2 c3 c4 c5 c6 c7 c8
  clear hB hB0
  go_enter Try.func41, Try.ntmps41
  go_wp2_with fail
  go_region
  go_wp2_with fail
  go_region_law (refine step_append_known rfl _ _ 75 rfl _ _ _ rfl rfl (append_nils _) ?_)
  all_goals
    go_wp2
    refine wp_loop_rounds 1 ?_
    rw [rounds_succ]
    go_wp2
    go_ret
    exact ⟨⟨w.heap.size, 0, none⟩, rfl, (((Below.refl _ _).alloc (Nat.le_refl _) _).drew).drew⟩

end Go.Proofs.Ytgcbooflhdjnhaa

/- The contract of ranges.Add over the nil list, and what an answer's own memory gives to the next call. -/
import Derived.Test.YtockkceclkcgbaaW4
namespace Go.Proofs.Ytockkceclkcgbaa
open Go.RowKit

attribute [local go_sem] over_cell

theorem cells_of_own {w : World} {B g cap : Nat} {L : RL} (h : w.ownsRow B 31 2 (.slice (some ⟨g, 0, none⟩) L.length cap) L.length (flat L)) : Cells w g 0 L := by
  refine ⟨(h.lt g rfl).2, fun i hi => ?_⟩
  have hf := flat_get L i hi
  have e0 := h.cellAt (i * 2) (by omega)
  have e1 := h.cellAt (i * 2 + 1) (by omega)
  rw [Nat.zero_add, e0, e1]
  exact hf

set_option maxHeartbeats 400000 in
theorem add_nil (a b : Int) (w : World) (hr : isR a b = true) :
    Calls Try.prog 14 #[.slice none 0 0, .agg #[.int .i64 a, .int .i64 b]] w fun e w' => ∃ g,
      e = .returned (.tuple #[.slice (some ⟨g, 0, none⟩) 1 1, .int .i64 0]) ∧
      w'.ownsRow w.heap.size 31 2 (.slice (some ⟨g, 0, none⟩) 1 1) 1 (flat [(a, b)]) ∧ Below w.heap.size w w' := by
  have hbw : Below w.heap.size w (w.alloc (.cells #[.int .i64 a, .int .i64 b] 31)) := (Below.refl _ _).alloc (Nat.le_refl _) _
  obtain ⟨i0, hi0, hz0, hz1, hz2⟩ := info_parts Try.info31
  go_enter Try.func14, Try.ntmps14
  go_wp2_with fail
  refine (isSet_empty none 0 _).mono ?_
  rintro e w0 ⟨rfl, hb0⟩
  rw [show setB [] = true from rfl]
  have hcl : ∀ o, w0.cell? ⟨w.heap.size, o, none⟩ = (w.alloc (.cells #[.int .i64 a, .int .i64 b] 31)).cell? ⟨w.heap.size, o, none⟩ := fun o => hb0.cell (p := ⟨w.heap.size, o, none⟩) (by simp)
  have hz : w.heap.size < w0.heap.size := by have := hb0.size; simp at this; omega
  go_wp2_with fail
  refine (isRange_any _ _ _).mono ?_
  rintro e w1 ⟨rfl, hb1⟩
  rw [hr]
  have hz' : w.heap.size < w1.heap.size := by have := hb1.size; omega
  go_wp2_with (at_make; refine wpList_make_own _ rfl _ _ 22 rfl (w.heap.size + 1) 31 i0 _ 2 Try.underlying22 hi0 hz0 hz1 _ _ _ 1 rfl rfl (by omega) (by rw [hz2]; omega) (by unfold maxLen; omega) (by omega) ?_)
  intro w2 hown0 hgrow0
  have hw1 : Below w.heap.size w w1 := (hbw.trans (hb0.mono (by simp))).trans (hb1.mono (by omega))
  have hI0 : Inv w w1.heap.size 1 0 [] a b w2 := by
    refine ⟨hown0, ?_, hw1.grown hgrow0 hw1.size (fun k h => by cases h)⟩
    rw [hgrow0.block _ (by omega) (by simp), hb1.block _ hz, hb0.block _ (by simp)]
    exact heap_alloc_new w _
  clear hown0 hgrow0 hb1 hb0 hcl hw1 hbw
  generalize w1.heap.size = g at *
  clear w0 w1 hz hz'
  go_wp2
  refine wp_loop_rounds 1 ?_
  rw [rounds_succ]
  go_wp2_with fail
  refine wp_region_over (by kernel_rfl) (by kernel_rfl) ?_
  repeat (go_big_quiet_step (fail))
  refine wpQuiet_nil ?_
  rintro _ ⟨x, rfl⟩
  have hI1 := hI0.on (over_below w2 x)
  clear hI0
  generalize over w2 x = w3 at *
  go_wp2_with fail
  refine wp_loop_rounds 1 ?_
  rw [rounds_succ]
  go_wp2_with fail
  refine wp_region_over (by kernel_rfl) (by kernel_rfl) ?_
  repeat (go_big_quiet_step (fail))
  refine wpQuiet_nil ?_
  rintro _ ⟨x, rfl⟩
  have hI2 := hI1.on (over_below w3 x)
  clear hI1
  generalize over w3 x = w5 at *
  have q0 := hI2.cell0
  have q1 := hI2.cell1
  go_wp2_with (first | (at_builtin; refine wpList_append_fits _ rfl (.tmp 62) (.tmp 64) 22 rfl (w.heap.size + 1) 31 i0 2 Try.underlying22 hi0 hz1 g 0 1 _ rfl (hI2.own.alloc _) ⟨w5.heap.size, 0, none⟩ 1 1 (flat [(a, b)]) rfl rfl (by intro t u ht; match t, ht with | 0, ht => simp [flat] at ht; subst ht; simp [Addr.add] | 1, ht => simp [flat] at ht; subst ht; simp [Addr.add]) (by intro u hu; simp [flat] at hu; rcases hu with rfl | rfl <;> rfl) (by omega) ?_; intro w6 hown1 hgrow1; have hI6 := (hI2.on ((Below.refl _ _).alloc (Nat.le_refl _) _)).more hown1 hgrow1) | (at_builtin; refine wpList_append_fits_any _ rfl (.tmp 66) (.tmp 69) 22 rfl (w.heap.size + 1) 31 i0 2 Try.underlying22 hi0 hz1 g 1 1 _ rfl hown1 _ 0 _ (flat []) rfl (by simp [flat_length]) (by intro h; exact ⟨rfl, rfl⟩) (by intro ad h; cases h) (flat_oneCell _) (by omega) ?_; intro w7 hown2 hgrow2))
  go_ret2
  have hI7 := hI6.more (m := 0) (ys := []) (by rw [flat_append]; exact hown2) hgrow2
  exact ⟨g, rfl, ownsRow_base hI7.own (Nat.le_succ _), hI7.bel⟩

end Go.Proofs.Ytockkceclkcgbaa

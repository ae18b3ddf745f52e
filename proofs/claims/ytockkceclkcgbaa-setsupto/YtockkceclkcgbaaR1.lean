/- Contracts of the document's answer (package quayref) and of the law's helpers that only read: SetOK, Has, Gap, sameRanges, kept, markRange. -/
import Derived.Test.YtockkceclkcgbaaU1
namespace Go.Proofs.Ytockkceclkcgbaa
open Go.RowKit

attribute [local go_sem] over_cell

theorem ArgL.below {w w' : World} {ao : Option Addr} {ls : RL} (h : ArgL w ao ls) (hb : Below w.heap.size w w') : ArgL w' ao ls := fun k hk => by
  obtain ⟨b, off, e, hlt, h0, h1⟩ := h k hk
  exact ⟨b, off, e, Nat.lt_of_lt_of_le hlt hb.size, (hb.cell (p := ⟨b, off + k * 2, none⟩) hlt).trans h0, (hb.cell (p := ⟨b, off + k * 2 + 1, none⟩) hlt).trans h1⟩

theorem argL_cells {w : World} {b off : Nat} {ls : RL} (h : Cells w b off ls) : ArgL w (some ⟨b, off, none⟩) ls := fun k hk => ⟨b, off, rfl, h.1, (h.2 k hk).1, (h.2 k hk).2⟩

set_option maxHeartbeats 400000 in
theorem mark_any (n : Int) (w : World) (h0 : 0 ≤ n) (h1 : n ≤ 1000000000) :
    Calls Try.prog 18 #[.int .i64 n] w fun e w' => e = .returned (.agg #[.int .i64 (-1000 - n), .int .i64 7]) ∧ Below w.heap.size w w' := by
  go_enter Try.func18, Try.ntmps18
  go_wp2
  refine bodyPost_ret (v := .agg #[.int .i64 (-1000 - n), .int .i64 7]) ?_ rfl ⟨rfl, (Below.refl _ _).alloc (Nat.le_refl _) _⟩
  simp [results, Try.results18, go_sem]

set_option maxHeartbeats 400000 in
theorem setOK_any (rs : RL) (ao : Option Addr) (cap : Nat) (w : World) (hl : ArgL w ao rs) (hlen : rs.length ≤ 140737488355328) :
    Calls Try.prog 20 #[.slice ao rs.length cap] w fun e w' => e = .returned (.bool (setB rs)) ∧ Below w.heap.size w w' := by
  go_enter Try.func20, Try.ntmps20
  go_wp2
  go_loopw [3] (fun i wr => ∃ k : Nat, k ≤ rs.length ∧ i = .int .i64 k ∧ Below w.heap.size w wr ∧ Hid (∀ j, j < k → goodAt rs j = true)) (fun i _ => rs.length - (intOf i).toNat)
  case atStart => exact ⟨0, Nat.zero_le _, rfl, Below.refl _ _, fun j hj => by omega⟩
  case round =>
    obtain ⟨k, hk, rfl, hb, hg⟩ := hrel
    by_cases hlt : k < rs.length
    · have hl2 := hl.below hb
      obtain ⟨b, off, rfl, hb1, c0, c1⟩ := hl2 k hlt
      cases hr : isR (lo rs k) (hi rs k)
      · have hno := setB_no rs k hlt (by simp [goodAt, hr])
        have hr2 : ¬ (0 ≤ lo rs k ∧ lo rs k ≤ hi rs k ∧ hi rs k ≤ 1099511627776) := by simpa [isR] using hr
        clear hl2 hg
        by_cases h1 : lo rs k < 0
        · go_wp2_with fail
          refine wp_region_over (by kernel_rfl) (by kernel_rfl) ?_
          repeat (go_big_quiet_step (fail))
          refine wpQuiet_nil ?_
          rintro _ ⟨x, rfl⟩
          have hov := hb.trans ((over_below wr x).mono hb.size)
          go_wp2
          go_ret
          exact ⟨ret_bool hno.symm, hov⟩
        · have d1 : decide (lo rs k < 0) = false := by simpa using h1
          by_cases h2 : hi rs k < lo rs k
          · go_wp2_with fail
            refine wp_region_over (by kernel_rfl) (by kernel_rfl) ?_
            repeat (go_big_quiet_step (fail))
            refine wpQuiet_nil ?_
            rintro _ ⟨x, rfl⟩
            have hov := hb.trans ((over_below wr x).mono hb.size)
            go_wp2
            go_ret
            exact ⟨ret_bool hno.symm, hov⟩
          · have d2 : decide (hi rs k < lo rs k) = false := by simpa using h2
            have d3 : 1099511627776 < hi rs k := by omega
            go_wp2_with fail
            refine wp_region_over (by kernel_rfl) (by kernel_rfl) ?_
            repeat (go_big_quiet_step (fail))
            refine wpQuiet_nil ?_
            rintro _ ⟨x, rfl⟩
            have hov := hb.trans ((over_below wr x).mono hb.size)
            go_wp2
            go_ret
            exact ⟨ret_bool hno.symm, hov⟩
      · have hrr := isR_hi hr
        have d1 : decide (lo rs k < 0) = false := by simp; omega
        have d2 : decide (hi rs k < lo rs k) = false := by simp; omega
        have d3 : decide (1099511627776 < hi rs k) = false := by simp; omega
        go_wp2_with fail
        refine wp_region_over (by kernel_rfl) (by kernel_rfl) ?_
        repeat (go_big_quiet_step (fail))
        refine wpQuiet_nil ?_
        rintro _ ⟨x, rfl⟩
        have hov := hb.trans ((over_below wr x).mono hb.size)
        have hl3 := hl2.below (over_below wr x)
        have hz : b < (over wr x).heap.size := Nat.lt_of_lt_of_le hb1 (over_below wr x).size
        clear hl2
        go_wp2_with fail
        by_cases hk0 : 0 < k
        · obtain ⟨b', off', e, _, p0, p1⟩ := hl3 (k - 1) (by omega)
          cases e
          obtain ⟨b', off', e, _, p2, p3⟩ := hl3 k hlt
          cases e
          have hbd := isR_hi (goodAt_isR (hg.out (k - 1) (by omega)))
          generalize over wr x = w5 at *
          cases hap : apartB (hi rs (k - 1)) (lo rs k)
          · have hno := setB_no rs k hlt (by simp [goodAt, hr, hap]; omega)
            have ha : lo rs k < hi rs (k - 1) + 2 := by simp [apartB] at hap; omega
            clear hl3
            refine wp_region_over (by kernel_rfl) (by kernel_rfl) ?_
            repeat (go_big_quiet_step (fail))
            refine wpQuiet_nil ?_
            rintro _ ⟨x, rfl⟩
            have hov2 := hov.trans ((over_below w5 x).mono hov.size)
            go_wp2
            go_ret
            exact ⟨ret_bool hno.symm, hov2⟩
          · have ha : decide (lo rs k < hi rs (k - 1) + 2) = false := by simp [apartB] at hap; simp; omega
            clear hl3
            refine wp_region_over (by kernel_rfl) (by kernel_rfl) ?_
            repeat (go_big_quiet_step (fail))
            refine wpQuiet_nil ?_
            rintro _ ⟨x, rfl⟩
            have hov2 := hov.trans ((over_below w5 x).mono hov.size)
            go_wp2
            go_roundw
            case rel => exact ⟨k + 1, by omega, by go_num, hov2, good_succ hg (by simp [goodAt, hr, hap])⟩
            case measure => simp [intOf]; omega
        · have hd : decide (0 < k) = false := by simpa using hk0
          clear hl3
          generalize over wr x = w5 at *
          refine wp_region_over (by kernel_rfl) (by kernel_rfl) ?_
          repeat (go_big_quiet_step (fail))
          refine wpQuiet_nil ?_
          rintro _ ⟨x, rfl⟩
          have hov2 := hov.trans ((over_below w5 x).mono hov.size)
          go_wp2
          go_roundw
          case rel => exact ⟨k + 1, by omega, by go_num, hov2, good_succ hg (by simp [goodAt, hr]; omega)⟩
          case measure => simp [intOf]; omega
    · go_wp2
      go_ret
      have : setB rs = true := (setB_iff rs).2 fun i hi => hg.out i (by omega)
      exact ⟨ret_bool this.symm, hb⟩

end Go.Proofs.Ytockkceclkcgbaa

/- Contracts of the law's helpers kept and lent. -/
import Derived.Test.YtockkceclkcgbaaR2
import Derived.Laws.CopyOwn
namespace Go.Proofs.Ytockkceclkcgbaa
open Go.RowKit

attribute [local go_sem] over_cell

/-- A list with eight marks of the caller's behind it. -/
def marks (L : RL) : RL := L ++ List.replicate 8 (-1000, 7)
theorem marks_length (L : RL) : (marks L).length = L.length + 8 := by simp [marks]
theorem lo_marks (L : RL) (k : Nat) (h : k < L.length) : lo (marks L) k = lo L k := by
  have : (marks L)[k]? = L[k]? := by rw [marks, List.getElem?_append_left h]
  simp only [lo, List.getD, this]
theorem hi_marks (L : RL) (k : Nat) (h : k < L.length) : hi (marks L) k = hi L k := by
  have : (marks L)[k]? = L[k]? := by rw [marks, List.getElem?_append_left h]
  simp only [hi, List.getD, this]
theorem lo_marks' (L : RL) (k : Nat) (h : L.length ≤ k) (h2 : k < L.length + 8) : lo (marks L) k = -1000 := by
  have : (marks L)[k]? = some (-1000, 7) := by
    rw [marks, List.getElem?_append_right h, List.getElem?_replicate, if_pos (by omega)]
  simp [lo, List.getD, this]
theorem hi_marks' (L : RL) (k : Nat) (h : L.length ≤ k) (h2 : k < L.length + 8) : hi (marks L) k = 7 := by
  have : (marks L)[k]? = some (-1000, 7) := by
    rw [marks, List.getElem?_append_right h, List.getElem?_replicate, if_pos (by omega)]
  simp [hi, List.getD, this]

set_option maxHeartbeats 400000 in
theorem kept_any (L : RL) (ao ao' : Option Addr) (cap cap' : Nat) (w : World) (hl : ArgL w ao' L) (hm : ArgL w ao (marks L)) (hlen : L.length ≤ 140737488355328) :
    Calls Try.prog 13 #[.slice ao (L.length + 8) cap, .slice ao' L.length cap'] w fun e w' => e = .returned (.bool true) ∧ Below w.heap.size w w' := by
  go_enter Try.func13, Try.ntmps13
  go_wp2
  go_loopw [5] (fun i wr => ∃ k : Nat, k ≤ L.length + 8 ∧ i = .int .i64 k ∧ Below w.heap.size w wr) (fun i _ => L.length + 8 - (intOf i).toNat)
  case atStart => exact ⟨0, Nat.zero_le _, rfl, Below.refl _ _⟩
  case round =>
    obtain ⟨k, hk, rfl, hb⟩ := hrel
    by_cases hlt : k < L.length + 8
    · go_wp2_with fail
      refine (mark_any 0 _ (by omega) (by omega)).mono ?_
      rintro e w1 ⟨rfl, hb1⟩
      have hbw : Below w.heap.size w w1 := hb.trans (hb1.mono hb.size)
      have hm2 := hm.below hbw
      obtain ⟨b, off, rfl, hb2, c0, c1⟩ := hm2 k (by rw [marks_length]; omega)
      clear hm2
      have hba : Below w1.heap.size w1 (w1.alloc (.cells #[.int .i64 (-1000), .int .i64 7] 31)) := (Below.refl _ _).alloc (Nat.le_refl _) _
      have hz := hbw.size
      by_cases hin : k < L.length
      · have hl2 := hl.below hbw
        obtain ⟨b', off', rfl, hb3, d0, d1⟩ := hl2 k hin
        clear hl2
        rw [lo_marks L k hin] at c0
        rw [hi_marks L k hin] at c1
        go_wp2_with fail
        have hz1 : b < w1.heap.size + 1 := by omega
        refine wp_region_over (by kernel_rfl) (by kernel_rfl) ?_
        repeat (go_big_quiet_step (fail))
        refine wpQuiet_nil ?_
        rintro _ ⟨x, rfl⟩
        have hov := (hbw.alloc hz (.cells #[.int .i64 (lo L k), .int .i64 (hi L k)] 31)).trans ((over_below _ x).mono (by simp; omega))
        go_wp2
        go_roundw
        case rel => exact ⟨k + 1, by omega, by go_num, hov⟩
        case measure => simp [intOf]; omega
      · rw [lo_marks' L k (by omega) hlt] at c0
        rw [hi_marks' L k (by omega) hlt] at c1
        have hz1 : b < w1.heap.size + 1 := by omega
        go_wp2_with fail
        refine wp_region_over (by kernel_rfl) (by kernel_rfl) ?_
        repeat (go_big_quiet_step (fail))
        refine wpQuiet_nil ?_
        rintro _ ⟨x, rfl⟩
        have hov := (hbw.alloc hz (.cells #[.int .i64 (-1000), .int .i64 7] 31)).trans ((over_below _ x).mono (by simp; omega))
        go_wp2
        go_roundw
        case rel => exact ⟨k + 1, by omega, by go_num, hov⟩
        case measure => simp [intOf]; omega
    · go_wp2
      go_ret
      exact ⟨rfl, hb⟩

end Go.Proofs.Ytockkceclkcgbaa

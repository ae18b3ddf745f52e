/- The contract of ranges.isSet: it tells whether a list of ranges is a set, and makes new memory alone. -/
import Derived.Test.YtockkceclkcgbaaW0
import Derived.Test.YtockkceclkcgbaaW1
namespace Go.Proofs.Ytockkceclkcgbaa
open Go.RowKit

abbrev RL := List (Int × Int)
def lo (rs : RL) (i : Nat) : Int := (rs.getD i (0, 0)).1
def hi (rs : RL) (i : Nat) : Int := (rs.getD i (0, 0)).2

def goodAt (rs : RL) (i : Nat) : Bool := isR (lo rs i) (hi rs i) && (i == 0 || apartB (hi rs (i - 1)) (lo rs i))
def setB (rs : RL) : Bool := (List.range rs.length).all (goodAt rs)

theorem setB_iff (rs : RL) : setB rs = true ↔ ∀ i, i < rs.length → goodAt rs i = true := by simp [setB]
theorem setB_no (rs : RL) (i : Nat) (h : i < rs.length) (hg : goodAt rs i = false) : setB rs = false := by
  cases hs : setB rs with
  | false => rfl
  | true => have := (setB_iff rs).1 hs i h; rw [hg] at this; cases this

theorem goodAt_isR {rs : RL} {i : Nat} (h : goodAt rs i = true) : isR (lo rs i) (hi rs i) = true := by
  simp [goodAt] at h; exact h.1
theorem isR_hi {a b : Int} (h : isR a b = true) : 0 ≤ a ∧ a ≤ b ∧ b ≤ 1099511627776 := by simpa [isR] using h
theorem good_succ {rs : RL} {k : Nat} (h : Hid (∀ j, j < k → goodAt rs j = true)) (hk : goodAt rs k = true) : Hid (∀ j, j < k + 1 → goodAt rs j = true) := fun j hj => by
  rcases Nat.lt_succ_iff_lt_or_eq.1 hj with h1 | rfl
  · exact h.out j h1
  · exact hk

/-- The cells of a list of ranges, from the address on. -/
def Cells (w : World) (b off : Nat) (rs : RL) : Prop :=
  b < w.heap.size ∧ ∀ i, i < rs.length → w.cell? ⟨b, off + i * 2, none⟩ = some (.int .i64 (lo rs i)) ∧ w.cell? ⟨b, off + i * 2 + 1, none⟩ = some (.int .i64 (hi rs i))

theorem Cells.below {w w' : World} {b off : Nat} {rs : RL} (h : Cells w b off rs) {B : Nat} (hB : Below B w w') (hb : b < B) : Cells w' b off rs :=
  ⟨Nat.lt_of_lt_of_le h.1 hB.size, fun i hi => by rw [hB.cell (p := ⟨b, off + i * 2, none⟩) hb, hB.cell (p := ⟨b, off + i * 2 + 1, none⟩) hb]; exact h.2 i hi⟩

attribute [local go_sem] over_cell

set_option maxHeartbeats 400000 in
theorem isSet_cells (rs : RL) (b off cap : Nat) (w : World) (hc : Cells w b off rs) (hlen : rs.length ≤ 140737488355328) :
    Calls Try.prog 21 #[.slice (some ⟨b, off, none⟩) rs.length cap] w fun e w' => e = .returned (.bool (setB rs)) ∧ Below w.heap.size w w' := by
  go_enter Try.func21, Try.ntmps21
  go_wp2
  go_loopw [7] (fun i wr => ∃ k : Nat, k ≤ rs.length ∧ i = .int .i64 k ∧ Below w.heap.size w wr ∧ Hid (∀ j, j < k → goodAt rs j = true)) (fun i _ => rs.length - (intOf i).toNat)
  case atStart => exact ⟨0, Nat.zero_le _, rfl, Below.refl _ _, fun j hj => by omega⟩
  case round =>
    obtain ⟨k, hk, rfl, hb, hg⟩ := hrel
    by_cases hlt : k < rs.length
    · have hcr := hc.below hb hc.1
      have hb1 := hcr.1
      have hc0 := (hcr.2 k hlt).1
      have hc1 := (hcr.2 k hlt).2
      clear hcr
      go_wp2_with fail
      refine (isRange_any _ _ _).mono ?_
      rintro e w1 ⟨rfl, hb2⟩
      have hz : wr.heap.size < w1.heap.size := by have := hb2.size; simp at this; omega
      have hz2 : b < w1.heap.size := by omega
      have hcl : ∀ o, w1.cell? ⟨wr.heap.size, o, none⟩ = (wr.alloc (Obj.cells #[Value.int IntKind.i64 (lo rs k), Value.int IntKind.i64 (hi rs k)] 31)).cell? ⟨wr.heap.size, o, none⟩ := fun o => hb2.cell (p := ⟨wr.heap.size, o, none⟩) (by simp)
      have hcb : ∀ o, w1.cell? ⟨b, o, none⟩ = wr.cell? ⟨b, o, none⟩ := fun o => by
        rw [hb2.cell (p := ⟨b, o, none⟩) (by simp; omega)]
        exact World.cell?_of_block (Below.heap_alloc _ _ _ hb1)
      have hbb : Below w.heap.size w w1 := (hb.alloc hb.size _).trans (hb2.mono (by have := hb.size; simp; omega))
      cases hr : isR (lo rs k) (hi rs k)
      · go_wp2
        go_ret
        have := setB_no rs k hlt (by simp [goodAt, hr])
        exact ⟨ret_bool this.symm, hbb⟩
      · by_cases hk0 : 0 < k
        · have hp0 := ((hc.below hb hc.1).2 (k - 1) (by omega)).1
          have hp1 := ((hc.below hb hc.1).2 (k - 1) (by omega)).2
          have hbd := isR_hi (goodAt_isR (hg.out (k - 1) (by omega)))
          go_wp2_with fail
          refine wp_region_over (by kernel_rfl) (by kernel_rfl) ?_
          repeat (go_big_quiet_step ((go_at_call 24; exact quiet_over (fun w1 => apart_any _ _ _ _ w1 (by omega) (by omega)))))
          refine wpQuiet_nil ?_
          rintro _ ⟨x, rfl⟩
          have hov := over_below w1 x
          cases hap : apartB (hi rs (k - 1)) (lo rs k)
          · go_wp2
            go_ret
            have := setB_no rs k hlt (by simp [goodAt, hr, hap]; omega)
            exact ⟨ret_bool this.symm, hbb.trans (hov.mono hbb.size)⟩
          · go_wp2
            go_roundw
            case rel => exact ⟨k + 1, by omega, by go_num, hbb.trans (hov.mono hbb.size), good_succ hg (by simp [goodAt, hr, hap])⟩
            case measure => simp [intOf]; omega
        · have hd : decide (0 < k) = false := by simpa using hk0
          go_wp2_with fail
          refine wp_region_over (by kernel_rfl) (by kernel_rfl) ?_
          repeat (go_big_quiet_step (fail))
          refine wpQuiet_nil ?_
          rintro _ ⟨x, rfl⟩
          have hov := over_below w1 x
          go_wp2
          go_roundw
          case rel => exact ⟨k + 1, by omega, by go_num, hbb.trans (hov.mono hbb.size), good_succ hg (by simp [goodAt, hr]; omega)⟩
          case measure => simp [intOf]; omega
    · go_wp2
      go_ret
      have : setB rs = true := (setB_iff rs).2 fun i hi => hg.out i (by omega)
      exact ⟨ret_bool this.symm, hb⟩

end Go.Proofs.Ytockkceclkcgbaa

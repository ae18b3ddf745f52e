/- The contracts of ranges.Has and ranges.Gap over any list of ranges, and of isSet over an empty one. -/
import Derived.Test.YtockkceclkcgbaaW2
namespace Go.Proofs.Ytockkceclkcgbaa
open Go.RowKit

attribute [local go_sem] over_cell

/-- The error beside an answer: OK, or ErrRange. -/
def eno : Bool → Int
  | true => 0
  | false => 11

def inAt (rs : RL) (n : Int) (i : Nat) : Bool := withinB (lo rs i) (hi rs i) n
def hasB (rs : RL) (n : Int) : Bool := (List.range rs.length).any (inAt rs n)
def gapI (rs : RL) (n : Int) : Int := match (List.range rs.length).find? (inAt rs n) with
  | some i => hi rs i + 1
  | none => n

theorem hasB_yes {rs : RL} {n : Int} {k : Nat} (hk : k < rs.length) (h : inAt rs n k = true) : hasB rs n = true := by
  simp only [hasB, List.any_eq_true, List.mem_range]; exact ⟨k, hk, h⟩
theorem hasB_no {rs : RL} {n : Int} (h : ∀ j, j < rs.length → inAt rs n j = false) : hasB rs n = false := by
  simp only [hasB, List.any_eq_false, List.mem_range]; intro j hj; rw [h j hj]; exact Bool.false_ne_true
theorem gapI_no {rs : RL} {n : Int} (h : ∀ j, j < rs.length → inAt rs n j = false) : gapI rs n = n := by
  unfold gapI
  have : (List.range rs.length).find? (inAt rs n) = none := by
    rw [List.find?_eq_none]; intro j hj; rw [h j (List.mem_range.1 hj)]; exact Bool.false_ne_true
  rw [this]
theorem gapI_yes {rs : RL} {n : Int} {k : Nat} (hk : k < rs.length) (h : inAt rs n k = true) (hp : ∀ j, j < k → inAt rs n j = false) : gapI rs n = hi rs k + 1 := by
  unfold gapI
  have : (List.range rs.length).find? (inAt rs n) = some k := by
    rw [List.find?_range_eq_some]
    exact ⟨h, List.mem_range.2 hk, fun j hj => by rw [hp j hj]; rfl⟩
  rw [this]

theorem none_succ {rs : RL} {n : Int} {k : Nat} (h : Hid (∀ j, j < k → inAt rs n j = false)) (hk : inAt rs n k = false) : Hid (∀ j, j < k + 1 → inAt rs n j = false) := fun j hj => by
  rcases Nat.lt_succ_iff_lt_or_eq.1 hj with h1 | rfl
  · exact h.out j h1
  · exact hk

set_option maxHeartbeats 400000 in
theorem isSet_empty (ao : Option Addr) (cap : Nat) (w : World) :
    Calls Try.prog 21 #[.slice ao 0 cap] w fun e w' => e = .returned (.bool (setB [])) ∧ Below w.heap.size w w' := by
  go_enter Try.func21, Try.ntmps21
  go_wp2
  refine wp_loop_rounds 1 ?_
  rw [rounds_succ]
  go_wp2
  go_ret
  exact ⟨ret_bool (by simp [setB]), Below.refl _ _⟩

set_option maxHeartbeats 400000 in
theorem has_cells (rs : RL) (n : Int) (b off cap : Nat) (w : World) (hc : Cells w b off rs) (hlen : rs.length ≤ 140737488355328) :
    Calls Try.prog 9 #[.slice (some ⟨b, off, none⟩) rs.length cap, .int .i64 n] w fun e w' =>
      e = .returned (.tuple #[.bool (setB rs && hasB rs n), .int .i64 (eno (setB rs))]) ∧ Below w.heap.size w w' := by
  go_enter Try.func9, Try.ntmps9
  go_wp2_with fail
  refine (isSet_cells rs b off cap _ hc hlen).mono ?_
  rintro e w0 ⟨rfl, hb0⟩
  have hc2 := hc.below hb0 hc.1
  have hbB := hc.1
  cases hs : setB rs
  · go_wp2
    go_ret2
    exact ⟨by rw [hs]; rfl, hb0⟩
  · go_wp2
    go_loopw [13] (fun i wr => ∃ k : Nat, k ≤ rs.length ∧ i = .int .i64 k ∧ Below w.heap.size w wr ∧ Hid (∀ j, j < k → inAt rs n j = false)) (fun i _ => rs.length - (intOf i).toNat)
    case atStart => exact ⟨0, Nat.zero_le _, rfl, hb0, fun j hj => by omega⟩
    case round =>
      obtain ⟨k, hk, rfl, hb, hg⟩ := hrel
      by_cases hlt : k < rs.length
      · have hcr := hc.below hb hbB
        have hb1 := hcr.1
        have hc0 := (hcr.2 k hlt).1
        have hc1 := (hcr.2 k hlt).2
        clear hcr hc2
        go_wp2_with fail
        refine (within_any _ _ _ _).mono ?_
        rintro e w1 ⟨rfl, hb2⟩
        have hbb : Below w.heap.size w w1 := (hb.alloc hb.size _).trans (hb2.mono (by have := hb.size; simp; omega))
        cases hr : withinB (lo rs k) (hi rs k) n
        · go_wp2
          go_roundw
          case rel => exact ⟨k + 1, by omega, by go_num, hbb, none_succ hg hr⟩
          case measure => simp [intOf]; omega
        · go_wp2
          go_ret2
          exact ⟨by rw [hs, hasB_yes hlt hr]; rfl, hbb⟩
      · go_wp2
        go_ret2
        exact ⟨by rw [hs, hasB_no (fun j hj => hg.out j (by omega))]; rfl, hb⟩

def fromOk (n : Int) : Bool := decide (0 ≤ n ∧ n ≤ 1099511627776)
/-- What Gap answers, and the error beside it. -/
def gapV (rs : RL) (n : Int) : Int := bif setB rs && fromOk n then gapI rs n else 0

theorem gapV_no {rs : RL} {n : Int} (h : (setB rs && fromOk n) = false) : gapV rs n = 0 := by rw [gapV, h]; rfl
theorem gapV_yes {rs : RL} {n : Int} (h : (setB rs && fromOk n) = true) : gapV rs n = gapI rs n := by rw [gapV, h]; rfl

set_option maxHeartbeats 400000 in
theorem gap_cells (rs : RL) (n : Int) (b off cap : Nat) (w : World) (hc : Cells w b off rs) (hlen : rs.length ≤ 140737488355328) :
    Calls Try.prog 11 #[.slice (some ⟨b, off, none⟩) rs.length cap, .int .i64 n] w fun e w' =>
      e = .returned (.tuple #[.int .i64 (gapV rs n), .int .i64 (eno (setB rs && fromOk n))]) ∧ Below w.heap.size w w' := by
  go_enter Try.func11, Try.ntmps11
  go_wp2_with fail
  refine (isSet_cells rs b off cap _ hc hlen).mono ?_
  rintro e w0 ⟨rfl, hb0⟩
  have hbB := hc.1
  cases hs : setB rs
  · go_wp2
    go_ret2
    exact ⟨by rw [gapV_no (by rw [hs]; rfl), hs]; rfl, hb0⟩
  · by_cases hn0 : n < 0
    · have hf : fromOk n = false := by simp [fromOk]; omega
      go_wp2
      go_ret2
      exact ⟨by rw [gapV_no (by rw [hf]; simp), hs, hf]; rfl, hb0⟩
    · by_cases hn1 : 1099511627776 < n
      · have hf : fromOk n = false := by simp [fromOk]; omega
        go_wp2
        go_ret2
        exact ⟨by rw [gapV_no (by rw [hf]; simp), hs, hf]; rfl, hb0⟩
      · have hf : fromOk n = true := by simp [fromOk]; omega
        go_wp2
        go_loopw [21] (fun i wr => ∃ k : Nat, k ≤ rs.length ∧ i = .int .i64 k ∧ Below w.heap.size w wr ∧ Hid (∀ j, j < k → inAt rs n j = false)) (fun i _ => rs.length - (intOf i).toNat)
        case atStart => exact ⟨0, Nat.zero_le _, rfl, hb0, fun j hj => by omega⟩
        case round =>
          obtain ⟨k, hk, rfl, hb, hg⟩ := hrel
          by_cases hlt : k < rs.length
          · have hcr := hc.below hb hbB
            have hb1 := hcr.1
            have hc0 := (hcr.2 k hlt).1
            have hc1 := (hcr.2 k hlt).2
            have hbd := isR_hi (goodAt_isR ((setB_iff rs).1 hs k hlt))
            clear hcr
            go_wp2_with fail
            refine (within_any _ _ _ _).mono ?_
            rintro e w1 ⟨rfl, hb2⟩
            have hbb : Below w.heap.size w w1 := (hb.alloc hb.size _).trans (hb2.mono (by have := hb.size; simp; omega))
            have hz : wr.heap.size < w1.heap.size := by have := hb2.size; simp at this; omega
            have hcl : ∀ o, w1.cell? ⟨wr.heap.size, o, none⟩ = (wr.alloc (Obj.cells #[Value.int IntKind.i64 (lo rs k), Value.int IntKind.i64 (hi rs k)] 31)).cell? ⟨wr.heap.size, o, none⟩ := fun o => hb2.cell (p := ⟨wr.heap.size, o, none⟩) (by simp)
            cases hr : withinB (lo rs k) (hi rs k) n
            · go_wp2
              go_roundw
              case rel => exact ⟨k + 1, by omega, by go_num, hbb, none_succ hg hr⟩
              case measure => simp [intOf]; omega
            · go_wp2
              go_ret2
              exact ⟨by rw [gapV_yes (by rw [hs, hf]; rfl), hs, hf, gapI_yes hlt hr hg.out]; rfl, hbb⟩
          · go_wp2
            go_ret2
            exact ⟨by rw [gapV_yes (by rw [hs, hf]; rfl), hs, hf, gapI_no (fun j hj => hg.out j (by omega))]; rfl, hb⟩

end Go.Proofs.Ytockkceclkcgbaa

/- Contracts of the small functions of package ranges: what each returns and what it leaves of the world. -/
import Derived.Test.YtockkceclkcgbaaGreatDoorRows
import Derived.WalkKit
import Derived.WalkSpells
import Derived.WalkLawsBesides
import Derived.Test.YtockkceclkcgbaaGreatDoorA01
namespace Go.Proofs.YtockkceclkcgbaaGreatDoor
open Go.RowKit

def isR (a b : Int) : Bool := decide (0 ≤ a ∧ a ≤ b ∧ b ≤ 1099511627776)
def apartB (a b : Int) : Bool := decide (a + 1 < b)
def withinB (a b n : Int) : Bool := decide (a ≤ n ∧ n ≤ b)

theorem ret_bool {p q : Bool} (h : p = q) : Ending.returned (.bool p) = .returned (.bool q) := by rw [h]

set_option maxHeartbeats 400000 in
theorem isRange_any (a b : Int) (w : World) :
    Calls Tryz.prog 143 #[.agg #[.int .i64 a, .int .i64 b]] w fun e w' => e = .returned (.bool (isR a b)) ∧ Below w.heap.size w w' := by
  by_cases h1 : 0 ≤ a
  · by_cases h2 : a ≤ b
    · by_cases h3 : b ≤ 1099511627776
      all_goals
        go_enter Tryz.func143, Tryz.ntmps143
        go_wp2
        go_ret
        exact ⟨by simp [isR]; omega, (Below.refl _ _).alloc (Nat.le_refl _) _⟩
    · go_enter Tryz.func143, Tryz.ntmps143
      go_wp2
      go_ret
      exact ⟨by simp [isR]; omega, (Below.refl _ _).alloc (Nat.le_refl _) _⟩
  · go_enter Tryz.func143, Tryz.ntmps143
    go_wp2
    go_ret
    exact ⟨by simp [isR]; omega, (Below.refl _ _).alloc (Nat.le_refl _) _⟩

set_option maxHeartbeats 400000 in
theorem apart_any (a0 a b b1 : Int) (w : World) (h0 : -1099511627777 ≤ a) (h1 : a ≤ 1099511627777) :
    Calls Tryz.prog 144 #[.agg #[.int .i64 a0, .int .i64 a], .agg #[.int .i64 b, .int .i64 b1]] w fun e w' => e = .returned (.bool (apartB a b)) ∧ Below w.heap.size w w' := by
  go_enter Tryz.func144, Tryz.ntmps144
  go_wp2
  go_ret
  exact ⟨ret_bool (by simp [apartB]), ((Below.refl _ _).alloc (Nat.le_refl _) _).alloc (by simp) _⟩

set_option maxHeartbeats 400000 in
theorem within_any (a b n : Int) (w : World) :
    Calls Tryz.prog 157 #[.agg #[.int .i64 a, .int .i64 b], .int .i64 n] w fun e w' => e = .returned (.bool (withinB a b n)) ∧ Below w.heap.size w w' := by
  by_cases h1 : a ≤ n
  · by_cases h2 : n ≤ b
    all_goals
      go_enter Tryz.func157, Tryz.ntmps157
      go_wp2
      go_ret
      exact ⟨by simp [withinB]; omega, (Below.refl _ _).alloc (Nat.le_refl _) _⟩
  · go_enter Tryz.func157, Tryz.ntmps157
    go_wp2
    go_ret
    exact ⟨by simp [withinB]; omega, (Below.refl _ _).alloc (Nat.le_refl _) _⟩

set_option maxHeartbeats 400000 in
theorem span_any (a b c d : Int) (w : World) :
    Calls Tryz.prog 145 #[.agg #[.int .i64 a, .int .i64 b], .agg #[.int .i64 c, .int .i64 d]] w fun e w' => e = .returned (.agg #[.int .i64 (min a c), .int .i64 (max b d)]) ∧ Below w.heap.size w w' := by
  go_enter Tryz.func145, Tryz.ntmps145
  go_wp2
  all_goals
    refine bodyPost_ret (v := .agg #[.int .i64 (min a c), .int .i64 (max b d)]) ?_ rfl ⟨rfl, (((Below.refl _ _).alloc (Nat.le_refl _) _).alloc (by simp) _).alloc (by simp; omega) _⟩
    simp [results, Tryz.results145, go_sem]
    omega

def pickI (c n : Int) : Int := if c < 0 then -((c + 1).tmod n) else c.tmod n

theorem pickI_range (c n : Int) (hn : 1 ≤ n) : 0 ≤ pickI c n ∧ pickI c n < n := by
  unfold pickI
  split
  · have h1 := Int.tmod_nonneg (a := -(c + 1)) n (by omega)
    have h2 := Int.tmod_lt_of_pos (-(c + 1)) (b := n) (by omega)
    rw [Int.neg_tmod] at h1 h2
    omega
  · have h1 := Int.tmod_nonneg (a := c) n (by omega)
    have h2 := Int.tmod_lt_of_pos c (b := n) (by omega)
    omega

set_option maxHeartbeats 400000 in
theorem pick_any (c n : Int) (w : World) (h0 : -9223372036854775808 ≤ c) (h1 : c ≤ 9223372036854775807) (hn : 1 ≤ n) (hn1 : n ≤ 100) :
    Calls Tryz.prog 33 #[.int .i64 c, .int .i64 n] w fun e w' => e = .returned (.int .i64 (pickI c n)) ∧ w' = w := by
  by_cases hc : c < 0
  · go_enter Tryz.func33, Tryz.ntmps33
    go_wp2
    go_ret
    exact ⟨by simp [pickI, hc], rfl⟩
  · go_enter Tryz.func33, Tryz.ntmps33
    go_wp2
    go_ret
    refine ⟨?_, rfl⟩
    rw [pickI, if_neg (by omega), Int.tmod_eq_emod_of_nonneg hc]; rfl

end Go.Proofs.YtockkceclkcgbaaGreatDoor

/- The contract of ranges.isSet: it tells whether a list of ranges is a set, and makes new memory alone. -/
namespace Go.Proofs.YtockkceclkcgbaaGreatDoor
open Go.RowKit

abbrev RL := List (Int × Int)
def lo (rs : RL) (i : Nat) : Int := (rs.getD i (0, 0)).1
def hi (rs : RL) (i : Nat) : Int := (rs.getD i (0, 0)).2

def goodAt (rs : RL) (i : Nat) : Bool := isR (lo rs i) (hi rs i) && (i == 0 || apartB (hi rs (i - 1)) (lo rs i))
def setB (rs : RL) : Bool := (List.range rs.length).all (goodAt rs)

theorem setB_iff (rs : RL) : setB rs = true ↔ ∀ i, i < rs.length → goodAt rs i = true := by simp [setB]
theorem setB_no (rs : RL) (i : Nat) (h : i < rs.length) (hg : goodAt rs i = false) : setB rs = false := by
  cases hs : setB rs with
  | false => rfl
  | true => have := (setB_iff rs).1 hs i h; rw [hg] at this; cases this

theorem goodAt_isR {rs : RL} {i : Nat} (h : goodAt rs i = true) : isR (lo rs i) (hi rs i) = true := by
  simp [goodAt] at h; exact h.1
theorem isR_hi {a b : Int} (h : isR a b = true) : 0 ≤ a ∧ a ≤ b ∧ b ≤ 1099511627776 := by simpa [isR] using h
theorem good_succ {rs : RL} {k : Nat} (h : Hid (∀ j, j < k → goodAt rs j = true)) (hk : goodAt rs k = true) : Hid (∀ j, j < k + 1 → goodAt rs j = true) := fun j hj => by
  rcases Nat.lt_succ_iff_lt_or_eq.1 hj with h1 | rfl
  · exact h.out j h1
  · exact hk

/-- The cells of a list of ranges, from the address on. -/
def Cells (w : World) (b off : Nat) (rs : RL) : Prop :=
  b < w.heap.size ∧ ∀ i, i < rs.length → w.cell? ⟨b, off + i * 2, none⟩ = some (.int .i64 (lo rs i)) ∧ w.cell? ⟨b, off + i * 2 + 1, none⟩ = some (.int .i64 (hi rs i))

theorem Cells.below {w w' : World} {b off : Nat} {rs : RL} (h : Cells w b off rs) {B : Nat} (hB : Below B w w') (hb : b < B) : Cells w' b off rs :=
  ⟨Nat.lt_of_lt_of_le h.1 hB.size, fun i hi => by rw [hB.cell (p := ⟨b, off + i * 2, none⟩) hb, hB.cell (p := ⟨b, off + i * 2 + 1, none⟩) hb]; exact h.2 i hi⟩

attribute [local go_sem] over_cell

set_option maxHeartbeats 400000 in
theorem isSet_cells (rs : RL) (b off cap : Nat) (w : World) (hc : Cells w b off rs) (hlen : rs.length ≤ 140737488355328) :
    Calls Tryz.prog 142 #[.slice (some ⟨b, off, none⟩) rs.length cap] w fun e w' => e = .returned (.bool (setB rs)) ∧ Below w.heap.size w w' := by
  go_enter Tryz.func142, Tryz.ntmps142
  go_wp2
  go_loopw [7] (fun i wr => ∃ k : Nat, k ≤ rs.length ∧ i = .int .i64 k ∧ Below w.heap.size w wr ∧ Hid (∀ j, j < k → goodAt rs j = true)) (fun i _ => rs.length - (intOf i).toNat)
  case atStart => exact ⟨0, Nat.zero_le _, rfl, Below.refl _ _, fun j hj => by omega⟩
  case round =>
    obtain ⟨k, hk, rfl, hb, hg⟩ := hrel
    by_cases hlt : k < rs.length
    · have hcr := hc.below hb hc.1
      have hb1 := hcr.1
      have hc0 := (hcr.2 k hlt).1
      have hc1 := (hcr.2 k hlt).2
      clear hcr
      go_wp2_with fail
      refine (isRange_any _ _ _).mono ?_
      rintro e w1 ⟨rfl, hb2⟩
      have hz : wr.heap.size < w1.heap.size := by have := hb2.size; simp at this; omega
      have hz2 : b < w1.heap.size := by omega
      have hcl : ∀ o, w1.cell? ⟨wr.heap.size, o, none⟩ = (wr.alloc (Obj.cells #[Value.int IntKind.i64 (lo rs k), Value.int IntKind.i64 (hi rs k)] 69)).cell? ⟨wr.heap.size, o, none⟩ := fun o => hb2.cell (p := ⟨wr.heap.size, o, none⟩) (by simp)
      have hcb : ∀ o, w1.cell? ⟨b, o, none⟩ = wr.cell? ⟨b, o, none⟩ := fun o => by
        rw [hb2.cell (p := ⟨b, o, none⟩) (by simp; omega)]
        exact World.cell?_of_block (Below.heap_alloc _ _ _ hb1)
      have hbb : Below w.heap.size w w1 := (hb.alloc hb.size _).trans (hb2.mono (by have := hb.size; simp; omega))
      cases hr : isR (lo rs k) (hi rs k)
      · go_wp2
        go_ret
        have := setB_no rs k hlt (by simp [goodAt, hr])
        exact ⟨ret_bool this.symm, hbb⟩
      · by_cases hk0 : 0 < k
        · have hp0 := ((hc.below hb hc.1).2 (k - 1) (by omega)).1
          have hp1 := ((hc.below hb hc.1).2 (k - 1) (by omega)).2
          have hbd := isR_hi (goodAt_isR (hg.out (k - 1) (by omega)))
          go_wp2_with fail
          refine wp_region_over (by kernel_rfl) (by kernel_rfl) ?_
          repeat (go_big_quiet_step ((go_at_call 144; exact quiet_over (fun w1 => apart_any _ _ _ _ w1 (by omega) (by omega)))))
          refine wpQuiet_nil ?_
          rintro _ ⟨x, rfl⟩
          have hov := over_below w1 x
          cases hap : apartB (hi rs (k - 1)) (lo rs k)
          · go_wp2
            go_ret
            have := setB_no rs k hlt (by simp [goodAt, hr, hap]; omega)
            exact ⟨ret_bool this.symm, hbb.trans (hov.mono hbb.size)⟩
          · go_wp2
            go_roundw
            case rel => exact ⟨k + 1, by omega, by go_num, hbb.trans (hov.mono hbb.size), good_succ hg (by simp [goodAt, hr, hap])⟩
            case measure => simp [intOf]; omega
        · have hd : decide (0 < k) = false := by simpa using hk0
          go_wp2_with fail
          refine wp_region_over (by kernel_rfl) (by kernel_rfl) ?_
          repeat (go_big_quiet_step (fail))
          refine wpQuiet_nil ?_
          rintro _ ⟨x, rfl⟩
          have hov := over_below w1 x
          go_wp2
          go_roundw
          case rel => exact ⟨k + 1, by omega, by go_num, hbb.trans (hov.mono hbb.size), good_succ hg (by simp [goodAt, hr]; omega)⟩
          case measure => simp [intOf]; omega
    · go_wp2
      go_ret
      have : setB rs = true := (setB_iff rs).2 fun i hi => hg.out i (by omega)
      exact ⟨ret_bool this.symm, hb⟩

end Go.Proofs.YtockkceclkcgbaaGreatDoor

/- The contracts of ranges.Has and ranges.Gap over any list of ranges, and of isSet over an empty one. -/
namespace Go.Proofs.YtockkceclkcgbaaGreatDoor
open Go.RowKit

attribute [local go_sem] over_cell

/-- The error beside an answer: OK, or ErrRange. -/
def eno : Bool → Int
  | true => 0
  | false => 11

def inAt (rs : RL) (n : Int) (i : Nat) : Bool := withinB (lo rs i) (hi rs i) n
def hasB (rs : RL) (n : Int) : Bool := (List.range rs.length).any (inAt rs n)
def gapI (rs : RL) (n : Int) : Int := match (List.range rs.length).find? (inAt rs n) with
  | some i => hi rs i + 1
  | none => n

theorem hasB_yes {rs : RL} {n : Int} {k : Nat} (hk : k < rs.length) (h : inAt rs n k = true) : hasB rs n = true := by
  simp only [hasB, List.any_eq_true, List.mem_range]; exact ⟨k, hk, h⟩
theorem hasB_no {rs : RL} {n : Int} (h : ∀ j, j < rs.length → inAt rs n j = false) : hasB rs n = false := by
  simp only [hasB, List.any_eq_false, List.mem_range]; intro j hj; rw [h j hj]; exact Bool.false_ne_true
theorem gapI_no {rs : RL} {n : Int} (h : ∀ j, j < rs.length → inAt rs n j = false) : gapI rs n = n := by
  unfold gapI
  have : (List.range rs.length).find? (inAt rs n) = none := by
    rw [List.find?_eq_none]; intro j hj; rw [h j (List.mem_range.1 hj)]; exact Bool.false_ne_true
  rw [this]
theorem gapI_yes {rs : RL} {n : Int} {k : Nat} (hk : k < rs.length) (h : inAt rs n k = true) (hp : ∀ j, j < k → inAt rs n j = false) : gapI rs n = hi rs k + 1 := by
  unfold gapI
  have : (List.range rs.length).find? (inAt rs n) = some k := by
    rw [List.find?_range_eq_some]
    exact ⟨h, List.mem_range.2 hk, fun j hj => by rw [hp j hj]; rfl⟩
  rw [this]

theorem none_succ {rs : RL} {n : Int} {k : Nat} (h : Hid (∀ j, j < k → inAt rs n j = false)) (hk : inAt rs n k = false) : Hid (∀ j, j < k + 1 → inAt rs n j = false) := fun j hj => by
  rcases Nat.lt_succ_iff_lt_or_eq.1 hj with h1 | rfl
  · exact h.out j h1
  · exact hk

set_option maxHeartbeats 400000 in
theorem isSet_empty (ao : Option Addr) (cap : Nat) (w : World) :
    Calls Tryz.prog 142 #[.slice ao 0 cap] w fun e w' => e = .returned (.bool (setB [])) ∧ Below w.heap.size w w' := by
  go_enter Tryz.func142, Tryz.ntmps142
  go_wp2
  refine wp_loop_rounds 1 ?_
  rw [rounds_succ]
  go_wp2
  go_ret
  exact ⟨ret_bool (by simp [setB]), Below.refl _ _⟩

set_option maxHeartbeats 400000 in
theorem has_cells (rs : RL) (n : Int) (b off cap : Nat) (w : World) (hc : Cells w b off rs) (hlen : rs.length ≤ 140737488355328) :
    Calls Tryz.prog 136 #[.slice (some ⟨b, off, none⟩) rs.length cap, .int .i64 n] w fun e w' =>
      e = .returned (.tuple #[.bool (setB rs && hasB rs n), .int .i64 (eno (setB rs))]) ∧ Below w.heap.size w w' := by
  go_enter Tryz.func136, Tryz.ntmps136
  go_wp2_with fail
  refine (isSet_cells rs b off cap _ hc hlen).mono ?_
  rintro e w0 ⟨rfl, hb0⟩
  have hc2 := hc.below hb0 hc.1
  have hbB := hc.1
  cases hs : setB rs
  · go_wp2
    go_ret2
    exact ⟨by rw [hs]; rfl, hb0⟩
  · go_wp2
    go_loopw [13] (fun i wr => ∃ k : Nat, k ≤ rs.length ∧ i = .int .i64 k ∧ Below w.heap.size w wr ∧ Hid (∀ j, j < k → inAt rs n j = false)) (fun i _ => rs.length - (intOf i).toNat)
    case atStart => exact ⟨0, Nat.zero_le _, rfl, hb0, fun j hj => by omega⟩
    case round =>
      obtain ⟨k, hk, rfl, hb, hg⟩ := hrel
      by_cases hlt : k < rs.length
      · have hcr := hc.below hb hbB
        have hb1 := hcr.1
        have hc0 := (hcr.2 k hlt).1
        have hc1 := (hcr.2 k hlt).2
        clear hcr hc2
        go_wp2_with fail
        refine (within_any _ _ _ _).mono ?_
        rintro e w1 ⟨rfl, hb2⟩
        have hbb : Below w.heap.size w w1 := (hb.alloc hb.size _).trans (hb2.mono (by have := hb.size; simp; omega))
        cases hr : withinB (lo rs k) (hi rs k) n
        · go_wp2
          go_roundw
          case rel => exact ⟨k + 1, by omega, by go_num, hbb, none_succ hg hr⟩
          case measure => simp [intOf]; omega
        · go_wp2
          go_ret2
          exact ⟨by rw [hs, hasB_yes hlt hr]; rfl, hbb⟩
      · go_wp2
        go_ret2
        exact ⟨by rw [hs, hasB_no (fun j hj => hg.out j (by omega))]; rfl, hb⟩

def fromOk (n : Int) : Bool := decide (0 ≤ n ∧ n ≤ 1099511627776)
/-- What Gap answers, and the error beside it. -/
def gapV (rs : RL) (n : Int) : Int := bif setB rs && fromOk n then gapI rs n else 0

theorem gapV_no {rs : RL} {n : Int} (h : (setB rs && fromOk n) = false) : gapV rs n = 0 := by rw [gapV, h]; rfl
theorem gapV_yes {rs : RL} {n : Int} (h : (setB rs && fromOk n) = true) : gapV rs n = gapI rs n := by rw [gapV, h]; rfl

set_option maxHeartbeats 400000 in
theorem gap_cells (rs : RL) (n : Int) (b off cap : Nat) (w : World) (hc : Cells w b off rs) (hlen : rs.length ≤ 140737488355328) :
    Calls Tryz.prog 146 #[.slice (some ⟨b, off, none⟩) rs.length cap, .int .i64 n] w fun e w' =>
      e = .returned (.tuple #[.int .i64 (gapV rs n), .int .i64 (eno (setB rs && fromOk n))]) ∧ Below w.heap.size w w' := by
  go_enter Tryz.func146, Tryz.ntmps146
  go_wp2_with fail
  refine (isSet_cells rs b off cap _ hc hlen).mono ?_
  rintro e w0 ⟨rfl, hb0⟩
  have hbB := hc.1
  cases hs : setB rs
  · go_wp2
    go_ret2
    exact ⟨by rw [gapV_no (by rw [hs]; rfl), hs]; rfl, hb0⟩
  · by_cases hn0 : n < 0
    · have hf : fromOk n = false := by simp [fromOk]; omega
      go_wp2
      go_ret2
      exact ⟨by rw [gapV_no (by rw [hf]; simp), hs, hf]; rfl, hb0⟩
    · by_cases hn1 : 1099511627776 < n
      · have hf : fromOk n = false := by simp [fromOk]; omega
        go_wp2
        go_ret2
        exact ⟨by rw [gapV_no (by rw [hf]; simp), hs, hf]; rfl, hb0⟩
      · have hf : fromOk n = true := by simp [fromOk]; omega
        go_wp2
        go_loopw [21] (fun i wr => ∃ k : Nat, k ≤ rs.length ∧ i = .int .i64 k ∧ Below w.heap.size w wr ∧ Hid (∀ j, j < k → inAt rs n j = false)) (fun i _ => rs.length - (intOf i).toNat)
        case atStart => exact ⟨0, Nat.zero_le _, rfl, hb0, fun j hj => by omega⟩
        case round =>
          obtain ⟨k, hk, rfl, hb, hg⟩ := hrel
          by_cases hlt : k < rs.length
          · have hcr := hc.below hb hbB
            have hb1 := hcr.1
            have hc0 := (hcr.2 k hlt).1
            have hc1 := (hcr.2 k hlt).2
            have hbd := isR_hi (goodAt_isR ((setB_iff rs).1 hs k hlt))
            clear hcr
            go_wp2_with fail
            refine (within_any _ _ _ _).mono ?_
            rintro e w1 ⟨rfl, hb2⟩
            have hbb : Below w.heap.size w w1 := (hb.alloc hb.size _).trans (hb2.mono (by have := hb.size; simp; omega))
            have hz : wr.heap.size < w1.heap.size := by have := hb2.size; simp at this; omega
            have hcl : ∀ o, w1.cell? ⟨wr.heap.size, o, none⟩ = (wr.alloc (Obj.cells #[Value.int IntKind.i64 (lo rs k), Value.int IntKind.i64 (hi rs k)] 69)).cell? ⟨wr.heap.size, o, none⟩ := fun o => hb2.cell (p := ⟨wr.heap.size, o, none⟩) (by simp)
            cases hr : withinB (lo rs k) (hi rs k) n
            · go_wp2
              go_roundw
              case rel => exact ⟨k + 1, by omega, by go_num, hbb, none_succ hg hr⟩
              case measure => simp [intOf]; omega
            · go_wp2
              go_ret2
              exact ⟨by rw [gapV_yes (by rw [hs, hf]; rfl), hs, hf, gapI_yes hlt hr hg.out]; rfl, hbb⟩
          · go_wp2
            go_ret2
            exact ⟨by rw [gapV_yes (by rw [hs, hf]; rfl), hs, hf, gapI_no (fun j hj => hg.out j (by omega))]; rfl, hb⟩

end Go.Proofs.YtockkceclkcgbaaGreatDoor

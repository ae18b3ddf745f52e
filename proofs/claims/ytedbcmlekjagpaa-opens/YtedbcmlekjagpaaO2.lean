/- Contracts of the small functions of packages quay, quayref and quaylaw that look at numbers alone: between, isName, isConfig, Good, pick, Log. -/
import Derived.Test.YtedbcmlekjagpaaRows
import Derived.Test.YtedbcmlekjagpaaO1
namespace Go.Proofs.Ytedbcmlekjagpaa
open Go.RowKit

/-- A configuration: lease, deliveries, segment, kept. -/
structure Conf where
  l : Int
  d : Int
  s : Int
  k : Int

abbrev Conf.cells (c : Conf) : Array Value := #[.int .i64 c.l, .int .i64 c.d, .int .i64 c.s, .int .i64 c.k]

def btw (n a b : Int) : Bool := decide (a ≤ n ∧ n ≤ b)
def goodC (c : Conf) : Bool := btw c.l 1 60000 && (btw c.d 1 10 && (btw c.s 1 16 && btw c.k c.s 100))

theorem ret_boolO {p q : Bool} (h : p = q) : Ending.returned (.bool p) = .returned (.bool q) := by rw [h]
theorem btw_true {n a b : Int} (h : btw n a b = true) : a ≤ n ∧ n ≤ b := by simpa [btw] using h
theorem btw_false {n a b : Int} (h : btw n a b = false) : ¬ (a ≤ n ∧ n ≤ b) := by simpa [btw] using h

set_option maxHeartbeats 400000 in
theorem between_any (n a b : Int) (w : World) :
    Calls Try.prog 59 #[.int .i64 n, .int .i64 a, .int .i64 b] w fun e w' => e = .returned (.bool (btw n a b)) ∧ Below w.heap.size w w' := by
  by_cases h1 : a ≤ n
  · by_cases h2 : n ≤ b
    all_goals
      go_enter Try.func59, Try.ntmps59
      go_wp2
      go_ret
      exact ⟨by simp [btw]; omega, Below.refl _ _⟩
  · go_enter Try.func59, Try.ntmps59
    go_wp2
    go_ret
    exact ⟨by simp [btw]; omega, Below.refl _ _⟩

set_option maxHeartbeats 400000 in
theorem isName_any (s : ByteArray) (w : World) :
    Calls Try.prog 60 #[.string s] w fun e w' => e = .returned (.bool (btw s.size 1 16)) ∧ Below w.heap.size w w' := by
  go_enter Try.func60, Try.ntmps60
  go_wp2_with fail
  refine (between_any _ _ _ _).mono ?_
  rintro e w1 ⟨rfl, hb⟩
  go_wp2
  go_ret
  exact ⟨rfl, hb⟩

set_option maxHeartbeats 1000000 in
theorem isConfig_any (c : Conf) (w : World) :
    Calls Try.prog 49 #[.agg c.cells] w fun e w' => e = .returned (.bool (goodC c)) ∧ Below w.heap.size w w' := by
  obtain ⟨l, d, s, k⟩ := c
  have hstep : ∀ {w1 w2 : World} {b : Nat}, Below w1.heap.size w1 w2 → b < w1.heap.size → b < w2.heap.size ∧ ∀ j, w2.cell? ⟨b, j, none⟩ = w1.cell? ⟨b, j, none⟩ := fun h hb => ⟨Nat.lt_of_lt_of_le hb h.size, fun j => h.cell (p := ⟨_, j, none⟩) hb⟩
  have hfin : ∀ {w1 : World} {o : Obj}, Below (w.alloc o).heap.size (w.alloc o) w1 → Below w.heap.size w w1 := fun h => ((Below.refl _ _).alloc (Nat.le_refl _) _).trans (h.mono (by simp))
  go_enter Try.func49, Try.ntmps49
  go_wp2_with fail
  refine (between_any _ _ _ _).mono ?_
  rintro e w1 ⟨rfl, hb1⟩
  have q1 : ∀ j, w1.cell? ⟨w.heap.size, j, none⟩ = _ := (hstep hb1 (b := w.heap.size) (by simp)).2
  have f1 := hfin hb1
  have hz1 := hb1.size
  cases h1 : btw l 1 60000
  · go_wp2
    go_ret
    exact ⟨by simp [goodC, h1], f1⟩
  go_wp2_with fail
  refine (between_any _ _ _ _).mono ?_
  rintro e w2 ⟨rfl, hb2⟩
  have q2 : ∀ j, w2.cell? ⟨w.heap.size, j, none⟩ = _ := (hstep hb2 (b := w.heap.size) (by simp at hz1; omega)).2
  have f2 := f1.trans (hb2.mono f1.size)
  cases h2 : btw d 1 10
  · go_wp2
    go_ret
    exact ⟨by simp [goodC, h1, h2], f2⟩
  have hz2 := hb2.size
  go_wp2_with fail
  refine (between_any _ _ _ _).mono ?_
  rintro e w3 ⟨rfl, hb3⟩
  have q3 : ∀ j, w3.cell? ⟨w.heap.size, j, none⟩ = _ := (hstep hb3 (b := w.heap.size) (by simp at hz1; omega)).2
  have f3 := f2.trans (hb3.mono f2.size)
  cases h3 : btw s 1 16
  · go_wp2
    go_ret
    exact ⟨by simp [goodC, h1, h2, h3], f3⟩
  go_wp2_with fail
  refine (between_any _ _ _ _).mono ?_
  rintro e w4 ⟨rfl, hb4⟩
  go_wp2
  go_ret
  exact ⟨by simp [goodC, h1, h2, h3], f3.trans (hb4.mono f3.size)⟩

set_option maxHeartbeats 1000000 in
theorem good_any (c : Conf) (w : World) :
    Calls Try.prog 31 #[.agg c.cells] w fun e w' => e = .returned (.bool (goodC c)) ∧ Below w.heap.size w w' := by
  obtain ⟨l, d, s, k⟩ := c
  by_cases h1 : 1 ≤ l
  · by_cases h2 : l ≤ 60000
    · by_cases h3 : 1 ≤ d
      · by_cases h4 : d ≤ 10
        · by_cases h5 : 1 ≤ s
          · by_cases h6 : s ≤ 16
            · by_cases h7 : s ≤ k
              · by_cases h8 : k ≤ 100
                all_goals
                  go_enter Try.func31, Try.ntmps31
                  go_wp2
                  go_ret
                  exact ⟨by simp [goodC, btw]; omega, (Below.refl _ _).alloc (Nat.le_refl _) _⟩
              · go_enter Try.func31, Try.ntmps31
                go_wp2
                go_ret
                exact ⟨by simp [goodC, btw]; omega, (Below.refl _ _).alloc (Nat.le_refl _) _⟩
            · go_enter Try.func31, Try.ntmps31
              go_wp2
              go_ret
              exact ⟨by simp [goodC, btw]; omega, (Below.refl _ _).alloc (Nat.le_refl _) _⟩
          · go_enter Try.func31, Try.ntmps31
            go_wp2
            go_ret
            exact ⟨by simp [goodC, btw]; omega, (Below.refl _ _).alloc (Nat.le_refl _) _⟩
        · go_enter Try.func31, Try.ntmps31
          go_wp2
          go_ret
          exact ⟨by simp [goodC, btw]; omega, (Below.refl _ _).alloc (Nat.le_refl _) _⟩
      · go_enter Try.func31, Try.ntmps31
        go_wp2
        go_ret
        exact ⟨by simp [goodC, btw]; omega, (Below.refl _ _).alloc (Nat.le_refl _) _⟩
    · go_enter Try.func31, Try.ntmps31
      go_wp2
      go_ret
      exact ⟨by simp [goodC, btw]; omega, (Below.refl _ _).alloc (Nat.le_refl _) _⟩
  · go_enter Try.func31, Try.ntmps31
    go_wp2
    go_ret
    exact ⟨by simp [goodC, btw]; omega, (Below.refl _ _).alloc (Nat.le_refl _) _⟩

/-- which of n things the raw number speaks of -/
def pickQ (c n : Int) : Int := if c < 0 then -((c + 1).tmod n) else c.tmod n

theorem pickQ_range (c n : Int) (hn : 1 ≤ n) : 0 ≤ pickQ c n ∧ pickQ c n < n := by
  unfold pickQ
  split
  · have h1 := Int.tmod_nonneg (a := -(c + 1)) n (by omega)
    have h2 := Int.tmod_lt_of_pos (-(c + 1)) (b := n) (by omega)
    rw [Int.neg_tmod] at h1 h2
    omega
  · have h1 := Int.tmod_nonneg (a := c) n (by omega)
    have h2 := Int.tmod_lt_of_pos c (b := n) (by omega)
    omega

set_option maxHeartbeats 400000 in
theorem pickq_any (c n : Int) (w : World) (h0 : -9223372036854775808 ≤ c) (h1 : c ≤ 9223372036854775807) (hn : 1 ≤ n) (hn1 : n ≤ 9223372036854775807) :
    Calls Try.prog 29 #[.int .i64 c, .int .i64 n] w fun e w' => e = .returned (.int .i64 (pickQ c n)) ∧ Below w.heap.size w w' := by
  by_cases hc : c < 0
  · go_enter Try.func29, Try.ntmps29
    go_wp2
    go_ret
    exact ⟨by simp [pickQ, hc], Below.refl _ _⟩
  · go_enter Try.func29, Try.ntmps29
    go_wp2
    go_ret
    refine ⟨?_, Below.refl _ _⟩
    rw [pickQ, if_neg (by omega), Int.tmod_eq_emod_of_nonneg hc]; rfl

set_option maxHeartbeats 400000 in
theorem log_any (v : Value) (w : World) :
    Calls Try.prog 32 #[v] w fun e w' => e = .returned (.string ⟨#[]⟩) ∧ w' = w := by
  go_enter Try.func32, Try.ntmps32
  go_wp2
  go_ret
  exact ⟨rfl, rfl⟩

end Go.Proofs.Ytedbcmlekjagpaa

/- Contracts of quayref.Has, quayref.Gap and of the law's helpers sameRanges and kept. -/
import Derived.Test.YtockkceclkcgbaaR1
namespace Go.Proofs.Ytockkceclkcgbaa
open Go.RowKit

attribute [local go_sem] over_cell

set_option maxHeartbeats 400000 in
theorem rHas_any (rs : RL) (n : Int) (ao : Option Addr) (cap : Nat) (w : World) (hl : ArgL w ao rs) (hlen : rs.length ≤ 140737488355328) :
    Calls Try.prog 10 #[.slice ao rs.length cap, .int .i64 n] w fun e w' =>
      e = .returned (.tuple #[.bool (setB rs && hasB rs n), .int .i64 (eno (setB rs))]) ∧ Below w.heap.size w w' := by
  go_enter Try.func10, Try.ntmps10
  go_wp2_with fail
  refine (setOK_any rs ao cap _ hl hlen).mono ?_
  rintro e w0 ⟨rfl, hb0⟩
  cases hs : setB rs
  · go_wp2
    go_ret2
    exact ⟨by rw [hs]; rfl, hb0⟩
  · go_wp2
    go_loopw [7] (fun i wr => ∃ k : Nat, k ≤ rs.length ∧ i = .int .i64 k ∧ Below w.heap.size w wr ∧ Hid (∀ j, j < k → inAt rs n j = false)) (fun i _ => rs.length - (intOf i).toNat)
    case atStart => exact ⟨0, Nat.zero_le _, rfl, hb0, fun j hj => by omega⟩
    case round =>
      obtain ⟨k, hk, rfl, hb, hg⟩ := hrel
      by_cases hlt : k < rs.length
      · have hl2 := hl.below hb
        obtain ⟨b, off, rfl, hb1, c0, c1⟩ := hl2 k hlt
        clear hl2
        by_cases h1 : lo rs k ≤ n
        · by_cases h2 : n ≤ hi rs k
          · go_wp2
            go_ret2
            exact ⟨by rw [hs, hasB_yes hlt (by simp [inAt, withinB]; omega)]; rfl, hb⟩
          · go_wp2
            go_roundw
            case rel => exact ⟨k + 1, by omega, by go_num, hb, none_succ hg (by simp [inAt, withinB]; omega)⟩
            case measure => simp [intOf]; omega
        · go_wp2
          go_roundw
          case rel => exact ⟨k + 1, by omega, by go_num, hb, none_succ hg (by simp [inAt, withinB]; omega)⟩
          case measure => simp [intOf]; omega
      · go_wp2
        go_ret2
        exact ⟨by rw [hs, hasB_no (fun j hj => hg.out j (by omega))]; rfl, hb⟩

theorem gap_out {rs : RL} (h : setB rs = true) (n : Int) (k : Nat) (hk : k < rs.length) : inAt rs (gapI rs n) k = false := by
  have := (gap_spec h n).2.1
  cases hv : inAt rs (gapI rs n) k
  · rfl
  · rw [hasB_yes hk hv] at this; cases this

set_option maxHeartbeats 400000 in
theorem rGap_any (rs : RL) (n : Int) (ao : Option Addr) (cap : Nat) (w : World) (hl : ArgL w ao rs) (hlen : rs.length ≤ 140737488355328) :
    Calls Try.prog 12 #[.slice ao rs.length cap, .int .i64 n] w fun e w' =>
      e = .returned (.tuple #[.int .i64 (gapV rs n), .int .i64 (eno (setB rs && fromOk n))]) ∧ Below w.heap.size w w' := by
  go_enter Try.func12, Try.ntmps12
  go_wp2_with fail
  refine (setOK_any rs ao cap _ hl hlen).mono ?_
  rintro e w0 ⟨rfl, hb0⟩
  cases hs : setB rs
  · go_wp2
    go_ret2
    exact ⟨by rw [gapV_no (by rw [hs]; rfl), hs]; rfl, hb0⟩
  · by_cases hn0 : n < 0
    · have hf : fromOk n = false := by simp [fromOk]; omega
      go_wp2
      go_ret2
      exact ⟨by rw [gapV_no (by rw [hf]; simp), hs, hf]; rfl, hb0⟩
    · by_cases hn1 : 1099511627776 < n
      · have hf : fromOk n = false := by simp [fromOk]; omega
        go_wp2
        go_ret2
        exact ⟨by rw [gapV_no (by rw [hf]; simp), hs, hf]; rfl, hb0⟩
      · have hf : fromOk n = true := by simp [fromOk]; omega
        go_wp2
        go_loopw [1, 7] (fun v i wr => ∃ (k : Nat) (m : Int), k ≤ rs.length ∧ i = .int .i64 k ∧ v = .int .i64 m ∧ Below w.heap.size w wr ∧ ((m = n ∧ ∀ j, j < k → inAt rs n j = false) ∨ m = gapI rs n)) (fun _ i _ => rs.length - (intOf i).toNat)
        case atStart => exact ⟨0, n, Nat.zero_le _, rfl, rfl, hb0, .inl ⟨rfl, fun j hj => by omega⟩⟩
        case round =>
          obtain ⟨k, m, hk, rfl, rfl, hb, hg⟩ := hrel
          have Hg : Hid ((m = n ∧ ∀ j, j < k → inAt rs n j = false) ∨ m = gapI rs n) := hg
          clear hg
          by_cases hlt : k < rs.length
          · have hl2 := hl.below hb
            obtain ⟨b, off, rfl, hb1, c0, c1⟩ := hl2 k hlt
            have hbd := isR_hi (goodAt_isR ((setB_iff rs).1 hs k hlt))
            clear hl2
            have hnext : inAt rs m k = false → (m = n ∧ ∀ j, j < k + 1 → inAt rs n j = false) ∨ m = gapI rs n := by
              intro hin
              rcases Hg.out with ⟨rfl, h⟩ | h
              · refine .inl ⟨rfl, fun j hj => ?_⟩
                rcases Nat.lt_succ_iff_lt_or_eq.1 hj with h1 | rfl
                · exact h j h1
                · exact hin
              · exact .inr h
            have Hn := hide hnext
            clear hnext
            by_cases h1 : lo rs k ≤ m
            · by_cases h2 : m ≤ hi rs k
              · have hin : inAt rs m k = true := by simp [inAt, withinB]; omega
                have hG : Hid (hi rs k + 1 = gapI rs n) := by
                  rcases Hg.out with ⟨rfl, h⟩ | h
                  · exact (gapI_yes hlt hin h).symm
                  · subst h; have hx := gap_out hs n k hlt; rw [hx] at hin; cases hin
                clear hin
                go_wp2
                go_roundw
                case rel => exact ⟨k + 1, _, by omega, by go_num, rfl, hb, .inr hG.out⟩
                case measure => simp [intOf]; omega
              · go_wp2
                go_roundw
                case rel => exact ⟨k + 1, _, by omega, by go_num, rfl, hb, Hn.out (by simp [inAt, withinB]; omega)⟩
                case measure => simp [intOf]; omega
            · go_wp2
              go_roundw
              case rel => exact ⟨k + 1, _, by omega, by go_num, rfl, hb, Hn.out (by simp [inAt, withinB]; omega)⟩
              case measure => simp [intOf]; omega
          · have hfin : m = gapI rs n := by
              rcases Hg.out with ⟨rfl, h⟩ | h
              · exact (gapI_no (fun j hj => h j (by omega))).symm
              · exact h
            have HF := hide hfin
            clear hfin
            go_wp2
            go_ret2
            exact ⟨by rw [gapV_yes (by rw [hs, hf]; rfl), hs, hf, ← HF.out]; rfl, hb⟩

set_option maxHeartbeats 400000 in
theorem same_any (rs : RL) (ao ao' : Option Addr) (cap cap' : Nat) (w : World) (hl : ArgL w ao rs) (hl' : ArgL w ao' rs) (hlen : rs.length ≤ 140737488355328) :
    Calls Try.prog 16 #[.slice ao rs.length cap, .slice ao' rs.length cap'] w fun e w' => e = .returned (.bool true) ∧ Below w.heap.size w w' := by
  go_enter Try.func16, Try.ntmps16
  go_wp2
  go_loopw [5] (fun i wr => ∃ k : Nat, k ≤ rs.length ∧ i = .int .i64 k ∧ Below w.heap.size w wr) (fun i _ => rs.length - (intOf i).toNat)
  case atStart => exact ⟨0, Nat.zero_le _, rfl, Below.refl _ _⟩
  case round =>
    obtain ⟨k, hk, rfl, hb⟩ := hrel
    by_cases hlt : k < rs.length
    · have hl2 := hl.below hb
      have hl3 := hl'.below hb
      obtain ⟨b, off, rfl, hb1, c0, c1⟩ := hl2 k hlt
      obtain ⟨b', off', rfl, hb2, d0, d1⟩ := hl3 k hlt
      clear hl2 hl3
      go_wp2_with fail
      refine wp_region_over (by kernel_rfl) (by kernel_rfl) ?_
      repeat (go_big_quiet_step (fail))
      refine wpQuiet_nil ?_
      rintro _ ⟨x, rfl⟩
      have hov := hb.trans ((over_below wr x).mono hb.size)
      go_wp2
      go_roundw
      case rel => exact ⟨k + 1, by omega, by go_num, hov⟩
      case measure => simp [intOf]; omega
    · go_wp2
      go_ret
      exact ⟨rfl, hb⟩

end Go.Proofs.Ytockkceclkcgbaa

/- The contract of Book.whole: the book as it stands is whole. -/
import Derived.Test.YtgcbooflhdjnhaaT16
namespace Go.Proofs.Ytgcbooflhdjnhaa
open Go.RowKit

attribute [local go_sem] over_cell

/-- List number i of a row of the book: its cell in the row, and its own cells. -/
theorem Bk.at {w : World} {T : Nat → Tag} {c : Nat} {e : TypeId} {size : Nat} {pat : Nat → Nat → Value} {ro : Option Addr} {rc N q : Nat} (h : Bk w T c e size pat (.slice ro N rc) q) (i : Nat) (hi : i < 4 * q) :
    ∃ gr ao n cap, ro = some ⟨gr, 0, none⟩ ∧ gr < w.heap.size ∧ w.cell? ⟨gr, i, none⟩ = some (.slice ao n cap) ∧ n ≤ 1099511627776 ∧
      ∀ k, k < n → ∃ b, ao = some ⟨b, 0, none⟩ ∧ b < w.heap.size ∧ ∀ j, j < size → w.cell? ⟨b, k * size + j, none⟩ = some (pat (i / 4) (k * size + j)) := by
  obtain ⟨vs, hR, hm⟩ := h
  obtain ⟨ro', rc', e1⟩ := row_form hR
  cases e1
  obtain ⟨gr, cap, e2⟩ := row_some hR (by omega)
  cases e2
  have hlen := hR.1.1
  have hv : vs[i]? = some (vs[i]'(by omega)) := List.getElem?_eq_getElem (by omega)
  have hcell := hR.cell hv
  obtain ⟨ao, n, cap, ev, hn, hk⟩ := hm i _ hv
  rw [ev] at hcell
  refine ⟨gr, ao, n, cap, rfl, hR.lt, hcell, hn, fun k hkn => ?_⟩
  rcases hk with h0 | ⟨b, eb, _, hb, hp⟩
  · omega
  · refine ⟨b, eb, hb, fun j hj => hp _ ?_⟩
    calc k * size + j < k * size + size := by omega
      _ = (k + 1) * size := by rw [Nat.add_mul, Nat.one_mul]
      _ ≤ n * size := Nat.mul_le_mul_right _ (by omega)

theorem quart (k : Nat) : ((k / 4 : Nat) : Int) = (k : Int) / 4 := by omega

set_option maxRecDepth 100000 in
set_option maxHeartbeats 4000000 in
theorem wholeT_any (w : World) (T : Nat → Tag) (wb : Nat) (cs : Array Value) (q q' : Nat) (v v' : Value) (hW : Blk w T .world wb cs 50) (hc : cs[9]? = some v) (hc' : cs[10]? = some v')
    (hB : Bk w T 9 22 2 (fun q => patOf (markRV q)) v q) (hD : Bk w T 11 87 3 (fun q => patOf (markDV q)) v' q') (hq : q ≤ 1000000000) (hq' : q' ≤ 1000000000) :
    Calls Try.prog 9 #[.pointer (some ⟨wb, 9, none⟩)] w fun e w' => e = .returned (.bool true) ∧ Below w.heap.size w w' := by
  obtain ⟨ro, rc, rfl⟩ : ∃ ro rc, v = .slice ro (4 * q) rc := by
    obtain ⟨_, hR, _⟩ := hB
    exact row_form hR
  obtain ⟨ro', rc', rfl⟩ : ∃ ro rc, v' = .slice ro (4 * q') rc := by
    obtain ⟨_, hR, _⟩ := hD
    exact row_form hR
  have lw := hW.lt
  have cw := hW.cell hc
  have cw' := hW.cell hc'
  clear hW
  go_enter Try.func9, Try.ntmps9
  go_wp2
  go_loopw [3] (fun i wr => ∃ k : Nat, k ≤ 4 * q ∧ i = .int .i64 k ∧ Below w.heap.size w wr) (fun i _ => 4 * q - (intOf i).toNat)
  case atStart => exact ⟨0, Nat.zero_le _, rfl, Below.refl _ _⟩
  case round =>
    obtain ⟨k, hk, rfl, hb⟩ := hrel
    have c0 := (hb.cell (p := ⟨wb, 9, none⟩) lw).trans cw
    have c1 := (hb.cell (p := ⟨wb, 10, none⟩) lw).trans cw'
    by_cases hlt : k < 4 * q
    · go_wp2_with fail
      clear c0 c1
      have hx := hB.at k hlt
      obtain ⟨gr, ao, n, cap, rfl, hgr, hcell, hn, hls⟩ := hx
      have Hls := hide hls
      clear hls
      go_loopw [4] (fun i wx => ∃ j : Nat, j ≤ n ∧ i = .int .i64 j ∧ Below w.heap.size w wx) (fun i _ => n - (intOf i).toNat)
      case atStart => exact ⟨0, Nat.zero_le _, rfl, hb⟩
      case round =>
        clear hb
        obtain ⟨j, hj, rfl, hb⟩ := hrel
        have c0 := (hb.cell (p := ⟨wb, 9, none⟩) lw).trans cw
        have c2 := (hb.cell (p := ⟨gr, k, none⟩) hgr).trans hcell
        have hz := hb.size
        have hgr2 : gr < wr.heap.size := by omega
        have hbk2 : wb < wr.heap.size := by omega
        by_cases hjn : j < n
        · obtain ⟨b, rfl, hbl, hd⟩ := Hls.out j hjn
          have d0 := hd 0 (by decide)
          have d1 := hd 1 (by decide)
          rw [show j * 2 + 0 = j * (markRV (k / 4)).length + 0 from rfl, patOf_shift] at d0
          rw [show patOf (markRV (k / 4)) (j * 2 + 1) = patOf (markRV (k / 4)) 1 from patOf_shift (markRV (k / 4)) j 1] at d1
          have e0 : wr.cell? ⟨b, j * 2, none⟩ = some (.int .i64 (-1000 - (k : Int) / 4)) := by
            rw [hb.cell (p := ⟨b, j * 2, none⟩) hbl, ← quart]; exact d0
          have e1 : wr.cell? ⟨b, j * 2 + 1, none⟩ = some (.int .i64 7) := (hb.cell (p := ⟨b, j * 2 + 1, none⟩) hbl).trans d1
          have hb2 : b < wr.heap.size := by omega
          clear hd d0 d1
          go_wp2_with fail
          refine wp_region_over (by kernel_rfl) (by kernel_rfl) ?_
          repeat (go_big_quiet_step ((go_at_call 32; exact quiet_over (fun w1 => (markR_any _ w1 (by omega) (by omega)).mono (fun _ _ h => ⟨h.1, h.2.1⟩)))))
          refine wpQuiet_nil ?_
          rintro _ ⟨x, rfl⟩
          have hov := hb.trans ((over_below wr x).mono hb.size)
          go_wp2
          go_roundw
          case rel => exact ⟨j + 1, by omega, by go_num, hov⟩
          case measure => simp [intOf]; omega
        · go_wp2
          go_roundw
          case rel => exact ⟨k + 1, by omega, by go_num, hb⟩
          case measure => simp [intOf]; omega
    · go_wp2_with fail
      clear c0 c1
      go_loopw [5] (fun i wr => ∃ k : Nat, k ≤ 4 * q' ∧ i = .int .i64 k ∧ Below w.heap.size w wr) (fun i _ => 4 * q' - (intOf i).toNat)
      case atStart => exact ⟨0, Nat.zero_le _, rfl, hb⟩
      case round =>
        clear hb hk hlt
        obtain ⟨k, hk, rfl, hb⟩ := hrel
        have c1 := (hb.cell (p := ⟨wb, 10, none⟩) lw).trans cw'
        by_cases hlt : k < 4 * q'
        · go_wp2_with fail
          clear c1
          have hx := hD.at k hlt
          obtain ⟨gr, ao, n, cap, rfl, hgr, hcell, hn, hls⟩ := hx
          have Hls := hide hls
          clear hls
          go_loopw [6] (fun i wx => ∃ j : Nat, j ≤ n ∧ i = .int .i64 j ∧ Below w.heap.size w wx) (fun i _ => n - (intOf i).toNat)
          case atStart => exact ⟨0, Nat.zero_le _, rfl, hb⟩
          case round =>
            clear hb
            obtain ⟨j, hj, rfl, hb⟩ := hrel
            have c1 := (hb.cell (p := ⟨wb, 10, none⟩) lw).trans cw'
            have c2 := (hb.cell (p := ⟨gr, k, none⟩) hgr).trans hcell
            have hz := hb.size
            have hgr2 : gr < wr.heap.size := by omega
            have hbk2 : wb < wr.heap.size := by omega
            by_cases hjn : j < n
            · obtain ⟨b, rfl, hbl, hd⟩ := Hls.out j hjn
              have d0 := hd 0 (by decide)
              have d1 := hd 1 (by decide)
              have d2 := hd 2 (by decide)
              rw [show j * 3 + 0 = j * (markDV (k / 4)).length + 0 from rfl, patOf_shift] at d0
              rw [show patOf (markDV (k / 4)) (j * 3 + 1) = patOf (markDV (k / 4)) 1 from patOf_shift (markDV (k / 4)) j 1] at d1
              rw [show patOf (markDV (k / 4)) (j * 3 + 2) = patOf (markDV (k / 4)) 2 from patOf_shift (markDV (k / 4)) j 2] at d2
              have e0 : wr.cell? ⟨b, j * 3, none⟩ = some (.int .i64 (-1000 - (k : Int) / 4)) := by
                rw [hb.cell (p := ⟨b, j * 3, none⟩) hbl, ← quart]; exact d0
              have e1 : wr.cell? ⟨b, j * 3 + 1, none⟩ = some (.int .i64 0) := (hb.cell (p := ⟨b, j * 3 + 1, none⟩) hbl).trans d1
              have e2 : wr.cell? ⟨b, j * 3 + 2, none⟩ = some (.string callers) := (hb.cell (p := ⟨b, j * 3 + 2, none⟩) hbl).trans d2
              have hb2 : b < wr.heap.size := by omega
              clear hd d0 d1 d2
              go_wp2_with fail
              refine wp_region_over (by kernel_rfl) (by kernel_rfl) ?_
              repeat (go_big_quiet_step ((go_at_call 33; exact quiet_over (fun w1 => (markD_any _ w1 (by omega) (by omega)).mono (fun _ _ h => ⟨h.1, h.2.1⟩)))))
              refine wpQuiet_nil ?_
              rintro _ ⟨x, rfl⟩
              have hov := hb.trans ((over_below wr x).mono hb.size)
              go_wp2
              go_roundw
              case rel => exact ⟨j + 1, by omega, by go_num, hov⟩
              case measure => simp [intOf]; omega
            · go_wp2
              go_roundw
              case rel => exact ⟨k + 1, by omega, by go_num, hb⟩
              case measure => simp [intOf]; omega
        · go_wp2
          go_ret
          exact ⟨rfl, hb⟩

end Go.Proofs.Ytgcbooflhdjnhaa

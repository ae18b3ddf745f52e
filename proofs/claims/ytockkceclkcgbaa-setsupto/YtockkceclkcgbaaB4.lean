/- The contract of Book.whole: the book as it stands is whole. -/
import Derived.Test.YtockkceclkcgbaaB3
namespace Go.Proofs.Ytockkceclkcgbaa
open Go.RowKit

attribute [local go_sem] over_cell

/-- List number i of the book: its cell in the book's row, and its own cells. -/
theorem BookI.at {w : World} {bk : Nat} {K : Nat → Prop} {N : Nat} {ro : Option Addr} {rc : Nat} {vs : List Value} (h : BookI w bk K N ro rc vs) (i : Nat) (hi : i < N) :
    ∃ gr ao n cap, ro = some ⟨gr, 0, none⟩ ∧ gr < w.heap.size ∧ w.cell? ⟨gr, i, none⟩ = some (.slice ao n cap) ∧ n ≤ 1099511627776 ∧
      ∀ k, k < n → ∃ b, ao = some ⟨b, 0, none⟩ ∧ b < w.heap.size ∧ w.cell? ⟨b, k * 2, none⟩ = some (.int .i64 (-1000 - (i : Int) / 4)) ∧ w.cell? ⟨b, k * 2 + 1, none⟩ = some (.int .i64 7) := by
  obtain ⟨gr, cap, e, _, hlt⟩ := h.own.form (by omega)
  have e2 : ro = some ⟨gr, 0, none⟩ ∧ rc = cap := by cases e; exact ⟨rfl, rfl⟩
  obtain ⟨rfl, rfl⟩ := e2
  have hlen := h.own.1
  have hc := h.own.cellAt i (by omega)
  have hv : vs[i]? = some (vs[i]'(by omega)) := List.getElem?_eq_getElem (by omega)
  obtain ⟨ao, n, cap, ev, hn, hm⟩ := h.lists i _ hv
  refine ⟨gr, ao, n, cap, rfl, hlt, by rw [hc, hv, ev], hn, fun k hk => ?_⟩
  rcases hm with h0 | ⟨b, eb, _, hb, hp⟩
  · omega
  · refine ⟨b, eb, hb, ?_, ?_⟩
    · rw [hp (k * 2) (by omega), mkc_even, Int.natCast_ediv]; rfl
    · rw [hp (k * 2 + 1) (by omega), mkc_odd]

set_option maxHeartbeats 1000000 in
theorem whole_any (w : World) (bk N : Nat) (K : Nat → Prop) (ro : Option Addr) (rc : Nat) (vs : List Value) (hB : BookI w bk K N ro rc vs) (hN : N ≤ 4000000000) :
    Calls Try.prog 6 #[.pointer (some ⟨bk, 0, none⟩)] w fun e w' => e = .returned (.bool true) ∧ Below w.heap.size w w' := by
  go_enter Try.func6, Try.ntmps6
  go_wp2
  go_loopw [3] (fun i wr => ∃ k : Nat, k ≤ N ∧ i = .int .i64 k ∧ Below w.heap.size w wr) (fun i _ => N - (intOf i).toNat)
  case atStart => exact ⟨0, Nat.zero_le _, rfl, Below.refl _ _⟩
  case round =>
    obtain ⟨k, hk, rfl, hb⟩ := hrel
    have hBr := hB.on hb
    have c0 := hBr.cell0
    have c1 := hBr.cell1
    by_cases hlt : k < N
    · clear hBr
      go_wp2_with fail
      clear c0 c1
      have hx := hB.at k hlt
      obtain ⟨gr, ao, n, cap, rfl, hgr, hcell, hn, hls⟩ := hx
      have Hls := hide hls
      clear hls
      go_loopw [4] (fun i wx => ∃ j : Nat, j ≤ n ∧ i = .int .i64 j ∧ Below w.heap.size w wx) (fun i _ => n - (intOf i).toNat)
      case atStart => exact ⟨0, Nat.zero_le _, rfl, hb⟩
      case round =>
        clear hb
        obtain ⟨j, hj, rfl, hb⟩ := hrel
        have hBr := hB.on hb
        have c0 := hBr.cell0
        have c2 := (hb.cell (p := ⟨gr, k, none⟩) hgr).trans hcell
        have hz := hb.size
        have hgr2 : gr < wr.heap.size := by omega
        have hbk2 : bk < wr.heap.size := hBr.klt bk hBr.kbk
        clear hBr
        by_cases hjn : j < n
        · obtain ⟨b, rfl, hbl, d0, d1⟩ := Hls.out j hjn
          have e0 := (hb.cell (p := ⟨b, j * 2, none⟩) hbl).trans d0
          have e1 := (hb.cell (p := ⟨b, j * 2 + 1, none⟩) hbl).trans d1
          have hb2 : b < wr.heap.size := by omega
          go_wp2_with fail
          refine wp_region_over (by kernel_rfl) (by kernel_rfl) ?_
          repeat (go_big_quiet_step ((go_at_call 18; exact quiet_over (fun w1 => mark_any _ w1 (by omega) (by omega)))))
          refine wpQuiet_nil ?_
          rintro _ ⟨x, rfl⟩
          have hov := hb.trans ((over_below wr x).mono hb.size)
          go_wp2
          go_roundw
          case rel => exact ⟨j + 1, by omega, by go_num, hov⟩
          case measure => simp [intOf]; omega
        · go_wp2
          go_roundw
          case rel => exact ⟨k + 1, by omega, by go_num, hb⟩
          case measure => simp [intOf]; omega
    · clear hBr
      go_wp2
      refine wp_loop_rounds 1 ?_
      rw [rounds_succ]
      go_wp2
      go_ret
      exact ⟨rfl, hb⟩

end Go.Proofs.Ytockkceclkcgbaa

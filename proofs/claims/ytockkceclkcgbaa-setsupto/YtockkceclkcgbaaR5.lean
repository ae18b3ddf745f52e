/- The contract of quayref.Add. -/
import Derived.Test.YtockkceclkcgbaaR4
import Derived.Test.YtockkceclkcgbaaM2
import Derived.Deep.AppendLies
namespace Go.Proofs.Ytockkceclkcgbaa
open Go.RowKit

attribute [local go_sem] over_cell

/-- What stands in memory while quayref.Add works. -/
structure Inr (w : World) (v : Value) (n : Nat) (xs : RL) (a b : Int) (wr : World) : Prop where
  own : wr.ownsRow (w.heap.size + 1) 31 2 v n (flat xs)
  box : wr.heap[w.heap.size]? = some (.cells #[.int .i64 a, .int .i64 b] 31 (0, 0))
  bel : Below w.heap.size w wr

theorem Inr.lt {w : World} {v : Value} {n : Nat} {xs : RL} {a b : Int} {wr : World} (h : Inr w v n xs a b wr) : w.heap.size < wr.heap.size := by
  rcases Nat.lt_or_ge w.heap.size wr.heap.size with h1 | h1
  · exact h1
  · have := h.box; rw [Array.getElem?_eq_none h1] at this; cases this
theorem Inr.on {w : World} {v : Value} {n : Nat} {xs : RL} {a b : Int} {wr wr' : World} (h : Inr w v n xs a b wr) (hb : Below wr.heap.size wr wr') : Inr w v n xs a b wr' :=
  ⟨h.own.kept (grown_of_below hb) (by cases hv : v.ownBlock with | none => exact .inl rfl | some k => exact .inr (by simp)), by rw [hb.block _ h.lt]; exact h.box, h.bel.trans (hb.mono h.bel.size)⟩
theorem Inr.cell0 {w : World} {v : Value} {n : Nat} {xs : RL} {a b : Int} {wr : World} (h : Inr w v n xs a b wr) : wr.cell? ⟨w.heap.size, 0, none⟩ = some (.int .i64 a) := by simp [World.cell?, h.box]
theorem Inr.cell1 {w : World} {v : Value} {n : Nat} {xs : RL} {a b : Int} {wr : World} (h : Inr w v n xs a b wr) : wr.cell? ⟨w.heap.size, 1, none⟩ = some (.int .i64 b) := by simp [World.cell?, h.box]
theorem Inr.free {w : World} {v : Value} {n : Nat} {xs : RL} {a b : Int} {wr : World} (h : Inr w v n xs a b wr) (o : Nat) : wr.frozen? ⟨w.heap.size, o, none⟩ = false := by simp [World.frozen?, h.box]
theorem Inr.stored {w : World} {v : Value} {n : Nat} {xs : RL} {a b : Int} {wr : World} (h : Inr w v n xs a b wr) (a' b' : Int) :
    Inr w v n xs a' b' ((wr.setCell ⟨w.heap.size, 0, none⟩ (.int .i64 a')).setCell ⟨w.heap.size, 1, none⟩ (.int .i64 b')) :=
  ⟨ownsRow_setCell_below (ownsRow_setCell_below h.own (by simp) _) (by simp) _, box_set h.box, (h.bel.setCell (by simp) _).setCell (by simp) _⟩
theorem Inr.more {w : World} {v v' : Value} {n m : Nat} {xs ys : RL} {a b : Int} {wr wr' : World} (h : Inr w v n xs a b wr)
    (hown : wr'.ownsRow (w.heap.size + 1) 31 2 v' (n + m) (flat xs ++ flat ys)) (hg : wr.grownBy wr' v.ownBlock) : Inr w v' (n + m) (xs ++ ys) a b wr' := by
  have hl := h.lt
  have hv : ∀ k, v.ownBlock = some k → w.heap.size + 1 ≤ k := fun k e => (h.own.lt k e).1
  refine ⟨by rw [flat_append]; exact hown, ?_, h.bel.grown hg h.bel.size (fun k e => by have := hv k e; omega)⟩
  rw [hg.block _ hl (fun e => by have := hv _ e.symm; omega)]; exact h.box

theorem news_one (w : World) (a b : Int) : ∀ j u, (flat [(a, b)])[j]? = some u → (w.alloc (.cells #[.int .i64 a, .int .i64 b] 31)).cell? ((⟨w.heap.size, 0, none⟩ : Addr).add j) = some u :=
  World.news_of_block (cs := #[.int .i64 a, .int .i64 b]) (heap_alloc_new w _)

set_option maxHeartbeats 400000 in
theorem rAdd_no (rs : RL) (a b : Int) (ao : Option Addr) (cap : Nat) (w : World) (hl : ArgL w ao rs) (hlen : rs.length ≤ 140737488355328) (h : (setB rs && isR a b) = false) :
    Calls Try.prog 7 #[.slice ao rs.length cap, .agg #[.int .i64 a, .int .i64 b]] w fun e w' =>
      e = .returned (.tuple #[.slice none 0 0, .int .i64 11]) ∧ Below w.heap.size w w' := by
  have hbw : Below w.heap.size w (w.alloc (.cells #[.int .i64 a, .int .i64 b] 31)) := (Below.refl _ _).alloc (Nat.le_refl _) _
  have hl2 := hl.below hbw
  go_enter Try.func7, Try.ntmps7
  go_wp2_with fail
  refine (setOK_any rs ao cap _ hl2 hlen).mono ?_
  rintro e w0 ⟨rfl, hb0⟩
  have hb1 : Below w.heap.size w w0 := hbw.trans (hb0.mono (by simp))
  have hcl : ∀ o, w0.cell? ⟨w.heap.size, o, none⟩ = (w.alloc (.cells #[.int .i64 a, .int .i64 b] 31)).cell? ⟨w.heap.size, o, none⟩ := fun o => hb0.cell (p := ⟨w.heap.size, o, none⟩) (by simp)
  cases hs : setB rs
  · go_wp2
    go_ret2
    exact ⟨rfl, hb1⟩
  · rw [hs, Bool.true_and] at h
    have hr2 : ¬ (0 ≤ a ∧ a ≤ b ∧ b ≤ 1099511627776) := by simpa [isR] using h
    by_cases h1 : a < 0
    · go_wp2
      go_ret2
      exact ⟨rfl, hb1⟩
    · by_cases h2 : b < a
      · go_wp2
        go_ret2
        exact ⟨rfl, hb1⟩
      · have h3 : 1099511627776 < b := by omega
        go_wp2
        go_ret2
        exact ⟨rfl, hb1⟩

theorem rAdd_end {w : World} {v : Value} {n : Nat} {xs L : RL} {a b : Int} {wr : World} (hI : Inr w v n xs a b wr) (hL : Hid (L = xs)) (hne : 0 < L.length) :
    ∃ g cap', Ending.returned (.tuple #[v, .int .i64 0]) = .returned (.tuple #[.slice (some ⟨g, 0, none⟩) L.length cap', .int .i64 0]) ∧
      wr.ownsRow w.heap.size 31 2 (.slice (some ⟨g, 0, none⟩) L.length cap') L.length (flat L) ∧ Below w.heap.size w wr := by
  have hL' : L = xs := hL
  subst hL'
  have hn : n = L.length := by have := hI.own.1; rw [flat_length] at this; omega
  subst hn
  obtain ⟨g, cap, rfl, _, _⟩ := hI.own.form hne
  exact ⟨g, cap, rfl, ownsRow_base hI.own (Nat.le_succ _), hI.bel⟩

set_option maxHeartbeats 1000000 in
theorem rAdd_yes (rs : RL) (a b : Int) (ao : Option Addr) (cap : Nat) (w : World) (hl : ArgL w ao rs) (hs : setB rs = true) (hr : isR a b = true) :
    Calls Try.prog 7 #[.slice ao rs.length cap, .agg #[.int .i64 a, .int .i64 b]] w fun e w' => ∃ g cap',
      e = .returned (.tuple #[.slice (some ⟨g, 0, none⟩) (addTo rs a b).length cap', .int .i64 0]) ∧
      w'.ownsRow w.heap.size 31 2 (.slice (some ⟨g, 0, none⟩) (addTo rs a b).length cap') (addTo rs a b).length (flat (addTo rs a b)) ∧ Below w.heap.size w w' := by
  have hbw : Below w.heap.size w (w.alloc (.cells #[.int .i64 a, .int .i64 b] 31)) := (Below.refl _ _).alloc (Nat.le_refl _) _
  have hl2 := hl.below hbw
  have hlen := setB_len hs
  have hab := isR_hi hr
  obtain ⟨i0, hi0, hz0, hz1, hz2⟩ := info_parts Try.info31
  go_enter Try.func7, Try.ntmps7
  go_wp2_with fail
  refine (setOK_any rs ao cap _ hl2 (by omega)).mono ?_
  rintro e w0 ⟨rfl, hb0⟩
  rw [hs]
  have hI0 : Inr w (.slice none 0 0) 0 [] a b w0 := by
    refine ⟨World.ownsRow_nil _ _ _ _, ?_, hbw.trans (hb0.mono (by simp))⟩
    rw [hb0.block _ (by simp)]
    exact heap_alloc_new w _
  have q0 := hI0.cell0
  have q1 := hI0.cell1
  clear hl2 hb0 hbw
  go_wp2_with fail
  clear q0 q1
  go_loopw [8] (fun i wr => ∃ (k : Nat) (a' b' : Int), k ≤ rs.length ∧ i = .int .i64 k ∧ Inr w (.slice none 0 0) 0 [] a' b' wr ∧ 0 ≤ a' ∧ a' ≤ b' ∧ b' ≤ 1099511627776 ∧ Hid (mer rs a b = mer (rs.drop k) a' b')) (fun i _ => rs.length - (intOf i).toNat)
  case atStart => exact ⟨0, a, b, Nat.zero_le _, rfl, hI0, hab.1, hab.2.1, hab.2.2, by simp [Hid]⟩
  case round =>
    clear hI0
    obtain ⟨k, a', b', hk, rfl, hI, ha0, ha1, ha2, hm⟩ := hrel
    have hwr := hI.lt
    have hr0 := hI.cell0
    have hr1 := hI.cell1
    by_cases hlt : k < rs.length
    · have hl2 := fun wx (h : Below w.heap.size w wx) => hl.below h
      obtain ⟨bl, off, rfl, hbl, c0, c1⟩ := hl2 wr hI.bel k hlt
      have hbd := isR_hi (goodAt_isR ((setB_iff rs).1 hs k hlt))
      by_cases ht : touchB (lo rs k, hi rs k) a' b' = true
      · have ht2 : a' ≤ hi rs k + 1 ∧ lo rs k ≤ b' + 1 := by simpa [touchB] using ht
        have hm2 : Hid (mer rs a b = mer (rs.drop (k + 1)) (min a' (lo rs k)) (max b' (hi rs k))) := by
          show _ = _
          rw [hm.out, mer_step hlt, if_pos ht]
        clear ht hm
        go_wp2_with fail
        refine wp_region_over (by kernel_rfl) (by kernel_rfl) ?_
        repeat (go_big_quiet_step (fail))
        refine wpQuiet_nil ?_
        rintro _ ⟨x, rfl⟩
        have hI2 := hI.on (over_below wr x)
        generalize over wr x = w5 at *
        have q0 := hI2.cell0
        have q1 := hI2.cell1
        have q2 := hI2.free 0
        have q3 := hI2.free 1
        obtain ⟨bl', off', e, hbl', p0, p1⟩ := hl2 w5 hI2.bel k hlt
        cases e
        have hlt5 := hI2.lt
        clear c0 c1 hr0 hr1 hl2 hI
        go_wp2_with fail
        go_region
        go_wp2
        go_roundw
        case rel =>
          have e1 : (if lo rs k < a' then lo rs k else a') = min a' (lo rs k) := by split <;> omega
          have e2 : (if b' < hi rs k then hi rs k else b') = max b' (hi rs k) := by split <;> omega
          rw [e1, e2]
          exact ⟨k + 1, min a' (lo rs k), max b' (hi rs k), by omega, by go_num, (hI2.stored _ _).on (Below.refl _ _).drew, by omega, by omega, by omega, hm2⟩
        case measure => simp [intOf]; omega
      · have hm2 : Hid (mer rs a b = mer (rs.drop (k + 1)) a' b') := by
          show _ = _
          rw [hm.out, mer_step hlt, if_neg ht]
        have ht2 : ¬ (a' ≤ hi rs k + 1 ∧ lo rs k ≤ b' + 1) := by simpa [touchB] using ht
        clear ht hm hl2
        by_cases h1 : a' ≤ hi rs k + 1
        · have d2 : decide (lo rs k ≤ b' + 1) = false := by simp; omega
          go_wp2_with fail
          refine wp_region_over (by kernel_rfl) (by kernel_rfl) ?_
          repeat (go_big_quiet_step (fail))
          refine wpQuiet_nil ?_
          rintro _ ⟨x, rfl⟩
          have hI2 := hI.on (over_below wr x)
          go_wp2
          go_roundw
          case rel => exact ⟨k + 1, a', b', by omega, by go_num, hI2, ha0, ha1, ha2, hm2⟩
          case measure => simp [intOf]; omega
        · have d1 : decide (a' ≤ hi rs k + 1) = false := by simp; omega
          go_wp2_with fail
          refine wp_region_over (by kernel_rfl) (by kernel_rfl) ?_
          repeat (go_big_quiet_step (fail))
          refine wpQuiet_nil ?_
          rintro _ ⟨x, rfl⟩
          have hI2 := hI.on (over_below wr x)
          go_wp2
          go_roundw
          case rel => exact ⟨k + 1, a', b', by omega, by go_num, hI2, ha0, ha1, ha2, hm2⟩
          case measure => simp [intOf]; omega
    · have hab2 : Hid (mer rs a b = (a', b')) := by
        show _ = _
        rw [hm.out, List.drop_eq_nil_of_le (by omega)]; rfl
      have hbl0 : Hid (bld a' b' rs false = addTo rs a b) := by
        show _ = _
        have := bld_add rs (-1) a b ((setB_setR rs).1 hs) hab.2.1
        rw [hab2.out] at this
        exact this
      clear hm hab2
      go_wp2_with fail
      go_loopw [7, 9, 10] (fun v dn i wr => ∃ (k : Nat) (n : Nat) (xs : RL) (done : Bool), k ≤ rs.length ∧ i = .int .i64 k ∧ dn = .bool done ∧ Inr w v n xs a' b' wr ∧ n ≤ k + 1 ∧ (done = false → n ≤ k) ∧ Hid (addTo rs a b = xs ++ bld a' b' (rs.drop k) done)) (fun _ _ i _ => rs.length - (intOf i).toNat)
      case atStart => exact ⟨0, 0, [], false, Nat.zero_le _, rfl, rfl, hI, by omega, fun _ => Nat.le_refl _, hbl0.out.symm⟩
      case round =>
        clear hI hwr hr0 hr1 hbl0
        obtain ⟨k2, n, xs, done, hk2, rfl, rfl, hI, hn1, hn2, hfin⟩ := hrel
        have hwr := hI.lt
        have hr0 := hI.cell0
        have hr1 := hI.cell1
        by_cases hlt2 : k2 < rs.length
        · obtain ⟨bl, off, rfl, hbl0, _, _⟩ := hl k2 hlt2
          have hbl : bl < wr.heap.size := by omega
          have HC : Hid (∀ wx, Below w.heap.size w wx → wx.cell? ⟨bl, off + k2 * 2, none⟩ = some (.int .i64 (lo rs k2)) ∧ wx.cell? ⟨bl, off + k2 * 2 + 1, none⟩ = some (.int .i64 (hi rs k2))) := by
            intro wx hx
            obtain ⟨_, _, e, _, d0, d1⟩ := hl.below hx k2 hlt2
            cases e; exact ⟨d0, d1⟩
          have c0 := (HC.out wr hI.bel).1
          have c1 := (HC.out wr hI.bel).2
          have hstep := hide (bld_step (a := a') (b := b') (done := done) hlt2)
          by_cases hcov : coverB (lo rs k2, hi rs k2) a' b' = true
          · have hc2 : a' ≤ lo rs k2 ∧ hi rs k2 ≤ b' := by simpa [coverB] using hcov
            have hf2 : Hid (addTo rs a b = xs ++ bld a' b' (rs.drop (k2 + 1)) done) := by
              show _ = _
              rw [hfin.out, hstep.out, if_pos hcov]
            clear hfin hstep hcov
            go_wp2_with fail
            refine wp_region_over (by kernel_rfl) (by kernel_rfl) ?_
            repeat (go_big_quiet_step (fail))
            refine wpQuiet_nil ?_
            rintro _ ⟨x, rfl⟩
            have hI2 := hI.on (over_below wr x)
            go_wp2
            go_roundw
            case rel => exact ⟨k2 + 1, n, xs, done, by omega, by go_num, rfl, hI2, by omega, fun e => by have := hn2 e; omega, hf2⟩
            case measure => simp [intOf]; omega
          · have hc2 : ¬ (a' ≤ lo rs k2 ∧ hi rs k2 ≤ b') := by simpa [coverB] using hcov
            have hbd := isR_hi (goodAt_isR ((setB_iff rs).1 hs k2 hlt2))
            have hf0 : Hid (addTo rs a b = xs ++ if !done && decide (b' < lo rs k2) then (a', b') :: (lo rs k2, hi rs k2) :: bld a' b' (rs.drop (k2 + 1)) true else (lo rs k2, hi rs k2) :: bld a' b' (rs.drop (k2 + 1)) done) := by
              show _ = _
              rw [hfin.out, hstep.out, if_neg hcov]
            clear hfin hstep hcov
            by_cases h1 : a' ≤ lo rs k2
            case' pos =>
              have d2 : decide (hi rs k2 ≤ b') = false := by simp; omega
              go_wp2_with fail
              refine wp_region_over (by kernel_rfl) (by kernel_rfl) ?_
              repeat (go_big_quiet_step (fail))
              refine wpQuiet_nil ?_
              rintro _ ⟨x, rfl⟩
              have hI2 := hI.on (over_below wr x)
              clear d2
              go_wp2_with fail
              clear h1
            case' neg =>
              have d1 : decide (a' ≤ lo rs k2) = false := by simp; omega
              go_wp2_with fail
              refine wp_region_over (by kernel_rfl) (by kernel_rfl) ?_
              repeat (go_big_quiet_step (fail))
              refine wpQuiet_nil ?_
              rintro _ ⟨x, rfl⟩
              have hI2 := hI.on (over_below wr x)
              clear d1
              go_wp2_with fail
              clear h1
            all_goals
              generalize over wr x = w4 at *
              clear hI hr0 hr1 hwr c0 c1
              have hwr := hI2.lt
              have hr0 := hI2.cell0
              have hr1 := hI2.cell1
              have c0 := (HC.out w4 hI2.bel).1
              have c1 := (HC.out w4 hI2.bel).2
              have hbl4 : bl < w4.heap.size := by omega
              cases done
              · have hnk := hn2 rfl
                by_cases hb : b' < lo rs k2
                · have hf1 : Hid (addTo rs a b = xs ++ [(a', b')] ++ [(lo rs k2, hi rs k2)] ++ bld a' b' (rs.drop (k2 + 1)) true) := by
                    show _ = _
                    have := hf0.out
                    simp only [Bool.not_false, Bool.true_and, decide_eq_true_eq, if_pos hb] at this
                    rw [this]; simp
                  clear hf0
                  refine wp_region_over (by kernel_rfl) (by kernel_rfl) ?_
                  repeat (go_big_quiet_step (fail))
                  refine wpQuiet_nil ?_
                  rintro _ ⟨x, rfl⟩
                  have hI5 := hI2.on (over_below w4 x)
                  generalize over w4 x = w5 at *
                  clear hI2 hr0 hr1 c0 c1
                  have hwr5 := hI5.lt
                  have hr0 := hI5.cell0
                  have hr1 := hI5.cell1
                  go_wp2_with (first | (at_builtin; refine wpList_append_own _ rfl (.tmp 111) (.tmp 113) 22 rfl (w.heap.size + 1) 31 i0 _ 2 16 Try.underlying22 hi0 hz0 hz1 hz2 rfl (by decide) _ n (flat xs) rfl (hI5.own.alloc _) ⟨w5.heap.size, 0, none⟩ 1 1 (flat [(a', b')]) rfl rfl (news_one _ _ _) (flat_oneCell _) (by unfold maxLen; omega) (by omega) (by simp; omega) ?_; intro v1 w6 hown1 hgrow1 _; have hI6 := (hI5.on ((Below.refl _ _).alloc (Nat.le_refl _) _)).more hown1 hgrow1; have p0 := (HC.out w6 hI6.bel).1; have p1 := (HC.out w6 hI6.bel).2; have p2 := hI6.lt) | (at_builtin; refine wpList_append_own _ rfl (.tmp 115) (.tmp 120) 22 rfl (w.heap.size + 1) 31 i0 _ 2 16 Try.underlying22 hi0 hz0 hz1 hz2 rfl (by decide) _ (n + 1) (flat (xs ++ [(a', b')])) rfl (hI6.own.alloc _) ⟨w6.heap.size, 0, none⟩ 1 1 (flat [(lo rs k2, hi rs k2)]) rfl rfl (news_one _ _ _) (flat_oneCell _) (by unfold maxLen; omega) (by omega) (by simp; omega) ?_; intro v2 w7 hown2 hgrow2 _; have hI7 := (hI6.on ((Below.refl _ _).alloc (Nat.le_refl _) _)).more hown2 hgrow2))
                  go_roundw
                  case rel => exact ⟨k2 + 1, n + 1 + 1, _, true, by omega, by go_num, rfl, hI7, by omega, (fun e => by cases e), hf1⟩
                  case measure => simp [intOf]; omega
                · have hf1 : Hid (addTo rs a b = xs ++ [(lo rs k2, hi rs k2)] ++ bld a' b' (rs.drop (k2 + 1)) false) := by
                    show _ = _
                    have := hf0.out
                    simp only [Bool.not_false, Bool.true_and, decide_eq_true_eq, if_neg hb] at this
                    rw [this]; simp
                  have d : decide (b' < lo rs k2) = false := by simpa using hb
                  clear hf0
                  refine wp_region_over (by kernel_rfl) (by kernel_rfl) ?_
                  repeat (go_big_quiet_step (fail))
                  refine wpQuiet_nil ?_
                  rintro _ ⟨x, rfl⟩
                  have hI5 := hI2.on (over_below w4 x)
                  generalize over w4 x = w5 at *
                  clear hI2 hr0 hr1 c0 c1
                  have hwr5 := hI5.lt
                  have c0 := (HC.out w5 hI5.bel).1
                  have c1 := (HC.out w5 hI5.bel).2
                  go_wp2_with (at_builtin; refine wpList_append_own _ rfl (.tmp 115) (.tmp 120) 22 rfl (w.heap.size + 1) 31 i0 _ 2 16 Try.underlying22 hi0 hz0 hz1 hz2 rfl (by decide) _ n (flat xs) rfl (hI5.own.alloc _) ⟨w5.heap.size, 0, none⟩ 1 1 (flat [(lo rs k2, hi rs k2)]) rfl rfl (news_one _ _ _) (flat_oneCell _) (by unfold maxLen; omega) (by omega) (by simp; omega) ?_; intro v2 w7 hown2 hgrow2 _; have hI7 := (hI5.on ((Below.refl _ _).alloc (Nat.le_refl _) _)).more hown2 hgrow2)
                  go_roundw
                  case rel => exact ⟨k2 + 1, n + 1, _, false, by omega, by go_num, rfl, hI7, by omega, (fun _ => by omega), hf1⟩
                  case measure => simp [intOf]; omega
              · have hf1 : Hid (addTo rs a b = xs ++ [(lo rs k2, hi rs k2)] ++ bld a' b' (rs.drop (k2 + 1)) true) := by
                  show _ = _
                  have := hf0.out
                  simp only [Bool.not_true, Bool.false_and, Bool.false_eq_true, if_false] at this
                  rw [this]; simp
                clear hf0
                refine wp_region_over (by kernel_rfl) (by kernel_rfl) ?_
                repeat (go_big_quiet_step (fail))
                refine wpQuiet_nil ?_
                rintro _ ⟨x, rfl⟩
                have hI5 := hI2.on (over_below w4 x)
                generalize over w4 x = w5 at *
                clear hI2 hr0 hr1 c0 c1
                have hwr5 := hI5.lt
                have c0 := (HC.out w5 hI5.bel).1
                have c1 := (HC.out w5 hI5.bel).2
                go_wp2_with (at_builtin; refine wpList_append_own _ rfl (.tmp 115) (.tmp 120) 22 rfl (w.heap.size + 1) 31 i0 _ 2 16 Try.underlying22 hi0 hz0 hz1 hz2 rfl (by decide) _ n (flat xs) rfl (hI5.own.alloc _) ⟨w5.heap.size, 0, none⟩ 1 1 (flat [(lo rs k2, hi rs k2)]) rfl rfl (news_one _ _ _) (flat_oneCell _) (by unfold maxLen; omega) (by omega) (by simp; omega) ?_; intro v2 w7 hown2 hgrow2 _; have hI7 := (hI5.on ((Below.refl _ _).alloc (Nat.le_refl _) _)).more hown2 hgrow2)
                go_roundw
                case rel => exact ⟨k2 + 1, n + 1, _, true, by omega, by go_num, rfl, hI7, by omega, (fun e => by cases e), hf1⟩
                case measure => simp [intOf]; omega
        · have hf1 : Hid (addTo rs a b = xs ++ bld a' b' [] done) := by
            show _ = _
            have := hfin.out
            rw [List.drop_eq_nil_of_le (show rs.length ≤ k2 by omega)] at this
            exact this
          have hne := add_ne rs a b
          clear hfin
          cases done
          · have hf2 : Hid (addTo rs a b = xs ++ [(a', b')]) := hf1.out
            have hnk := hn2 rfl
            go_wp2_with (at_builtin; refine wpList_append_own _ rfl (.tmp 124) (.tmp 126) 22 rfl (w.heap.size + 1) 31 i0 _ 2 16 Try.underlying22 hi0 hz0 hz1 hz2 rfl (by decide) _ n (flat xs) rfl (hI.own.alloc _) ⟨wr.heap.size, 0, none⟩ 1 1 (flat [(a', b')]) rfl rfl (news_one _ _ _) (flat_oneCell _) (by unfold maxLen; omega) (by omega) (by simp; omega) ?_; intro v1 w6 hown1 hgrow1 _; have hI6 := (hI.on ((Below.refl _ _).alloc (Nat.le_refl _) _)).more hown1 hgrow1)
            go_ret2
            exact rAdd_end hI6 hf2 hne
          · have hf2 : Hid (addTo rs a b = xs) := by
              show _ = _
              have := hf1.out
              rw [this]; simp [bld]
            go_wp2
            go_ret2
            exact rAdd_end hI hf2 hne

end Go.Proofs.Ytockkceclkcgbaa

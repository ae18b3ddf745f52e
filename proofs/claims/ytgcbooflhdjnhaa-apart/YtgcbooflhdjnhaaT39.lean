/- The contract of a run's took: one delivery is seen. -/
import Derived.Test.YtgcbooflhdjnhaaT34
import Derived.Deep.RegionHeld3
import Derived.Test.YtgcbooflhdjnhaaT33
namespace Go.Proofs.Ytgcbooflhdjnhaa
open Go.RowKit

theorem infoIntR : (Try.prog.info? 3).map (fun i => (i.zero, i.size, i.bytes)) = some (some (.int .i64 0), 1, 8) := by kernel_rfl

attribute [local go_sem] over_cell

set_option maxRecDepth 100000 in
set_option maxHeartbeats 8000000 in
theorem took_any (i b bx gb gc : Nat) (m : MQ) (U : Nat → List It) (L : Nat → List Nat) (k : Nat) (g : MG) (d : Dl) (w : World) (T : Nat → Tag) (hr : RunG w T i b bx gb gc m U L) (hg : m.groups[k]? = some g) (hd : okD m g.start (U k) d) (hl : (L k).length ≤ 4000) (hgo : goodC m.c = true) (ht : 0 ≤ m.time ∧ m.time ≤ 4000000000000000000) :
    Calls Try.prog 79 #[.pointer (some ⟨b, 0, none⟩), .pointer (some ⟨gb, k * 4, none⟩), .agg #[.int .i64 d.off, .int .i64 d.tr, .string d.body]] w fun e w' => e = .returned (.tuple #[]) ∧
      ∃ T', Step (RT i) w T w' T' ∧ RunG w' T' i b bx gb gc m (updF U k (tookI m (U k) d)) (updF L k (L k ++ [d.off.toNat])) := by
  obtain ⟨⟨hl1, hl2⟩, ⟨hd1, hd2⟩, _, _⟩ := good_all hgo
  obtain ⟨n, x, ho, hx, o1, o2, o3, o4, o5, o6, o0, o7, o8, o9⟩ := hd
  obtain ⟨dO, dT, dB⟩ := d
  simp only at ho o7 o8 o9
  subst ho
  have hb : m.bodies[n]? = some dB := by rw [o9]; simp [List.getD, List.getElem?_eq_getElem o3]
  clear o9
  subst o7
  have eT : tookI m (U k) ⟨n, (x.tries + 1), dB⟩ = (U k).set n { x with tries := (x.tries + 1), till := m.time + m.c.l } := tookI_at rfl hx
  rw [eT]
  simp only [Int.toNat_natCast]
  clear eT
  have s1 := step_new w T (.cells #[.int .i64 n, .int .i64 (x.tries + 1), .string dB] 89) .free (fun _ => False)
  have hO := blk_new w T #[.int .i64 n, .int .i64 (x.tries + 1), .string dB] 89 .free
  have hr1 := hr.step s1 (fun _ _ h => h)
  go_enter Try.func79, Try.ntmps79
  go_wp2_with fail
  generalize retag T w.heap.size .free = T1 at *
  generalize w.alloc (.cells #[.int .i64 (n : Int), .int .i64 (x.tries + 1), .string dB] 89) = w1 at *
  generalize w.heap.size = ob at hO ⊢
  obtain ⟨bo, bc, so, sc, lo, lc, A⟩ := hr1.at hg
  have q0 := hO.cell (j := 0) rfl
  have lO := hO.lt
  have lb := A.lb
  have lg := A.lg
  have c5 := A.c5
  have c6 := A.c6
  have e1 := A.d1
  have f1 : decide ((n : Int) < m.floor) = false := by simp; omega
  have f2 : decide ((n : Int) < g.start) = false := by simp; omega
  have f3 : decide ((m.bodies.length : Int) ≤ (n : Int)) = false := by simp; omega
  simp only [List.getElem_toArray, List.getElem_cons_zero] at q0
  clear A
  refine wp_region_over (by kernel_rfl) (by kernel_rfl) ?_
  repeat (go_big_quiet_step (fail))
  refine wpQuiet_nil ?_
  rintro _ ⟨x2, rfl⟩
  have g2 := step_below (fun _ => False) T1 (over_below w1 x2)
  generalize over w1 x2 = w2 at *
  have hr2 := hr1.step g2 (fun _ _ h => h)
  have hO2 := hO.step g2 (fun h => h)
  have s2 := s1.trans g2
  clear hr1 hO s1 g2 q0 lO lb lg c5 c6 e1
  obtain ⟨bo, bc, so, sc, lo, lc, A2⟩ := hr2.at hg
  obtain ⟨gi, _, e⟩ := row_some A2.see (by omega)
  cases e
  obtain ⟨gz, _, e⟩ := row_some A2.bod (by omega)
  cases e
  have q0 := hO2.cell (j := 0) rfl
  simp only [List.getElem_toArray, List.getElem_cons_zero] at q0
  have lO := hO2.lt
  have lg := A2.lg
  have e2 := A2.d2
  go_wp2_with fail
  refine wp_region_over (by kernel_rfl) (by kernel_rfl) ?_
  repeat (go_big_quiet_step (fail))
  refine wpQuiet_nil ?_
  rintro _ ⟨x3, rfl⟩
  have g3 := step_below (fun _ => False) T1 (over_below w2 x3)
  generalize over w2 x3 = w3 at *
  have hr3 := hr2.step g3 (fun _ _ h => h)
  have hO3 := hO2.step g3 (fun h => h)
  have A := A2.step g3 (fun _ _ h => h)
  have s3 := s2.trans g3
  clear hr2 hO2 s2 g3 q0 lO lg e2 A2
  have hsee := A.see
  have hbod := A.bod
  have hU : (U k).length = m.bodies.length := by have := hsee.1.1; rw [seenVals_length] at this; omega
  have lb := A.lb
  have lg := A.lg
  have li := hsee.lt
  have lz := hbod.lt
  have lO := hO3.lt
  have c2 := A.c2
  have c5 := A.c5
  have c8 := A.c8
  have c10 := A.c10
  have e2 := A.d2
  have z10 := A.fb 10
  obtain ⟨t0, t1, t2, t3⟩ := seenVals_at (U k) n x hx
  replace t0 := hsee.cell t0
  replace t1 := hsee.cell t1
  replace t2 := hsee.cell t2
  replace t3 := hsee.cell t3
  have tz : w3.cell? ⟨gz, n, none⟩ = some (.string dB) := hbod.cell (by simp [hb])
  have q0 := hO3.cell (j := 0) rfl
  have q1 := hO3.cell (j := 1) rfl
  have q2 := hO3.cell (j := 2) rfl
  simp only [List.getElem_toArray, List.getElem_cons_succ, List.getElem_cons_zero] at q0 q1 q2
  have o4' : decide (0 < x.done) = false := by simpa using o4
  rw [o4'] at t1
  have f5 : decide (x.till ≤ m.time) = true := by simpa using o5
  have f6 : decide (x.after ≤ m.time) = true := by simpa using o6
  have f8 : decide (x.tries + 1 ≤ m.c.d) = true := by simpa using o8
  have hq : (dB.toList == dB.toList) = true := by simp
  have hneO : ob ≠ b := fun e => by have := hO3.1; rw [e, A.tb] at this; simp at this
  have hnei : gi ≠ b := fun e => by have := hsee.2 gi rfl; rw [e, A.tb] at this; simp at this
  have hnez : gz ≠ b := fun e => by have := hbod.2 gz rfl; rw [e, A.tb] at this; simp at this
  have z0 := hsee.frozen (n * 4)
  obtain ⟨hr4, s4⟩ := hr3.flag 10 (by simp)
  have hO4 := hO3.step s4 (by simp)
  have d24 := (s4.cell (p := ⟨gb, k * 4 + 2, none⟩) lg (by rw [A.tg]; simp)).trans A.d2
  have lg4 := Nat.lt_of_lt_of_le lg s4.size
  have tg4 := (s4.tag gb lg).trans A.tg
  obtain ⟨hr5, s5⟩ := hr4.seen (k := k) (j := n * 4) (v := .int .i64 (x.tries + 1)) hg d24 (by omega) ((seenVals_set (U k) n x hx).1 (x.tries + 1))
  have hO5 := hO4.step s5 (by simp)
  have d25 := (s5.cell (p := ⟨gb, k * 4 + 2, none⟩) lg4 (by rw [tg4]; simp)).trans d24
  have gdr := step_below (fun _ => False) T1 (Below.refl ((w3.setCell ⟨b, 10, none⟩ (.bool true)).setCell ⟨gi, n * 4, none⟩ (.int .i64 (x.tries + 1))).heap.size ((w3.setCell ⟨b, 10, none⟩ (.bool true)).setCell ⟨gi, n * 4, none⟩ (.int .i64 (x.tries + 1)))).drew
  replace hr5 := hr5.step gdr (fun _ _ h => h)
  replace hO5 := hO5.step gdr (fun h => h)
  have s05 := ((s3.mono (fun _ h => (h.elim : RT i _))).trans (s4.mono (fun _ h => rt_itself i h))).trans ((s5.mono (fun _ h => rt_rseen i k h)).trans (gdr.mono (fun _ h => h.elim)))
  have hw1 : IntKind.i64.wrap (x.tries + 1) = x.tries + 1 := by rw [IntWalk.i64_left, IntWalk.wrap64_in _ ⟨by omega, by omega⟩]
  have P := hide (And.intro hr5 (And.intro hO5 (And.intro s05 d25)))
  clear hr4 hO4 s05 s4 A gdr hr3 hO3 s3 hsee hbod hr d24 hr5 hO5 d25 lg4 tg4 s5
  go_wp2_with fail
  dsimp only [List.append]
  refine wp_region_tail 69 (by kernel_rfl) (by kernel_rfl) ?_
  simp only [List.take_succ_cons, List.take_zero, List.drop_succ_cons, List.drop_zero]
  repeat (go_big_quiet_step (fail))
  refine wpQuiet_nil ?_
  go_wp2_with fail
  obtain ⟨hr5, hO5, s05, d25⟩ := P.out
  replace d25 : ((w3.setCell ⟨b, 10, none⟩ (.bool true)).setCell ⟨gi, n * 4, none⟩ (.int .i64 (x.tries + 1))).drew.cell? ⟨gb, k * 4 + 2, none⟩ = some (.slice (some ⟨gi, 0, none⟩) m.bodies.length sc) := d25
  clear P lb lg li lz lO c2 c5 c8 c10 e2 z10 z0 t0 t1 t2 t3 tz q0 q1 q2
  generalize ((w3.setCell ⟨b, 10, none⟩ (.bool true)).setCell ⟨gi, n * 4, none⟩ (.int .i64 (x.tries + 1))).drew = w5 at *
  obtain ⟨bo5, bc5, lo5, lc5, A⟩ := hr5.atS hg d25
  rw [updF_same] at A
  have hsee := A.see
  have lb := A.lb
  have lg := A.lg
  have li := hsee.lt
  have c1 := A.c1
  have c8 := A.c8
  have z2 := hsee.frozen (n * 4 + 2)
  have hx5 : ((U k).set n { x with tries := x.tries + 1 })[n]? = some { x with tries := x.tries + 1 } := by simp [hU, o3]
  have t2 := hsee.cell (seenVals_at _ n _ hx5).2.2.1
  have hw2 : IntKind.i64.wrap (m.time + m.c.l) = m.time + m.c.l := by rw [IntWalk.i64_left, IntWalk.wrap64_in _ ⟨by omega, by omega⟩]
  obtain ⟨hr6, s6⟩ := hr5.seen (k := k) (j := n * 4 + 2) (v := .int .i64 (m.time + m.c.l)) (u' := (U k).set n { x with tries := x.tries + 1, till := m.time + m.c.l }) hg d25 (by omega) (by rw [updF_same, (seenVals_set _ n _ hx5).2.2.1 (m.time + m.c.l)]; simp [List.set_set])
  rw [updF_twice] at hr6
  have hO6 := hO5.step s6 (by simp)
  have gdr := step_below (fun _ => False) T1 (Below.refl (w5.setCell ⟨gi, n * 4 + 2, none⟩ (.int .i64 (m.time + m.c.l))).heap.size (w5.setCell ⟨gi, n * 4 + 2, none⟩ (.int .i64 (m.time + m.c.l)))).drew
  replace hr6 := hr6.step gdr (fun _ _ h => h)
  replace hO6 := hO6.step gdr (fun h => h)
  have s06 := s05.trans ((s6.mono (fun _ h => rt_rseen i k h)).trans (gdr.mono (fun _ h => h.elim)))
  have P := hide (And.intro hr6 (And.intro hO6 s06))
  clear hr6 hO6 s06 s6 gdr A hsee hr5 hO5 s05 d25 hx5
  refine wp_region_tail 13 (by kernel_rfl) (by kernel_rfl) ?_
  simp only [List.take_succ_cons, List.take_zero, List.drop_succ_cons, List.drop_zero]
  repeat (go_big_quiet_step (fail))
  refine wpQuiet_nil ?_
  go_wp2_with fail
  obtain ⟨hr6, hO6, s06⟩ := P.out
  clear P lb lg li c1 c8 z2 t2
  generalize (w5.setCell ⟨gi, n * 4 + 2, none⟩ (.int .i64 (m.time + m.c.l))).drew = w6 at *
  obtain ⟨bo6, bc6, so6, sc6, lo6, lc6, A⟩ := hr6.at hg
  have lg := A.lg
  have lO := hO6.lt
  have d3 := A.d3
  have q0 := hO6.cell (j := 0) rfl
  simp only [List.getElem_toArray, List.getElem_cons_zero] at q0
  obtain ⟨i0, hi, hz0, hz1, hz2⟩ := info_parts infoIntR
  have gba := step_below (fun _ => False) T1 ((Below.refl w6.heap.size w6).drew.alloc (by simp) (.cells #[.int .i64 (n : Int)] 3))
  have hla := A.last.step gba (fun h => h)
  obtain ⟨og, oc, w9, T9, hrun9, hL9, s9⟩ := run_append_row (P := Try.prog) 23 23 3 i0 _ 1 8 Try.underlying23 hi hz0 hz1 hz2 rfl (by decide) _ _ _ hla ⟨w6.heap.size, 0, none⟩ 1 1 [.int .i64 (n : Int)] rfl (cells_new5 w6.drew _ 3) (by simp [Value.oneCell']) (by decide) (by unfold maxLen; omega) (by omega)
  have s69 := (gba.mono (fun _ h => (h.elim : _ = Tag.rlast i k))).trans s9
  obtain ⟨hrX, sX⟩ := hr6.add (l' := L k ++ [n]) hg s69 (by simpa [natV] using hL9)
  have d39 := (s69.cell (p := ⟨gb, k * 4 + 3, none⟩) lg (by rw [A.tg]; simp)).trans d3
  have z39 := (s69.frozen (p := ⟨gb, k * 4 + 3, none⟩) lg (by rw [A.tg]; simp)).trans (A.fg _)
  have l69 := Nat.lt_of_lt_of_le lg s69.size
  have P := hide (And.intro hrX (s06.trans sX))
  clear hrX s06 sX A hr6 hO6 hla hL9 s9 s69 gba
  go_region_law (refine step_append_known rfl _ _ 23 rfl _ _ _ rfl rfl hrun9 ?_)
  all_goals
    go_wp2
    go_end0
    exact ⟨rfl, T9, P.out.2, P.out.1⟩

end Go.Proofs.Ytgcbooflhdjnhaa

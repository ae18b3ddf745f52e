/- The contract of step at a call, at All. -/
import Derived.Test.YtockkceclkcgbaaGreatDoorA45
namespace Go.Proofs.YtockkceclkcgbaaGreatDoor
open Go.RowKit

attribute [local go_sem] over_cell

set_option maxRecDepth 100000 in
set_option maxHeartbeats 4000000 in
theorem stepA_pair {B : Int} {a0 a1 : Addr} (h0B : 0 ≤ B) (hlm : B ≤ 100000000000) (wb : Nat) (c d : Conf) (ps : List Nat) (q q' : Nat) (kind qu : Int) (nm bd : ByteArray) (n tr ms : Int) (yes : Bool) (w : World) (T : Nat → Tag) (hw : WA B a0 a1 w T wb c d 14 ps q q') (h23 : 2 ≤ kind ∧ kind ≤ 12) (hqu : i64 qu) (hpos : 0 < ps.length) (hq : q ≤ 900000000) (hq' : q' ≤ 900000000) :
    Calls Tryz.prog 16 #[.pointer (some ⟨wb, 0, none⟩), .agg (opCells kind qu nm bd n tr ms yes)] w (StepA B a0 a1 w T wb c d ps q q') := by
  have hlen := hw.few
  have hcall := fun (m : MQ) (gh : Nat × Bs) (vs : Value) (k p : Nat) (w : World) (T : Nat → Tag) (hwb : WB w T wb c d 14 ps q q') (hp : PairZ (XAt m gh) B vs (mkB gh.2) w T k p) => callZ_any (xz m gh B (by omega)) (Int.le_refl _) (by omega) wb c d 14 ps q q' k p kind qu nm bd n tr ms yes w T hwb hp h23 hq hq'
  unfold opCells at hcall
  have n0 : decide (kind < 1) = false := by simp; omega
  have n1 : decide (14 < kind) = false := by simp; omega
  have n2 : ¬ kind = 1 := by omega
  have n3 : ¬ kind = 13 := by omega
  have n4 : ¬ kind = 14 := by omega
  have n5 : ¬ kind < 1 := by omega
  have n6 : ¬ 14 < kind := by omega
  clear h23
  have hw0 := hw
  obtain ⟨vP, vr, vd, hB, hR, _, _⟩ := hw.blk
  obtain ⟨gb, gc, rfl⟩ := row_some hR hpos
  obtain ⟨k, hk⟩ : ∃ k : Nat, pickQ qu ps.length = k := ⟨(pickQ qu ps.length).toNat, by have := pickQ_range qu ps.length (by omega); omega⟩
  have hkl : k < ps.length := by have := pickQ_range qu ps.length (by omega); omega
  obtain ⟨p, hp⟩ : ∃ p, ps[k]? = some p := ⟨_, List.getElem?_eq_getElem hkl⟩
  have hpick : ∀ w1 : World, Calls Tryz.prog 38 #[.int .i64 qu, .int .i64 (ps.length : Int)] w1 fun e w' => e = .returned (.int .i64 (k : Int)) ∧ Below w1.heap.size w1 w' := fun w1 => by
    rw [← hk]; exact pickq_any qu ps.length w1 hqu.1 hqu.2 (by omega) (by omega)
  have l0 := hB.lt
  have lr := hR.lt
  have k8 := hB.cell (j := 8) rfl
  have k11 := hB.cell (j := 11) rfl
  simp only [List.getElem_toArray, List.getElem_cons_succ, List.getElem_cons_zero] at k8 k11
  have kp : w.cell? ⟨gb, k, none⟩ = some (.pointer (some ⟨p, 0, none⟩)) := hR.cell (by simp [hp, ptrV])
  obtain ⟨vs, m, gh, st, hpz, hst, hn⟩ := hw.prs k p hp
  obtain ⟨bx, yb, mx, hP, ⟨hmx, _⟩, hY, _⟩ := id hpz
  subst hmx
  have lp := hP.lt
  have p1 := hP.cell (j := 1) rfl
  obtain ⟨_, _, _, _, _, _, _, hYb, _⟩ := hY
  have ly := hYb.lt
  have y8 := hYb.cell (j := 8) rfl
  simp only [List.getElem_toArray, List.getElem_cons_succ, List.getElem_cons_zero] at p1 y8
  clear hB hR hP hYb hk hw
  -- the step's own block
  have a1 : Step (fun _ => False) w T (w.alloc (.cells (opCells kind qu nm bd n tr ms yes) 46)) (retag T w.heap.size .free) := step_new w T _ .free _
  have hO : Blk (w.alloc (.cells (opCells kind qu nm bd n tr ms yes) 46)) (retag T w.heap.size .free) .free w.heap.size (opCells kind qu nm bd n tr ms yes) 46 := (blk_new w T _ 46 .free)
  have l1 : wb < (w.alloc (.cells (opCells kind qu nm bd n tr ms yes) 46)).heap.size := by simp; omega
  have l2 : w.heap.size < (w.alloc (.cells (opCells kind qu nm bd n tr ms yes) 46)).heap.size := by simp
  go_enter Tryz.func16, Tryz.ntmps16
  go_wp2_with fail
  refine wp_region_over (by kernel_rfl) (by kernel_rfl) ?_
  repeat (go_big_quiet_step (fail))
  refine wpQuiet_nil ?_
  rintro _ ⟨x, rfl⟩
  have hb := over_below (w.alloc (.cells (opCells kind qu nm bd n tr ms yes) 46)) x
  generalize over (w.alloc (.cells (opCells kind qu nm bd n tr ms yes) 46)) x = w2 at *
  have f2 : Step (fun _ => False) w T w2 (retag T w.heap.size .free) := a1.trans (step_below _ _ hb)
  have hO2 := hO.step (step_below (fun _ => False) _ hb) (fun h => h)
  have b2 : Below w.heap.size w w2 := ((Below.refl _ _).alloc (Nat.le_refl _) _).trans (hb.mono (by simp))
  have j8 := (b2.cell (p := ⟨wb, 8, none⟩) l0).trans k8
  have j11 := (b2.cell (p := ⟨wb, 11, none⟩) l0).trans k11
  have jp := (b2.cell (p := ⟨gb, k, none⟩) lr).trans kp
  have jq := (b2.cell (p := ⟨p, 1, none⟩) lp).trans p1
  have jy := (b2.cell (p := ⟨yb, 8, none⟩) ly).trans y8
  have ml0 := Nat.lt_of_lt_of_le l0 b2.size
  have mlr := Nat.lt_of_lt_of_le lr b2.size
  have mlp := Nat.lt_of_lt_of_le lp b2.size
  have mly := Nat.lt_of_lt_of_le ly b2.size
  have mlo := hO2.lt
  have o0 := hO2.cell (j := 0) rfl
  have o1 := hO2.cell (j := 1) rfl
  simp only [List.getElem_toArray, List.getElem_cons_succ, List.getElem_cons_zero] at o0 o1
  clear k8 k11 kp p1 y8 l0 lr lp ly l1 l2 hb a1 hO
  go_wp2_with fail
  refine wp_region_over (by kernel_rfl) (by kernel_rfl) ?_
  repeat (go_big_quiet_step ((go_at_call 38; exact quiet_over hpick)))
  refine wpQuiet_nil ?_
  rintro _ ⟨x3, rfl⟩
  have hb3 := over_below w2 x3
  generalize over w2 x3 = w3 at *
  have hO3 := hO2.step (step_below (fun _ => False) _ hb3) (fun h => h)
  have f3 : Step (fun _ => False) w T w3 (retag T w.heap.size .free) := f2.trans (step_below _ _ hb3)
  have i11 := (hb3.cell (p := ⟨wb, 11, none⟩) ml0).trans j11
  have iq := (hb3.cell (p := ⟨p, 1, none⟩) mlp).trans jq
  have iy := (hb3.cell (p := ⟨yb, 8, none⟩) mly).trans jy
  have r0 := hO3.cell (j := 0) rfl
  have r1 := hO3.cell (j := 1) rfl
  have r2 := hO3.cell (j := 2) rfl
  have r3 := hO3.cell (j := 3) rfl
  have r4 := hO3.cell (j := 4) rfl
  have r5 := hO3.cell (j := 5) rfl
  have r6 := hO3.cell (j := 6) rfl
  have r7 := hO3.cell (j := 7) rfl
  simp only [List.getElem_toArray, List.getElem_cons_succ, List.getElem_cons_zero] at r0 r1 r2 r3 r4 r5 r6 r7
  have hw3 := hw0.step f3 (fun _ h => h)
  have hp3 := hpz.step (xz mx gh 0 (by decide)) f3 (fun h => h) (fun _ _ h => h) (fun _ _ h => h)
  have hkH : k < HI := by unfold HI; omega
  have hst3 := (hst.step f3 (fun h => h) (fun _ _ _ _ _ h => h)).mono (show B ≤ B + 60000 by omega)
  clear j8 j11 jp jq jy ml0 mlr mlp mly mlo o0 o1 hb3 hO2 hO3 f2 b2 hpick
  go_wp2_with fail
  refine (hcall mx gh vs k p w3 _ hw3.blk hp3).mono ?_
  rintro e w4 ⟨rfl, T4, q1, q1', hs4, hw4, hp4, g1, g2⟩
  obtain ⟨bx4, yb4, m4, hB4, ⟨gh4, hx4, ho4⟩, hy4, hf4⟩ := hp4
  have hst4 := hst3.step hs4 (by rintro ((h | ⟨r, j, h⟩) | h | h); exact absurd h.1 (by simp); cases h; cases h; exact absurd h.2 (by simp)) (far_call hkH)
  rw [← ho4.1] at hst4
  obtain ⟨j, hj⟩ := fresh_hi w4 T4
  have hbne : (m4.changes != mx.rq.changes) = decide (m4.changes ≠ mx.changes) := by
    show (m4.changes != mx.changes) = _
    by_cases e : m4.changes = mx.changes <;> simp [e]
  have hstood := stood_any (B := B + 60000) k p bx4 yb4 j mx m4 gh gh4 vs st (m4.changes != mx.rq.changes) hbne w4 T4 hj hkH hB4 hx4 hy4 hf4 hst4 ho4 hn (by omega)
  have hoth : ∀ i x, i ≠ k → ps[i]? = some x → PairA B w4 T4 i x := fun i x hik hi => other_call hik hkH hs4 (hw3.prs i x hi)
  have hl4 := hw3.laid.step hs4 (fun h => callS_old h rfl)
  obtain ⟨vP4, vr4, vd4, hW4, _, _, _⟩ := id hw4
  obtain ⟨_, _, _, _, _, _, _, hY4, _⟩ := id hy4
  have lw4 := hW4.lt
  have lp4 := hB4.lt
  have ly4 := hY4.lt
  have s11 := hW4.cell (j := 11) rfl
  have s1 := hB4.cell (j := 1) rfl
  have s8 := hY4.cell (j := 8) rfl
  simp only [List.getElem_toArray, List.getElem_cons_succ, List.getElem_cons_zero] at s11 s1 s8
  replace s8 : w4.cell? ⟨yb4, 8, none⟩ = some (.int .i64 m4.changes) := s8
  clear hbne
  clear i11 iq iy r0 r1 r2 r3 r4 r5 r6 r7 hcall hW4 hY4 hw3 hp3 hst3 hst4 hB4 hx4 hy4 hpz hst
  go_wp2_with fail
  refine hstood.mono ?_
  clear hstood
  rintro e w5 ⟨rfl, T5, hs5, hp5⟩
  go_wp2
  go_ret
  refine ⟨rfl, T5, ps, q1, q1', ((f3.mono (fun _ h => h.elim)).trans (hs4.mono (fun t ht => callS_old ht))).trans (hs5.mono (fun t ht => one_old ht)), ?_, Nat.le_refl _, Nat.le_succ _, g1, g2⟩
  exact WA.one (by omega) hw4 hl4 hlen hoth hj hs5 hp hp5

end Go.Proofs.YtockkceclkcgbaaGreatDoor

/- The contract of crashed: Open of the log as it is cut. -/
namespace Go.Proofs.YtockkceclkcgbaaGreatDoor
open Go.RowKit

attribute [local go_sem] over_cell

theorem far_i {i : Nat} {w : World} {T : Nat → Tag} (hi : i < HI) : Far (fun t => ST i t ∨ t = .pair i ∨ t = .free) w T := by
  intro k _ ha r q h
  rcases h with (h | ⟨r', q', h⟩) | h | h
  · exact absurd h.1 (by simp)
  · have : (T k).i = i := congrArg Tag.i h
    omega
  · exact absurd (congrArg Tag.c h) (by simp)
  · exact absurd (congrArg Tag.c h) (by simp)
theorem st_i {i : Nat} : ¬ (ST i (.st i) ∨ Tag.st i = .pair i ∨ Tag.st i = .free) := by
  rintro ((h | ⟨r, q, h⟩) | h | h)
  · exact absurd h.1 (by simp)
  · cases h
  · cases h
  · cases h
theorem cp_i {i : Nat} : ∀ t, CpS i t → (ST i t ∨ t = .pair i ∨ t = .free) := by
  rintro t (h | h)
  · exact .inl (.inr h)
  · exact .inr (.inr h)
/-- at is the last of the first i stands that is no longer than N -/
def AtOk (st : List Stand) (N at_ i : Nat) : Prop := (∃ a, st[at_]? = some a ∧ a.gh.2.length ≤ N) ∧ ∀ (k : Nat) (b : Stand), at_ < k → k < i → st[k]? = some b → N < b.gh.2.length
theorem AtOk.here {st : List Stand} {N i : Nat} {a : Stand} (ha : st[i]? = some a) (hl : a.gh.2.length ≤ N) : AtOk st N i (i + 1) := ⟨⟨a, ha, hl⟩, fun k b h1 h2 => by omega⟩
theorem AtOk.pass {st : List Stand} {N at_ i : Nat} {a : Stand} (h : AtOk st N at_ i) (ha : st[i]? = some a) (hl : N < a.gh.2.length) : AtOk st N at_ (i + 1) := ⟨h.1, fun k b h1 h2 hb => by
  by_cases e : k = i
  · subst e
    rw [ha] at hb
    cases hb
    exact hl
  · exact h.2 k b h1 (by omega) hb⟩

set_option maxRecDepth 100000 in
set_option maxHeartbeats 4000000 in
theorem crashed_any {B : Int} {a0 a1 : Addr} (i p : Nat) (n : Int) (w : World) (T : Nat → Tag) (hi : i < HI) (hp : PairA B w T i p) (hLd : Laid w T a0 a1) (hlm : B ≤ 100000000000) (hn : i64 n) :
    Calls Tryz.prog 43 #[.pointer (some ⟨p, 0, none⟩), .int .i64 n] w fun e w' => e = .returned (.bool true) ∧ ∃ T' j, Fresh j w T ∧ Step (OneS i j) w T w' T' ∧ PairA B w' T' i p := by
  obtain ⟨vs, m, gh, st, ⟨bx, yb, mx, hB, ⟨hm, hx⟩, hy, hf⟩, hst, hcnt⟩ := hp
  subst hm
  have hpos : 0 < st.length := by
    obtain ⟨l, s, e, _⟩ := hst.last
    rw [e]
    simp
  obtain ⟨g, cap, rfl⟩ := row_some hst.row hpos
  obtain ⟨s0, hs0⟩ : ∃ s, st[0]? = some s := ⟨_, List.getElem?_eq_getElem hpos⟩
  have hLl := hx.log.len
  have hF : s0.gh.2.length ≤ gh.2.length := by
    obtain ⟨l, s, e, hs⟩ := hst.last
    obtain ⟨r, hr⟩ := chain_front hst.link l.length 0 s0 s hs0 (by rw [e]; simp)
    rw [← hs, hr, List.length_append]
    omega
  have hpk := pickQ_range n ((gh.2.length : Int) - (s0.gh.2.length : Int) + 1) (by omega)
  obtain ⟨N, hN⟩ : ∃ N : Nat, (gh.2.length : Int) - pickQ n ((gh.2.length : Int) - (s0.gh.2.length : Int) + 1) = N := ⟨_, (Int.toNat_of_nonneg (by omega)).symm⟩
  have hN1 : s0.gh.2.length ≤ N := by omega
  have hN2 : N ≤ gh.2.length := by omega
  have l0 := hB.lt
  have lg := hst.row.lt
  have c6 := hB.cell (j := 6) rfl
  have c7 := hB.cell (j := 7) rfl
  simp only [List.getElem_toArray, List.getElem_cons_succ, List.getElem_cons_zero] at c6 c7
  have k0 := hst.row.cell (standCells_at st 0 s0 hs0).1
  rw [Nat.zero_mul] at k0
  have hsz := mkB_size gh.2
  go_enter Tryz.func43, Tryz.ntmps43
  go_wp2_with fail
  have hpick : ∀ w1 : World, Calls Tryz.prog 38 #[.int .i64 n, .int .i64 ((gh.2.length : Int) - (s0.gh.2.length : Int) + 1)] w1 fun e w' => e = .returned (.int .i64 (pickQ n ((gh.2.length : Int) - (s0.gh.2.length : Int) + 1))) ∧ Below w1.heap.size w1 w' := fun w1 => pickq_any n _ w1 hn.1 hn.2 (by omega) (by omega)
  generalize pickQ n ((gh.2.length : Int) - (s0.gh.2.length : Int) + 1) = P at *
  refine wp_region_over (by kernel_rfl) (by kernel_rfl) ?_
  repeat (go_big_quiet_step ((go_at_call 38; exact quiet_over hpick)))
  refine wpQuiet_nil ?_
  rintro _ ⟨x2, rfl⟩
  have f2 := step_below (fun _ => False) T (over_below w x2)
  generalize over w x2 = w2 at *
  have hB2 := hB.step f2 (fun h => h)
  have hx2 := (xl 0 (by decide)).step hx f2 (fun _ _ h => h)
  have hst2 := hst.step f2 (fun h => h) (fun _ _ _ _ _ h => h)
  have hLd2 := hLd.step f2 (fun h => h)
  have l2 := hB2.lt
  have lg2 := hst2.row.lt
  have d6 := hB2.cell (j := 6) rfl
  simp only [List.getElem_toArray, List.getElem_cons_succ, List.getElem_cons_zero] at d6
  clear hpick c6 c7 k0 l0 lg hn
  go_wp2_with fail
  go_loopw [7, 8] (fun u v wr => ∃ (at_ k : Nat), k ≤ st.length ∧ u = .int .i64 at_ ∧ v = .int .i64 k ∧ AtOk st N at_ k ∧ Below w2.heap.size w2 wr) (fun _ v _ => st.length - (intOf v).toNat)
  case atStart => exact ⟨0, 0, Nat.zero_le _, rfl, rfl, ⟨⟨s0, hs0, hN1⟩, fun k b h1 h2 => by omega⟩, Below.refl _ _⟩
  case round =>
    obtain ⟨at_, k, hk, rfl, rfl, hat, hb⟩ := hrel
    have e6 := (hb.cell (p := ⟨p, 6, none⟩) l2).trans d6
    by_cases hlt : k < st.length
    · obtain ⟨a, ha⟩ : ∃ a, st[k]? = some a := ⟨_, List.getElem?_eq_getElem hlt⟩
      have ek := (hb.cell (p := ⟨g, k * 2, none⟩) lg2).trans (hst2.row.cell (standCells_at st k a ha).1)
      have lp := Nat.lt_of_lt_of_le l2 hb.size
      have lgr := Nat.lt_of_lt_of_le lg2 hb.size
      by_cases hle : a.gh.2.length ≤ N
      · go_wp2
        exact ⟨⟨k, k + 1, by omega, rfl, by simp, AtOk.here ha hle, hb⟩, by simp [intOf]; omega⟩
      · go_wp2
        exact ⟨⟨at_, k + 1, by omega, rfl, by simp, hat.pass ha (by omega), hb⟩, by simp [intOf]; omega⟩
    · have hkl : k = st.length := by omega
      subst hkl
      obtain ⟨⟨a, ha, hal⟩, hat2⟩ := hat
      have hatl := (List.getElem?_eq_some_iff.1 ha).1
      have f3 := step_below (fun _ => False) T hb
      have hB3 := hB2.step f3 (fun h => h)
      have hst3 := hst2.step f3 (fun h => h) (fun _ _ _ _ _ h => h)
      have hLd3 := hLd2.step f3 (fun h => h)
      have l3 := hB3.lt
      have e2 := hB3.cell (j := 2) rfl
      have e3 := hB3.cell (j := 3) rfl
      have e4 := hB3.cell (j := 4) rfl
      have e5 := hB3.cell (j := 5) rfl
      have e7 := hB3.cell (j := 7) rfl
      simp only [List.getElem_toArray, List.getElem_cons_succ, List.getElem_cons_zero] at e2 e3 e4 e5 e7
      have hex : (mkB gh.2).extract 0 N = mkB (gh.2.take N) := mkB_take _ _ hN2
      have hopen := xopenA_cut a0 a1 B mx.c st gh hst3.link hst3.last at_ N a ha (hst3.cps a (List.mem_of_getElem? ha)).2.2 hal hN2 (fun b hb => hat2 (at_ + 1) b (by omega) (List.getElem?_eq_some_iff.1 hb).1 hb) i wr.drew T (hLd3.step (step_below (fun _ => False) T (Below.refl _ _).drew) (fun h => h))
      unfold Conf.cells at hopen
      go_wp2_with fail
      have f23 := f2.trans f3
      clear hB hB2 hx hst hst2 hLd hLd2 hx2 d6 e6 l2 lg2 hb f2 f3
      go_cut [9, 10] from 55 to 68 (fun v u w' => ∃ b4 T4, v = .pointer (some ⟨b4, 0, none⟩) ∧ u = .int .i64 0 ∧ Step (fun _ => False) wr T w' T4 ∧ XG w' T4 i b4 (wakeM a.m 0) a.gh)
      case first =>
        go_region_law (go_simp; go_at_call 25; refine hopen.mono ?_; rintro e w4 ⟨b4, rfl, T4, hs4, hx4⟩)
        all_goals
          go_wp2_with fail
          go_meet
          exact ⟨b4, T4, rfl, rfl, (step_below (fun _ => False) T (Below.refl _ _).drew).trans hs4, hx4⟩
      case rest =>
        obtain ⟨b4, T4, rfl, rfl, hs4, hx4⟩ := hcut
        generalize wc = w4 at *
        have hB4 := hB3.step hs4 (fun h => h)
        have hst4 := hst3.step hs4 (fun h => h) (fun _ _ _ _ _ h => h)
        clear hB3 hst3 hLd3 e2 e3 e4 e5 e7 hopen l3
        have l4 := hB4.lt
        have e0 := hB4.cell (j := 0) rfl
        have z0 := hB4.frozen 0
        simp only [List.getElem_toArray, List.getElem_cons_zero] at e0
        have hs5 : Step (fun t => t = .pair i) w4 T4 (w4.setCell ⟨p, 0, none⟩ (.pointer (some ⟨b4, 0, none⟩))) T4 := step_setCell _ _ _ _ _ hB4.1
        have hB5 : Blk (w4.setCell ⟨p, 0, none⟩ (.pointer (some ⟨b4, 0, none⟩))) T4 (.pair i) p (pairCells b4 yb mx.c (.slice (some ⟨g, 0, none⟩) st.length cap) (mkB gh.2)) 41 := hB4.set 0 _
        have hx5 := (xl 0 (by decide)).step hx4 hs5 (by rintro t h1 rfl; exact absurd h1.1 (by simp))
        have hst5 := hst4.step hs5 (by simp) (by rintro k _ _ r q h; cases h)
        have l5 := hB5.lt
        have lg5 := hst5.row.lt
        have d6 := hB5.cell (j := 6) rfl
        have d1 := hB5.cell (j := 1) rfl
        have z1 := hB5.frozen 1
        simp only [List.getElem_toArray, List.getElem_cons_succ, List.getElem_cons_zero] at d6 d1
        have da := hst5.row.cell (standCells_at st at_ a ha).2
        have hca := hst5.cps a (List.mem_of_getElem? ha)
        have hai : a.j ≠ i := by have := hca.1; omega
        have hsa : a.m.bodies.length ≤ 400 := by have := hca.2.1.small; simpa [MQ.rq] using this
        have hfa := hca.2.2.fit
        have hcf : a.m.c = mx.c := hca.2.2.conf
        have hfront : ∃ r, gh.2 = a.gh.2 ++ r := by
          obtain ⟨l, s, e, hs⟩ := hst5.last
          obtain ⟨r, hr⟩ := chain_front hst5.link (l.length - at_) at_ a s ha (by
            have hl : st.length = l.length + 1 := by rw [e]; simp
            rw [show at_ + (l.length - at_) = l.length by omega, e]
            simp)
          exact ⟨r, by rw [← hs]; exact hr⟩
        have hexa : (mkB gh.2).extract 0 a.gh.2.length = mkB a.gh.2 := by
          obtain ⟨r, hr⟩ := hfront
          rw [mkB_take _ _ (by rw [hr, List.length_append]; omega), hr, List.take_left']
          rfl
        have heqa := str_eq a.gh.2
        have hall : a.gh.2.length ≤ gh.2.length := by
          obtain ⟨r, hr⟩ := hfront
          rw [hr, List.length_append]
          omega
        clear hfront
        go_wp2_with fail
        refine (ycopy_any a.j a.b i hai a.m _ T4 hca.2.1 hfa.ok (hfa.dead hsa)).mono ?_
        rintro e w6 ⟨y6, rfl, T6, hs6, hy6, _⟩
        have hB6 := hB5.step hs6 (by simp [CpS])
        have hx6 := (xl 0 (by decide)).step hx5 hs6 (by rintro t h1 (⟨r, k, h⟩ | h) <;> (rw [h] at h1; exact absurd h1.1 (by simp)))
        have hst6 := hst5.step hs6 (by simp [CpS]) ((far_i hi).sub cp_i)
        have f6 := (hs4.mono (fun _ h => h.elim)).trans ((hs5.mono (fun _ h => (.inr (.inl h) : ST i _ ∨ _ = Tag.pair i ∨ _ = Tag.free))).trans (hs6.mono cp_i))
        clear hB4 hst4 hB5 hx4 hx5 hst5 l4 e0 z0 l5 lg5 d6 d1 z1 da hca hs5 hs6 hs4
        have l6 := hB6.lt
        have d1 := hB6.cell (j := 1) rfl
        have z1 := hB6.frozen 1
        simp only [List.getElem_toArray, List.getElem_cons_succ, List.getElem_cons_zero] at d1
        have hs7 : Step (fun t => t = .pair i) w6 T6 (w6.setCell ⟨p, 1, none⟩ (.pointer (some ⟨y6, 0, none⟩))) T6 := step_setCell _ _ _ _ _ hB6.1
        have hB7 : Blk (w6.setCell ⟨p, 1, none⟩ (.pointer (some ⟨y6, 0, none⟩))) T6 (.pair i) p (pairCells b4 y6 mx.c (.slice (some ⟨g, 0, none⟩) st.length cap) (mkB gh.2)) 41 := hB6.set 1 _
        have hx7 := (xl 0 (by decide)).step hx6 hs7 (by rintro t h1 rfl; exact absurd h1.1 (by simp))
        have hst7 := hst6.step hs7 (by simp) (by rintro k _ _ r q h; cases h)
        have hy7 := hy6.step hs7 (by simp)
        have e1 := hB7.cell (j := 1) rfl
        simp only [List.getElem_toArray, List.getElem_cons_succ, List.getElem_cons_zero] at e1
        have l7 := hB7.lt
        go_wp2_with fail
        refine (ywake_any i y6 a.m _ T6 hy7 hfa.ok).mono ?_
        rintro e w8 ⟨rfl, T8, hs8, hy8⟩
        have hB8 := hB7.step hs8 (by rintro ⟨r, k, h⟩; cases h)
        have hx8 := (xl 0 (by decide)).step hx7 hs8 (by rintro t h1 ⟨r, k, h⟩; rw [h] at h1; exact absurd h1.1 (by simp))
        have hst8 := hst7.step hs8 (by rintro ⟨r, k, h⟩; cases h) ((far_i hi).sub (fun t ht => .inl (.inr ht)))
        have f8 := f6.trans ((hs7.mono (fun _ h => (.inr (.inl h) : ST i _ ∨ _ = Tag.pair i ∨ _ = Tag.free))).trans (hs8.mono (fun t ht => .inl (.inr ht))))
        clear hB6 hx6 hst6 l6 d1 z1 hs7 hB7 hx7 hst7 hy7 e1 l7 hs8 f6 hy6
        have l8 := hB8.lt
        have lg8 := hst8.row.lt
        have d6 := hB8.cell (j := 6) rfl
        have d7 := hB8.cell (j := 7) rfl
        simp only [List.getElem_toArray, List.getElem_cons_succ, List.getElem_cons_zero] at d6 d7
        have da := hst8.row.cell (standCells_at st at_ a ha).1
        go_wp2_with fail
        refine (xlogG_any i b4 (wakeM a.m 0) a.gh _ T8 hx8).mono ?_
        rintro e w9 ⟨rfl, rfl⟩
        go_wp2_with fail
        refine wp_region_over (by kernel_rfl) (by kernel_rfl) ?_
        repeat (go_big_quiet_step (fail))
        refine wpQuiet_nil ?_
        rintro _ ⟨x9, rfl⟩
        have hb9 := step_below (fun _ => False) T8 (over_below w9 x9)
        generalize over w9 x9 = wA at *
        have hBA := hB8.step hb9 (fun h => h)
        have hxA := (xl 0 (by decide)).step hx8 hb9 (fun _ _ h => h)
        have hyA := hy8.step hb9 (fun _ _ h => h)
        have hstA := hst8.step hb9 (fun h => h) (fun _ _ _ _ _ h => h)
        have fA := f8.trans (hb9.mono (fun _ h => h.elim))
        clear hB8 hx8 hy8 hst8 hb9 f8 l8 lg8 d6 d7 da hexa heqa hex
        have hsB : Step (fun t => t = .pair i) wA T8 ((wA.setCell ⟨p, 7, none⟩ (.string (mkB a.gh.2))).setCell ⟨p, 6, none⟩ (.slice (some ⟨g, 0, none⟩) (at_ + 1) cap)) T8 := (step_setCell wA T8 p 7 _ (S := fun t => t = .pair i) hBA.1).trans (step_setCell _ T8 p 6 _ (S := fun t => t = .pair i) hBA.1)
        have hBB : Blk (wA.setCell ⟨p, 7, none⟩ (.string (mkB a.gh.2))) T8 (.pair i) p (pairCells b4 y6 mx.c (.slice (some ⟨g, 0, none⟩) st.length cap) (mkB a.gh.2)) 41 := hBA.set 7 _
        have hBC : Blk ((wA.setCell ⟨p, 7, none⟩ (.string (mkB a.gh.2))).setCell ⟨p, 6, none⟩ (.slice (some ⟨g, 0, none⟩) (at_ + 1) cap)) T8 (.pair i) p (pairCells b4 y6 mx.c (.slice (some ⟨g, 0, none⟩) (at_ + 1) cap) (mkB a.gh.2)) 41 := hBB.set 6 _
        have lA := hBA.lt
        have d7 := hBA.cell (j := 7) rfl
        have z7 := hBA.frozen 7
        have lB := hBB.lt
        have d6 := hBB.cell (j := 6) rfl
        have z6 := hBB.frozen 6
        simp only [List.getElem_toArray, List.getElem_cons_succ, List.getElem_cons_zero] at d6 d7
        have hcap : st.length ≤ cap := by
          rcases hstA.row.1.2 with ⟨e, _⟩ | ⟨_, _, _, e, _, _, h, _⟩
          · cases e
          · cases e
            exact h
        have n1 : at_ + 1 ≤ cap := by omega
        go_wp2
        go_ret
        obtain ⟨j, hj⟩ := fresh_hi w T
        have hxC := ((xl 0 (by decide)).step hxA hsB (by rintro t h1 rfl; exact absurd h1.1 (by simp))).count a.m.changes
        have hyC := hyA.step hsB (by simp)
        have hstC := (hstA.cut ha).step hsB (by simp) (by rintro k _ _ r q h; cases h)
        have hw' : ∀ t, (ST i t ∨ t = .pair i ∨ t = .free) → OneS i j t := by
          rintro t (h | h | h)
          · exact .inl h
          · exact .inr (.inl h)
          · exact .inr (.inr (.inr (.inr h)))
        refine ⟨by first | rfl | simp, T8, j, hj, ((f23.mono (fun _ h => h.elim)).trans (fA.mono hw')).trans (hsB.mono (fun _ h => .inr (.inl h))), .slice (some ⟨g, 0, none⟩) (at_ + 1) cap, wakeM a.m a.m.changes, a.gh, st.take (at_ + 1), ⟨b4, y6, wakeM a.m a.m.changes, ?_, ⟨rfl, hxC⟩, hyC, fit_wake hfa⟩, ?_, ?_⟩
        · rw [show (wakeM a.m a.m.changes).c = mx.c from hcf]
          exact hBC
        · rw [show (wakeM a.m a.m.changes).c = mx.c from hcf]
          exact hstC
        · rw [List.length_take]
          omega

end Go.Proofs.YtockkceclkcgbaaGreatDoor

/- The contract of step at a crash. -/
namespace Go.Proofs.YtockkceclkcgbaaGreatDoor
open Go.RowKit

attribute [local go_sem] over_cell

set_option maxRecDepth 100000 in
set_option maxHeartbeats 4000000 in
theorem stepA_crash {B : Int} {a0 a1 : Addr} (hlm : B ≤ 100000000000) (wb : Nat) (c d : Conf) (ps : List Nat) (q q' : Nat) (qu : Int) (nm bd : ByteArray) (n tr ms : Int) (yes : Bool) (w : World) (T : Nat → Tag) (hw : WA B a0 a1 w T wb c d 14 ps q q') (hn : i64 n) (hqu : i64 qu) (hpos : 0 < ps.length) :
    Calls Tryz.prog 16 #[.pointer (some ⟨wb, 0, none⟩), .agg (opCells 13 qu nm bd n tr ms yes)] w (StepA B a0 a1 w T wb c d ps q q') := by
  have hlen := hw.few
  have hw0 := hw
  obtain ⟨vP, vr, vd, hB, hR, _, _⟩ := hw.blk
  obtain ⟨gb, gc, rfl⟩ := row_some hR hpos
  obtain ⟨k, hk⟩ : ∃ k : Nat, pickQ qu ps.length = k := ⟨(pickQ qu ps.length).toNat, by have := pickQ_range qu ps.length (by omega); omega⟩
  have hkl : k < ps.length := by have := pickQ_range qu ps.length (by omega); omega
  obtain ⟨p, hp⟩ : ∃ p, ps[k]? = some p := ⟨_, List.getElem?_eq_getElem hkl⟩
  have hpick : ∀ w1 : World, Calls Tryz.prog 38 #[.int .i64 qu, .int .i64 (ps.length : Int)] w1 fun e w' => e = .returned (.int .i64 (k : Int)) ∧ Below w1.heap.size w1 w' := fun w1 => by
    rw [← hk]; exact pickq_any qu ps.length w1 hqu.1 hqu.2 (by omega) (by omega)
  have l0 := hB.lt
  have lr := hR.lt
  have k8 := hB.cell (j := 8) rfl
  have k11 := hB.cell (j := 11) rfl
  simp only [List.getElem_toArray, List.getElem_cons_succ, List.getElem_cons_zero] at k8 k11
  have kp : w.cell? ⟨gb, k, none⟩ = some (.pointer (some ⟨p, 0, none⟩)) := hR.cell (by simp [hp, ptrV])
  clear hB hR hk hw
  -- the step's own block
  have a1 : Step (fun _ => False) w T (w.alloc (.cells (opCells 13 qu nm bd n tr ms yes) 46)) (retag T w.heap.size .free) := step_new w T _ .free _
  have hO : Blk (w.alloc (.cells (opCells 13 qu nm bd n tr ms yes) 46)) (retag T w.heap.size .free) .free w.heap.size (opCells 13 qu nm bd n tr ms yes) 46 := (blk_new w T _ 46 .free)
  have l1 : wb < (w.alloc (.cells (opCells 13 qu nm bd n tr ms yes) 46)).heap.size := by simp; omega
  have l2 : w.heap.size < (w.alloc (.cells (opCells 13 qu nm bd n tr ms yes) 46)).heap.size := by simp
  go_enter Tryz.func16, Tryz.ntmps16
  go_wp2_with fail
  refine wp_region_over (by kernel_rfl) (by kernel_rfl) ?_
  repeat (go_big_quiet_step (fail))
  refine wpQuiet_nil ?_
  rintro _ ⟨x, rfl⟩
  have hb := over_below (w.alloc (.cells (opCells 13 qu nm bd n tr ms yes) 46)) x
  generalize over (w.alloc (.cells (opCells 13 qu nm bd n tr ms yes) 46)) x = w2 at *
  have f2 : Step (fun _ => False) w T w2 (retag T w.heap.size .free) := a1.trans (step_below _ _ hb)
  have hO2 := hO.step (step_below (fun _ => False) _ hb) (fun h => h)
  have b2 : Below w.heap.size w w2 := ((Below.refl _ _).alloc (Nat.le_refl _) _).trans (hb.mono (by simp))
  have j8 := (b2.cell (p := ⟨wb, 8, none⟩) l0).trans k8
  have j11 := (b2.cell (p := ⟨wb, 11, none⟩) l0).trans k11
  have jp := (b2.cell (p := ⟨gb, k, none⟩) lr).trans kp
  have ml0 := Nat.lt_of_lt_of_le l0 b2.size
  have mlr := Nat.lt_of_lt_of_le lr b2.size
  have mlo := hO2.lt
  have o0 := hO2.cell (j := 0) rfl
  have o1 := hO2.cell (j := 1) rfl
  simp only [List.getElem_toArray, List.getElem_cons_succ, List.getElem_cons_zero] at o0 o1
  clear k8 k11 kp l0 lr l1 l2 hb a1 hO
  go_wp2_with fail
  refine wp_region_over (by kernel_rfl) (by kernel_rfl) ?_
  repeat (go_big_quiet_step ((go_at_call 38; exact quiet_over hpick)))
  refine wpQuiet_nil ?_
  rintro _ ⟨x3, rfl⟩
  have hb3 := over_below w2 x3
  generalize over w2 x3 = w3 at *
  have hO3 := hO2.step (step_below (fun _ => False) _ hb3) (fun h => h)
  have f3 : Step (fun _ => False) w T w3 (retag T w.heap.size .free) := f2.trans (step_below _ _ hb3)
  have r0 := hO3.cell (j := 0) rfl
  have r4 := hO3.cell (j := 4) rfl
  simp only [List.getElem_toArray, List.getElem_cons_succ, List.getElem_cons_zero] at r0 r4
  have hw3 := hw0.step f3 (fun _ h => h)
  have hkH : k < HI := by unfold HI; omega
  have hcall := crashed_any (B := B) (a0 := a0) (a1 := a1) k p n w3 _ hkH (hw3.prs k p hp) hw3.laid (by omega) hn
  clear j8 j11 jp ml0 mlr mlo o0 o1 hb3 hO2 hO3 f2 b2 hpick
  go_wp2_with fail
  refine hcall.mono ?_
  clear hcall
  rintro e w5 ⟨rfl, T5, j, hj, hs5, hp5⟩
  go_wp2
  go_ret
  refine ⟨rfl, T5, ps, q, q', (f3.mono (fun _ h => h.elim)).trans (hs5.mono (fun t ht => one_old ht)), ?_, Nat.le_refl _, Nat.le_succ _, by omega, by omega⟩
  exact WA.one (show B ≤ B + 60000 by omega) hw3.blk hw3.laid hlen (fun i x _ hi => hw3.prs i x hi) hj hs5 hp (hp5.mono (by omega))

end Go.Proofs.YtockkceclkcgbaaGreatDoor

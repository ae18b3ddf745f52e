/- The contract of a run's look: what all groups are done with is seen. -/
import Derived.Test.YtockkceclkcgbaaGreatDoorB14
import Derived.Test.YtockkceclkcgbaaGreatDoorB15
import Derived.Deep.RegionHeld3
namespace Go.Proofs.YtockkceclkcgbaaGreatDoor
open Go.RowKit

abbrev Tag.rdone : Tag := ⟨25, 0, 0, 0⟩
abbrev Tag.rdead : Tag := ⟨26, 0, 0, 0⟩

attribute [local go_sem] over_cell

set_option maxRecDepth 100000 in
set_option maxHeartbeats 20000000 in
theorem look_any {X : World → (Nat → Tag) → Nat → Nat → MQ → Prop} {B Bm : Int} (hX : XC X Bm) (hle : B ≤ Bm) (i b bx gb gc : Nat) (m : MQ) (U : Nat → List It) (L : Nat → List Nat) (w : World) (T : Nat → Tag) (hx : X w T i bx m) (hf : m.Fit B) (hr : RunG w T i b bx gb gc m U L) (hN : Named m)
    (hn : ∀ k g, m.groups[k]? = some g → NiceI m g.start g.items ∧ SimI m g.start g.dead (U k) g.items) :
    Calls Tryz.prog 57 #[.pointer (some ⟨b, 0, none⟩)] w fun e w' => e = .returned (.tuple #[]) ∧ ∃ T', Step (UT i) w T w' T' ∧ X w' T' i bx m ∧ RunG w' T' i b bx gb gc m (itemsOf m) L := by
  have hsm := hr.small
  have hfew := hr.few
  have hgood := good_all hf.ok.good
  go_enter Tryz.func57, Tryz.ntmps57
  go_wp2
  go_loopw [2] (fun v wr => ∃ (k : Nat) (T' : Nat → Tag), k ≤ m.groups.length ∧ v = .int .i64 k ∧ Step (UT i) w T wr T' ∧ X wr T' i bx m ∧ RunG wr T' i b bx gb gc m (mixU m U k) L) (fun v _ => m.groups.length - (intOf v).toNat)
  case atStart => exact ⟨0, T, Nat.zero_le _, rfl, Step.refl _ _ _, hx, hr.congr rfl rfl rfl rfl rfl (fun _ _ => by simp [mixU]) (fun _ _ => rfl)⟩
  case round =>
    obtain ⟨k, T1, hk, rfl, s1, hx1, hr1⟩ := hrel
    clear hx hr
    by_cases hlt : k < m.groups.length
    · obtain ⟨g, hg⟩ : ∃ g, m.groups[k]? = some g := ⟨_, List.getElem?_eq_getElem hlt⟩
      obtain ⟨hni, hsim⟩ := hn k g hg
      have hlen : g.items.length = m.bodies.length := hf.ok.len g (List.mem_of_getElem? hg)
      have hnm := hN k g hg
      have hat := at_name hN hfew hg
      have hDE : doneE m (nameB k) = 0 := by simp [doneE, hat]
      obtain ⟨DL, hDL⟩ : ∃ D, Hid (doneL m (nameB k) = D ∧ D = doneTo g.items g.items.length) := ⟨_, hide ⟨rfl, by simp [doneL, hat, hg]⟩⟩
      obtain ⟨DD, hDD⟩ : ∃ D, Hid (deadL m (nameB k) = D ∧ D = g.dead.map (deadOf m g)) := ⟨_, hide ⟨rfl, by simp [deadL, hat, hg]⟩⟩
      have lDL : DL.length ≤ 400 := by rw [hDL.out.2]; exact Nat.le_trans (doneTo_len _ _) (by omega)
      have lDD : DD.length ≤ 4000 := by rw [hDD.out.2]; simpa using hf.dead hsm g (List.mem_of_getElem? hg)
      obtain ⟨bo, bc, so, sc, lo, lc, A⟩ := hr1.at hg
      have c0 := A.c0
      have c7 := A.c7
      have d0 := A.d0
      have lb := A.lb
      have lg := A.lg
      rw [hnm] at d0
      have gd1 := step_below (fun _ => False) T1 (Below.refl wr.heap.size wr).drew
      have hxd := hX.step hx1 gd1 (fun _ _ h => h)
      have hrd := hr1.step gd1 (fun _ _ h => h)
      have Ad := A.step gd1 (fun _ _ h => h)
      clear A
      have hcall := hX.done i bx m (nameB k) .rdone _ _ hxd (hf.mono hle)
      rw [hDE, hDL.out.1] at hcall
      go_wp2_with fail
      go_region_held3 (fun w' => w'.cell? ⟨b, 0, none⟩ = some (.pointer (some ⟨bx, 0, none⟩)) ∧ w'.cell? ⟨gb, k * 4, none⟩ = some (.string (nameB k))) (go_keep) (first | (go_at_call 28; refine hcall.mono ?_; clear hcall; rintro e w2 ⟨ao, cap, rfl, T2, hs2, hx2, hA2⟩; have k0 := (Ad.step hs2 (fun _ a c => xt_rt a c)).c0; have j0 := (Ad.step hs2 (fun _ a c => xt_rt a c)).d0; rw [hnm] at j0))
      have hr2 := hrd.step hs2 (fun _ a c => xt_rt a c)
      have A2 := Ad.step hs2 (fun _ a c => xt_rt a c)
      have s2 : Step (UT i) w T w2 T2 := s1.trans ((gd1.mono (fun _ h => h.elim)).trans (hs2.mono (fun _ h => .inl h)))
      clear k0 j0 Ad hrd hxd gd1 hr1 hx1 s1 hs2 c0 c7 d0 lb lg
      have c0 := A2.c0
      have d0 := A2.d0
      have lb := A2.lb
      have lg := A2.lg
      rw [hnm] at d0
      have gd2 := step_below (fun _ => False) T2 (Below.refl w2.heap.size w2).drew
      have hxd := hX.step hx2 gd2 (fun _ _ h => h)
      have hrd := hr2.step gd2 (fun _ _ h => h)
      have Ad := A2.step gd2 (fun _ _ h => h)
      have hcall := hX.dead i bx m (nameB k) .rdead _ _ hxd (hf.mono hle)
      rw [hDE, hDD.out.1] at hcall
      clear A2
      go_wp2_with fail
      go_region_held3 (fun w' => w'.cell? ⟨b, 0, none⟩ = some (.pointer (some ⟨bx, 0, none⟩)) ∧ w'.cell? ⟨gb, k * 4, none⟩ = some (.string (nameB k))) (go_keep) (first | (go_at_call 29; refine hcall.mono ?_; clear hcall; rintro e w3 ⟨ao3, cap3, rfl, T3, hs3, hx3, hA3⟩; have k0 := (Ad.step hs3 (fun _ a c => xt_rt a c)).c0; have j0 := (Ad.step hs3 (fun _ a c => xt_rt a c)).d0; rw [hnm] at j0))
      have hr3 := hrd.step hs3 (fun _ a c => xt_rt a c)
      have A3 := Ad.step hs3 (fun _ a c => xt_rt a c)
      have hD3 := (hA2.step gd2 (fun h => h)).step hs3 (by simp [XT])
      have s3 : Step (UT i) w T w3 T3 := s2.trans ((gd2.mono (fun _ h => h.elim)).trans (hs3.mono (fun _ h => .inl h)))
      clear k0 j0 Ad hrd hxd gd2 hr2 hx2 s2 hs3 c0 d0 lb lg hA2
      have c9 := A3.c9
      have z9 := A3.fb 9
      have lb := A3.lb
      obtain ⟨hr4, s4⟩ := hr3.flag 9 (by simp)
      have hx4 := hX.step hx3 s4 xt_run
      have hD4 := hD3.step s4 (by simp)
      have hE4 := hA3.step s4 (by simp)
      have s04 := s3.trans (s4.mono (fun _ h => rt_run i h))
      clear hr3 hx3 hD3 hA3 s3 s4 A3
      go_wp2_with fail
      clear c9 z9 lb
      generalize w3.setCell ⟨b, 9, none⟩ (.bool true) = w4 at *
      have hhas : ∀ (n : Nat) x, g.items[n]? = some x → Hid (hasFrom DL n 0 = decide (0 < x.done)) := fun n x hx => hide (by rw [hDL.out.2]; exact done_has hni.done (by omega) hx)
      go_loopw [8] (fun v wr => ∃ (n : Nat) (T' : Nat → Tag), n ≤ m.bodies.length ∧ v = .int .i64 n ∧ Step (UT i) w T wr T' ∧ X wr T' i bx m ∧ RunG wr T' i b bx gb gc m (updF (mixU m U k) k (mixI g.items (U k) n)) L ∧ Row wr T' .rdone 69 2 (.slice ao DL.length cap) DL.length (pairVals DL) ∧ Row wr T' .rdead 82 3 (.slice ao3 DD.length cap3) DD.length (dlVals DD)) (fun v _ => m.bodies.length - (intOf v).toNat)
      case atStart => exact ⟨0, T3, Nat.zero_le _, rfl, s04, hx4, by rw [mixI_zero, ← mixU_self m U k, updF_self]; exact hr4, hD4, hE4⟩
      case round =>
        obtain ⟨n, T5, hnl, rfl, s5, hx5, hr5, hD5, hE5⟩ := hrel
        clear hr4 hx4 hD4 hE4 s04
        obtain ⟨bo, bc, so, sc, lo, lc, A⟩ := hr5.at hg
        rw [updF_same] at A
        by_cases hnn : n < m.bodies.length
        · obtain ⟨x, hxn⟩ : ∃ x, g.items[n]? = some x := ⟨_, List.getElem?_eq_getElem (by omega)⟩
          obtain ⟨y, hyn, hyx⟩ := hsim.2 n x hxn
          have hul := hsim.1
          have hmix : (mixI g.items (U k) n)[n]? = some y := by rw [mixI_at _ _ _ (by omega) hsim.1]; simp [hyn]
          have hsee := A.see
          obtain ⟨gi, _, e⟩ := row_some hsee (by omega)
          cases e
          have t1 := hsee.cell (seenVals_at _ n y hmix).2.1
          have d2 := A.d2
          have lg := A.lg
          have li := hsee.lt
          have hc := khas_any DL n ao cap .rdone _ T5 hD5 lDL
          rw [(hhas n x hxn).out] at hc
          rcases hyx with rfl | ⟨e1, e2, e3, e4, e5, e6⟩
          · have hr6 : RunG wr T5 i b bx gb gc m (updF (mixU m U k) k (mixI g.items (U k) (n + 1))) L := by rw [mixI_same _ _ n y hsim.1 hxn hyn]; exact hr5
            generalize decide (0 < y.done) = bb at *
            clear A hsee hr5 hsim hni
            go_wp2_with fail
            refine hc.mono ?_
            clear hc
            rintro e w6 ⟨rfl, rfl⟩
            go_wp2
            exact ⟨⟨n + 1, T5, by omega, by simp, s5, hx5, hr6, hD5, hE5⟩, by simp [intOf]; omega⟩
          · have f1 : decide (0 < x.done) = true := by simpa using e3
            have f2 : decide (0 < y.done) = false := by simpa using e2
            rw [f1] at hc
            rw [f2] at t1
            obtain ⟨bd, hbd⟩ : ∃ bd, m.bodies[n]? = some bd := ⟨_, List.getElem?_eq_getElem hnn⟩
            have hin : Hid (diedTo DD ⟨n, m.c.d, bd⟩ DD.length = true) := hide (diedTo_all (by
              rw [hDD.out.2, List.mem_map]
              refine ⟨n, e4, ?_⟩
              unfold deadOf
              simp [List.getD, hxn, hbd, e5]))
            clear hsim hni hhas hDL hDD
            go_wp2_with fail
            refine hc.mono ?_
            clear hc
            rintro e w6 ⟨rfl, rfl⟩
            go_wp2
            go_loopw [10, 11] (fun v10 v11 wx => ∃ (q : Nat), q ≤ DD.length ∧ v10 = .bool (diedTo DD ⟨n, m.c.d, bd⟩ q) ∧ v11 = .int .i64 q ∧ Below w6.heap.size w6 wx) (fun _ v11 _ => DD.length - (intOf v11).toNat)
            case atStart => exact ⟨0, Nat.zero_le _, rfl, rfl, Below.refl _ _⟩
            case round =>
              obtain ⟨q, hq, rfl, rfl, hb⟩ := hrel
              have gb7 := step_below (fun _ => False) T5 hb
              by_cases hql : q < DD.length
              · obtain ⟨dq, hdq⟩ : ∃ d, DD[q]? = some d := ⟨_, List.getElem?_eq_getElem hql⟩
                obtain ⟨a3, _, e⟩ := row_some hE5 (by omega)
                cases e
                have A7 := A.step gb7 (fun _ _ h => h)
                have hE7 := hE5.step gb7 (fun h => h)
                have hbod := A7.bod
                obtain ⟨gz, _, e⟩ := row_some hbod (by omega)
                cases e
                obtain ⟨d0, d1, d2'⟩ := dlVals_at DD q dq hdq
                replace d0 := hE7.cell d0
                replace d1 := hE7.cell d1
                replace d2' := hE7.cell d2'
                have l3 := hE7.lt
                have lz := hbod.lt
                have lb7 := A7.lb
                have c2 := A7.c2
                have c5 := A7.c5
                have tz : wr.cell? ⟨gz, n, none⟩ = some (.string bd) := hbod.cell (by simp [hbd])
                have hsucc := hide (diedTo_succ (x := ⟨n, m.c.d, bd⟩) hdq)
                clear A A7 hE7 hbod hr5 hsee hx5 s5 hD5 hE5 gb7 t1 d2 lg li hin
                cases hdb : diedTo DD ⟨n, m.c.d, bd⟩ q with
                | true =>
                  rw [hdb] at hsucc
                  go_wp2_with fail
                  refine wp_region_over (by kernel_rfl) (by kernel_rfl) ?_
                  repeat (go_big_quiet_step (fail))
                  refine wpQuiet_nil ?_
                  rintro _ ⟨x8, rfl⟩
                  have hov := hb.trans ((over_below wr x8).mono hb.size)
                  generalize over wr x8 = w8 at *
                  go_wp2
                  exact ⟨⟨q + 1, by omega, by rw [hsucc.out]; rfl, by simp, hov⟩, by simp [intOf]; omega⟩
                | false =>
                  rw [hdb] at hsucc
                  obtain ⟨qo, qt, qb⟩ := dq
                  simp only [Bool.false_or] at d0 d1 d2' hsucc
                  obtain ⟨v, hv⟩ : ∃ v, Hid (diedTo DD ⟨n, m.c.d, bd⟩ (q + 1) = v) := ⟨_, hide rfl⟩
                  rcases Decidable.em (qo = (n : Int)) with h1 | h1
                  · rcases Decidable.em (qt = m.c.d) with h2 | h2
                    · rcases Decidable.em (qb = bd) with h3 | h3
                      · subst h1
                        subst h3
                        rw [h2] at d1
                        have hq3 : (qb.toList == qb.toList) = true := by simp
                        have hval : v = true := by rw [← hv.out, hsucc.out]; simp [h2]
                        subst hval
                        clear hsucc
                        go_wp2_with fail
                        refine wp_region_over (by kernel_rfl) (by kernel_rfl) ?_
                        repeat (go_big_quiet_step (fail))
                        refine wpQuiet_nil ?_
                        rintro _ ⟨x8, rfl⟩
                        have hov := hb.trans ((over_below wr x8).mono hb.size)
                        generalize over wr x8 = w8 at *
                        go_wp2
                        exact ⟨⟨q + 1, by omega, by rw [hv.out], by simp, hov⟩, by simp [intOf]; omega⟩
                      · subst h1
                        rw [h2] at d1
                        have hq3 : (qb.toList == bd.toList) = false := by rw [strEq]; simp [h3]
                        have hval : v = false := by rw [← hv.out, hsucc.out]; simp [h3]
                        subst hval
                        clear hsucc
                        go_wp2_with fail
                        refine wp_region_over (by kernel_rfl) (by kernel_rfl) ?_
                        repeat (go_big_quiet_step (fail))
                        refine wpQuiet_nil ?_
                        rintro _ ⟨x8, rfl⟩
                        have hov := hb.trans ((over_below wr x8).mono hb.size)
                        generalize over wr x8 = w8 at *
                        go_wp2
                        exact ⟨⟨q + 1, by omega, by rw [hv.out], by simp, hov⟩, by simp [intOf]; omega⟩
                    · subst h1
                      have hval : v = false := by rw [← hv.out, hsucc.out]; simp [h2]
                      subst hval
                      clear hsucc
                      go_wp2_with fail
                      refine wp_region_over (by kernel_rfl) (by kernel_rfl) ?_
                      repeat (go_big_quiet_step (fail))
                      refine wpQuiet_nil ?_
                      rintro _ ⟨x8, rfl⟩
                      have hov := hb.trans ((over_below wr x8).mono hb.size)
                      generalize over wr x8 = w8 at *
                      go_wp2
                      exact ⟨⟨q + 1, by omega, by rw [hv.out], by simp, hov⟩, by simp [intOf]; omega⟩
                  · have hval : v = false := by rw [← hv.out, hsucc.out]; simp [h1]
                    subst hval
                    clear hsucc
                    go_wp2_with fail
                    refine wp_region_over (by kernel_rfl) (by kernel_rfl) ?_
                    repeat (go_big_quiet_step (fail))
                    refine wpQuiet_nil ?_
                    rintro _ ⟨x8, rfl⟩
                    have hov := hb.trans ((over_below wr x8).mono hb.size)
                    generalize over wr x8 = w8 at *
                    go_wp2
                    exact ⟨⟨q + 1, by omega, by rw [hv.out], by simp, hov⟩, by simp [intOf]; omega⟩
              · have hr7 := hr5.step gb7 (fun _ _ h => h)
                have hx7 := hX.step hx5 gb7 (fun _ _ h => h)
                have hD7 := hD5.step gb7 (fun h => h)
                have hE7 := hE5.step gb7 (fun h => h)
                have A7 := A.step gb7 (fun _ _ h => h)
                have s7 := s5.trans (gb7.mono (fun _ h => h.elim))
                have hq' : q = DD.length := by omega
                have hq'' := hin.out
                rw [← hq'] at hq''
                rw [hq'']
                have hsee7 := A7.see
                have t0 := hsee7.cell (seenVals_at _ n y hmix).1
                have t1' := hsee7.cell (seenVals_at _ n y hmix).2.1
                have et : y.tries = m.c.d := by rw [e1]; exact e5
                rw [et] at t0
                have lb := A7.lb
                have lg7 := A7.lg
                have li7 := hsee7.lt
                have c2 := A7.c2
                have c11 := A7.c11
                have d1 := A7.d1
                have d2' := A7.d2
                have z11 := A7.fb 11
                have z1 := hsee7.frozen (n * 4 + 1)
                have nei : gi ≠ b := fun e => by have := hsee7.2 gi rfl; rw [e, A7.tb] at this; simp at this
                obtain ⟨hr8, s8⟩ := hr7.flag 11 (by simp)
                have d28 := (s8.cell (p := ⟨gb, k * 4 + 2, none⟩) lg7 (by rw [A7.tg]; simp)).trans d2'
                obtain ⟨hr9, s9⟩ := hr8.seen (k := k) (j := n * 4 + 1) (v := .bool true) (u' := mixI g.items (U k) (n + 1)) hg d28 (by omega) (by
                  have hy' : { y with done := x.done } = x := by rw [e1]
                  rw [updF_same, mixI_succ _ _ n x hul hxn, ← f1, (seenVals_set _ n y hmix).2.1 x.done, hy'])
                rw [updF_twice] at hr9
                have gdr := step_below (fun _ => False) T5 (Below.refl ((wr.setCell ⟨b, 11, none⟩ (.bool true)).setCell ⟨gi, n * 4 + 1, none⟩ (.bool true)).heap.size ((wr.setCell ⟨b, 11, none⟩ (.bool true)).setCell ⟨gi, n * 4 + 1, none⟩ (.bool true))).drew
                replace hr9 := hr9.step gdr (fun _ _ h => h)
                have hx9 := hX.step (hX.step (hX.step hx7 s8 xt_run) s9 (by rintro t h rfl; exact absurd h.1 (by simp))) gdr (fun _ _ h => h)
                have hD9 := ((hD7.step s8 (by simp)).step s9 (by simp)).step gdr (fun h => h)
                have hE9 := ((hE7.step s8 (by simp)).step s9 (by simp)).step gdr (fun h => h)
                have s09 := (s7.trans (s8.mono (fun _ h => rt_run i h))).trans ((s9.mono (fun _ h => .inr (rt_rseen i k h))).trans (gdr.mono (fun _ h => h.elim)))
                have f5 : decide (g.start ≤ (n : Int)) = true := by simpa using e6
                have P := hide (And.intro s09 (And.intro hx9 (And.intro hr9 (And.intro hD9 hE9))))
                clear s09 hx9 hr9 hD9 hE9 gdr s8 s9 hr7 hx7 hD7 hE7 A7 s7 hr8 d28 hsee7 hr5 hx5 hD5 hE5 A gb7 hsee t1 hmix e1 et hyn e5 hq' hq'' hin
                go_wp2_with fail
                refine wp_region_tail 37 (by kernel_rfl) (by kernel_rfl) ?_
                simp only [List.take_succ_cons, List.take_zero, List.drop_succ_cons, List.drop_zero]
                repeat (go_big_quiet_step (fail))
                refine wpQuiet_nil ?_
                go_wp2
                exact ⟨⟨n + 1, T5, by omega, by simp, P.out⟩, by simp [intOf]; omega⟩
        · have d2 := A.d2
          have lg := A.lg
          have e : n = m.bodies.length := by omega
          have hr6 : RunG wr T5 i b bx gb gc m (mixU m U (k + 1)) L := by
            rw [← mixU_succ, itemsOf_at hg]
            rw [e, ← hlen, mixI_all _ _ hsim.1] at hr5
            exact hr5
          clear A hr5
          go_wp2
          exact ⟨⟨k + 1, T5, by omega, by simp, s5, hx5, hr6⟩, by simp [intOf]; omega⟩
    · obtain ⟨c7, lb⟩ := hr1.len
      go_wp2
      go_end0
      exact ⟨rfl, T1, s1, hx1, hr1.congr rfl rfl rfl rfl rfl (fun j hj => by simp [mixU, show j < k by omega]) (fun _ _ => rfl)⟩

end Go.Proofs.YtockkceclkcgbaaGreatDoor

/- The contract of a run's receive. -/
namespace Go.Proofs.YtockkceclkcgbaaGreatDoor
open Go.RowKit

abbrev Tag.rout : Tag := ⟨27, 0, 0, 0⟩
theorem setG_itemsOf {m : MQ} {k : Nat} {g : MG} {st : RS} (hg : m.groups[k]? = some g) (j : Nat) : itemsOf (m.setG k st) j = if j = k then st.items else itemsOf m j := by
  unfold itemsOf
  rw [setG_group]
  by_cases h : j = k
  · subst h
    simp [hg]
  · have h' : ¬ k = j := fun e => h e.symm
    cases m.groups[j]? <;> simp [h, h']

attribute [local go_sem] over_cell

set_option maxRecDepth 100000 in
set_option maxHeartbeats 8000000 in
theorem rrecv_any {X : World → (Nat → Tag) → Nat → Nat → MQ → Prop} {B Bm : Int} (hX : XC X Bm) (hle : B ≤ Bm) (i b bx gb gc : Nat) (m : MQ) (L : Nat → List Nat) (k : Nat) (g : MG) (n : Int) (w : World) (T : Nat → Tag) (hx : X w T i bx m) (hf : m.Fit B) (hr : RunG w T i b bx gb gc m (itemsOf m) L) (hq : NiceQ m L) (hg : m.groups[k]? = some g) (h1 : 1 ≤ n) (h2 : n ≤ 32) :
    Calls Tryz.prog 21 #[.pointer (some ⟨b, 0, none⟩), .int .i64 k, .int .i64 n] w fun e w' => e = .returned (.int .i64 (recvAll m g n).out.length) ∧
      ∃ T', Step (UT i) w T w' T' ∧ X w' T' i bx (m.setG k (recvAll m g n)) ∧ RunG w' T' i b bx gb gc (m.setG k (recvAll m g n)) (itemsOf (m.setG k (recvAll m g n))) (updF L k (L k ++ offs (recvAll m g n).out)) := by
  have hsm := hr.small
  have hfew := hr.few
  have hkl := (List.getElem?_eq_some_iff.1 hg).1
  have hat := at_name hq.named hfew hg
  have hnm := hq.named k g hg
  have hG := hq.grp k g hg
  have hlen := hf.ok.len g (List.mem_of_getElem? hg)
  have hgood := good_all hf.ok.good
  have hsim := sim_all (n := n) hgood.2.1 hG.items hlen
  have hout := out_all (m := m) (g := g) (n := n) (by omega)
  obtain ⟨eM, eL, eE⟩ := recvM_at hat hg h1 h2
  have hnew := nice_recv (n := n) hq hf hg
  have hfit : (m.setG k (recvAll m g n)).Fit B := by have := fit_recv hf (nameB k) n; rw [eM] at this; exact this
  have hsum : (L k).length + (recvAll m g n).out.length ≤ 4000 := by
    have a1 := hsim.sum
    have a2 := hsim.nice.sum hgood.2.1.2 (by rw [hsim.len]; exact hsm)
    have a3 := hG.sum
    omega
  obtain ⟨bo, bc, so, sc, lo, lc, A⟩ := hr.at hg
  have c0 := A.c0
  have c7 := A.c7
  have d0 := A.d0
  have lb := A.lb
  have lg := A.lg
  rw [hnm] at d0
  have gd1 := step_below (fun _ => False) T (Below.refl w.heap.size w).drew
  have hxd := hX.step hx gd1 (fun _ _ h => h)
  have hrd := hr.step gd1 (fun _ _ h => h)
  have Ad := A.step gd1 (fun _ _ h => h)
  have hcall := hX.recv i bx m (nameB k) n .rout _ _ hxd (hf.mono hle)
  rw [eM, eL, eE] at hcall
  have hsimk := hide hsim
  clear A hsim hlen eM eL eE
  generalize hst : recvAll m g n = st at *
  go_enter Tryz.func21, Tryz.ntmps21
  go_wp2_with fail
  go_region_held3 (fun w' => w'.cell? ⟨b, 0, none⟩ = some (.pointer (some ⟨bx, 0, none⟩)) ∧ w'.cell? ⟨gb, k * 4, none⟩ = some (.string (nameB k))) (go_keep) (first | (go_at_call 30; refine hcall.mono ?_; clear hcall; rintro e w2 ⟨ao, cap, rfl, T2, hs2, hx2, hA2⟩; have k0 := (Ad.step hs2 (fun _ a c => xt_rt a c)).c0; have j0 := (Ad.step hs2 (fun _ a c => xt_rt a c)).d0; rw [hnm] at j0))
  have hr2 := hrd.step hs2 (fun _ a c => xt_rt a c)
  have A2 := Ad.step hs2 (fun _ a c => xt_rt a c)
  have s2 : Step (UT i) w T w2 T2 := (gd1.mono (fun _ h => h.elim)).trans (hs2.mono (fun _ h => .inl h))
  clear k0 j0 Ad hrd hxd gd1 hr hx hs2 c0 c7 d0 lb lg
  have c9 := A2.c9
  have z9 := A2.fb 9
  have lb := A2.lb
  obtain ⟨hr3, s3⟩ := hr2.flag 9 (by simp)
  have hx3 := hX.step hx2 s3 xt_run
  have hA3 := hA2.step s3 (by simp)
  have s03 := s2.trans (s3.mono (fun _ h => rt_run i h))
  clear hr2 hx2 hA2 s2 s3 A2
  have hno : decide ((st.out.length : Int) ≤ n) = true := by simpa using hout
  go_wp2_with fail
  clear c9 z9 lb
  generalize w2.setCell ⟨b, 9, none⟩ (.bool true) = w3 at *
  go_loopw [10] (fun v wr => ∃ (j : Nat) (T' : Nat → Tag), j ≤ st.out.length ∧ v = .int .i64 j ∧ Step (UT i) w T wr T' ∧ X wr T' i bx (m.setG k st) ∧ RunG wr T' i b bx gb gc m (updF (itemsOf m) k (tookAll m g.items (st.out.take j))) (updF L k (L k ++ offs (st.out.take j))) ∧ Row wr T' .rout 82 3 (.slice ao st.out.length cap) st.out.length (dlVals st.out)) (fun v _ => st.out.length - (intOf v).toNat)
  case atStart =>
    refine ⟨0, T2, Nat.zero_le _, rfl, s03, hx3, hr3.congr rfl rfl rfl rfl rfl (fun j _ => ?_) (fun j _ => ?_), hA3⟩
    · by_cases e : j = k
      · subst e; rw [updF_same, itemsOf_at hg]; rfl
      · rw [updF_other _ _ _ e]
    · by_cases e : j = k
      · subst e; rw [updF_same]; simp [offs]
      · rw [updF_other _ _ _ e]
  case round =>
    obtain ⟨j, T4, hj, rfl, s4, hx4, hr4, hA4⟩ := hrel
    clear hr3 hx3 hA3 s03
    by_cases hlt : j < st.out.length
    · obtain ⟨d, hd⟩ : ∃ d, st.out[j]? = some d := ⟨_, List.getElem?_eq_getElem hlt⟩
      obtain ⟨a4, _, e⟩ := row_some hA4 (by omega)
      cases e
      obtain ⟨t0, t1, t2⟩ := dlVals_at st.out j d hd
      replace t0 := hA4.cell t0
      replace t1 := hA4.cell t1
      replace t2 := hA4.cell t2
      have hok := okAll_at hsimk.out.ok hd
      have htk := took_any i b bx gb gc m _ _ k g d wr T4 hr4 hg (by rw [updF_same]; exact hok) (by rw [updF_same]; simp [offs]; omega) hf.ok.good hf.ok.time
      rw [updF_same, updF_same, updF_twice, updF_twice, ← tookAll_succ hd] at htk
      have hoff : Hid (L k ++ offs (st.out.take j) ++ [d.off.toNat] = L k ++ offs (st.out.take (j + 1))) := hide (by rw [List.take_add_one, hd]; simp [offs])
      rw [hoff.out] at htk
      clear hr4 hok hoff hnew hsimk
      go_wp2_with fail
      refine htk.mono ?_
      clear htk
      rintro e w5 ⟨rfl, T5, s5, hr5⟩
      have hx5 := hX.step hx4 s5 xt_of_rt
      have hA5 := hA4.step s5 (by simp [RT])
      go_wp2
      exact ⟨⟨j + 1, T5, by omega, by simp, s4.trans (s5.mono (fun _ h => .inr h)), hx5, hr5, hA5⟩, by simp [intOf]; omega⟩
    · have ej : j = st.out.length := by omega
      have hr5 : RunG wr T4 i b bx gb gc (m.setG k st) (updF (itemsOf m) k (tookAll m g.items st.out)) (updF L k (L k ++ offs st.out)) := by
        rw [ej, List.take_length] at hr4
        exact hr4.congr rfl rfl rfl rfl setG_ns (fun _ _ => rfl) (fun _ _ => rfl)
      have hlk := look_any hX hle i b bx gb gc (m.setG k st) _ _ wr T4 hx4 hfit hr5 hnew.named (fun j' g' hj' => by
        refine ⟨(hnew.grp j' g' hj').items, ?_⟩
        rw [setG_group] at hj'
        obtain ⟨g0, h0, rfl⟩ := Option.map_eq_some_iff.1 hj'
        by_cases e : k = j'
        · subst e
          rw [hg] at h0
          cases h0
          rw [updF_same]
          simp only [if_true]
          exact hsimk.out.sim
        · rw [updF_other _ _ _ (fun x => e x.symm), if_neg e, itemsOf_at h0]
          exact SimI.refl _ _ _ _)
      clear hr4 hr5 hnew hsimk
      go_wp2_with fail
      refine hlk.mono ?_
      clear hlk
      rintro e w5 ⟨rfl, T5, s5, hx5, hr5⟩
      go_wp2
      go_ret
      exact ⟨rfl, T5, s4.trans s5, hx5, hr5⟩

end Go.Proofs.YtockkceclkcgbaaGreatDoor

/- The contract of a run's leased: which message was delivered to a group last but so many, if it is leased still. -/
namespace Go.Proofs.YtockkceclkcgbaaGreatDoor
open Go.RowKit

/-- the one that was delivered last but so many -/
def pickAt (l : List Nat) (n : Int) : Nat := l.getD (pickQ n l.length).toNat 0
def leasedR (time : Int) (items : List It) (l : List Nat) (n : Int) : Int :=
  bif l.isEmpty then -1 else match items[pickAt l n]? with
    | none => -1
    | some x => bif decide (0 < x.done) || decide (x.till ≤ time) then -1 else (pickAt l n : Int)

theorem pickQ_in (n : Int) (k : Nat) (hk : 0 < k) : 0 ≤ pickQ n k ∧ pickQ n k < k := pickQ_range n k (by omega)

attribute [local go_sem] over_cell

set_option maxRecDepth 100000 in
set_option maxHeartbeats 4000000 in
theorem rleased_any (i b bx gb gc : Nat) (m : MQ) (L : Nat → List Nat) (k : Nat) (g : MG) (n : Int) (w : World) (T : Nat → Tag) (hr : RunG w T i b bx gb gc m (itemsOf m) L) (hg : m.groups[k]? = some g) (hG : NiceG m g (L k)) (hlen : g.items.length = m.bodies.length) (hL4 : (L k).length ≤ 4000) (h0 : -9223372036854775808 ≤ n) (h1 : n ≤ 9223372036854775807) :
    Calls Tryz.prog 58 #[.pointer (some ⟨b, 0, none⟩), .pointer (some ⟨gb, k * 4, none⟩), .int .i64 n] w fun e w' => e = .returned (.int .i64 (leasedR m.time g.items (L k) n)) ∧ Below w.heap.size w w' := by
  obtain ⟨bo, bc, so, sc, lo, lc, A⟩ := hr.at hg
  rw [itemsOf_at hg] at A
  have d2 := A.d2
  have d3 := A.d3
  have c8 := A.c8
  have lb := A.lb
  have lg := A.lg
  have n4 := A.n4
  by_cases hz : (L k).length = 0
  · have hnil : L k = [] := List.eq_nil_of_length_eq_zero hz
    have hR : leasedR m.time g.items (L k) n = -1 := by simp [leasedR, hnil]
    rw [hR]
    rw [hz] at d3
    clear A hr hG
    go_enter Tryz.func58, Tryz.ntmps58
    go_wp2
    go_ret
    exact ⟨rfl, Below.refl _ _⟩
  · have hlast := A.last
    have hsee := A.see
    obtain ⟨lg1, _, e⟩ := row_some hlast (by omega)
    cases e
    obtain ⟨p0, p1⟩ := pickQ_in n (L k).length (by omega)
    obtain ⟨p, hp⟩ : ∃ p : Nat, pickQ n (L k).length = p := ⟨(pickQ n (L k).length).toNat, by omega⟩
    have hpl : p < (L k).length := by omega
    obtain ⟨at', hat⟩ : ∃ a, (L k)[p]? = some a := ⟨_, List.getElem?_eq_getElem hpl⟩
    have hpa : pickAt (L k) n = at' := by simp [pickAt, hp, hat, List.getD]
    obtain ⟨hal, _⟩ := hG.last at' (List.mem_of_getElem? hat)
    obtain ⟨x, hx⟩ : ∃ x, g.items[at']? = some x := ⟨_, List.getElem?_eq_getElem (by omega)⟩
    obtain ⟨gi, _, e⟩ := row_some hsee (by omega)
    cases e
    have tl : w.cell? ⟨lg1, p, none⟩ = some (.int .i64 at') := hlast.cell (by simp [hat, natV])
    have t1 := hsee.cell (seenVals_at _ at' x hx).2.1
    have t2 := hsee.cell (seenVals_at _ at' x hx).2.2.1
    have ll := hlast.lt
    have li := hsee.lt
    have hR : leasedR m.time g.items (L k) n = bif decide (0 < x.done) || decide (x.till ≤ m.time) then -1 else (at' : Int) := by
      unfold leasedR
      rw [hpa, hx]
      cases hl : L k with
      | nil => rw [hl] at hz; simp at hz
      | cons a r => simp
    have hpk := fun w1 => (pickk_same n (L k).length w1 h0 h1 (by omega) (by omega)).mono (fun e w' (h : _ ∧ w' = w1) => (⟨h.1, by rw [h.2]; exact Below.refl _ _⟩ : e = .returned (.int .i64 (pickQ n (L k).length)) ∧ Below w1.heap.size w1 w'))
    rw [hp] at hpk
    rw [hR]
    clear A hr hG hlast hsee hR hpa hp p0 p1
    have hpos : (0 : Int) < ((L k).length : Int) := by omega
    have hne : decide (((L k).length : Int) = 0) = false := by rw [decide_eq_false_iff_not]; omega
    go_enter Tryz.func58, Tryz.ntmps58
    go_wp2_with fail
    refine wp_region_over (by kernel_rfl) (by kernel_rfl) ?_
    repeat (go_big_quiet_step ((go_at_call 33; exact quiet_over hpk)))
    refine wpQuiet_nil ?_
    rintro _ ⟨x5, rfl⟩
    have hb5 := over_below w x5
    replace d2 := (hb5.cell (p := ⟨gb, k * 4 + 2, none⟩) lg).trans d2
    replace c8 := (hb5.cell (p := ⟨b, 8, none⟩) lb).trans c8
    replace t1 := (hb5.cell (p := ⟨gi, at' * 4 + 1, none⟩) li).trans t1
    replace t2 := (hb5.cell (p := ⟨gi, at' * 4 + 2, none⟩) li).trans t2
    replace lb := Nat.lt_of_lt_of_le lb hb5.size
    replace lg := Nat.lt_of_lt_of_le lg hb5.size
    replace li := Nat.lt_of_lt_of_le li hb5.size
    clear tl d3 ll hpk
    generalize over w x5 = w5 at *
    cases hdn : decide (0 < x.done) with
    | true =>
      rw [hdn] at t1
      go_wp2_with fail
      refine wp_region_over (by kernel_rfl) (by kernel_rfl) ?_
      repeat (go_big_quiet_step (fail))
      refine wpQuiet_nil ?_
      rintro _ ⟨x6, rfl⟩
      have hb6 := hb5.trans ((over_below w5 x6).mono hb5.size)
      generalize over w5 x6 = w6 at *
      go_wp2
      go_ret
      exact ⟨by rw [hdn]; rfl, hb6⟩
    | false =>
      rw [hdn] at t1
      cases htl : decide (x.till ≤ m.time) with
      | true =>
        go_wp2_with fail
        refine wp_region_over (by kernel_rfl) (by kernel_rfl) ?_
        repeat (go_big_quiet_step (fail))
        refine wpQuiet_nil ?_
        rintro _ ⟨x6, rfl⟩
        have hb6 := hb5.trans ((over_below w5 x6).mono hb5.size)
        generalize over w5 x6 = w6 at *
        go_wp2
        go_ret
        exact ⟨by rw [hdn, htl]; rfl, hb6⟩
      | false =>
        go_wp2_with fail
        refine wp_region_over (by kernel_rfl) (by kernel_rfl) ?_
        repeat (go_big_quiet_step (fail))
        refine wpQuiet_nil ?_
        rintro _ ⟨x6, rfl⟩
        have hb6 := hb5.trans ((over_below w5 x6).mono hb5.size)
        generalize over w5 x6 = w6 at *
        go_wp2
        go_ret
        exact ⟨by rw [hdn, htl]; rfl, hb6⟩

end Go.Proofs.YtockkceclkcgbaaGreatDoor

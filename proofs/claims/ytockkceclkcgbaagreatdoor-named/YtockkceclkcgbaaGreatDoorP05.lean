/- Helpers over any program: a region that draws its order, whose operations read, but for a tail that waits for all of them (a store): the head goes by one walk, the tail as it stands. -/
import Derived.Test.YtockkceclkcgbaaGreatDoorT01
import Derived.StillTail
import Derived.Test.YtockkceclkcgbaaGreatDoorP02
import Derived.Deep.RegionHeld3
namespace Go.Proofs.YtockkceclkcgbaaGreatDoor
open Go.RowKit

theorem wpStill_of_quiet {P : Program} {ops : Array Oper} {w : World} {Q : Act → Prop} : ∀ (l : List Oper) (a : Act), wpQuiet P ops (fun w' => w' = w) Q l a → wpStill P ops w Q l a
  | [], _, h => h
  | o :: rest, a, h => by
    unfold wpQuiet at h
    unfold wpStill
    by_cases hw : Region.wanted o (yielded ops a.tmps) = true
    · rw [if_pos hw] at h ⊢
      obtain ⟨v, h1, h2⟩ := h
      have h3 := h1 w rfl
      have h4 := wpStill_of_quiet rest _ h2
      unfold Oper.quietAt at h3
      unfold Oper.still
      generalize (execOp a.eval o).run P w = r at *
      cases r with
      | ok n w' =>
        cases n with
        | value u =>
          simp only [Oper.quietUpon] at h3
          simp only [Oper.stillUpon]
          rw [h3.2]
          exact ⟨h3.1, h4⟩
        | skip =>
          simp only [Oper.quietUpon] at h3
          simp only [Oper.stillUpon]
          rw [h3.2] at h4
          exact ⟨h3.1, h4⟩
        | enter f args =>
          simp only [Oper.quietUpon] at h3
          simp only [Oper.stillUpon]
          exact ⟨h3.1, v, h3.2, h4⟩
        | _ => simp [Oper.quietUpon] at h3
      | _ => simp [Oper.quietUpon] at h3
    · rw [if_neg hw] at h ⊢
      exact wpStill_of_quiet rest _ h

theorem wp_region_tail {P : Program} {id : Nat} {Q : Exit → Act → World → Prop} {a : Act} {w : World} {l : List Oper} (n : Nat) (hm : P.follows .mixedOrders = true) (hB : Region.lexTailB .any l.toArray n = true)
    (h : wpQuiet P l.toArray (fun w' => w' = w.drew) (fun a' => wpList P l.toArray Q (l.drop n) a' w.drew) (l.take n) a) : (Code.region id l.toArray true).wp P Q a w :=
  wp_region_still_tail n hm hB (wpStill_of_quiet _ _ h)

end Go.Proofs.YtockkceclkcgbaaGreatDoor

/- The contract of a run's took: one delivery is seen. -/
namespace Go.Proofs.YtockkceclkcgbaaGreatDoor
open Go.RowKit

theorem infoIntR : (Tryz.prog.info? 3).map (fun i => (i.zero, i.size, i.bytes)) = some (some (.int .i64 0), 1, 8) := by kernel_rfl

attribute [local go_sem] over_cell

set_option maxRecDepth 100000 in
set_option maxHeartbeats 8000000 in
theorem took_any (i b bx gb gc : Nat) (m : MQ) (U : Nat → List It) (L : Nat → List Nat) (k : Nat) (g : MG) (d : Dl) (w : World) (T : Nat → Tag) (hr : RunG w T i b bx gb gc m U L) (hg : m.groups[k]? = some g) (hd : okD m g.start (U k) d) (hl : (L k).length ≤ 4000) (hgo : goodC m.c = true) (ht : 0 ≤ m.time ∧ m.time ≤ 4000000000000000000) :
    Calls Tryz.prog 56 #[.pointer (some ⟨b, 0, none⟩), .pointer (some ⟨gb, k * 4, none⟩), .agg #[.int .i64 d.off, .int .i64 d.tr, .string d.body]] w fun e w' => e = .returned (.tuple #[]) ∧
      ∃ T', Step (RT i) w T w' T' ∧ RunG w' T' i b bx gb gc m (updF U k (tookI m (U k) d)) (updF L k (L k ++ [d.off.toNat])) := by
  obtain ⟨⟨hl1, hl2⟩, ⟨hd1, hd2⟩, _, _⟩ := good_all hgo
  obtain ⟨n, x, ho, hx, o1, o2, o3, o4, o5, o6, o0, o7, o8, o9⟩ := hd
  obtain ⟨dO, dT, dB⟩ := d
  simp only at ho o7 o8 o9
  subst ho
  have hb : m.bodies[n]? = some dB := by rw [o9]; simp [List.getD, List.getElem?_eq_getElem o3]
  clear o9
  subst o7
  have eT : tookI m (U k) ⟨n, (x.tries + 1), dB⟩ = (U k).set n { x with tries := (x.tries + 1), till := m.time + m.c.l } := tookI_at rfl hx
  rw [eT]
  simp only [Int.toNat_natCast]
  clear eT
  have s1 := step_new w T (.cells #[.int .i64 n, .int .i64 (x.tries + 1), .string dB] 82) .free (fun _ => False)
  have hO := blk_new w T #[.int .i64 n, .int .i64 (x.tries + 1), .string dB] 82 .free
  have hr1 := hr.step s1 (fun _ _ h => h)
  go_enter Tryz.func56, Tryz.ntmps56
  go_wp2_with fail
  generalize retag T w.heap.size .free = T1 at *
  generalize w.alloc (.cells #[.int .i64 (n : Int), .int .i64 (x.tries + 1), .string dB] 82) = w1 at *
  generalize w.heap.size = ob at hO ⊢
  obtain ⟨bo, bc, so, sc, lo, lc, A⟩ := hr1.at hg
  have q0 := hO.cell (j := 0) rfl
  have lO := hO.lt
  have lb := A.lb
  have lg := A.lg
  have c5 := A.c5
  have c6 := A.c6
  have e1 := A.d1
  have f1 : decide ((n : Int) < m.floor) = false := by simp; omega
  have f2 : decide ((n : Int) < g.start) = false := by simp; omega
  have f3 : decide ((m.bodies.length : Int) ≤ (n : Int)) = false := by simp; omega
  simp only [List.getElem_toArray, List.getElem_cons_zero] at q0
  clear A
  refine wp_region_over (by kernel_rfl) (by kernel_rfl) ?_
  repeat (go_big_quiet_step (fail))
  refine wpQuiet_nil ?_
  rintro _ ⟨x2, rfl⟩
  have g2 := step_below (fun _ => False) T1 (over_below w1 x2)
  generalize over w1 x2 = w2 at *
  have hr2 := hr1.step g2 (fun _ _ h => h)
  have hO2 := hO.step g2 (fun h => h)
  have s2 := s1.trans g2
  clear hr1 hO s1 g2 q0 lO lb lg c5 c6 e1
  obtain ⟨bo, bc, so, sc, lo, lc, A2⟩ := hr2.at hg
  obtain ⟨gi, _, e⟩ := row_some A2.see (by omega)
  cases e
  obtain ⟨gz, _, e⟩ := row_some A2.bod (by omega)
  cases e
  have q0 := hO2.cell (j := 0) rfl
  simp only [List.getElem_toArray, List.getElem_cons_zero] at q0
  have lO := hO2.lt
  have lg := A2.lg
  have e2 := A2.d2
  go_wp2_with fail
  refine wp_region_over (by kernel_rfl) (by kernel_rfl) ?_
  repeat (go_big_quiet_step (fail))
  refine wpQuiet_nil ?_
  rintro _ ⟨x3, rfl⟩
  have g3 := step_below (fun _ => False) T1 (over_below w2 x3)
  generalize over w2 x3 = w3 at *
  have hr3 := hr2.step g3 (fun _ _ h => h)
  have hO3 := hO2.step g3 (fun h => h)
  have A := A2.step g3 (fun _ _ h => h)
  have s3 := s2.trans g3
  clear hr2 hO2 s2 g3 q0 lO lg e2 A2
  have hsee := A.see
  have hbod := A.bod
  have hU : (U k).length = m.bodies.length := by have := hsee.1.1; rw [seenVals_length] at this; omega
  have lb := A.lb
  have lg := A.lg
  have li := hsee.lt
  have lz := hbod.lt
  have lO := hO3.lt
  have c2 := A.c2
  have c5 := A.c5
  have c8 := A.c8
  have c10 := A.c10
  have e2 := A.d2
  have z10 := A.fb 10
  obtain ⟨t0, t1, t2, t3⟩ := seenVals_at (U k) n x hx
  replace t0 := hsee.cell t0
  replace t1 := hsee.cell t1
  replace t2 := hsee.cell t2
  replace t3 := hsee.cell t3
  have tz : w3.cell? ⟨gz, n, none⟩ = some (.string dB) := hbod.cell (by simp [hb])
  have q0 := hO3.cell (j := 0) rfl
  have q1 := hO3.cell (j := 1) rfl
  have q2 := hO3.cell (j := 2) rfl
  simp only [List.getElem_toArray, List.getElem_cons_succ, List.getElem_cons_zero] at q0 q1 q2
  have o4' : decide (0 < x.done) = false := by simpa using o4
  rw [o4'] at t1
  have f5 : decide (x.till ≤ m.time) = true := by simpa using o5
  have f6 : decide (x.after ≤ m.time) = true := by simpa using o6
  have f8 : decide (x.tries + 1 ≤ m.c.d) = true := by simpa using o8
  have hq : (dB.toList == dB.toList) = true := by simp
  have hneO : ob ≠ b := fun e => by have := hO3.1; rw [e, A.tb] at this; simp at this
  have hnei : gi ≠ b := fun e => by have := hsee.2 gi rfl; rw [e, A.tb] at this; simp at this
  have hnez : gz ≠ b := fun e => by have := hbod.2 gz rfl; rw [e, A.tb] at this; simp at this
  have z0 := hsee.frozen (n * 4)
  obtain ⟨hr4, s4⟩ := hr3.flag 10 (by simp)
  have hO4 := hO3.step s4 (by simp)
  have d24 := (s4.cell (p := ⟨gb, k * 4 + 2, none⟩) lg (by rw [A.tg]; simp)).trans A.d2
  have lg4 := Nat.lt_of_lt_of_le lg s4.size
  have tg4 := (s4.tag gb lg).trans A.tg
  obtain ⟨hr5, s5⟩ := hr4.seen (k := k) (j := n * 4) (v := .int .i64 (x.tries + 1)) hg d24 (by omega) ((seenVals_set (U k) n x hx).1 (x.tries + 1))
  have hO5 := hO4.step s5 (by simp)
  have d25 := (s5.cell (p := ⟨gb, k * 4 + 2, none⟩) lg4 (by rw [tg4]; simp)).trans d24
  have gdr := step_below (fun _ => False) T1 (Below.refl ((w3.setCell ⟨b, 10, none⟩ (.bool true)).setCell ⟨gi, n * 4, none⟩ (.int .i64 (x.tries + 1))).heap.size ((w3.setCell ⟨b, 10, none⟩ (.bool true)).setCell ⟨gi, n * 4, none⟩ (.int .i64 (x.tries + 1)))).drew
  replace hr5 := hr5.step gdr (fun _ _ h => h)
  replace hO5 := hO5.step gdr (fun h => h)
  have s05 := ((s3.mono (fun _ h => (h.elim : RT i _))).trans (s4.mono (fun _ h => rt_itself i h))).trans ((s5.mono (fun _ h => rt_rseen i k h)).trans (gdr.mono (fun _ h => h.elim)))
  have hw1 : IntKind.i64.wrap (x.tries + 1) = x.tries + 1 := by rw [IntWalk.i64_left, IntWalk.wrap64_in _ ⟨by omega, by omega⟩]
  have P := hide (And.intro hr5 (And.intro hO5 (And.intro s05 d25)))
  clear hr4 hO4 s05 s4 A gdr hr3 hO3 s3 hsee hbod hr d24 hr5 hO5 d25 lg4 tg4 s5
  go_wp2_with fail
  dsimp only [List.append]
  refine wp_region_tail 69 (by kernel_rfl) (by kernel_rfl) ?_
  simp only [List.take_succ_cons, List.take_zero, List.drop_succ_cons, List.drop_zero]
  repeat (go_big_quiet_step (fail))
  refine wpQuiet_nil ?_
  go_wp2_with fail
  obtain ⟨hr5, hO5, s05, d25⟩ := P.out
  replace d25 : ((w3.setCell ⟨b, 10, none⟩ (.bool true)).setCell ⟨gi, n * 4, none⟩ (.int .i64 (x.tries + 1))).drew.cell? ⟨gb, k * 4 + 2, none⟩ = some (.slice (some ⟨gi, 0, none⟩) m.bodies.length sc) := d25
  clear P lb lg li lz lO c2 c5 c8 c10 e2 z10 z0 t0 t1 t2 t3 tz q0 q1 q2
  generalize ((w3.setCell ⟨b, 10, none⟩ (.bool true)).setCell ⟨gi, n * 4, none⟩ (.int .i64 (x.tries + 1))).drew = w5 at *
  obtain ⟨bo5, bc5, lo5, lc5, A⟩ := hr5.atS hg d25
  rw [updF_same] at A
  have hsee := A.see
  have lb := A.lb
  have lg := A.lg
  have li := hsee.lt
  have c1 := A.c1
  have c8 := A.c8
  have z2 := hsee.frozen (n * 4 + 2)
  have hx5 : ((U k).set n { x with tries := x.tries + 1 })[n]? = some { x with tries := x.tries + 1 } := by simp [hU, o3]
  have t2 := hsee.cell (seenVals_at _ n _ hx5).2.2.1
  have hw2 : IntKind.i64.wrap (m.time + m.c.l) = m.time + m.c.l := by rw [IntWalk.i64_left, IntWalk.wrap64_in _ ⟨by omega, by omega⟩]
  obtain ⟨hr6, s6⟩ := hr5.seen (k := k) (j := n * 4 + 2) (v := .int .i64 (m.time + m.c.l)) (u' := (U k).set n { x with tries := x.tries + 1, till := m.time + m.c.l }) hg d25 (by omega) (by rw [updF_same, (seenVals_set _ n _ hx5).2.2.1 (m.time + m.c.l)]; simp [List.set_set])
  rw [updF_twice] at hr6
  have hO6 := hO5.step s6 (by simp)
  have gdr := step_below (fun _ => False) T1 (Below.refl (w5.setCell ⟨gi, n * 4 + 2, none⟩ (.int .i64 (m.time + m.c.l))).heap.size (w5.setCell ⟨gi, n * 4 + 2, none⟩ (.int .i64 (m.time + m.c.l)))).drew
  replace hr6 := hr6.step gdr (fun _ _ h => h)
  replace hO6 := hO6.step gdr (fun h => h)
  have s06 := s05.trans ((s6.mono (fun _ h => rt_rseen i k h)).trans (gdr.mono (fun _ h => h.elim)))
  have P := hide (And.intro hr6 (And.intro hO6 s06))
  clear hr6 hO6 s06 s6 gdr A hsee hr5 hO5 s05 d25 hx5
  refine wp_region_tail 13 (by kernel_rfl) (by kernel_rfl) ?_
  simp only [List.take_succ_cons, List.take_zero, List.drop_succ_cons, List.drop_zero]
  repeat (go_big_quiet_step (fail))
  refine wpQuiet_nil ?_
  go_wp2_with fail
  obtain ⟨hr6, hO6, s06⟩ := P.out
  clear P lb lg li c1 c8 z2 t2
  generalize (w5.setCell ⟨gi, n * 4 + 2, none⟩ (.int .i64 (m.time + m.c.l))).drew = w6 at *
  obtain ⟨bo6, bc6, so6, sc6, lo6, lc6, A⟩ := hr6.at hg
  have lg := A.lg
  have lO := hO6.lt
  have d3 := A.d3
  have q0 := hO6.cell (j := 0) rfl
  simp only [List.getElem_toArray, List.getElem_cons_zero] at q0
  obtain ⟨i0, hi, hz0, hz1, hz2⟩ := info_parts infoIntR
  have gba := step_below (fun _ => False) T1 ((Below.refl w6.heap.size w6).drew.alloc (by simp) (.cells #[.int .i64 (n : Int)] 3))
  have hla := A.last.step gba (fun h => h)
  obtain ⟨og, oc, w9, T9, hrun9, hL9, s9⟩ := run_append_row (P := Tryz.prog) 50 50 3 i0 _ 1 8 Tryz.underlying50 hi hz0 hz1 hz2 rfl (by decide) _ _ _ hla ⟨w6.heap.size, 0, none⟩ 1 1 [.int .i64 (n : Int)] rfl (cells_new5 w6.drew _ 3) (by simp [Value.oneCell']) (by decide) (by unfold maxLen; omega) (by omega)
  have s69 := (gba.mono (fun _ h => (h.elim : _ = Tag.rlast i k))).trans s9
  obtain ⟨hrX, sX⟩ := hr6.add (l' := L k ++ [n]) hg s69 (by simpa [natV] using hL9)
  have d39 := (s69.cell (p := ⟨gb, k * 4 + 3, none⟩) lg (by rw [A.tg]; simp)).trans d3
  have z39 := (s69.frozen (p := ⟨gb, k * 4 + 3, none⟩) lg (by rw [A.tg]; simp)).trans (A.fg _)
  have l69 := Nat.lt_of_lt_of_le lg s69.size
  have P := hide (And.intro hrX (s06.trans sX))
  clear hrX s06 sX A hr6 hO6 hla hL9 s9 s69 gba
  go_region_law (refine step_append_known rfl _ _ 50 rfl _ _ _ rfl rfl hrun9 ?_)
  all_goals
    go_wp2
    go_end0
    exact ⟨rfl, T9, P.out.2, P.out.1⟩

end Go.Proofs.YtockkceclkcgbaaGreatDoor

/- The contract of a run's look: what all groups are done with is seen. -/
namespace Go.Proofs.YtockkceclkcgbaaGreatDoor
open Go.RowKit

abbrev Tag.rdone : Tag := ⟨25, 0, 0, 0⟩
abbrev Tag.rdead : Tag := ⟨26, 0, 0, 0⟩

attribute [local go_sem] over_cell

set_option maxRecDepth 100000 in
set_option maxHeartbeats 20000000 in
theorem look_any {G : Type} {X : World → (Nat → Tag) → Nat → Nat → MQ → G → Prop} {F : GF G} {B Bm : Int} (hX : XL X F Bm) (hle : B ≤ Bm) (i b bx gb gc : Nat) (m : MQ) (U : Nat → List It) (L : Nat → List Nat) (w : World) (T : Nat → Tag) {gh : G} (hx : X w T i bx m gh) (hf : m.Fit B) (hr : RunG w T i b bx gb gc m U L) (hN : Named m)
    (hn : ∀ k g, m.groups[k]? = some g → NiceI m g.start g.items ∧ SimI m g.start g.dead (U k) g.items) :
    Calls Tryz.prog 57 #[.pointer (some ⟨b, 0, none⟩)] w fun e w' => e = .returned (.tuple #[]) ∧ ∃ T', Step (UT i) w T w' T' ∧ X w' T' i bx m gh ∧ RunG w' T' i b bx gb gc m (itemsOf m) L := by
  have hsm := hr.small
  have hfew := hr.few
  have hgood := good_all hf.ok.good
  go_enter Tryz.func57, Tryz.ntmps57
  go_wp2
  go_loopw [2] (fun v wr => ∃ (k : Nat) (T' : Nat → Tag), k ≤ m.groups.length ∧ v = .int .i64 k ∧ Step (UT i) w T wr T' ∧ X wr T' i bx m gh ∧ RunG wr T' i b bx gb gc m (mixU m U k) L) (fun v _ => m.groups.length - (intOf v).toNat)
  case atStart => exact ⟨0, T, Nat.zero_le _, rfl, Step.refl _ _ _, hx, hr.congr rfl rfl rfl rfl rfl (fun _ _ => by simp [mixU]) (fun _ _ => rfl)⟩
  case round =>
    obtain ⟨k, T1, hk, rfl, s1, hx1, hr1⟩ := hrel
    clear hx hr
    by_cases hlt : k < m.groups.length
    · obtain ⟨g, hg⟩ : ∃ g, m.groups[k]? = some g := ⟨_, List.getElem?_eq_getElem hlt⟩
      obtain ⟨hni, hsim⟩ := hn k g hg
      have hlen : g.items.length = m.bodies.length := hf.ok.len g (List.mem_of_getElem? hg)
      have hnm := hN k g hg
      have hat := at_name hN hfew hg
      have hDE : doneE m (nameB k) = 0 := by simp [doneE, hat]
      obtain ⟨DL, hDL⟩ : ∃ D, Hid (doneL m (nameB k) = D ∧ D = doneTo g.items g.items.length) := ⟨_, hide ⟨rfl, by simp [doneL, hat, hg]⟩⟩
      obtain ⟨DD, hDD⟩ : ∃ D, Hid (deadL m (nameB k) = D ∧ D = g.dead.map (deadOf m g)) := ⟨_, hide ⟨rfl, by simp [deadL, hat, hg]⟩⟩
      have lDL : DL.length ≤ 400 := by rw [hDL.out.2]; exact Nat.le_trans (doneTo_len _ _) (by omega)
      have lDD : DD.length ≤ 4000 := by rw [hDD.out.2]; simpa using hf.dead hsm g (List.mem_of_getElem? hg)
      obtain ⟨bo, bc, so, sc, lo, lc, A⟩ := hr1.at hg
      have c0 := A.c0
      have c7 := A.c7
      have d0 := A.d0
      have lb := A.lb
      have lg := A.lg
      rw [hnm] at d0
      have gd1 := step_below (fun _ => False) T1 (Below.refl wr.heap.size wr).drew
      have hxd := hX.step hx1 gd1 (fun _ _ h => h)
      have hrd := hr1.step gd1 (fun _ _ h => h)
      have Ad := A.step gd1 (fun _ _ h => h)
      clear A
      have hcall := hX.done i bx m (nameB k) .rdone _ _ hxd (hf.mono hle)
      rw [hDE, hDL.out.1] at hcall
      go_wp2_with fail
      go_region_held3 (fun w' => w'.cell? ⟨b, 0, none⟩ = some (.pointer (some ⟨bx, 0, none⟩)) ∧ w'.cell? ⟨gb, k * 4, none⟩ = some (.string (nameB k))) (go_keep) (first | (go_at_call 28; refine hcall.mono ?_; clear hcall; rintro e w2 ⟨ao, cap, rfl, T2, hs2, hx2, hA2⟩; have k0 := (Ad.step hs2 (fun _ a c => xt_rt a c)).c0; have j0 := (Ad.step hs2 (fun _ a c => xt_rt a c)).d0; rw [hnm] at j0))
      have hr2 := hrd.step hs2 (fun _ a c => xt_rt a c)
      have A2 := Ad.step hs2 (fun _ a c => xt_rt a c)
      have s2 : Step (UT i) w T w2 T2 := s1.trans ((gd1.mono (fun _ h => h.elim)).trans (hs2.mono (fun _ h => .inl h)))
      clear k0 j0 Ad hrd hxd gd1 hr1 hx1 s1 hs2 c0 c7 d0 lb lg
      have c0 := A2.c0
      have d0 := A2.d0
      have lb := A2.lb
      have lg := A2.lg
      rw [hnm] at d0
      have gd2 := step_below (fun _ => False) T2 (Below.refl w2.heap.size w2).drew
      have hxd := hX.step hx2 gd2 (fun _ _ h => h)
      have hrd := hr2.step gd2 (fun _ _ h => h)
      have Ad := A2.step gd2 (fun _ _ h => h)
      have hcall := hX.dead i bx m (nameB k) .rdead _ _ hxd (hf.mono hle)
      rw [hDE, hDD.out.1] at hcall
      clear A2
      go_wp2_with fail
      go_region_held3 (fun w' => w'.cell? ⟨b, 0, none⟩ = some (.pointer (some ⟨bx, 0, none⟩)) ∧ w'.cell? ⟨gb, k * 4, none⟩ = some (.string (nameB k))) (go_keep) (first | (go_at_call 29; refine hcall.mono ?_; clear hcall; rintro e w3 ⟨ao3, cap3, rfl, T3, hs3, hx3, hA3⟩; have k0 := (Ad.step hs3 (fun _ a c => xt_rt a c)).c0; have j0 := (Ad.step hs3 (fun _ a c => xt_rt a c)).d0; rw [hnm] at j0))
      have hr3 := hrd.step hs3 (fun _ a c => xt_rt a c)
      have A3 := Ad.step hs3 (fun _ a c => xt_rt a c)
      have hD3 := (hA2.step gd2 (fun h => h)).step hs3 (by simp [XT])
      have s3 : Step (UT i) w T w3 T3 := s2.trans ((gd2.mono (fun _ h => h.elim)).trans (hs3.mono (fun _ h => .inl h)))
      clear k0 j0 Ad hrd hxd gd2 hr2 hx2 s2 hs3 c0 d0 lb lg hA2
      have c9 := A3.c9
      have z9 := A3.fb 9
      have lb := A3.lb
      obtain ⟨hr4, s4⟩ := hr3.flag 9 (by simp)
      have hx4 := hX.step hx3 s4 xt_run
      have hD4 := hD3.step s4 (by simp)
      have hE4 := hA3.step s4 (by simp)
      have s04 := s3.trans (s4.mono (fun _ h => rt_run i h))
      clear hr3 hx3 hD3 hA3 s3 s4 A3
      go_wp2_with fail
      clear c9 z9 lb
      generalize w3.setCell ⟨b, 9, none⟩ (.bool true) = w4 at *
      have hhas : ∀ (n : Nat) x, g.items[n]? = some x → Hid (hasFrom DL n 0 = decide (0 < x.done)) := fun n x hx => hide (by rw [hDL.out.2]; exact done_has hni.done (by omega) hx)
      go_loopw [8] (fun v wr => ∃ (n : Nat) (T' : Nat → Tag), n ≤ m.bodies.length ∧ v = .int .i64 n ∧ Step (UT i) w T wr T' ∧ X wr T' i bx m gh ∧ RunG wr T' i b bx gb gc m (updF (mixU m U k) k (mixI g.items (U k) n)) L ∧ Row wr T' .rdone 69 2 (.slice ao DL.length cap) DL.length (pairVals DL) ∧ Row wr T' .rdead 82 3 (.slice ao3 DD.length cap3) DD.length (dlVals DD)) (fun v _ => m.bodies.length - (intOf v).toNat)
      case atStart => exact ⟨0, T3, Nat.zero_le _, rfl, s04, hx4, by rw [mixI_zero, ← mixU_self m U k, updF_self]; exact hr4, hD4, hE4⟩
      case round =>
        obtain ⟨n, T5, hnl, rfl, s5, hx5, hr5, hD5, hE5⟩ := hrel
        clear hr4 hx4 hD4 hE4 s04
        obtain ⟨bo, bc, so, sc, lo, lc, A⟩ := hr5.at hg
        rw [updF_same] at A
        by_cases hnn : n < m.bodies.length
        · obtain ⟨x, hxn⟩ : ∃ x, g.items[n]? = some x := ⟨_, List.getElem?_eq_getElem (by omega)⟩
          obtain ⟨y, hyn, hyx⟩ := hsim.2 n x hxn
          have hul := hsim.1
          have hmix : (mixI g.items (U k) n)[n]? = some y := by rw [mixI_at _ _ _ (by omega) hsim.1]; simp [hyn]
          have hsee := A.see
          obtain ⟨gi, _, e⟩ := row_some hsee (by omega)
          cases e
          have t1 := hsee.cell (seenVals_at _ n y hmix).2.1
          have d2 := A.d2
          have lg := A.lg
          have li := hsee.lt
          have hc := khas_any DL n ao cap .rdone _ T5 hD5 lDL
          rw [(hhas n x hxn).out] at hc
          rcases hyx with rfl | ⟨e1, e2, e3, e4, e5, e6⟩
          · have hr6 : RunG wr T5 i b bx gb gc m (updF (mixU m U k) k (mixI g.items (U k) (n + 1))) L := by rw [mixI_same _ _ n y hsim.1 hxn hyn]; exact hr5
            generalize decide (0 < y.done) = bb at *
            clear A hsee hr5 hsim hni
            go_wp2_with fail
            refine hc.mono ?_
            clear hc
            rintro e w6 ⟨rfl, rfl⟩
            go_wp2
            exact ⟨⟨n + 1, T5, by omega, by simp, s5, hx5, hr6, hD5, hE5⟩, by simp [intOf]; omega⟩
          · have f1 : decide (0 < x.done) = true := by simpa using e3
            have f2 : decide (0 < y.done) = false := by simpa using e2
            rw [f1] at hc
            rw [f2] at t1
            obtain ⟨bd, hbd⟩ : ∃ bd, m.bodies[n]? = some bd := ⟨_, List.getElem?_eq_getElem hnn⟩
            have hin : Hid (diedTo DD ⟨n, m.c.d, bd⟩ DD.length = true) := hide (diedTo_all (by
              rw [hDD.out.2, List.mem_map]
              refine ⟨n, e4, ?_⟩
              unfold deadOf
              simp [List.getD, hxn, hbd, e5]))
            clear hsim hni hhas hDL hDD
            go_wp2_with fail
            refine hc.mono ?_
            clear hc
            rintro e w6 ⟨rfl, rfl⟩
            go_wp2
            go_loopw [10, 11] (fun v10 v11 wx => ∃ (q : Nat), q ≤ DD.length ∧ v10 = .bool (diedTo DD ⟨n, m.c.d, bd⟩ q) ∧ v11 = .int .i64 q ∧ Below w6.heap.size w6 wx) (fun _ v11 _ => DD.length - (intOf v11).toNat)
            case atStart => exact ⟨0, Nat.zero_le _, rfl, rfl, Below.refl _ _⟩
            case round =>
              obtain ⟨q, hq, rfl, rfl, hb⟩ := hrel
              have gb7 := step_below (fun _ => False) T5 hb
              by_cases hql : q < DD.length
              · obtain ⟨dq, hdq⟩ : ∃ d, DD[q]? = some d := ⟨_, List.getElem?_eq_getElem hql⟩
                obtain ⟨a3, _, e⟩ := row_some hE5 (by omega)
                cases e
                have A7 := A.step gb7 (fun _ _ h => h)
                have hE7 := hE5.step gb7 (fun h => h)
                have hbod := A7.bod
                obtain ⟨gz, _, e⟩ := row_some hbod (by omega)
                cases e
                obtain ⟨d0, d1, d2'⟩ := dlVals_at DD q dq hdq
                replace d0 := hE7.cell d0
                replace d1 := hE7.cell d1
                replace d2' := hE7.cell d2'
                have l3 := hE7.lt
                have lz := hbod.lt
                have lb7 := A7.lb
                have c2 := A7.c2
                have c5 := A7.c5
                have tz : wr.cell? ⟨gz, n, none⟩ = some (.string bd) := hbod.cell (by simp [hbd])
                have hsucc := hide (diedTo_succ (x := ⟨n, m.c.d, bd⟩) hdq)
                clear A A7 hE7 hbod hr5 hsee hx5 s5 hD5 hE5 gb7 t1 d2 lg li hin
                cases hdb : diedTo DD ⟨n, m.c.d, bd⟩ q with
                | true =>
                  rw [hdb] at hsucc
                  go_wp2_with fail
                  refine wp_region_over (by kernel_rfl) (by kernel_rfl) ?_
                  repeat (go_big_quiet_step (fail))
                  refine wpQuiet_nil ?_
                  rintro _ ⟨x8, rfl⟩
                  have hov := hb.trans ((over_below wr x8).mono hb.size)
                  generalize over wr x8 = w8 at *
                  go_wp2
                  exact ⟨⟨q + 1, by omega, by rw [hsucc.out]; rfl, by simp, hov⟩, by simp [intOf]; omega⟩
                | false =>
                  rw [hdb] at hsucc
                  obtain ⟨qo, qt, qb⟩ := dq
                  simp only [Bool.false_or] at d0 d1 d2' hsucc
                  obtain ⟨v, hv⟩ : ∃ v, Hid (diedTo DD ⟨n, m.c.d, bd⟩ (q + 1) = v) := ⟨_, hide rfl⟩
                  rcases Decidable.em (qo = (n : Int)) with h1 | h1
                  · rcases Decidable.em (qt = m.c.d) with h2 | h2
                    · rcases Decidable.em (qb = bd) with h3 | h3
                      · subst h1
                        subst h3
                        rw [h2] at d1
                        have hq3 : (qb.toList == qb.toList) = true := by simp
                        have hval : v = true := by rw [← hv.out, hsucc.out]; simp [h2]
                        subst hval
                        clear hsucc
                        go_wp2_with fail
                        refine wp_region_over (by kernel_rfl) (by kernel_rfl) ?_
                        repeat (go_big_quiet_step (fail))
                        refine wpQuiet_nil ?_
                        rintro _ ⟨x8, rfl⟩
                        have hov := hb.trans ((over_below wr x8).mono hb.size)
                        generalize over wr x8 = w8 at *
                        go_wp2
                        exact ⟨⟨q + 1, by omega, by rw [hv.out], by simp, hov⟩, by simp [intOf]; omega⟩
                      · subst h1
                        rw [h2] at d1
                        have hq3 : (qb.toList == bd.toList) = false := by rw [strEq]; simp [h3]
                        have hval : v = false := by rw [← hv.out, hsucc.out]; simp [h3]
                        subst hval
                        clear hsucc
                        go_wp2_with fail
                        refine wp_region_over (by kernel_rfl) (by kernel_rfl) ?_
                        repeat (go_big_quiet_step (fail))
                        refine wpQuiet_nil ?_
                        rintro _ ⟨x8, rfl⟩
                        have hov := hb.trans ((over_below wr x8).mono hb.size)
                        generalize over wr x8 = w8 at *
                        go_wp2
                        exact ⟨⟨q + 1, by omega, by rw [hv.out], by simp, hov⟩, by simp [intOf]; omega⟩
                    · subst h1
                      have hval : v = false := by rw [← hv.out, hsucc.out]; simp [h2]
                      subst hval
                      clear hsucc
                      go_wp2_with fail
                      refine wp_region_over (by kernel_rfl) (by kernel_rfl) ?_
                      repeat (go_big_quiet_step (fail))
                      refine wpQuiet_nil ?_
                      rintro _ ⟨x8, rfl⟩
                      have hov := hb.trans ((over_below wr x8).mono hb.size)
                      generalize over wr x8 = w8 at *
                      go_wp2
                      exact ⟨⟨q + 1, by omega, by rw [hv.out], by simp, hov⟩, by simp [intOf]; omega⟩
                  · have hval : v = false := by rw [← hv.out, hsucc.out]; simp [h1]
                    subst hval
                    clear hsucc
                    go_wp2_with fail
                    refine wp_region_over (by kernel_rfl) (by kernel_rfl) ?_
                    repeat (go_big_quiet_step (fail))
                    refine wpQuiet_nil ?_
                    rintro _ ⟨x8, rfl⟩
                    have hov := hb.trans ((over_below wr x8).mono hb.size)
                    generalize over wr x8 = w8 at *
                    go_wp2
                    exact ⟨⟨q + 1, by omega, by rw [hv.out], by simp, hov⟩, by simp [intOf]; omega⟩
              · have hr7 := hr5.step gb7 (fun _ _ h => h)
                have hx7 := hX.step hx5 gb7 (fun _ _ h => h)
                have hD7 := hD5.step gb7 (fun h => h)
                have hE7 := hE5.step gb7 (fun h => h)
                have A7 := A.step gb7 (fun _ _ h => h)
                have s7 := s5.trans (gb7.mono (fun _ h => h.elim))
                have hq' : q = DD.length := by omega
                have hq'' := hin.out
                rw [← hq'] at hq''
                rw [hq'']
                have hsee7 := A7.see
                have t0 := hsee7.cell (seenVals_at _ n y hmix).1
                have t1' := hsee7.cell (seenVals_at _ n y hmix).2.1
                have et : y.tries = m.c.d := by rw [e1]; exact e5
                rw [et] at t0
                have lb := A7.lb
                have lg7 := A7.lg
                have li7 := hsee7.lt
                have c2 := A7.c2
                have c11 := A7.c11
                have d1 := A7.d1
                have d2' := A7.d2
                have z11 := A7.fb 11
                have z1 := hsee7.frozen (n * 4 + 1)
                have nei : gi ≠ b := fun e => by have := hsee7.2 gi rfl; rw [e, A7.tb] at this; simp at this
                obtain ⟨hr8, s8⟩ := hr7.flag 11 (by simp)
                have d28 := (s8.cell (p := ⟨gb, k * 4 + 2, none⟩) lg7 (by rw [A7.tg]; simp)).trans d2'
                obtain ⟨hr9, s9⟩ := hr8.seen (k := k) (j := n * 4 + 1) (v := .bool true) (u' := mixI g.items (U k) (n + 1)) hg d28 (by omega) (by
                  have hy' : { y with done := x.done } = x := by rw [e1]
                  rw [updF_same, mixI_succ _ _ n x hul hxn, ← f1, (seenVals_set _ n y hmix).2.1 x.done, hy'])
                rw [updF_twice] at hr9
                have gdr := step_below (fun _ => False) T5 (Below.refl ((wr.setCell ⟨b, 11, none⟩ (.bool true)).setCell ⟨gi, n * 4 + 1, none⟩ (.bool true)).heap.size ((wr.setCell ⟨b, 11, none⟩ (.bool true)).setCell ⟨gi, n * 4 + 1, none⟩ (.bool true))).drew
                replace hr9 := hr9.step gdr (fun _ _ h => h)
                have hx9 := hX.step (hX.step (hX.step hx7 s8 xt_run) s9 (by rintro t h rfl; exact absurd h.1 (by simp))) gdr (fun _ _ h => h)
                have hD9 := ((hD7.step s8 (by simp)).step s9 (by simp)).step gdr (fun h => h)
                have hE9 := ((hE7.step s8 (by simp)).step s9 (by simp)).step gdr (fun h => h)
                have s09 := (s7.trans (s8.mono (fun _ h => rt_run i h))).trans ((s9.mono (fun _ h => .inr (rt_rseen i k h))).trans (gdr.mono (fun _ h => h.elim)))
                have f5 : decide (g.start ≤ (n : Int)) = true := by simpa using e6
                have P := hide (And.intro s09 (And.intro hx9 (And.intro hr9 (And.intro hD9 hE9))))
                clear s09 hx9 hr9 hD9 hE9 gdr s8 s9 hr7 hx7 hD7 hE7 A7 s7 hr8 d28 hsee7 hr5 hx5 hD5 hE5 A gb7 hsee t1 hmix e1 et hyn e5 hq' hq'' hin
                go_wp2_with fail
                refine wp_region_tail 37 (by kernel_rfl) (by kernel_rfl) ?_
                simp only [List.take_succ_cons, List.take_zero, List.drop_succ_cons, List.drop_zero]
                repeat (go_big_quiet_step (fail))
                refine wpQuiet_nil ?_
                go_wp2
                exact ⟨⟨n + 1, T5, by omega, by simp, P.out⟩, by simp [intOf]; omega⟩
        · have d2 := A.d2
          have lg := A.lg
          have e : n = m.bodies.length := by omega
          have hr6 : RunG wr T5 i b bx gb gc m (mixU m U (k + 1)) L := by
            rw [← mixU_succ, itemsOf_at hg]
            rw [e, ← hlen, mixI_all _ _ hsim.1] at hr5
            exact hr5
          clear A hr5
          go_wp2
          exact ⟨⟨k + 1, T5, by omega, by simp, s5, hx5, hr6⟩, by simp [intOf]; omega⟩
    · obtain ⟨c7, lb⟩ := hr1.len
      go_wp2
      go_end0
      exact ⟨rfl, T1, s1, hx1, hr1.congr rfl rfl rfl rfl rfl (fun j hj => by simp [mixU, show j < k by omega]) (fun _ _ => rfl)⟩

end Go.Proofs.YtockkceclkcgbaaGreatDoor

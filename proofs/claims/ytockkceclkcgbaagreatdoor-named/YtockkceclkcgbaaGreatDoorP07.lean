/- The contract of a run's nack. -/
import Derived.Test.YtockkceclkcgbaaGreatDoorP06
import Derived.Test.YtockkceclkcgbaaGreatDoorP05
import Derived.Test.YtockkceclkcgbaaGreatDoorP04
import Derived.Test.YtockkceclkcgbaaGreatDoorP01
import Derived.Deep.RegionHeld3
namespace Go.Proofs.YtockkceclkcgbaaGreatDoor
open Go.RowKit

/-- what a nack leaves -/
def nackI (m : MQ) (x : It) (d : Int) : It := { x with till := 0, after := m.time + d }
def rnackM (m : MQ) (k : Nat) (g : MG) (l : List Nat) (n d : Int) : MQ :=
  bif decide (leasedR m.time g.items l n < 0) then m else m.setI k (leasedR m.time g.items l n).toNat (nackI m (g.items.getD (leasedR m.time g.items l n).toNat It.zero) d)

theorem setI_names2 {m : MQ} {k a : Nat} {y : It} : (m.setI k a y).groups.map (fun g => (g.name, g.start)) = m.groups.map (fun g => (g.name, g.start)) := by
  apply List.ext_getElem?
  intro j
  simp only [List.getElem?_map, setI_group, Option.map_map]
  cases m.groups[j]? with
  | none => rfl
  | some g => by_cases h : k = j <;> simp [h]
theorem setI_itemsOf {m : MQ} {k a : Nat} {y : It} {g : MG} (hg : m.groups[k]? = some g) (j : Nat) : itemsOf (m.setI k a y) j = if j = k then g.items.set a y else itemsOf m j := by
  unfold itemsOf
  rw [setI_group]
  by_cases h : j = k
  · subst h
    simp [hg]
  · have h' : ¬ k = j := fun e => h e.symm
    cases m.groups[j]? <;> simp [h, h']

attribute [local go_sem] over_cell

set_option maxRecDepth 100000 in
set_option maxHeartbeats 8000000 in
theorem rnack_any {G : Type} {X : World → (Nat → Tag) → Nat → Nat → MQ → G → Prop} {F : GF G} {B Bm : Int} (hX : XL X F Bm) (hle : B ≤ Bm) (i b bx gb gc : Nat) (m : MQ) (L : Nat → List Nat) (k : Nat) (g : MG) (n d : Int) (w : World) (T : Nat → Tag) {gh : G} (hx : X w T i bx m gh) (hf : m.Fit B) (hr : RunG w T i b bx gb gc m (itemsOf m) L) (hq : NiceQ m L) (hg : m.groups[k]? = some g) (h0 : -9223372036854775808 ≤ n) (h1 : n ≤ 9223372036854775807) (hd0 : 0 ≤ d) (hd1 : d ≤ 60000) :
    Calls Tryz.prog 75 #[.pointer (some ⟨b, 0, none⟩), .int .i64 k, .int .i64 n, .int .i64 d] w fun e w' => e = .returned (.tuple #[]) ∧
      ∃ T', Step (UT i) w T w' T' ∧ X w' T' i bx (rnackM m k g (L k) n d) gh ∧ RunG w' T' i b bx gb gc (rnackM m k g (L k) n d) (itemsOf (rnackM m k g (L k) n d)) L ∧ (rnackM m k g (L k) n d).Fit B ∧ NiceQ (rnackM m k g (L k) n d) L := by
  have hsm := hr.small
  have hfew := hr.few
  have hkl := (List.getElem?_eq_some_iff.1 hg).1
  have hat := at_name hq.named hfew hg
  have hnm := hq.named k g hg
  have hG := hq.grp k g hg
  have hlen := hf.ok.len g (List.mem_of_getElem? hg)
  have hgood := good_all hf.ok.good
  have hL4 : (L k).length ≤ 4000 := by rw [hG.sum]; exact hG.items.sum hgood.2.1.2 (by omega)
  obtain ⟨bo, bc, so, sc, lo, lc, A⟩ := hr.at hg
  have c7 := A.c7
  have lb := A.lb
  have hls := rleased_any i b bx gb gc m L k g n w T hr hg hG hlen hL4 h0 h1
  go_enter Tryz.func75, Tryz.ntmps75
  go_wp2_with fail
  refine hls.mono ?_
  clear hls
  rintro e w1 ⟨rfl, hb1⟩
  have g1 := step_below (fun _ => False) T hb1
  have s1 : Step (UT i) w T w1 T := step_below _ T hb1
  replace hx := hX.step hx g1 (fun _ _ h => h)
  replace hr := hr.step g1 (fun _ _ h => h)
  replace A := A.step g1 (fun _ _ h => h)
  clear hb1 g1 c7 lb
  by_cases hneg : leasedR m.time g.items (L k) n < 0
  · have hM : rnackM m k g (L k) n d = m := by simp [rnackM, hneg]
    clear A
    go_wp2
    refine bodyPost_ret (results_none rfl _ _ _) rfl ?_
    rw [hM]
    exact ⟨rfl, T, s1, hx, hr, hf, hq⟩
  · obtain ⟨a, x, ea, hal, hxa, hdn, htl⟩ := leasedR_at hneg
    have hM : rnackM m k g (L k) n d = m.setI k a (nackI m x d) := by
      have e0 : ¬ ((a : Int) < 0) := by omega
      simp [rnackM, ea, e0, List.getD, hxa]
    have hE := leased_yes hat hg hG hal hxa hdn htl
    obtain ⟨hal1, hal2⟩ := hG.last a hal
    have hE1 : rangedE m (nameB k) a x.tries d 0 = 0 := by
      have hb : btw d 0 60000 = true := by simp [btw, hd0, hd1]
      simp [rangedE, hat, hb, hE]
    have hA1 : nackM m (nameB k) a x.tries d = m.setI k a (nackI m x d) := by simp [nackM, hE1, onLeased_ok hat hg hxa, nackI]
    have hfit : (m.setI k a (nackI m x d)).Fit B := by have := fit_nack hf (nameB k) a x.tries d; rw [hA1] at this; exact this
    have hnice : NiceQ (m.setI k a (nackI m x d)) L := nice_setI hq hg hxa (hG.items.done a x hxa) rfl (fun h => absurd h hdn) (fun h => absurd h hdn)
    have hg2 : (m.setI k a (nackI m x d)).groups[k]? = some { g with items := g.items.set a (nackI m x d) } := by rw [setI_group, hg]; simp
    have hat2 := at_name hnice.named (by rw [setI_len]; exact hfew) hg2
    have hxa2 : (g.items.set a (nackI m x d))[a]? = some (nackI m x d) := by simp [(List.getElem?_eq_some_iff.1 hxa).1]
    have htm := hf.ok.time
    have hE2 : leasedE (m.setI k a (nackI m x d)) (nameB k) a x.tries = 12 := by
      have h3 : ¬ (a : Int) < m.floor := fun h => hdn (hG.items.low a x hxa hal2 h)
      have h4 : ¬ (a : Int) < g.start := by omega
      have h5 : ¬ (m.bodies.length : Int) ≤ a := by omega
      have o : outside (m.setI k a (nackI m x d)) { g with items := g.items.set a (nackI m x d) } a = false := by simp [outside, MQ.setI, h3, h4, h5]
      have o2 : (nackI m x d).till ≤ (m.setI k a (nackI m x d)).time := htm.1
      simp [leasedE, hat2, hg2, o, notLeased, hxa2, o2]
    have hA2 : ackM (m.setI k a (nackI m x d)) (nameB k) a x.tries = m.setI k a (nackI m x d) := by simp [ackM, hE2]
    rw [ea]
    rw [itemsOf_at hg] at A
    have hsee := A.see
    obtain ⟨gi, _, e⟩ := row_some hsee (by omega)
    cases e
    have c0 := A.c0
    have d0 := A.d0
    have d2 := A.d2
    have t0 := hsee.cell (seenVals_at _ a x hxa).1
    have lb := A.lb
    have lg := A.lg
    have li := hsee.lt
    rw [hnm] at d0
    have gd1 := step_below (fun _ => False) T (Below.refl w1.heap.size w1).drew
    have hxd := hX.step hx gd1 (fun _ _ h => h)
    have hrd := hr.step gd1 (fun _ _ h => h)
    have Ad := A.step gd1 (fun _ _ h => h)
    have hcall := hX.nack i bx m (nameB k) a x.tries d _ _ hxd (hf.mono hle)
    rw [hE1, hA1] at hcall
    clear A hsee
    go_wp2_with fail
    go_region_held3 (fun w' => w'.cell? ⟨b, 0, none⟩ = some (.pointer (some ⟨bx, 0, none⟩)) ∧ w'.cell? ⟨gb, k * 4, none⟩ = some (.string (nameB k)) ∧ w'.cell? ⟨gb, k * 4 + 2, none⟩ = some (.slice (some ⟨gi, 0, none⟩) m.bodies.length sc) ∧ w'.cell? ⟨gi, a * 4, none⟩ = some (.int .i64 x.tries)) (go_keep) (first | (go_at_call 108; refine hcall.mono ?_; clear hcall; rintro e w2 ⟨rfl, T2, hs2, hx2⟩; have A2 := Ad.step hs2 (fun _ a c => xt_rt a c); have k0 := A2.c0; have j0 := A2.d0; have j2 := A2.d2; have j3 := A2.see.cell (seenVals_at _ a x hxa).1; rw [hnm] at j0))
    have hr2 := hrd.step hs2 (fun _ a c => xt_rt a c)
    have s2 : Step (UT i) w T w2 T2 := s1.trans ((gd1.mono (fun _ h => h.elim)).trans (hs2.mono (fun _ h => .inl h)))
    clear Ad hrd hxd gd1 hr hx hs2 c0 d0 d2 t0 lb lg li s1
    have lb := A2.lb
    have lg := A2.lg
    have li := A2.see.lt
    have gd2 := step_below (fun _ => False) T2 (Below.refl w2.heap.size w2).drew
    have hxd := hX.step hx2 gd2 (fun _ _ h => h)
    have hrd := hr2.step gd2 (fun _ _ h => h)
    have Ad := A2.step gd2 (fun _ _ h => h)
    have hcall := hX.ack i bx (m.setI k a (nackI m x d)) (nameB k) a x.tries _ _ hxd (hfit.mono hle)
    rw [hX.ackNo _ _ _ _ _ (by rw [hE2]; decide), hE2, hA2] at hcall
    clear A2
    go_wp2_with fail
    go_region_held3 (fun w' => w'.cell? ⟨b, 0, none⟩ = some (.pointer (some ⟨bx, 0, none⟩)) ∧ w'.cell? ⟨gb, k * 4, none⟩ = some (.string (nameB k)) ∧ w'.cell? ⟨gb, k * 4 + 2, none⟩ = some (.slice (some ⟨gi, 0, none⟩) m.bodies.length sc) ∧ w'.cell? ⟨gi, a * 4, none⟩ = some (.int .i64 x.tries)) (go_keep) (first | (go_at_call 59; refine hcall.mono ?_; clear hcall; rintro e w3 ⟨rfl, T3, hs3, hx3⟩; have A3 := Ad.step hs3 (fun _ a c => xt_rt a c); have l0 := A3.c0; have m0 := A3.d0; have m2 := A3.d2; have m3 := A3.see.cell (seenVals_at _ a x hxa).1; rw [hnm] at m0))
    have hr3 := hrd.step hs3 (fun _ a c => xt_rt a c)
    have s3 : Step (UT i) w T w3 T3 := s2.trans ((gd2.mono (fun _ h => h.elim)).trans (hs3.mono (fun _ h => .inl h)))
    clear Ad hrd hxd gd2 hr2 hx2 hs3 k0 j0 j2 j3 lb lg li s2 l0 m0 m3
    have lb := A3.lb
    have lg := A3.lg
    have li := A3.see.lt
    have c9 := A3.c9
    have z9 := A3.fb 9
    have t2 := A3.see.cell (seenVals_at _ a x hxa).2.2.1
    have t3 := A3.see.cell (seenVals_at _ a x hxa).2.2.2
    have z2 := A3.see.frozen (a * 4 + 2)
    have z3 := A3.see.frozen (a * 4 + 3)
    have c8 := A3.c8
    have nei : gi ≠ b := fun e => by have := A3.see.2 gi rfl; rw [e, A3.tb] at this; simp at this
    have neg : gi ≠ gb := fun e => by have := A3.see.2 gi rfl; rw [e, A3.tg] at this; simp at this
    obtain ⟨hr4, s4⟩ := hr3.flag 9 (by simp)
    have d24 := (s4.cell (p := ⟨gb, k * 4 + 2, none⟩) lg (by rw [A3.tg]; simp)).trans m2
    have lg4 := Nat.lt_of_lt_of_le lg s4.size
    have tg4 := (s4.tag gb lg).trans A3.tg
    obtain ⟨hr5, s5⟩ := hr4.seen (k := k) (j := a * 4 + 2) (v := .int .i64 0) (u' := g.items.set a { x with till := 0 }) hg d24 (by omega) (by rw [itemsOf_at hg]; exact (seenVals_set _ a x hxa).2.2.1 0)
    have d25 := (s5.cell (p := ⟨gb, k * 4 + 2, none⟩) lg4 (by rw [tg4]; simp)).trans d24
    have hxa5 : (g.items.set a { x with till := 0 })[a]? = some { x with till := 0 } := by simp [(List.getElem?_eq_some_iff.1 hxa).1]
    obtain ⟨hr6, s6⟩ := hr5.seen (k := k) (j := a * 4 + 3) (v := .int .i64 (m.time + d)) (u' := g.items.set a (nackI m x d)) hg d25 (by omega) (by rw [updF_same, (seenVals_set _ a _ hxa5).2.2.2 (m.time + d)]; simp [List.set_set, nackI])
    rw [updF_twice] at hr6
    have hx6 := hX.step (hX.step (hX.step hx3 s4 xt_run) s5 (by rintro t h rfl; exact absurd h.1 (by simp))) s6 (by rintro t h rfl; exact absurd h.1 (by simp))
    have s06 := ((s3.trans (s4.mono (fun _ h => rt_run i h))).trans (s5.mono (fun _ h => .inr (rt_rseen i k h)))).trans (s6.mono (fun _ h => .inr (rt_rseen i k h)))
    have hr7 : RunG _ T3 i b bx gb gc (m.setI k a (nackI m x d)) (itemsOf (m.setI k a (nackI m x d))) L := hr6.congr rfl rfl rfl rfl setI_names2 (fun j _ => by
      rw [setI_itemsOf hg]
      by_cases e : j = k
      · subst e; rw [updF_same, if_pos rfl]
      · rw [updF_other _ _ _ e, if_neg e]) (fun _ _ => rfl)
    have gdr := step_below (fun _ => False) T3 (Below.refl (((w3.setCell ⟨b, 9, none⟩ (.bool true)).setCell ⟨gi, a * 4 + 2, none⟩ (.int .i64 0)).setCell ⟨gi, a * 4 + 3, none⟩ (.int .i64 (m.time + d))).heap.size (((w3.setCell ⟨b, 9, none⟩ (.bool true)).setCell ⟨gi, a * 4 + 2, none⟩ (.int .i64 0)).setCell ⟨gi, a * 4 + 3, none⟩ (.int .i64 (m.time + d)))).drew
    have P := hide (And.intro (s06.trans (gdr.mono (fun _ h => h.elim))) (And.intro (hX.step hx6 gdr (fun _ _ h => h)) (And.intro (hr7.step gdr (fun _ _ h => h)) (And.intro hfit hnice))))
    have hw2 : IntKind.i64.wrap (m.time + d) = m.time + d := by rw [IntWalk.i64_left, IntWalk.wrap64_in _ ⟨by omega, by omega⟩]
    clear hr3 hr4 hr5 hr6 hr7 hx3 hx6 s3 s4 s5 s6 s06 A3 d24 d25 hfit hnice hE hE1 hE2 hA1 hA2 hg2 hxa2 hxa5 gdr tg4 lg4
    go_wp2_with fail
    refine wp_region_tail 13 (by kernel_rfl) (by kernel_rfl) ?_
    simp only [List.take_succ_cons, List.take_zero, List.drop_succ_cons, List.drop_zero]
    repeat (go_big_quiet_step (fail))
    refine wpQuiet_nil ?_
    go_wp2
    go_end0
    rw [hM]
    exact ⟨rfl, T3, P.out⟩

end Go.Proofs.YtockkceclkcgbaaGreatDoor

/- A run that is played, as one thing; the contract of its step at the kinds that Apart plays. -/
namespace Go.Proofs.YtockkceclkcgbaaGreatDoor
open Go.RowKit

/-- The run of number i in block b: its queue, what was seen, what holds of both. -/
def Play {Gh : Type} (X : World → (Nat → Tag) → Nat → Nat → MQ → Gh → Prop) (B : Int) (w : World) (T : Nat → Tag) (i b : Nat) (m : MQ) (L : Nat → List Nat) (gh : Gh) : Prop :=
  ∃ bx gb gc, X w T i bx m gh ∧ RunG w T i b bx gb gc m (itemsOf m) L ∧ m.Fit B ∧ NiceQ m L ∧ 0 < m.groups.length
theorem Play.step {Gh : Type} {X : World → (Nat → Tag) → Nat → Nat → MQ → Gh → Prop} {F : GF Gh} {B Bm : Int} (hX : XL X F Bm) {S : Tag → Prop} {w w' : World} {T T' : Nat → Tag} {i b : Nat} {m : MQ} {L : Nat → List Nat} {gh : Gh} (h : Play X B w T i b m L gh) (hs : Step S w T w' T') (hS : ∀ t, UT i t → ¬ S t) : Play X B w' T' i b m L gh := by
  obtain ⟨bx, gb, gc, hx, hr, hf, hq, hp⟩ := h
  exact ⟨bx, gb, gc, hX.step hx hs (fun t ht => hS t (.inl ht)), hr.step hs (fun t ht => hS t (.inr ht)), hf, hq, hp⟩
theorem Play.mono {Gh : Type} {X : World → (Nat → Tag) → Nat → Nat → MQ → Gh → Prop} {B B' : Int} {w : World} {T : Nat → Tag} {i b : Nat} {m : MQ} {L : Nat → List Nat} {gh : Gh} (h : Play X B w T i b m L gh) (hB : B ≤ B') : Play X B' w T i b m L gh := by
  obtain ⟨bx, gb, gc, hx, hr, hf, hq, hp⟩ := h
  exact ⟨bx, gb, gc, hx, hr, hf.mono hB, hq, hp⟩

theorem enqRun_rv (m : MQ) (L : Nat → List Nat) : enqRun m (m.rv L) = (menqM m (bodyN m.bodies.length)).rv L := by
  unfold enqRun menqM
  cases decide (menqE m (bodyN m.bodies.length) = 0)
  · rfl
  · simp only [cond_true]
    have e : (enqR (m.rv L) (bodyN m.bodies.length)).groups = (({ m with bodies := m.bodies ++ [bodyN m.bodies.length], groups := m.groups.map (fun g => { g with items := g.items ++ [It.zero] }), changes := wrap64 (m.changes + 1) } : MQ).rv L).groups := by
      apply List.ext_getElem?
      intro k
      unfold enqR MQ.rv
      simp only [List.getElem?_map, rvU_groups]
      cases hk : m.groups[k]? with
      | none => rfl
      | some g =>
        simp only [Option.map_some, growR]
        unfold itemsOf
        simp only [List.getElem?_map, hk, Option.map_some, seenVals_append]
        rfl
    unfold enqR MQ.rv MQ.rvU at e ⊢
    simp only at e
    simp only [List.map_append, List.map_cons, List.map_nil]
    rw [← e]

theorem menqM_glen (m : MQ) (s : ByteArray) : (menqM m s).groups.length = m.groups.length := by
  unfold menqM
  cases decide (menqE m s = 0) <;> simp

set_option maxHeartbeats 400000 in
theorem penq_any {Gh : Type} {X : World → (Nat → Tag) → Nat → Nat → MQ → Gh → Prop} {F : GF Gh} {B Bm : Int} (hX : XL X F Bm) (hle : B ≤ Bm) (i b : Nat) (m : MQ) (L : Nat → List Nat) {gh : Gh} (w : World) (T : Nat → Tag) (h : Play X B w T i b m L gh) :
    Calls Tryz.prog 73 #[.pointer (some ⟨b, 0, none⟩)] w fun e w' => e = .returned (.tuple #[]) ∧ ∃ T', Step (UT i) w T w' T' ∧ Play X B w' T' i b (menqM m (bodyN m.bodies.length)) L (F.enq m (bodyN m.bodies.length) gh) := by
  obtain ⟨bx, gb, gc, hx, hr, hf, hq, hp⟩ := h
  refine (renq_any hX hle i b bx m (m.rv L) w T hx hf hr.run rfl rfl rfl (by unfold MQ.rv; rw [rvU_blen])).mono ?_
  rintro e w' ⟨rfl, T', hs, hx', hr'⟩
  rw [enqRun_rv] at hr'
  obtain ⟨gb', gc', hr''⟩ := RunM.named hr' (by rw [menqM_glen]; exact hp)
  exact ⟨rfl, T', hs, bx, gb', gc', hx', hr'', fit_enq hf _, nice_enq hq hf, by rw [menqM_glen]; exact hp⟩

set_option maxHeartbeats 400000 in
theorem ptick_any {Gh : Type} {X : World → (Nat → Tag) → Nat → Nat → MQ → Gh → Prop} {F : GF Gh} {B Bm : Int} (hX : XL X F Bm) (hle : B ≤ Bm) (hlm : B ≤ 3999999999999940000) (i b : Nat) (m : MQ) (L : Nat → List Nat) (ms : Int) {gh : Gh} (w : World) (T : Nat → Tag) (h : Play X B w T i b m L gh) (h0 : 0 ≤ ms) (h1 : ms ≤ 60000) :
    Calls Tryz.prog 20 #[.pointer (some ⟨b, 0, none⟩), .int .i64 ms] w fun e w' => e = .returned (.tuple #[]) ∧ ∃ T', Step (UT i) w T w' T' ∧ Play X (B + 60000) w' T' i b (tickM m ms) L gh := by
  obtain ⟨bx, gb, gc, hx, hr, hf, hq, hp⟩ := h
  refine (rtick_any hX hle hlm i b bx m (m.rv L) ms w T hx hf hr.run rfl rfl h0 h1).mono ?_
  rintro e w' ⟨rfl, T', hs, hx', hr', hf'⟩
  have hb : btw ms 0 60000 = true := by simp [btw, h0, h1]
  have hM : tickM m ms = { m with time := m.time + ms } := by simp [tickM, hb]
  have hr2 : RunM w' T' i b bx ((tickM m ms).rv L) := by rw [hM]; exact hr'
  obtain ⟨gb', gc', hr''⟩ := RunM.named hr2 (by rw [hM]; exact hp)
  exact ⟨rfl, T', hs, bx, gb', gc', hx', hr'', hf', by rw [hM]; exact nice_time hq, by rw [hM]; exact hp⟩

theorem precv_any {Gh : Type} {X : World → (Nat → Tag) → Nat → Nat → MQ → Gh → Prop} {F : GF Gh} {B Bm : Int} (hX : XL X F Bm) (hle : B ≤ Bm) (i b : Nat) (m : MQ) (L : Nat → List Nat) (k : Nat) (g : MG) (n : Int) {gh : Gh} (w : World) (T : Nat → Tag) (h : Play X B w T i b m L gh) (hg : m.groups[k]? = some g) (h1 : 1 ≤ n) (h2 : n ≤ 32) :
    Calls Tryz.prog 21 #[.pointer (some ⟨b, 0, none⟩), .int .i64 k, .int .i64 n] w fun e w' => e = .returned (.int .i64 (recvAll m g n).out.length) ∧ ∃ T', Step (UT i) w T w' T' ∧ Play X B w' T' i b (m.setG k (recvAll m g n)) (updF L k (L k ++ offs (recvAll m g n).out)) (F.recv m (nameB k) n gh) := by
  obtain ⟨bx, gb, gc, hx, hr, hf, hq, hp⟩ := h
  refine (rrecv_any hX hle i b bx gb gc m L k g n w T hx hf hr hq hg h1 h2).mono ?_
  rintro e w' ⟨rfl, T', hs, hx', hr'⟩
  have hat := at_name hq.named hr.few hg
  have eM := (recvM_at hat hg h1 h2).1
  have hf' : (m.setG k (recvAll m g n)).Fit B := by have := fit_recv hf (nameB k) n; rw [eM] at this; exact this
  exact ⟨rfl, T', hs, bx, gb, gc, hx', hr', hf', nice_recv hq hf hg, by rw [setG_glen]; exact hp⟩

theorem rackM_glen (m : MQ) (k : Nat) (g : MG) (l : List Nat) (n : Int) : (rackM m k g l n).groups.length = m.groups.length := by
  unfold rackM
  cases decide (leasedR m.time g.items l n < 0)
  · exact setI_len
  · rfl
theorem rnackM_glen (m : MQ) (k : Nat) (g : MG) (l : List Nat) (n d : Int) : (rnackM m k g l n d).groups.length = m.groups.length := by
  unfold rnackM
  cases decide (leasedR m.time g.items l n < 0)
  · exact setI_len
  · rfl
theorem pack_any {Gh : Type} {X : World → (Nat → Tag) → Nat → Nat → MQ → Gh → Prop} {F : GF Gh} {B Bm : Int} (hX : XL X F Bm) (hle : B ≤ Bm) (i b : Nat) (m : MQ) (L : Nat → List Nat) (k : Nat) (g : MG) (n : Int) {gh : Gh} (w : World) (T : Nat → Tag) (h : Play X B w T i b m L gh) (hg : m.groups[k]? = some g) (h0 : -9223372036854775808 ≤ n) (h1 : n ≤ 9223372036854775807) :
    Calls Tryz.prog 22 #[.pointer (some ⟨b, 0, none⟩), .int .i64 k, .int .i64 n] w fun e w' => e = .returned (.tuple #[]) ∧ ∃ T', Step (UT i) w T w' T' ∧ Play X B w' T' i b (rackM m k g (L k) n) L (rackF F m k g (L k) n gh) := by
  obtain ⟨bx, gb, gc, hx, hr, hf, hq, hp⟩ := h
  refine (rack_any hX hle i b bx gb gc m L k g n w T hx hf hr hq hg h0 h1).mono ?_
  rintro e w' ⟨rfl, T', hs, hx', hr', hf', hq'⟩
  exact ⟨rfl, T', hs, bx, gb, gc, hx', hr', hf', hq', by rw [rackM_glen]; exact hp⟩
theorem pnack_any {Gh : Type} {X : World → (Nat → Tag) → Nat → Nat → MQ → Gh → Prop} {F : GF Gh} {B Bm : Int} (hX : XL X F Bm) (hle : B ≤ Bm) (i b : Nat) (m : MQ) (L : Nat → List Nat) (k : Nat) (g : MG) (n d : Int) {gh : Gh} (w : World) (T : Nat → Tag) (h : Play X B w T i b m L gh) (hg : m.groups[k]? = some g) (h0 : -9223372036854775808 ≤ n) (h1 : n ≤ 9223372036854775807) (hd0 : 0 ≤ d) (hd1 : d ≤ 60000) :
    Calls Tryz.prog 75 #[.pointer (some ⟨b, 0, none⟩), .int .i64 k, .int .i64 n, .int .i64 d] w fun e w' => e = .returned (.tuple #[]) ∧ ∃ T', Step (UT i) w T w' T' ∧ Play X B w' T' i b (rnackM m k g (L k) n d) L gh := by
  obtain ⟨bx, gb, gc, hx, hr, hf, hq, hp⟩ := h
  refine (rnack_any hX hle i b bx gb gc m L k g n d w T hx hf hr hq hg h0 h1 hd0 hd1).mono ?_
  rintro e w' ⟨rfl, T', hs, hx', hr', hf', hq'⟩
  exact ⟨rfl, T', hs, bx, gb, gc, hx', hr', hf', hq', by rw [rnackM_glen]; exact hp⟩

/-- what a step leaves: kinds 1, 3, 4, 5, 6 -/
def stepQ (kind n ms : Int) (k : Nat) (g : MG) (m : MQ) (L : Nat → List Nat) : MQ :=
  if kind = 1 then menqM m (bodyN m.bodies.length) else if kind = 3 then m.setG k (recvAll m g (1 + pickQ n 32)) else if kind = 4 then rackM m k g (L k) n else if kind = 5 then rnackM m k g (L k) n (pickQ ms 100) else tickM m (pickQ n 50)
def stepL (kind n : Int) (k : Nat) (g : MG) (m : MQ) (L : Nat → List Nat) : Nat → List Nat :=
  if kind = 3 then updF L k (L k ++ offs (recvAll m g (1 + pickQ n 32)).out) else L
def stepF {Gh : Type} (F : GF Gh) (kind n : Int) (k : Nat) (g : MG) (m : MQ) (L : Nat → List Nat) (gh : Gh) : Gh :=
  if kind = 1 then F.enq m (bodyN m.bodies.length) gh else if kind = 3 then F.recv m (nameB k) (1 + pickQ n 32) gh else if kind = 4 then rackF F m k g (L k) n gh else gh

attribute [local go_sem] over_cell

set_option maxRecDepth 100000 in
set_option maxHeartbeats 4000000 in
theorem pstep_any {Gh : Type} {X : World → (Nat → Tag) → Nat → Nat → MQ → Gh → Prop} {F : GF Gh} {B Bm : Int} (hX : XL X F Bm) (hle : B + 60000 ≤ Bm) (hlm : B ≤ 3999999999999940000) (i b : Nat) (m : MQ) (L : Nat → List Nat) (kind G n ms : Int) (k : Nat) (g : MG) {gh : Gh} (w : World) (T : Nat → Tag) (h : Play X B w T i b m L gh) (hg : m.groups[k]? = some g) (hk : pickQ G m.groups.length = k) (hK : kind = 1 ∨ kind = 3 ∨ kind = 4 ∨ kind = 5 ∨ kind = 6) (hG : i64 G) (hn : i64 n) (hms : i64 ms) :
    Calls Tryz.prog 34 #[.pointer (some ⟨b, 0, none⟩), .agg #[.int .i64 kind, .int .i64 G, .int .i64 n, .int .i64 ms]] w fun e w' => e = .returned (.tuple #[]) ∧ ∃ T', Step (UT i) w T w' T' ∧ Play X (B + 60000) w' T' i b (stepQ kind n ms k g m L) (stepL kind n k g m L) (stepF F kind n k g m L gh) := by
  have hle' : B ≤ Bm := by omega
  have s1 := step_new w T (.cells #[.int .i64 kind, .int .i64 G, .int .i64 n, .int .i64 ms] 85) .free (fun _ => False)
  have hO := blk_new w T #[.int .i64 kind, .int .i64 G, .int .i64 n, .int .i64 ms] 85 .free
  have h1 := h.step hX s1 (fun _ _ h => h)
  have hpos : 0 < m.groups.length := by obtain ⟨_, _, _, _, _, _, _, hp⟩ := h; exact hp
  have h6 : m.groups.length ≤ 6 := by obtain ⟨_, _, _, _, hr, _⟩ := h; exact hr.few
  have hpk := fun w1 => (pickk_same G m.groups.length w1 hG.1 hG.2 (by omega) (by omega)).mono (fun e w' (h : _ ∧ w' = w1) => (⟨h.1, by rw [h.2]; exact Below.refl _ _⟩ : e = .returned (.int .i64 (pickQ G m.groups.length)) ∧ Below w1.heap.size w1 w'))
  rw [hk] at hpk
  go_enter Tryz.func34, Tryz.ntmps34
  go_wp2_with fail
  generalize retag T w.heap.size .free = T1 at *
  generalize w.alloc (.cells #[.int .i64 kind, .int .i64 G, .int .i64 n, .int .i64 ms] 85) = w1 at *
  generalize w.heap.size = ob at hO ⊢
  obtain ⟨bx, gb, gc, hx, hr, hf, hq, hp⟩ := id h1
  obtain ⟨c7, lb⟩ := hr.len
  have q1 := hO.cell (j := 1) rfl
  simp only [List.getElem_toArray, List.getElem_cons_succ, List.getElem_cons_zero] at q1
  have lO := hO.lt
  clear hx hr hf hq hp
  refine wp_region_over (by kernel_rfl) (by kernel_rfl) ?_
  repeat (go_big_quiet_step ((go_at_call 33; exact quiet_over hpk)))
  refine wpQuiet_nil ?_
  rintro _ ⟨x2, rfl⟩
  have g2 := step_below (fun _ => False) T1 (over_below w1 x2)
  generalize over w1 x2 = w2 at *
  have h2 := h1.step hX g2 (fun _ _ h => h)
  have hO2 := hO.step g2 (fun h => h)
  have s2 : Step (UT i) w T w2 T1 := (s1.trans g2).mono (fun _ h => h.elim)
  clear h1 hO s1 g2 q1 lO lb c7 hpk h
  have q0 := hO2.cell (j := 0) rfl
  have q2 := hO2.cell (j := 2) rfl
  have q3 := hO2.cell (j := 3) rfl
  simp only [List.getElem_toArray, List.getElem_cons_succ, List.getElem_cons_zero] at q0 q2 q3
  have lO := hO2.lt
  have ob32 := fun w1 => pickk_same n 32 w1 hn.1 hn.2 (by decide) (by decide)
  have r32 := pickQ_range n 32 (by decide)
  have ob50 := fun w1 => pickk_same n 50 w1 hn.1 hn.2 (by decide) (by decide)
  have r50 := pickQ_range n 50 (by decide)
  have ob100 := fun w1 => pickk_same ms 100 w1 hms.1 hms.2 (by decide) (by decide)
  have r100 := pickQ_range ms 100 (by decide)
  rcases hK with rfl | rfl | rfl | rfl | rfl
  · go_wp2_with fail
    refine (penq_any hX hle' i b m L w2 T1 h2).mono ?_
    rintro e w3 ⟨rfl, T3, s3, h3⟩
    go_wp2
    go_end0
    exact ⟨rfl, T3, s2.trans s3, h3.mono (by omega)⟩
  · go_wp2_with fail
    refine (ob32 _).mono ?_
    rintro e w3 ⟨rfl, rfl⟩
    have hpr := precv_any hX hle' i b m L k g (1 + pickQ n 32) _ T1 h2 hg (by omega) (by omega)
    have eQ : stepQ 3 n ms k g m L = m.setG k (recvAll m g (1 + pickQ n 32)) := by simp [stepQ]
    have eL : stepL 3 n k g m L = updF L k (L k ++ offs (recvAll m g (1 + pickQ n 32)).out) := by simp [stepL]
    have eF : stepF F 3 n k g m L gh = F.recv m (nameB k) (1 + pickQ n 32) gh := by simp [stepF]
    generalize pickQ n 32 = p32 at *
    go_wp2_with fail
    refine hpr.mono ?_
    clear hpr
    rintro e w4 ⟨rfl, T3, s3, h3⟩
    go_wp2
    go_end0
    rw [eQ, eL, eF]
    exact ⟨rfl, T3, s2.trans s3, h3.mono (by omega)⟩
  · go_wp2_with fail
    refine (pack_any hX hle' i b m L k g n w2 T1 h2 hg hn.1 hn.2).mono ?_
    rintro e w3 ⟨rfl, T3, s3, h3⟩
    go_wp2
    go_end0
    exact ⟨rfl, T3, s2.trans s3, h3.mono (by omega)⟩
  · have eQ : stepQ 5 n ms k g m L = rnackM m k g (L k) n (pickQ ms 100) := by simp [stepQ]
    have eL : stepL 5 n k g m L = L := by simp [stepL]
    have eF : stepF F 5 n k g m L gh = gh := by simp [stepF]
    have gdr := step_below (fun _ => False) T1 (Below.refl w2.heap.size w2).drew
    have hpn := pnack_any hX hle' i b m L k g n (pickQ ms 100) _ T1 (h2.step hX gdr (fun _ _ h => h)) hg hn.1 hn.2 (by omega) (by omega)
    generalize pickQ ms 100 = p100 at *
    go_wp2_with fail
    go_region_held3 (fun w' => w'.cell? ⟨ob, 2, none⟩ = some (.int .i64 n) ∧ w'.cell? ⟨ob, 3, none⟩ = some (.int .i64 ms)) (go_keep) (first | (go_at_call 33; refine (ob100 _).mono ?_; rintro e w3 ⟨rfl, rfl⟩) | (go_at_call 75; refine hpn.mono ?_; clear hpn; rintro e w3 ⟨rfl, T3, s3, h3⟩; have k2 := ((hO2.step gdr (fun h => h)).step s3 (by simp [UT, XT, RT])).cell (j := 2) rfl; have k3 := ((hO2.step gdr (fun h => h)).step s3 (by simp [UT, XT, RT])).cell (j := 3) rfl; simp only [List.getElem_toArray, List.getElem_cons_succ, List.getElem_cons_zero] at k2 k3))
    all_goals
      go_wp2
      go_end0
      rw [eQ, eL, eF]
      exact ⟨rfl, T3, s2.trans ((gdr.mono (fun _ h => h.elim)).trans s3), h3.mono (by omega)⟩
  · go_wp2_with fail
    refine (ob50 _).mono ?_
    rintro e w3 ⟨rfl, rfl⟩
    have hpt := ptick_any hX hle' hlm i b m L (pickQ n 50) _ T1 h2 (by omega) (by omega)
    have eQ : stepQ 6 n ms k g m L = tickM m (pickQ n 50) := by simp [stepQ]
    have eL : stepL 6 n k g m L = L := by simp [stepL]
    have eF : stepF F 6 n k g m L gh = gh := by simp [stepF]
    generalize pickQ n 50 = p50 at *
    go_wp2_with fail
    refine hpt.mono ?_
    clear hpt
    rintro e w4 ⟨rfl, T3, s3, h3⟩
    go_wp2
    go_end0
    rw [eQ, eL, eF]
    exact ⟨rfl, T3, s2.trans s3, h3⟩

end Go.Proofs.YtockkceclkcgbaaGreatDoor

/- Contracts of raw and made: a configuration out of raw numbers. -/
namespace Go.Proofs.YtockkceclkcgbaaGreatDoor
open Go.RowKit

/-- a list of numbers among the arguments -/
def ArgI (w : World) (ao : Option Addr) (l : List Int) : Prop := ∀ k v, l[k]? = some v → i64 v ∧ ∃ b off, ao = some ⟨b, off, none⟩ ∧ b < w.heap.size ∧ w.cell? ⟨b, off + k, none⟩ = some (.int .i64 v)
theorem ArgI.below {w w' : World} {ao : Option Addr} {l : List Int} (h : ArgI w ao l) (hb : Below w.heap.size w w') : ArgI w' ao l := by
  intro k v hk
  obtain ⟨h1, b, off, rfl, hlt, hc⟩ := h k v hk
  exact ⟨h1, b, off, rfl, Nat.lt_of_lt_of_le hlt hb.size, (hb.cell (p := ⟨b, off + k, none⟩) hlt).trans hc⟩
def rawI (l : List Int) (k : Nat) : Int := l.getD k 0
theorem rawI_in {w : World} {ao : Option Addr} {l : List Int} (h : ArgI w ao l) (k : Nat) : -9223372036854775808 ≤ rawI l k ∧ rawI l k ≤ 9223372036854775807 := by
  unfold rawI List.getD
  cases hk : l[k]? with
  | none => simp
  | some v => exact (h k v hk).1
def madeC (l : List Int) : Conf := ⟨1 + pickQ (rawI l 0) 30, 1 + pickQ (rawI l 1) 4, 1 + pickQ (rawI l 2) 5, 1 + pickQ (rawI l 2) 5 + pickQ (rawI l 3) 30⟩
theorem madeC_good (l : List Int) : goodC (madeC l) = true := by
  have h0 := pickQ_range (rawI l 0) 30 (by decide)
  have h1 := pickQ_range (rawI l 1) 4 (by decide)
  have h2 := pickQ_range (rawI l 2) 5 (by decide)
  have h3 := pickQ_range (rawI l 3) 30 (by decide)
  unfold goodC madeC
  generalize pickQ (rawI l 0) 30 = a0 at *
  generalize pickQ (rawI l 1) 4 = a1 at *
  generalize pickQ (rawI l 2) 5 = a2 at *
  generalize pickQ (rawI l 3) 30 = a3 at *
  have e1 : btw (1 + a0) 1 60000 = true := by simp only [btw, decide_eq_true_eq]; omega
  have e2 : btw (1 + a1) 1 10 = true := by simp only [btw, decide_eq_true_eq]; omega
  have e3 : btw (1 + a2) 1 16 = true := by simp only [btw, decide_eq_true_eq]; omega
  have e4 : btw (1 + a2 + a3) (1 + a2) 100 = true := by simp only [btw, decide_eq_true_eq]; omega
  rw [e1, e2, e3, e4]
  rfl

set_option maxRecDepth 100000 in
set_option maxHeartbeats 1000000 in
theorem raw_any (l : List Int) (ao : Option Addr) (cap : Nat) (k : Nat) (w : World) (h : ArgI w ao l) (_hk : k < 4) (_hl : l.length ≤ 9223372036854775807) : Calls Tryz.prog 77 #[.slice ao l.length cap, .int .i64 k] w fun e w' => e = .returned (.int .i64 (rawI l k)) ∧ w' = w := by
  by_cases hlt : k < l.length
  · obtain ⟨v, hv⟩ : ∃ v, l[k]? = some v := ⟨_, List.getElem?_eq_getElem hlt⟩
    obtain ⟨_, b, off, rfl, _, hc⟩ := h k v hv
    have hR : rawI l k = v := by simp [rawI, List.getD, hv]
    rw [hR]
    go_enter Tryz.func77, Tryz.ntmps77
    go_wp2
    go_ret
    exact ⟨rfl, rfl⟩
  · have hR : rawI l k = 0 := by simp [rawI, List.getD, List.getElem?_eq_none (Nat.le_of_not_lt hlt)]
    rw [hR]
    go_enter Tryz.func77, Tryz.ntmps77
    go_wp2
    go_ret
    exact ⟨rfl, rfl⟩

set_option maxRecDepth 100000 in
set_option maxHeartbeats 2000000 in
theorem made_any (l : List Int) (ao : Option Addr) (cap : Nat) (w : World) (h : ArgI w ao l) (hl : l.length ≤ 9223372036854775807) : Calls Tryz.prog 37 #[.slice ao l.length cap] w fun e w' => e = .returned (.agg (madeC l).cells) ∧ Below w.heap.size w w' := by
  have h0 := rawI_in h 0
  have h1 := rawI_in h 1
  have h2 := rawI_in h 2
  have h3 := rawI_in h 3
  have p0 := pickQ_range (rawI l 0) 30 (by decide)
  have p1 := pickQ_range (rawI l 1) 4 (by decide)
  have p2 := pickQ_range (rawI l 2) 5 (by decide)
  have p3 := pickQ_range (rawI l 3) 30 (by decide)
  have hb1 : Below w.heap.size w (w.alloc (.cells #[.int .i64 0, .int .i64 0, .int .i64 0, .int .i64 0] 23)) := (Below.refl _ _).alloc (Nat.le_refl _) _
  have ha := h.below hb1
  have r0 := raw_any l ao cap 0 _ ha (by decide) hl
  have r1 := raw_any l ao cap 1 _ ha (by decide) hl
  have r2 := raw_any l ao cap 2 _ ha (by decide) hl
  have k0 := fun w1 => pickk_same (rawI l 0) 30 w1 h0.1 h0.2 (by decide) (by decide)
  have k1 := fun w1 => pickk_same (rawI l 1) 4 w1 h1.1 h1.2 (by decide) (by decide)
  have k2 := fun w1 => pickk_same (rawI l 2) 5 w1 h2.1 h2.2 (by decide) (by decide)
  have k3 := fun w1 => pickk_same (rawI l 3) 30 w1 h3.1 h3.2 (by decide) (by decide)
  have hC : madeC l = ⟨1 + pickQ (rawI l 0) 30, 1 + pickQ (rawI l 1) 4, 1 + pickQ (rawI l 2) 5, 1 + pickQ (rawI l 2) 5 + pickQ (rawI l 3) 30⟩ := rfl
  rw [hC]
  clear hC h0 h1 h2 h3
  generalize pickQ (rawI l 0) 30 = a0 at *
  generalize pickQ (rawI l 1) 4 = a1 at *
  generalize pickQ (rawI l 2) 5 = a2 at *
  generalize pickQ (rawI l 3) 30 = a3 at *
  go_enter Tryz.func37, Tryz.ntmps37
  go_wp2_with fail
  refine r0.mono ?_
  rintro e w1 ⟨rfl, rfl⟩
  go_wp2_with fail
  refine (k0 _).mono ?_
  rintro e w1 ⟨rfl, rfl⟩
  go_wp2_with fail
  refine r1.mono ?_
  rintro e w1 ⟨rfl, rfl⟩
  go_wp2_with fail
  refine (k1 _).mono ?_
  rintro e w1 ⟨rfl, rfl⟩
  go_wp2_with fail
  refine r2.mono ?_
  rintro e w1 ⟨rfl, rfl⟩
  go_wp2_with fail
  refine (k2 _).mono ?_
  rintro e w1 ⟨rfl, rfl⟩
  have hb2 : Below w.heap.size w ((w.alloc (.cells #[.int .i64 0, .int .i64 0, .int .i64 0, .int .i64 0] 23)).alloc (.cells #[.int .i64 (1 + a0), .int .i64 (1 + a1), .int .i64 (1 + a2), .int .i64 0] 23)).drew := ((hb1.alloc (by simp) _)).drew
  have r3 := raw_any l ao cap 3 _ (h.below hb2) (by decide) hl
  have hb3 : Below w.heap.size w ((w.alloc (.cells #[.int .i64 (1 + a0), .int .i64 (1 + a1), .int .i64 (1 + a2), .int .i64 (1 + a2 + a3)] 23)).alloc (.cells #[.int .i64 (1 + a0), .int .i64 (1 + a1), .int .i64 (1 + a2), .int .i64 (1 + a2 + a3)] 23)).drew := (((Below.refl _ _).alloc (Nat.le_refl _) _).alloc (by simp) _).drew
  clear ha r0 r1 r2 k0 k1 k2
  go_wp2_with fail
  go_region_law (first | (go_simp; go_at_call 77; refine r3.mono ?_; rintro e w1 ⟨rfl, rfl⟩) | (go_simp; go_at_call 33; refine (k3 _).mono ?_; rintro e w1 ⟨rfl, rfl⟩))
  all_goals
    go_wp2
    refine bodyPost_ret (v := .agg #[.int .i64 (1 + a0), .int .i64 (1 + a1), .int .i64 (1 + a2), .int .i64 (1 + a2 + a3)]) ?_ rfl ⟨rfl, hb3⟩
    simp [results, Tryz.results37, go_sem]

end Go.Proofs.YtockkceclkcgbaaGreatDoor

/- The contract of a run's ack. -/
import Derived.Test.YtockkceclkcgbaaGreatDoorB16
import Derived.Test.YtockkceclkcgbaaGreatDoorB15
namespace Go.Proofs.YtockkceclkcgbaaGreatDoor
open Go.RowKit

/-- what leased finds may be acked -/
theorem leasedR_at {time : Int} {items : List It} {l : List Nat} {n : Int} (h : ¬ leasedR time items l n < 0) : ∃ (a : Nat) (x : It), leasedR time items l n = a ∧ a ∈ l ∧ items[a]? = some x ∧ ¬ 0 < x.done ∧ time < x.till := by
  unfold leasedR at h ⊢
  cases l with
  | nil => simp at h
  | cons c r =>
    simp only [List.isEmpty_cons, cond_false] at h ⊢
    have hin : pickAt (c :: r) n ∈ c :: r := by
      obtain ⟨p0, p1⟩ := pickQ_in n (c :: r).length (by simp)
      have hl : (pickQ n ((c :: r).length : Nat)).toNat < (c :: r).length := by omega
      unfold pickAt
      rw [List.getD, List.getElem?_eq_getElem hl]
      exact List.getElem_mem hl
    cases hx : items[pickAt (c :: r) n]? with
    | none => rw [hx] at h; simp at h
    | some x =>
      rw [hx] at h
      simp only at h ⊢
      cases h1 : decide (0 < x.done) with
      | true => rw [h1] at h; simp at h
      | false =>
        cases h2 : decide (x.till ≤ time) with
        | true => rw [h1, h2] at h; simp at h
        | false =>
          exact ⟨pickAt (c :: r) n, x, by simp, hin, hx, by simpa using h1, by simpa using h2⟩

theorem leased_yes {m : MQ} {L : Nat → List Nat} {k : Nat} {g : MG} {a : Nat} {x : It} (hat : m.at (nameB k) = some k) (hg : m.groups[k]? = some g) (hG : NiceG m g (L k)) (ha : a ∈ L k) (hx : g.items[a]? = some x) (hd : ¬ 0 < x.done) (ht : m.time < x.till) :
    leasedE m (nameB k) a x.tries = 0 := by
  obtain ⟨h1, h2⟩ := hG.last a ha
  have h3 : ¬ (a : Int) < m.floor := fun h => hd (hG.items.low a x hx h2 h)
  have h4 : ¬ (a : Int) < g.start := by omega
  have h5 : ¬ (m.bodies.length : Int) ≤ a := by omega
  have h6 : ¬ x.till ≤ m.time := by omega
  simp [leasedE, hat, hg, outside, h3, h4, h5, notLeased, hd, h6, hx]

def ackQ (m : MQ) (k a : Nat) (x : It) : MQ := { m.setI k a { x with done := 1 } with changes := wrap64 (m.changes + 1) }
/-- what an ack leaves -/
def rackM (m : MQ) (k : Nat) (g : MG) (l : List Nat) (n : Int) : MQ :=
  bif decide (leasedR m.time g.items l n < 0) then m else ackQ m k (leasedR m.time g.items l n).toNat (g.items.getD (leasedR m.time g.items l n).toNat It.zero)

theorem ackQ_group {m : MQ} {k a : Nat} {x : It} {j : Nat} : (ackQ m k a x).groups[j]? = (m.groups[j]?).map (fun g => if k = j then { g with items := g.items.set a { x with done := 1 } } else g) := by
  unfold ackQ
  exact setI_group
theorem ackQ_names {m : MQ} {k a : Nat} {x : It} : (ackQ m k a x).groups.map (fun g => (g.name, g.start)) = m.groups.map (fun g => (g.name, g.start)) := by
  apply List.ext_getElem?
  intro j
  simp only [List.getElem?_map, ackQ_group, Option.map_map]
  cases m.groups[j]? with
  | none => rfl
  | some g => by_cases h : k = j <;> simp [h]
theorem ackQ_itemsOf {m : MQ} {k a : Nat} {x : It} {g : MG} (hg : m.groups[k]? = some g) (j : Nat) : itemsOf (ackQ m k a x) j = if j = k then g.items.set a { x with done := 1 } else itemsOf m j := by
  unfold itemsOf
  rw [ackQ_group]
  by_cases h : j = k
  · subst h
    simp [hg]
  · have h' : ¬ k = j := fun e => h e.symm
    cases m.groups[j]? <;> simp [h, h']

attribute [local go_sem] over_cell

set_option maxRecDepth 100000 in
set_option maxHeartbeats 8000000 in
theorem rack_any {X : World → (Nat → Tag) → Nat → Nat → MQ → Prop} {B Bm : Int} (hX : XC X Bm) (hle : B ≤ Bm) (i b bx gb gc : Nat) (m : MQ) (L : Nat → List Nat) (k : Nat) (g : MG) (n : Int) (w : World) (T : Nat → Tag) (hx : X w T i bx m) (hf : m.Fit B) (hr : RunG w T i b bx gb gc m (itemsOf m) L) (hq : NiceQ m L) (hg : m.groups[k]? = some g) (h0 : -9223372036854775808 ≤ n) (h1 : n ≤ 9223372036854775807) :
    Calls Tryz.prog 22 #[.pointer (some ⟨b, 0, none⟩), .int .i64 k, .int .i64 n] w fun e w' => e = .returned (.tuple #[]) ∧
      ∃ T', Step (UT i) w T w' T' ∧ X w' T' i bx (rackM m k g (L k) n) ∧ RunG w' T' i b bx gb gc (rackM m k g (L k) n) (itemsOf (rackM m k g (L k) n)) L ∧ (rackM m k g (L k) n).Fit B ∧ NiceQ (rackM m k g (L k) n) L := by
  have hsm := hr.small
  have hfew := hr.few
  have hkl := (List.getElem?_eq_some_iff.1 hg).1
  have hat := at_name hq.named hfew hg
  have hnm := hq.named k g hg
  have hG := hq.grp k g hg
  have hlen := hf.ok.len g (List.mem_of_getElem? hg)
  have hgood := good_all hf.ok.good
  have hL4 : (L k).length ≤ 4000 := by rw [hG.sum]; exact hG.items.sum hgood.2.1.2 (by omega)
  obtain ⟨bo, bc, so, sc, lo, lc, A⟩ := hr.at hg
  have c7 := A.c7
  have lb := A.lb
  have hls := rleased_any i b bx gb gc m L k g n w T hr hg hG hlen hL4 h0 h1
  go_enter Tryz.func22, Tryz.ntmps22
  go_wp2_with fail
  refine hls.mono ?_
  clear hls
  rintro e w1 ⟨rfl, hb1⟩
  have g1 := step_below (fun _ => False) T hb1
  have s1 : Step (UT i) w T w1 T := step_below _ T hb1
  replace hx := hX.step hx g1 (fun _ _ h => h)
  replace hr := hr.step g1 (fun _ _ h => h)
  replace A := A.step g1 (fun _ _ h => h)
  clear hb1 g1 c7 lb
  by_cases hneg : leasedR m.time g.items (L k) n < 0
  · have hM : rackM m k g (L k) n = m := by simp [rackM, hneg]
    clear A
    go_wp2
    refine bodyPost_ret (results_none rfl _ _ _) rfl ?_
    rw [hM]
    exact ⟨rfl, T, s1, hx, hr, hf, hq⟩
  · obtain ⟨a, x, ea, hal, hxa, hdn, htl⟩ := leasedR_at hneg
    have hM : rackM m k g (L k) n = ackQ m k a x := by
      have e0 : ¬ ((a : Int) < 0) := by omega
      simp [rackM, ea, e0, List.getD, hxa]
    have hE := leased_yes hat hg hG hal hxa hdn htl
    obtain ⟨hal1, hal2⟩ := hG.last a hal
    have hA1 : ackM m (nameB k) a x.tries = ackQ m k a x := by simp [ackM, hE, onLeased_ok hat hg hxa, ackQ]
    have hfit : (ackQ m k a x).Fit B := by have := fit_ack hf (nameB k) a x.tries; rw [hA1] at this; exact this
    have hnice : NiceQ (ackQ m k a x) L := nice_changes (nice_setI hq hg hxa (by simp) rfl (fun _ => hal2) (fun _ => by simp))
    have hg2 : (ackQ m k a x).groups[k]? = some { g with items := g.items.set a { x with done := 1 } } := by rw [ackQ_group, hg]; simp
    have hat2 := at_name hnice.named (by have := congrArg List.length (ackQ_names (m := m) (k := k) (a := a) (x := x)); simp at this; omega) hg2
    have hxa2 : (g.items.set a { x with done := 1 })[a]? = some { x with done := 1 } := by simp [(List.getElem?_eq_some_iff.1 hxa).1]
    have hE2 : leasedE (ackQ m k a x) (nameB k) a x.tries = 12 := by
      have h3 : ¬ (a : Int) < m.floor := fun h => hdn (hG.items.low a x hxa hal2 h)
      have h4 : ¬ (a : Int) < g.start := by omega
      have h5 : ¬ (m.bodies.length : Int) ≤ a := by omega
      have o : outside (ackQ m k a x) { g with items := g.items.set a { x with done := 1 } } a = false := by simp [outside, ackQ, MQ.setI, h3, h4, h5]
      simp [leasedE, hat2, hg2, o, notLeased, hxa2]
    have hA2 : ackM (ackQ m k a x) (nameB k) a x.tries = ackQ m k a x := by simp [ackM, hE2]
    rw [ea]
    rw [itemsOf_at hg] at A
    have hsee := A.see
    obtain ⟨gi, _, e⟩ := row_some hsee (by omega)
    cases e
    have c0 := A.c0
    have d0 := A.d0
    have d2 := A.d2
    have t0 := hsee.cell (seenVals_at _ a x hxa).1
    have lb := A.lb
    have lg := A.lg
    have li := hsee.lt
    rw [hnm] at d0
    have gd1 := step_below (fun _ => False) T (Below.refl w1.heap.size w1).drew
    have hxd := hX.step hx gd1 (fun _ _ h => h)
    have hrd := hr.step gd1 (fun _ _ h => h)
    have Ad := A.step gd1 (fun _ _ h => h)
    have hcall := hX.ack i bx m (nameB k) a x.tries _ _ hxd (hf.mono hle)
    rw [hE, hA1] at hcall
    clear A hsee
    go_wp2_with fail
    go_region_held3 (fun w' => w'.cell? ⟨b, 0, none⟩ = some (.pointer (some ⟨bx, 0, none⟩)) ∧ w'.cell? ⟨gb, k * 4, none⟩ = some (.string (nameB k)) ∧ w'.cell? ⟨gb, k * 4 + 2, none⟩ = some (.slice (some ⟨gi, 0, none⟩) m.bodies.length sc) ∧ w'.cell? ⟨gi, a * 4, none⟩ = some (.int .i64 x.tries)) (go_keep) (first | (go_at_call 59; refine hcall.mono ?_; clear hcall; rintro e w2 ⟨rfl, T2, hs2, hx2⟩; have A2 := Ad.step hs2 (fun _ a c => xt_rt a c); have k0 := A2.c0; have j0 := A2.d0; have j2 := A2.d2; have j3 := A2.see.cell (seenVals_at _ a x hxa).1; rw [hnm] at j0))
    have hr2 := hrd.step hs2 (fun _ a c => xt_rt a c)
    have s2 : Step (UT i) w T w2 T2 := s1.trans ((gd1.mono (fun _ h => h.elim)).trans (hs2.mono (fun _ h => .inl h)))
    clear Ad hrd hxd gd1 hr hx hs2 c0 d0 d2 t0 lb lg li s1
    have lb := A2.lb
    have lg := A2.lg
    have li := A2.see.lt
    have gd2 := step_below (fun _ => False) T2 (Below.refl w2.heap.size w2).drew
    have hxd := hX.step hx2 gd2 (fun _ _ h => h)
    have hrd := hr2.step gd2 (fun _ _ h => h)
    have Ad := A2.step gd2 (fun _ _ h => h)
    have hcall := hX.ack i bx (ackQ m k a x) (nameB k) a x.tries _ _ hxd (hfit.mono hle)
    rw [hE2, hA2] at hcall
    clear A2
    go_wp2_with fail
    go_region_held3 (fun w' => w'.cell? ⟨b, 0, none⟩ = some (.pointer (some ⟨bx, 0, none⟩)) ∧ w'.cell? ⟨gb, k * 4, none⟩ = some (.string (nameB k)) ∧ w'.cell? ⟨gb, k * 4 + 2, none⟩ = some (.slice (some ⟨gi, 0, none⟩) m.bodies.length sc) ∧ w'.cell? ⟨gi, a * 4, none⟩ = some (.int .i64 x.tries)) (go_keep) (first | (go_at_call 59; refine hcall.mono ?_; clear hcall; rintro e w3 ⟨rfl, T3, hs3, hx3⟩; have A3 := Ad.step hs3 (fun _ a c => xt_rt a c); have l0 := A3.c0; have m0 := A3.d0; have m2 := A3.d2; have m3 := A3.see.cell (seenVals_at _ a x hxa).1; rw [hnm] at m0))
    have hr3 := hrd.step hs3 (fun _ a c => xt_rt a c)
    have s3 : Step (UT i) w T w3 T3 := s2.trans ((gd2.mono (fun _ h => h.elim)).trans (hs3.mono (fun _ h => .inl h)))
    clear Ad hrd hxd gd2 hr2 hx2 hs3 k0 j0 j2 j3 lb lg li s2 l0 m0 m3
    have lb := A3.lb
    have lg := A3.lg
    have li := A3.see.lt
    have c9 := A3.c9
    have z9 := A3.fb 9
    have t1 := A3.see.cell (seenVals_at _ a x hxa).2.1
    have z1 := A3.see.frozen (a * 4 + 1)
    have nei : gi ≠ b := fun e => by have := A3.see.2 gi rfl; rw [e, A3.tb] at this; simp at this
    obtain ⟨hr4, s4⟩ := hr3.flag 9 (by simp)
    have d24 := (s4.cell (p := ⟨gb, k * 4 + 2, none⟩) lg (by rw [A3.tg]; simp)).trans m2
    obtain ⟨hr5, s5⟩ := hr4.seen (k := k) (j := a * 4 + 1) (v := .bool true) (u' := g.items.set a { x with done := 1 }) hg d24 (by omega) (by rw [itemsOf_at hg]; exact (seenVals_set _ a x hxa).2.1 1)
    have hx5 := hX.step (hX.step hx3 s4 xt_run) s5 (by rintro t h rfl; exact absurd h.1 (by simp))
    have s05 := (s3.trans (s4.mono (fun _ h => rt_run i h))).trans (s5.mono (fun _ h => .inr (rt_rseen i k h)))
    have hr6 : RunG _ T3 i b bx gb gc (ackQ m k a x) (itemsOf (ackQ m k a x)) L := hr5.congr rfl rfl rfl rfl ackQ_names (fun j _ => by
      rw [ackQ_itemsOf hg]
      by_cases e : j = k
      · subst e; rw [updF_same, if_pos rfl]
      · rw [updF_other _ _ _ e, if_neg e]) (fun _ _ => rfl)
    have hlk := look_any hX hle i b bx gb gc (ackQ m k a x) _ L _ T3 hx5 hfit hr6 hnice.named (fun j g' hj => ⟨(hnice.grp j g' hj).items, by rw [itemsOf_at hj]; exact SimI.refl _ _ _ _⟩)
    have Pn := hide (And.intro hfit hnice)
    clear hr3 hr4 hr5 hr6 hx3 hx5 s3 s4 s5 A3 d24 hfit hnice hE hE2 hA1 hA2 hg2 hxa2
    go_wp2_with fail
    refine hlk.mono ?_
    clear hlk
    rintro e w6 ⟨rfl, T6, s6, hx6, hr6⟩
    go_wp2
    go_end0
    rw [hM]
    exact ⟨rfl, T6, s05.trans s6, hx6, hr6, Pn.out.1, Pn.out.2⟩

end Go.Proofs.YtockkceclkcgbaaGreatDoor

/- The contract of a run's nack. -/
namespace Go.Proofs.YtockkceclkcgbaaGreatDoor
open Go.RowKit

/-- what a nack leaves -/
def nackI (m : MQ) (x : It) (d : Int) : It := { x with till := 0, after := m.time + d }
def rnackM (m : MQ) (k : Nat) (g : MG) (l : List Nat) (n d : Int) : MQ :=
  bif decide (leasedR m.time g.items l n < 0) then m else m.setI k (leasedR m.time g.items l n).toNat (nackI m (g.items.getD (leasedR m.time g.items l n).toNat It.zero) d)

theorem setI_names2 {m : MQ} {k a : Nat} {y : It} : (m.setI k a y).groups.map (fun g => (g.name, g.start)) = m.groups.map (fun g => (g.name, g.start)) := by
  apply List.ext_getElem?
  intro j
  simp only [List.getElem?_map, setI_group, Option.map_map]
  cases m.groups[j]? with
  | none => rfl
  | some g => by_cases h : k = j <;> simp [h]
theorem setI_itemsOf {m : MQ} {k a : Nat} {y : It} {g : MG} (hg : m.groups[k]? = some g) (j : Nat) : itemsOf (m.setI k a y) j = if j = k then g.items.set a y else itemsOf m j := by
  unfold itemsOf
  rw [setI_group]
  by_cases h : j = k
  · subst h
    simp [hg]
  · have h' : ¬ k = j := fun e => h e.symm
    cases m.groups[j]? <;> simp [h, h']

attribute [local go_sem] over_cell

set_option maxRecDepth 100000 in
set_option maxHeartbeats 8000000 in
theorem rnack_any {X : World → (Nat → Tag) → Nat → Nat → MQ → Prop} {B Bm : Int} (hX : XC X Bm) (hle : B ≤ Bm) (i b bx gb gc : Nat) (m : MQ) (L : Nat → List Nat) (k : Nat) (g : MG) (n d : Int) (w : World) (T : Nat → Tag) (hx : X w T i bx m) (hf : m.Fit B) (hr : RunG w T i b bx gb gc m (itemsOf m) L) (hq : NiceQ m L) (hg : m.groups[k]? = some g) (h0 : -9223372036854775808 ≤ n) (h1 : n ≤ 9223372036854775807) (hd0 : 0 ≤ d) (hd1 : d ≤ 60000) :
    Calls Tryz.prog 75 #[.pointer (some ⟨b, 0, none⟩), .int .i64 k, .int .i64 n, .int .i64 d] w fun e w' => e = .returned (.tuple #[]) ∧
      ∃ T', Step (UT i) w T w' T' ∧ X w' T' i bx (rnackM m k g (L k) n d) ∧ RunG w' T' i b bx gb gc (rnackM m k g (L k) n d) (itemsOf (rnackM m k g (L k) n d)) L ∧ (rnackM m k g (L k) n d).Fit B ∧ NiceQ (rnackM m k g (L k) n d) L := by
  have hsm := hr.small
  have hfew := hr.few
  have hkl := (List.getElem?_eq_some_iff.1 hg).1
  have hat := at_name hq.named hfew hg
  have hnm := hq.named k g hg
  have hG := hq.grp k g hg
  have hlen := hf.ok.len g (List.mem_of_getElem? hg)
  have hgood := good_all hf.ok.good
  have hL4 : (L k).length ≤ 4000 := by rw [hG.sum]; exact hG.items.sum hgood.2.1.2 (by omega)
  obtain ⟨bo, bc, so, sc, lo, lc, A⟩ := hr.at hg
  have c7 := A.c7
  have lb := A.lb
  have hls := rleased_any i b bx gb gc m L k g n w T hr hg hG hlen hL4 h0 h1
  go_enter Tryz.func75, Tryz.ntmps75
  go_wp2_with fail
  refine hls.mono ?_
  clear hls
  rintro e w1 ⟨rfl, hb1⟩
  have g1 := step_below (fun _ => False) T hb1
  have s1 : Step (UT i) w T w1 T := step_below _ T hb1
  replace hx := hX.step hx g1 (fun _ _ h => h)
  replace hr := hr.step g1 (fun _ _ h => h)
  replace A := A.step g1 (fun _ _ h => h)
  clear hb1 g1 c7 lb
  by_cases hneg : leasedR m.time g.items (L k) n < 0
  · have hM : rnackM m k g (L k) n d = m := by simp [rnackM, hneg]
    clear A
    go_wp2
    refine bodyPost_ret (results_none rfl _ _ _) rfl ?_
    rw [hM]
    exact ⟨rfl, T, s1, hx, hr, hf, hq⟩
  · obtain ⟨a, x, ea, hal, hxa, hdn, htl⟩ := leasedR_at hneg
    have hM : rnackM m k g (L k) n d = m.setI k a (nackI m x d) := by
      have e0 : ¬ ((a : Int) < 0) := by omega
      simp [rnackM, ea, e0, List.getD, hxa]
    have hE := leased_yes hat hg hG hal hxa hdn htl
    obtain ⟨hal1, hal2⟩ := hG.last a hal
    have hE1 : rangedE m (nameB k) a x.tries d 0 = 0 := by
      have hb : btw d 0 60000 = true := by simp [btw, hd0, hd1]
      simp [rangedE, hat, hb, hE]
    have hA1 : nackM m (nameB k) a x.tries d = m.setI k a (nackI m x d) := by simp [nackM, hE1, onLeased_ok hat hg hxa, nackI]
    have hfit : (m.setI k a (nackI m x d)).Fit B := by have := fit_nack hf (nameB k) a x.tries d; rw [hA1] at this; exact this
    have hnice : NiceQ (m.setI k a (nackI m x d)) L := nice_setI hq hg hxa (hG.items.done a x hxa) rfl (fun h => absurd h hdn) (fun h => absurd h hdn)
    have hg2 : (m.setI k a (nackI m x d)).groups[k]? = some { g with items := g.items.set a (nackI m x d) } := by rw [setI_group, hg]; simp
    have hat2 := at_name hnice.named (by rw [setI_len]; exact hfew) hg2
    have hxa2 : (g.items.set a (nackI m x d))[a]? = some (nackI m x d) := by simp [(List.getElem?_eq_some_iff.1 hxa).1]
    have htm := hf.ok.time
    have hE2 : leasedE (m.setI k a (nackI m x d)) (nameB k) a x.tries = 12 := by
      have h3 : ¬ (a : Int) < m.floor := fun h => hdn (hG.items.low a x hxa hal2 h)
      have h4 : ¬ (a : Int) < g.start := by omega
      have h5 : ¬ (m.bodies.length : Int) ≤ a := by omega
      have o : outside (m.setI k a (nackI m x d)) { g with items := g.items.set a (nackI m x d) } a = false := by simp [outside, MQ.setI, h3, h4, h5]
      have o2 : (nackI m x d).till ≤ (m.setI k a (nackI m x d)).time := htm.1
      simp [leasedE, hat2, hg2, o, notLeased, hxa2, o2]
    have hA2 : ackM (m.setI k a (nackI m x d)) (nameB k) a x.tries = m.setI k a (nackI m x d) := by simp [ackM, hE2]
    rw [ea]
    rw [itemsOf_at hg] at A
    have hsee := A.see
    obtain ⟨gi, _, e⟩ := row_some hsee (by omega)
    cases e
    have c0 := A.c0
    have d0 := A.d0
    have d2 := A.d2
    have t0 := hsee.cell (seenVals_at _ a x hxa).1
    have lb := A.lb
    have lg := A.lg
    have li := hsee.lt
    rw [hnm] at d0
    have gd1 := step_below (fun _ => False) T (Below.refl w1.heap.size w1).drew
    have hxd := hX.step hx gd1 (fun _ _ h => h)
    have hrd := hr.step gd1 (fun _ _ h => h)
    have Ad := A.step gd1 (fun _ _ h => h)
    have hcall := hX.nack i bx m (nameB k) a x.tries d _ _ hxd (hf.mono hle)
    rw [hE1, hA1] at hcall
    clear A hsee
    go_wp2_with fail
    go_region_held3 (fun w' => w'.cell? ⟨b, 0, none⟩ = some (.pointer (some ⟨bx, 0, none⟩)) ∧ w'.cell? ⟨gb, k * 4, none⟩ = some (.string (nameB k)) ∧ w'.cell? ⟨gb, k * 4 + 2, none⟩ = some (.slice (some ⟨gi, 0, none⟩) m.bodies.length sc) ∧ w'.cell? ⟨gi, a * 4, none⟩ = some (.int .i64 x.tries)) (go_keep) (first | (go_at_call 108; refine hcall.mono ?_; clear hcall; rintro e w2 ⟨rfl, T2, hs2, hx2⟩; have A2 := Ad.step hs2 (fun _ a c => xt_rt a c); have k0 := A2.c0; have j0 := A2.d0; have j2 := A2.d2; have j3 := A2.see.cell (seenVals_at _ a x hxa).1; rw [hnm] at j0))
    have hr2 := hrd.step hs2 (fun _ a c => xt_rt a c)
    have s2 : Step (UT i) w T w2 T2 := s1.trans ((gd1.mono (fun _ h => h.elim)).trans (hs2.mono (fun _ h => .inl h)))
    clear Ad hrd hxd gd1 hr hx hs2 c0 d0 d2 t0 lb lg li s1
    have lb := A2.lb
    have lg := A2.lg
    have li := A2.see.lt
    have gd2 := step_below (fun _ => False) T2 (Below.refl w2.heap.size w2).drew
    have hxd := hX.step hx2 gd2 (fun _ _ h => h)
    have hrd := hr2.step gd2 (fun _ _ h => h)
    have Ad := A2.step gd2 (fun _ _ h => h)
    have hcall := hX.ack i bx (m.setI k a (nackI m x d)) (nameB k) a x.tries _ _ hxd (hfit.mono hle)
    rw [hE2, hA2] at hcall
    clear A2
    go_wp2_with fail
    go_region_held3 (fun w' => w'.cell? ⟨b, 0, none⟩ = some (.pointer (some ⟨bx, 0, none⟩)) ∧ w'.cell? ⟨gb, k * 4, none⟩ = some (.string (nameB k)) ∧ w'.cell? ⟨gb, k * 4 + 2, none⟩ = some (.slice (some ⟨gi, 0, none⟩) m.bodies.length sc) ∧ w'.cell? ⟨gi, a * 4, none⟩ = some (.int .i64 x.tries)) (go_keep) (first | (go_at_call 59; refine hcall.mono ?_; clear hcall; rintro e w3 ⟨rfl, T3, hs3, hx3⟩; have A3 := Ad.step hs3 (fun _ a c => xt_rt a c); have l0 := A3.c0; have m0 := A3.d0; have m2 := A3.d2; have m3 := A3.see.cell (seenVals_at _ a x hxa).1; rw [hnm] at m0))
    have hr3 := hrd.step hs3 (fun _ a c => xt_rt a c)
    have s3 : Step (UT i) w T w3 T3 := s2.trans ((gd2.mono (fun _ h => h.elim)).trans (hs3.mono (fun _ h => .inl h)))
    clear Ad hrd hxd gd2 hr2 hx2 hs3 k0 j0 j2 j3 lb lg li s2 l0 m0 m3
    have lb := A3.lb
    have lg := A3.lg
    have li := A3.see.lt
    have c9 := A3.c9
    have z9 := A3.fb 9
    have t2 := A3.see.cell (seenVals_at _ a x hxa).2.2.1
    have t3 := A3.see.cell (seenVals_at _ a x hxa).2.2.2
    have z2 := A3.see.frozen (a * 4 + 2)
    have z3 := A3.see.frozen (a * 4 + 3)
    have c8 := A3.c8
    have nei : gi ≠ b := fun e => by have := A3.see.2 gi rfl; rw [e, A3.tb] at this; simp at this
    have neg : gi ≠ gb := fun e => by have := A3.see.2 gi rfl; rw [e, A3.tg] at this; simp at this
    obtain ⟨hr4, s4⟩ := hr3.flag 9 (by simp)
    have d24 := (s4.cell (p := ⟨gb, k * 4 + 2, none⟩) lg (by rw [A3.tg]; simp)).trans m2
    have lg4 := Nat.lt_of_lt_of_le lg s4.size
    have tg4 := (s4.tag gb lg).trans A3.tg
    obtain ⟨hr5, s5⟩ := hr4.seen (k := k) (j := a * 4 + 2) (v := .int .i64 0) (u' := g.items.set a { x with till := 0 }) hg d24 (by omega) (by rw [itemsOf_at hg]; exact (seenVals_set _ a x hxa).2.2.1 0)
    have d25 := (s5.cell (p := ⟨gb, k * 4 + 2, none⟩) lg4 (by rw [tg4]; simp)).trans d24
    have hxa5 : (g.items.set a { x with till := 0 })[a]? = some { x with till := 0 } := by simp [(List.getElem?_eq_some_iff.1 hxa).1]
    obtain ⟨hr6, s6⟩ := hr5.seen (k := k) (j := a * 4 + 3) (v := .int .i64 (m.time + d)) (u' := g.items.set a (nackI m x d)) hg d25 (by omega) (by rw [updF_same, (seenVals_set _ a _ hxa5).2.2.2 (m.time + d)]; simp [List.set_set, nackI])
    rw [updF_twice] at hr6
    have hx6 := hX.step (hX.step (hX.step hx3 s4 xt_run) s5 (by rintro t h rfl; exact absurd h.1 (by simp))) s6 (by rintro t h rfl; exact absurd h.1 (by simp))
    have s06 := ((s3.trans (s4.mono (fun _ h => rt_run i h))).trans (s5.mono (fun _ h => .inr (rt_rseen i k h)))).trans (s6.mono (fun _ h => .inr (rt_rseen i k h)))
    have hr7 : RunG _ T3 i b bx gb gc (m.setI k a (nackI m x d)) (itemsOf (m.setI k a (nackI m x d))) L := hr6.congr rfl rfl rfl rfl setI_names2 (fun j _ => by
      rw [setI_itemsOf hg]
      by_cases e : j = k
      · subst e; rw [updF_same, if_pos rfl]
      · rw [updF_other _ _ _ e, if_neg e]) (fun _ _ => rfl)
    have gdr := step_below (fun _ => False) T3 (Below.refl (((w3.setCell ⟨b, 9, none⟩ (.bool true)).setCell ⟨gi, a * 4 + 2, none⟩ (.int .i64 0)).setCell ⟨gi, a * 4 + 3, none⟩ (.int .i64 (m.time + d))).heap.size (((w3.setCell ⟨b, 9, none⟩ (.bool true)).setCell ⟨gi, a * 4 + 2, none⟩ (.int .i64 0)).setCell ⟨gi, a * 4 + 3, none⟩ (.int .i64 (m.time + d)))).drew
    have P := hide (And.intro (s06.trans (gdr.mono (fun _ h => h.elim))) (And.intro (hX.step hx6 gdr (fun _ _ h => h)) (And.intro (hr7.step gdr (fun _ _ h => h)) (And.intro hfit hnice))))
    have hw2 : IntKind.i64.wrap (m.time + d) = m.time + d := by rw [IntWalk.i64_left, IntWalk.wrap64_in _ ⟨by omega, by omega⟩]
    clear hr3 hr4 hr5 hr6 hr7 hx3 hx6 s3 s4 s5 s6 s06 A3 d24 d25 hfit hnice hE hE1 hE2 hA1 hA2 hg2 hxa2 hxa5 gdr tg4 lg4
    go_wp2_with fail
    refine wp_region_tail 13 (by kernel_rfl) (by kernel_rfl) ?_
    simp only [List.take_succ_cons, List.take_zero, List.drop_succ_cons, List.drop_zero]
    repeat (go_big_quiet_step (fail))
    refine wpQuiet_nil ?_
    go_wp2
    go_end0
    rw [hM]
    exact ⟨rfl, T3, P.out⟩

end Go.Proofs.YtockkceclkcgbaaGreatDoor

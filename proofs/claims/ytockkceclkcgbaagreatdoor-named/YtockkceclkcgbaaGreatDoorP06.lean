/- The contract of a run's receive. -/
import Derived.Test.YtockkceclkcgbaaGreatDoorP03
import Derived.Test.YtockkceclkcgbaaGreatDoorP05
namespace Go.Proofs.YtockkceclkcgbaaGreatDoor
open Go.RowKit

abbrev Tag.rout : Tag := ⟨27, 0, 0, 0⟩
theorem setG_itemsOf {m : MQ} {k : Nat} {g : MG} {st : RS} (hg : m.groups[k]? = some g) (j : Nat) : itemsOf (m.setG k st) j = if j = k then st.items else itemsOf m j := by
  unfold itemsOf
  rw [setG_group]
  by_cases h : j = k
  · subst h
    simp [hg]
  · have h' : ¬ k = j := fun e => h e.symm
    cases m.groups[j]? <;> simp [h, h']

attribute [local go_sem] over_cell

set_option maxRecDepth 100000 in
set_option maxHeartbeats 8000000 in
theorem rrecv_any {G : Type} {X : World → (Nat → Tag) → Nat → Nat → MQ → G → Prop} {F : GF G} {B Bm : Int} (hX : XL X F Bm) (hle : B ≤ Bm) (i b bx gb gc : Nat) (m : MQ) (L : Nat → List Nat) (k : Nat) (g : MG) (n : Int) (w : World) (T : Nat → Tag) {gh : G} (hx : X w T i bx m gh) (hf : m.Fit B) (hr : RunG w T i b bx gb gc m (itemsOf m) L) (hq : NiceQ m L) (hg : m.groups[k]? = some g) (h1 : 1 ≤ n) (h2 : n ≤ 32) :
    Calls Tryz.prog 21 #[.pointer (some ⟨b, 0, none⟩), .int .i64 k, .int .i64 n] w fun e w' => e = .returned (.int .i64 (recvAll m g n).out.length) ∧
      ∃ T', Step (UT i) w T w' T' ∧ X w' T' i bx (m.setG k (recvAll m g n)) (F.recv m (nameB k) n gh) ∧ RunG w' T' i b bx gb gc (m.setG k (recvAll m g n)) (itemsOf (m.setG k (recvAll m g n))) (updF L k (L k ++ offs (recvAll m g n).out)) := by
  have hsm := hr.small
  have hfew := hr.few
  have hkl := (List.getElem?_eq_some_iff.1 hg).1
  have hat := at_name hq.named hfew hg
  have hnm := hq.named k g hg
  have hG := hq.grp k g hg
  have hlen := hf.ok.len g (List.mem_of_getElem? hg)
  have hgood := good_all hf.ok.good
  have hsim := sim_all (n := n) hgood.2.1 hG.items hlen
  have hout := out_all (m := m) (g := g) (n := n) (by omega)
  obtain ⟨eM, eL, eE⟩ := recvM_at hat hg h1 h2
  have hnew := nice_recv (n := n) hq hf hg
  have hfit : (m.setG k (recvAll m g n)).Fit B := by have := fit_recv hf (nameB k) n; rw [eM] at this; exact this
  have hsum : (L k).length + (recvAll m g n).out.length ≤ 4000 := by
    have a1 := hsim.sum
    have a2 := hsim.nice.sum hgood.2.1.2 (by rw [hsim.len]; exact hsm)
    have a3 := hG.sum
    omega
  obtain ⟨bo, bc, so, sc, lo, lc, A⟩ := hr.at hg
  have c0 := A.c0
  have c7 := A.c7
  have d0 := A.d0
  have lb := A.lb
  have lg := A.lg
  rw [hnm] at d0
  have gd1 := step_below (fun _ => False) T (Below.refl w.heap.size w).drew
  have hxd := hX.step hx gd1 (fun _ _ h => h)
  have hrd := hr.step gd1 (fun _ _ h => h)
  have Ad := A.step gd1 (fun _ _ h => h)
  have hcall := hX.recv i bx m (nameB k) n .rout _ _ hxd (hf.mono hle)
  rw [eM, eL, eE] at hcall
  have hsimk := hide hsim
  clear A hsim hlen eM eL eE
  generalize hst : recvAll m g n = st at *
  go_enter Tryz.func21, Tryz.ntmps21
  go_wp2_with fail
  go_region_held3 (fun w' => w'.cell? ⟨b, 0, none⟩ = some (.pointer (some ⟨bx, 0, none⟩)) ∧ w'.cell? ⟨gb, k * 4, none⟩ = some (.string (nameB k))) (go_keep) (first | (go_at_call 30; refine hcall.mono ?_; clear hcall; rintro e w2 ⟨ao, cap, rfl, T2, hs2, hx2, hA2⟩; have k0 := (Ad.step hs2 (fun _ a c => xt_rt a c)).c0; have j0 := (Ad.step hs2 (fun _ a c => xt_rt a c)).d0; rw [hnm] at j0))
  have hr2 := hrd.step hs2 (fun _ a c => xt_rt a c)
  have A2 := Ad.step hs2 (fun _ a c => xt_rt a c)
  have s2 : Step (UT i) w T w2 T2 := (gd1.mono (fun _ h => h.elim)).trans (hs2.mono (fun _ h => .inl h))
  clear k0 j0 Ad hrd hxd gd1 hr hx hs2 c0 c7 d0 lb lg
  have c9 := A2.c9
  have z9 := A2.fb 9
  have lb := A2.lb
  obtain ⟨hr3, s3⟩ := hr2.flag 9 (by simp)
  have hx3 := hX.step hx2 s3 xt_run
  have hA3 := hA2.step s3 (by simp)
  have s03 := s2.trans (s3.mono (fun _ h => rt_run i h))
  clear hr2 hx2 hA2 s2 s3 A2
  have hno : decide ((st.out.length : Int) ≤ n) = true := by simpa using hout
  go_wp2_with fail
  clear c9 z9 lb
  generalize w2.setCell ⟨b, 9, none⟩ (.bool true) = w3 at *
  go_loopw [10] (fun v wr => ∃ (j : Nat) (T' : Nat → Tag), j ≤ st.out.length ∧ v = .int .i64 j ∧ Step (UT i) w T wr T' ∧ X wr T' i bx (m.setG k st) (F.recv m (nameB k) n gh) ∧ RunG wr T' i b bx gb gc m (updF (itemsOf m) k (tookAll m g.items (st.out.take j))) (updF L k (L k ++ offs (st.out.take j))) ∧ Row wr T' .rout 82 3 (.slice ao st.out.length cap) st.out.length (dlVals st.out)) (fun v _ => st.out.length - (intOf v).toNat)
  case atStart =>
    refine ⟨0, T2, Nat.zero_le _, rfl, s03, hx3, hr3.congr rfl rfl rfl rfl rfl (fun j _ => ?_) (fun j _ => ?_), hA3⟩
    · by_cases e : j = k
      · subst e; rw [updF_same, itemsOf_at hg]; rfl
      · rw [updF_other _ _ _ e]
    · by_cases e : j = k
      · subst e; rw [updF_same]; simp [offs]
      · rw [updF_other _ _ _ e]
  case round =>
    obtain ⟨j, T4, hj, rfl, s4, hx4, hr4, hA4⟩ := hrel
    clear hr3 hx3 hA3 s03
    by_cases hlt : j < st.out.length
    · obtain ⟨d, hd⟩ : ∃ d, st.out[j]? = some d := ⟨_, List.getElem?_eq_getElem hlt⟩
      obtain ⟨a4, _, e⟩ := row_some hA4 (by omega)
      cases e
      obtain ⟨t0, t1, t2⟩ := dlVals_at st.out j d hd
      replace t0 := hA4.cell t0
      replace t1 := hA4.cell t1
      replace t2 := hA4.cell t2
      have hok := okAll_at hsimk.out.ok hd
      have htk := took_any i b bx gb gc m _ _ k g d wr T4 hr4 hg (by rw [updF_same]; exact hok) (by rw [updF_same]; simp [offs]; omega) hf.ok.good hf.ok.time
      rw [updF_same, updF_same, updF_twice, updF_twice, ← tookAll_succ hd] at htk
      have hoff : Hid (L k ++ offs (st.out.take j) ++ [d.off.toNat] = L k ++ offs (st.out.take (j + 1))) := hide (by rw [List.take_add_one, hd]; simp [offs])
      rw [hoff.out] at htk
      clear hr4 hok hoff hnew hsimk
      go_wp2_with fail
      refine htk.mono ?_
      clear htk
      rintro e w5 ⟨rfl, T5, s5, hr5⟩
      have hx5 := hX.step hx4 s5 xt_of_rt
      have hA5 := hA4.step s5 (by simp [RT])
      go_wp2
      exact ⟨⟨j + 1, T5, by omega, by simp, s4.trans (s5.mono (fun _ h => .inr h)), hx5, hr5, hA5⟩, by simp [intOf]; omega⟩
    · have ej : j = st.out.length := by omega
      have hr5 : RunG wr T4 i b bx gb gc (m.setG k st) (updF (itemsOf m) k (tookAll m g.items st.out)) (updF L k (L k ++ offs st.out)) := by
        rw [ej, List.take_length] at hr4
        exact hr4.congr rfl rfl rfl rfl setG_ns (fun _ _ => rfl) (fun _ _ => rfl)
      have hlk := look_any hX hle i b bx gb gc (m.setG k st) _ _ wr T4 hx4 hfit hr5 hnew.named (fun j' g' hj' => by
        refine ⟨(hnew.grp j' g' hj').items, ?_⟩
        rw [setG_group] at hj'
        obtain ⟨g0, h0, rfl⟩ := Option.map_eq_some_iff.1 hj'
        by_cases e : k = j'
        · subst e
          rw [hg] at h0
          cases h0
          rw [updF_same]
          simp only [if_true]
          exact hsimk.out.sim
        · rw [updF_other _ _ _ (fun x => e x.symm), if_neg e, itemsOf_at h0]
          exact SimI.refl _ _ _ _)
      clear hr4 hr5 hnew hsimk
      go_wp2_with fail
      refine hlk.mono ?_
      clear hlk
      rintro e w5 ⟨rfl, T5, s5, hx5, hr5⟩
      go_wp2
      go_ret
      exact ⟨rfl, T5, s4.trans s5, hx5, hr5⟩

end Go.Proofs.YtockkceclkcgbaaGreatDoor

/- The contract of a run's leased: which message was delivered to a group last but so many, if it is leased still. -/
namespace Go.Proofs.YtockkceclkcgbaaGreatDoor
open Go.RowKit

/-- the one that was delivered last but so many -/
def pickAt (l : List Nat) (n : Int) : Nat := l.getD (pickQ n l.length).toNat 0
def leasedR (time : Int) (items : List It) (l : List Nat) (n : Int) : Int :=
  bif l.isEmpty then -1 else match items[pickAt l n]? with
    | none => -1
    | some x => bif decide (0 < x.done) || decide (x.till ≤ time) then -1 else (pickAt l n : Int)

theorem pickQ_in (n : Int) (k : Nat) (hk : 0 < k) : 0 ≤ pickQ n k ∧ pickQ n k < k := pickQ_range n k (by omega)

attribute [local go_sem] over_cell

set_option maxRecDepth 100000 in
set_option maxHeartbeats 4000000 in
theorem rleased_any (i b bx gb gc : Nat) (m : MQ) (L : Nat → List Nat) (k : Nat) (g : MG) (n : Int) (w : World) (T : Nat → Tag) (hr : RunG w T i b bx gb gc m (itemsOf m) L) (hg : m.groups[k]? = some g) (hG : NiceG m g (L k)) (hlen : g.items.length = m.bodies.length) (hL4 : (L k).length ≤ 4000) (h0 : -9223372036854775808 ≤ n) (h1 : n ≤ 9223372036854775807) :
    Calls Tryz.prog 58 #[.pointer (some ⟨b, 0, none⟩), .pointer (some ⟨gb, k * 4, none⟩), .int .i64 n] w fun e w' => e = .returned (.int .i64 (leasedR m.time g.items (L k) n)) ∧ Below w.heap.size w w' := by
  obtain ⟨bo, bc, so, sc, lo, lc, A⟩ := hr.at hg
  rw [itemsOf_at hg] at A
  have d2 := A.d2
  have d3 := A.d3
  have c8 := A.c8
  have lb := A.lb
  have lg := A.lg
  have n4 := A.n4
  by_cases hz : (L k).length = 0
  · have hnil : L k = [] := List.eq_nil_of_length_eq_zero hz
    have hR : leasedR m.time g.items (L k) n = -1 := by simp [leasedR, hnil]
    rw [hR]
    rw [hz] at d3
    clear A hr hG
    go_enter Tryz.func58, Tryz.ntmps58
    go_wp2
    go_ret
    exact ⟨rfl, Below.refl _ _⟩
  · have hlast := A.last
    have hsee := A.see
    obtain ⟨lg1, _, e⟩ := row_some hlast (by omega)
    cases e
    obtain ⟨p0, p1⟩ := pickQ_in n (L k).length (by omega)
    obtain ⟨p, hp⟩ : ∃ p : Nat, pickQ n (L k).length = p := ⟨(pickQ n (L k).length).toNat, by omega⟩
    have hpl : p < (L k).length := by omega
    obtain ⟨at', hat⟩ : ∃ a, (L k)[p]? = some a := ⟨_, List.getElem?_eq_getElem hpl⟩
    have hpa : pickAt (L k) n = at' := by simp [pickAt, hp, hat, List.getD]
    obtain ⟨hal, _⟩ := hG.last at' (List.mem_of_getElem? hat)
    obtain ⟨x, hx⟩ : ∃ x, g.items[at']? = some x := ⟨_, List.getElem?_eq_getElem (by omega)⟩
    obtain ⟨gi, _, e⟩ := row_some hsee (by omega)
    cases e
    have tl : w.cell? ⟨lg1, p, none⟩ = some (.int .i64 at') := hlast.cell (by simp [hat, natV])
    have t1 := hsee.cell (seenVals_at _ at' x hx).2.1
    have t2 := hsee.cell (seenVals_at _ at' x hx).2.2.1
    have ll := hlast.lt
    have li := hsee.lt
    have hR : leasedR m.time g.items (L k) n = bif decide (0 < x.done) || decide (x.till ≤ m.time) then -1 else (at' : Int) := by
      unfold leasedR
      rw [hpa, hx]
      cases hl : L k with
      | nil => rw [hl] at hz; simp at hz
      | cons a r => simp
    have hpk := fun w1 => (pickk_same n (L k).length w1 h0 h1 (by omega) (by omega)).mono (fun e w' (h : _ ∧ w' = w1) => (⟨h.1, by rw [h.2]; exact Below.refl _ _⟩ : e = .returned (.int .i64 (pickQ n (L k).length)) ∧ Below w1.heap.size w1 w'))
    rw [hp] at hpk
    rw [hR]
    clear A hr hG hlast hsee hR hpa hp p0 p1
    have hpos : (0 : Int) < ((L k).length : Int) := by omega
    have hne : decide (((L k).length : Int) = 0) = false := by rw [decide_eq_false_iff_not]; omega
    go_enter Tryz.func58, Tryz.ntmps58
    go_wp2_with fail
    refine wp_region_over (by kernel_rfl) (by kernel_rfl) ?_
    repeat (go_big_quiet_step ((go_at_call 33; exact quiet_over hpk)))
    refine wpQuiet_nil ?_
    rintro _ ⟨x5, rfl⟩
    have hb5 := over_below w x5
    replace d2 := (hb5.cell (p := ⟨gb, k * 4 + 2, none⟩) lg).trans d2
    replace c8 := (hb5.cell (p := ⟨b, 8, none⟩) lb).trans c8
    replace t1 := (hb5.cell (p := ⟨gi, at' * 4 + 1, none⟩) li).trans t1
    replace t2 := (hb5.cell (p := ⟨gi, at' * 4 + 2, none⟩) li).trans t2
    replace lb := Nat.lt_of_lt_of_le lb hb5.size
    replace lg := Nat.lt_of_lt_of_le lg hb5.size
    replace li := Nat.lt_of_lt_of_le li hb5.size
    clear tl d3 ll hpk
    generalize over w x5 = w5 at *
    cases hdn : decide (0 < x.done) with
    | true =>
      rw [hdn] at t1
      go_wp2_with fail
      refine wp_region_over (by kernel_rfl) (by kernel_rfl) ?_
      repeat (go_big_quiet_step (fail))
      refine wpQuiet_nil ?_
      rintro _ ⟨x6, rfl⟩
      have hb6 := hb5.trans ((over_below w5 x6).mono hb5.size)
      generalize over w5 x6 = w6 at *
      go_wp2
      go_ret
      exact ⟨by rw [hdn]; rfl, hb6⟩
    | false =>
      rw [hdn] at t1
      cases htl : decide (x.till ≤ m.time) with
      | true =>
        go_wp2_with fail
        refine wp_region_over (by kernel_rfl) (by kernel_rfl) ?_
        repeat (go_big_quiet_step (fail))
        refine wpQuiet_nil ?_
        rintro _ ⟨x6, rfl⟩
        have hb6 := hb5.trans ((over_below w5 x6).mono hb5.size)
        generalize over w5 x6 = w6 at *
        go_wp2
        go_ret
        exact ⟨by rw [hdn, htl]; rfl, hb6⟩
      | false =>
        go_wp2_with fail
        refine wp_region_over (by kernel_rfl) (by kernel_rfl) ?_
        repeat (go_big_quiet_step (fail))
        refine wpQuiet_nil ?_
        rintro _ ⟨x6, rfl⟩
        have hb6 := hb5.trans ((over_below w5 x6).mono hb5.size)
        generalize over w5 x6 = w6 at *
        go_wp2
        go_ret
        exact ⟨by rw [hdn, htl]; rfl, hb6⟩

end Go.Proofs.YtockkceclkcgbaaGreatDoor

/- The contract of a run's ack. -/
namespace Go.Proofs.YtockkceclkcgbaaGreatDoor
open Go.RowKit

/-- what leased finds may be acked -/
theorem leasedR_at {time : Int} {items : List It} {l : List Nat} {n : Int} (h : ¬ leasedR time items l n < 0) : ∃ (a : Nat) (x : It), leasedR time items l n = a ∧ a ∈ l ∧ items[a]? = some x ∧ ¬ 0 < x.done ∧ time < x.till := by
  unfold leasedR at h ⊢
  cases l with
  | nil => simp at h
  | cons c r =>
    simp only [List.isEmpty_cons, cond_false] at h ⊢
    have hin : pickAt (c :: r) n ∈ c :: r := by
      obtain ⟨p0, p1⟩ := pickQ_in n (c :: r).length (by simp)
      have hl : (pickQ n ((c :: r).length : Nat)).toNat < (c :: r).length := by omega
      unfold pickAt
      rw [List.getD, List.getElem?_eq_getElem hl]
      exact List.getElem_mem hl
    cases hx : items[pickAt (c :: r) n]? with
    | none => rw [hx] at h; simp at h
    | some x =>
      rw [hx] at h
      simp only at h ⊢
      cases h1 : decide (0 < x.done) with
      | true => rw [h1] at h; simp at h
      | false =>
        cases h2 : decide (x.till ≤ time) with
        | true => rw [h1, h2] at h; simp at h
        | false =>
          exact ⟨pickAt (c :: r) n, x, by simp, hin, hx, by simpa using h1, by simpa using h2⟩

theorem leased_yes {m : MQ} {L : Nat → List Nat} {k : Nat} {g : MG} {a : Nat} {x : It} (hat : m.at (nameB k) = some k) (hg : m.groups[k]? = some g) (hG : NiceG m g (L k)) (ha : a ∈ L k) (hx : g.items[a]? = some x) (hd : ¬ 0 < x.done) (ht : m.time < x.till) :
    leasedE m (nameB k) a x.tries = 0 := by
  obtain ⟨h1, h2⟩ := hG.last a ha
  have h3 : ¬ (a : Int) < m.floor := fun h => hd (hG.items.low a x hx h2 h)
  have h4 : ¬ (a : Int) < g.start := by omega
  have h5 : ¬ (m.bodies.length : Int) ≤ a := by omega
  have h6 : ¬ x.till ≤ m.time := by omega
  simp [leasedE, hat, hg, outside, h3, h4, h5, notLeased, hd, h6, hx]

def ackQ (m : MQ) (k a : Nat) (x : It) : MQ := { m.setI k a { x with done := 1 } with changes := wrap64 (m.changes + 1) }
/-- what an ack leaves -/
def rackM (m : MQ) (k : Nat) (g : MG) (l : List Nat) (n : Int) : MQ :=
  bif decide (leasedR m.time g.items l n < 0) then m else ackQ m k (leasedR m.time g.items l n).toNat (g.items.getD (leasedR m.time g.items l n).toNat It.zero)

theorem ackQ_group {m : MQ} {k a : Nat} {x : It} {j : Nat} : (ackQ m k a x).groups[j]? = (m.groups[j]?).map (fun g => if k = j then { g with items := g.items.set a { x with done := 1 } } else g) := by
  unfold ackQ
  exact setI_group
theorem ackQ_names {m : MQ} {k a : Nat} {x : It} : (ackQ m k a x).groups.map (fun g => (g.name, g.start)) = m.groups.map (fun g => (g.name, g.start)) := by
  apply List.ext_getElem?
  intro j
  simp only [List.getElem?_map, ackQ_group, Option.map_map]
  cases m.groups[j]? with
  | none => rfl
  | some g => by_cases h : k = j <;> simp [h]
theorem ackQ_itemsOf {m : MQ} {k a : Nat} {x : It} {g : MG} (hg : m.groups[k]? = some g) (j : Nat) : itemsOf (ackQ m k a x) j = if j = k then g.items.set a { x with done := 1 } else itemsOf m j := by
  unfold itemsOf
  rw [ackQ_group]
  by_cases h : j = k
  · subst h
    simp [hg]
  · have h' : ¬ k = j := fun e => h e.symm
    cases m.groups[j]? <;> simp [h, h']

attribute [local go_sem] over_cell

set_option maxRecDepth 100000 in
set_option maxHeartbeats 8000000 in
/-- what an ack makes of the log -/
def rackF {G : Type} (F : GF G) (m : MQ) (k : Nat) (g : MG) (l : List Nat) (n : Int) (gh : G) : G :=
  bif decide (leasedR m.time g.items l n < 0) then gh else F.ack m (nameB k) (leasedR m.time g.items l n) (g.items.getD (leasedR m.time g.items l n).toNat It.zero).tries gh

set_option maxRecDepth 100000 in
set_option maxHeartbeats 8000000 in
theorem rack_any {G : Type} {X : World → (Nat → Tag) → Nat → Nat → MQ → G → Prop} {F : GF G} {B Bm : Int} (hX : XL X F Bm) (hle : B ≤ Bm) (i b bx gb gc : Nat) (m : MQ) (L : Nat → List Nat) (k : Nat) (g : MG) (n : Int) (w : World) (T : Nat → Tag) {gh : G} (hx : X w T i bx m gh) (hf : m.Fit B) (hr : RunG w T i b bx gb gc m (itemsOf m) L) (hq : NiceQ m L) (hg : m.groups[k]? = some g) (h0 : -9223372036854775808 ≤ n) (h1 : n ≤ 9223372036854775807) :
    Calls Tryz.prog 22 #[.pointer (some ⟨b, 0, none⟩), .int .i64 k, .int .i64 n] w fun e w' => e = .returned (.tuple #[]) ∧
      ∃ T', Step (UT i) w T w' T' ∧ X w' T' i bx (rackM m k g (L k) n) (rackF F m k g (L k) n gh) ∧ RunG w' T' i b bx gb gc (rackM m k g (L k) n) (itemsOf (rackM m k g (L k) n)) L ∧ (rackM m k g (L k) n).Fit B ∧ NiceQ (rackM m k g (L k) n) L := by
  have hsm := hr.small
  have hfew := hr.few
  have hkl := (List.getElem?_eq_some_iff.1 hg).1
  have hat := at_name hq.named hfew hg
  have hnm := hq.named k g hg
  have hG := hq.grp k g hg
  have hlen := hf.ok.len g (List.mem_of_getElem? hg)
  have hgood := good_all hf.ok.good
  have hL4 : (L k).length ≤ 4000 := by rw [hG.sum]; exact hG.items.sum hgood.2.1.2 (by omega)
  obtain ⟨bo, bc, so, sc, lo, lc, A⟩ := hr.at hg
  have c7 := A.c7
  have lb := A.lb
  have hls := rleased_any i b bx gb gc m L k g n w T hr hg hG hlen hL4 h0 h1
  go_enter Tryz.func22, Tryz.ntmps22
  go_wp2_with fail
  refine hls.mono ?_
  clear hls
  rintro e w1 ⟨rfl, hb1⟩
  have g1 := step_below (fun _ => False) T hb1
  have s1 : Step (UT i) w T w1 T := step_below _ T hb1
  replace hx := hX.step hx g1 (fun _ _ h => h)
  replace hr := hr.step g1 (fun _ _ h => h)
  replace A := A.step g1 (fun _ _ h => h)
  clear hb1 g1 c7 lb
  by_cases hneg : leasedR m.time g.items (L k) n < 0
  · have hM : rackM m k g (L k) n = m := by simp [rackM, hneg]
    have hF : rackF F m k g (L k) n gh = gh := by simp [rackF, hneg]
    clear A
    go_wp2
    refine bodyPost_ret (results_none rfl _ _ _) rfl ?_
    rw [hM, hF]
    exact ⟨rfl, T, s1, hx, hr, hf, hq⟩
  · obtain ⟨a, x, ea, hal, hxa, hdn, htl⟩ := leasedR_at hneg
    have hM : rackM m k g (L k) n = ackQ m k a x := by
      have e0 : ¬ ((a : Int) < 0) := by omega
      simp [rackM, ea, e0, List.getD, hxa]
    have hF : rackF F m k g (L k) n gh = F.ack m (nameB k) a x.tries gh := by
      have e0 : ¬ ((a : Int) < 0) := by omega
      simp [rackF, ea, e0, List.getD, hxa]
    have hE := leased_yes hat hg hG hal hxa hdn htl
    obtain ⟨hal1, hal2⟩ := hG.last a hal
    have hA1 : ackM m (nameB k) a x.tries = ackQ m k a x := by simp [ackM, hE, onLeased_ok hat hg hxa, ackQ]
    have hfit : (ackQ m k a x).Fit B := by have := fit_ack hf (nameB k) a x.tries; rw [hA1] at this; exact this
    have hnice : NiceQ (ackQ m k a x) L := nice_changes (nice_setI hq hg hxa (by simp) rfl (fun _ => hal2) (fun _ => by simp))
    have hg2 : (ackQ m k a x).groups[k]? = some { g with items := g.items.set a { x with done := 1 } } := by rw [ackQ_group, hg]; simp
    have hat2 := at_name hnice.named (by have := congrArg List.length (ackQ_names (m := m) (k := k) (a := a) (x := x)); simp at this; omega) hg2
    have hxa2 : (g.items.set a { x with done := 1 })[a]? = some { x with done := 1 } := by simp [(List.getElem?_eq_some_iff.1 hxa).1]
    have hE2 : leasedE (ackQ m k a x) (nameB k) a x.tries = 12 := by
      have h3 : ¬ (a : Int) < m.floor := fun h => hdn (hG.items.low a x hxa hal2 h)
      have h4 : ¬ (a : Int) < g.start := by omega
      have h5 : ¬ (m.bodies.length : Int) ≤ a := by omega
      have o : outside (ackQ m k a x) { g with items := g.items.set a { x with done := 1 } } a = false := by simp [outside, ackQ, MQ.setI, h3, h4, h5]
      simp [leasedE, hat2, hg2, o, notLeased, hxa2]
    have hA2 : ackM (ackQ m k a x) (nameB k) a x.tries = ackQ m k a x := by simp [ackM, hE2]
    rw [ea]
    rw [itemsOf_at hg] at A
    have hsee := A.see
    obtain ⟨gi, _, e⟩ := row_some hsee (by omega)
    cases e
    have c0 := A.c0
    have d0 := A.d0
    have d2 := A.d2
    have t0 := hsee.cell (seenVals_at _ a x hxa).1
    have lb := A.lb
    have lg := A.lg
    have li := hsee.lt
    rw [hnm] at d0
    have gd1 := step_below (fun _ => False) T (Below.refl w1.heap.size w1).drew
    have hxd := hX.step hx gd1 (fun _ _ h => h)
    have hrd := hr.step gd1 (fun _ _ h => h)
    have Ad := A.step gd1 (fun _ _ h => h)
    have hcall := hX.ack i bx m (nameB k) a x.tries _ _ hxd (hf.mono hle)
    rw [hE, hA1] at hcall
    clear A hsee
    go_wp2_with fail
    go_region_held3 (fun w' => w'.cell? ⟨b, 0, none⟩ = some (.pointer (some ⟨bx, 0, none⟩)) ∧ w'.cell? ⟨gb, k * 4, none⟩ = some (.string (nameB k)) ∧ w'.cell? ⟨gb, k * 4 + 2, none⟩ = some (.slice (some ⟨gi, 0, none⟩) m.bodies.length sc) ∧ w'.cell? ⟨gi, a * 4, none⟩ = some (.int .i64 x.tries)) (go_keep) (first | (go_at_call 59; refine hcall.mono ?_; clear hcall; rintro e w2 ⟨rfl, T2, hs2, hx2⟩; have A2 := Ad.step hs2 (fun _ a c => xt_rt a c); have k0 := A2.c0; have j0 := A2.d0; have j2 := A2.d2; have j3 := A2.see.cell (seenVals_at _ a x hxa).1; rw [hnm] at j0))
    have hr2 := hrd.step hs2 (fun _ a c => xt_rt a c)
    have s2 : Step (UT i) w T w2 T2 := s1.trans ((gd1.mono (fun _ h => h.elim)).trans (hs2.mono (fun _ h => .inl h)))
    clear Ad hrd hxd gd1 hr hx hs2 c0 d0 d2 t0 lb lg li s1
    have lb := A2.lb
    have lg := A2.lg
    have li := A2.see.lt
    have gd2 := step_below (fun _ => False) T2 (Below.refl w2.heap.size w2).drew
    have hxd := hX.step hx2 gd2 (fun _ _ h => h)
    have hrd := hr2.step gd2 (fun _ _ h => h)
    have Ad := A2.step gd2 (fun _ _ h => h)
    have hcall := hX.ack i bx (ackQ m k a x) (nameB k) a x.tries _ _ hxd (hfit.mono hle)
    rw [hX.ackNo _ _ _ _ _ (by rw [hE2]; decide), hE2, hA2] at hcall
    clear A2
    go_wp2_with fail
    go_region_held3 (fun w' => w'.cell? ⟨b, 0, none⟩ = some (.pointer (some ⟨bx, 0, none⟩)) ∧ w'.cell? ⟨gb, k * 4, none⟩ = some (.string (nameB k)) ∧ w'.cell? ⟨gb, k * 4 + 2, none⟩ = some (.slice (some ⟨gi, 0, none⟩) m.bodies.length sc) ∧ w'.cell? ⟨gi, a * 4, none⟩ = some (.int .i64 x.tries)) (go_keep) (first | (go_at_call 59; refine hcall.mono ?_; clear hcall; rintro e w3 ⟨rfl, T3, hs3, hx3⟩; have A3 := Ad.step hs3 (fun _ a c => xt_rt a c); have l0 := A3.c0; have m0 := A3.d0; have m2 := A3.d2; have m3 := A3.see.cell (seenVals_at _ a x hxa).1; rw [hnm] at m0))
    have hr3 := hrd.step hs3 (fun _ a c => xt_rt a c)
    have s3 : Step (UT i) w T w3 T3 := s2.trans ((gd2.mono (fun _ h => h.elim)).trans (hs3.mono (fun _ h => .inl h)))
    clear Ad hrd hxd gd2 hr2 hx2 hs3 k0 j0 j2 j3 lb lg li s2 l0 m0 m3
    have lb := A3.lb
    have lg := A3.lg
    have li := A3.see.lt
    have c9 := A3.c9
    have z9 := A3.fb 9
    have t1 := A3.see.cell (seenVals_at _ a x hxa).2.1
    have z1 := A3.see.frozen (a * 4 + 1)
    have nei : gi ≠ b := fun e => by have := A3.see.2 gi rfl; rw [e, A3.tb] at this; simp at this
    obtain ⟨hr4, s4⟩ := hr3.flag 9 (by simp)
    have d24 := (s4.cell (p := ⟨gb, k * 4 + 2, none⟩) lg (by rw [A3.tg]; simp)).trans m2
    obtain ⟨hr5, s5⟩ := hr4.seen (k := k) (j := a * 4 + 1) (v := .bool true) (u' := g.items.set a { x with done := 1 }) hg d24 (by omega) (by rw [itemsOf_at hg]; exact (seenVals_set _ a x hxa).2.1 1)
    have hx5 := hX.step (hX.step hx3 s4 xt_run) s5 (by rintro t h rfl; exact absurd h.1 (by simp))
    have s05 := (s3.trans (s4.mono (fun _ h => rt_run i h))).trans (s5.mono (fun _ h => .inr (rt_rseen i k h)))
    have hr6 : RunG _ T3 i b bx gb gc (ackQ m k a x) (itemsOf (ackQ m k a x)) L := hr5.congr rfl rfl rfl rfl ackQ_names (fun j _ => by
      rw [ackQ_itemsOf hg]
      by_cases e : j = k
      · subst e; rw [updF_same, if_pos rfl]
      · rw [updF_other _ _ _ e, if_neg e]) (fun _ _ => rfl)
    have hlk := look_any hX hle i b bx gb gc (ackQ m k a x) _ L _ T3 hx5 hfit hr6 hnice.named (fun j g' hj => ⟨(hnice.grp j g' hj).items, by rw [itemsOf_at hj]; exact SimI.refl _ _ _ _⟩)
    have Pn := hide (And.intro hfit hnice)
    clear hr3 hr4 hr5 hr6 hx3 hx5 s3 s4 s5 A3 d24 hfit hnice hE hE2 hA1 hA2 hg2 hxa2
    go_wp2_with fail
    refine hlk.mono ?_
    clear hlk
    rintro e w6 ⟨rfl, T6, s6, hx6, hr6⟩
    go_wp2
    go_end0
    rw [hM, hF]
    exact ⟨rfl, T6, s05.trans s6, hx6, hr6, Pn.out.1, Pn.out.2⟩

end Go.Proofs.YtockkceclkcgbaaGreatDoor

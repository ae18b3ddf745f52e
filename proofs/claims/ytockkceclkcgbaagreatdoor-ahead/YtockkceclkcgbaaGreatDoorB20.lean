/- Times are bounded in every run: no lease ends, and no delay, later than the longest time from now on. -/
import Derived.Test.YtockkceclkcgbaaGreatDoorB19
import Derived.Test.YtockkceclkcgbaaGreatDoorB18
import Derived.Test.YtockkceclkcgbaaGreatDoorB12
import Derived.OpenShut
namespace Go.Proofs.YtockkceclkcgbaaGreatDoor
open Go.RowKit

/-- no lease or delay lasts longer than may be -/
def Till (m : MQ) : Prop := ∀ g ∈ m.groups, ∀ x ∈ g.items, x.till ≤ m.time + 60000 ∧ x.after ≤ m.time + 60000

theorem till_one {P : It → Prop} {m : MQ} {start : Int} {st : RS} {n : Nat} {x : It} (h : ∀ y ∈ st.items, P y) (hx : st.items[n]? = some x) (h2 : ∀ y, P y → P { y with done := 2 }) (ht : ∀ y t, P y → P { y with tries := t, till := m.time + m.c.l }) : ∀ y ∈ (recvOne m start st n x).items, P y := by
  have hP := h x (List.mem_of_getElem? hx)
  unfold recvOne
  cases passed m start n x
  · simp only [cond_false]
    cases decide (m.c.d ≤ x.tries)
    · intro y hy
      rcases List.mem_or_eq_of_mem_set hy with hy | rfl
      · exact h y hy
      · exact ht x _ hP
    · intro y hy
      rcases List.mem_or_eq_of_mem_set hy with hy | rfl
      · exact h y hy
      · exact h2 x hP
  · exact h
theorem till_step {P : It → Prop} {m : MQ} {start : Int} {fr : List Nat} {st : RS} {k : Nat} (h : ∀ y ∈ st.items, P y) (h2 : ∀ y, P y → P { y with done := 2 }) (ht : ∀ y t, P y → P { y with tries := t, till := m.time + m.c.l }) : ∀ y ∈ (recvStep m start fr st k).items, P y := by
  unfold recvStep
  cases decide (k < m.bodies.length)
  · simp only [cond_false]
    cases fr[k - m.bodies.length]? with
    | none => exact h
    | some n =>
      simp only
      cases hx : st.items[n]? with
      | none => exact h
      | some x => exact till_one h hx h2 ht
  · simp only [cond_true]
    cases hx : st.items[k]? with
    | none => exact h
    | some x =>
      simp only
      cases decide (x.tries = 0)
      · exact till_one h hx h2 ht
      · exact h
theorem till_run {P : It → Prop} {m : MQ} {start : Int} {fr : List Nat} {n : Int} (h2 : ∀ y, P y → P { y with done := 2 }) (ht : ∀ y t, P y → P { y with tries := t, till := m.time + m.c.l }) : ∀ (f k : Nat) (st : RS), (∀ y ∈ st.items, P y) → ∀ y ∈ (recvRun m start fr n f k st).items, P y
  | 0, _, _, h => h
  | f + 1, k, st, h => by
    unfold recvRun
    cases decide (n ≤ st.out.length)
    · exact till_run h2 ht f (k + 1) _ (till_step h h2 ht)
    · exact h
theorem till_recv {m : MQ} {k : Nat} {g : MG} {n : Int} (h : Till m) (hg : m.groups[k]? = some g) (hc : m.c.l ≤ 60000) : Till (m.setG k (recvAll m g n)) := by
  intro g' hg' x hx
  obtain ⟨j, hj⟩ := List.getElem?_of_mem hg'
  rw [setG_group] at hj
  have hgm := List.mem_of_getElem? hg
  have hitems : ∀ y ∈ (recvAll m g n).items, y.till ≤ m.time + 60000 ∧ y.after ≤ m.time + 60000 := by
    unfold recvAll
    exact till_run (P := fun y => y.till ≤ m.time + 60000 ∧ y.after ≤ m.time + 60000) (fun y hy => hy) (fun y t hy => ⟨by show m.time + m.c.l ≤ _; omega, hy.2⟩) _ _ _ (fun y hy => h g hgm y hy)
  show x.till ≤ m.time + 60000 ∧ x.after ≤ m.time + 60000
  rw [Option.map_eq_some_iff] at hj
  obtain ⟨g0, h0, rfl⟩ := hj
  by_cases e : k = j
  · rw [if_pos e] at hx
    exact hitems x hx
  · rw [if_neg e] at hx
    exact h g0 (List.mem_of_getElem? h0) x hx
theorem till_setI {m : MQ} {k a : Nat} {y : It} (h : Till m) (hy : y.till ≤ m.time + 60000 ∧ y.after ≤ m.time + 60000) : Till (m.setI k a y) := by
  intro g' hg' x hx
  obtain ⟨j, hj⟩ := List.getElem?_of_mem hg'
  rw [setI_group, Option.map_eq_some_iff] at hj
  obtain ⟨g0, h0, rfl⟩ := hj
  show x.till ≤ m.time + 60000 ∧ x.after ≤ m.time + 60000
  by_cases e : k = j
  · rw [if_pos e] at hx
    rcases List.mem_or_eq_of_mem_set hx with hx | rfl
    · exact h g0 (List.mem_of_getElem? h0) x hx
    · exact hy
  · rw [if_neg e] at hx
    exact h g0 (List.mem_of_getElem? h0) x hx
theorem till_enq {m : MQ} {s : ByteArray} (h : Till m) (h0 : 0 ≤ m.time) : Till (menqM m s) := by
  unfold menqM
  cases decide (menqE m s = 0)
  · exact h
  · intro g hg x hx
    obtain ⟨g0, hg0, rfl⟩ := List.mem_map.1 hg
    show x.till ≤ m.time + 60000 ∧ x.after ≤ m.time + 60000
    rcases List.mem_append.1 hx with hx | hx
    · exact h g0 hg0 x hx
    · simp at hx
      subst hx
      simp
      omega
theorem till_grp {m : MQ} {s : ByteArray} {fr : Int} (h : Till m) (h0 : 0 ≤ m.time) : Till (mgrpM m s fr) := by
  unfold mgrpM
  cases decide (mgrpE m s fr = 0)
  · exact h
  · intro g hg x hx
    show x.till ≤ m.time + 60000 ∧ x.after ≤ m.time + 60000
    rcases List.mem_append.1 hg with hg | hg
    · exact h g hg x hx
    · simp at hg
      subst hg
      have := List.eq_of_mem_replicate hx
      subst this
      simp
      omega
theorem till_tick {m : MQ} {d : Int} (h : Till m) : Till (tickM m d) := by
  unfold tickM
  cases hb : btw d 0 60000
  · exact h
  · have := (btw_true hb).1
    intro g hg x hx
    have h1 := h g hg x hx
    show x.till ≤ m.time + d + 60000 ∧ x.after ≤ m.time + d + 60000
    omega
theorem till_retain {m : MQ} (h : Till m) : Till (retainM m) := by
  unfold retainM
  cases retainB m <;> exact h
theorem till_wake {m : MQ} {ch : Int} : Till (wakeM m ch) := by
  intro g hg x hx
  obtain ⟨g0, _, rfl⟩ := List.mem_map.1 hg
  obtain ⟨y, _, rfl⟩ := List.mem_map.1 hx
  show (0 : Int) ≤ 0 + 60000 ∧ (0 : Int) ≤ 0 + 60000
  omega
theorem till_at {m : MQ} {g : MG} {n : Nat} (h : Till m) (hg : g ∈ m.groups) (h0 : 0 ≤ m.time) : (g.items.getD n It.zero).till ≤ m.time + 60000 ∧ (g.items.getD n It.zero).after ≤ m.time + 60000 := by
  rw [List.getD_eq_getElem?_getD]
  cases hx : g.items[n]? with
  | none => simp [It.zero]; omega
  | some x => exact h g hg x (List.mem_of_getElem? hx)
theorem till_ack {m : MQ} {k : Nat} {g : MG} {l : List Nat} {n : Int} (h : Till m) (hg : m.groups[k]? = some g) (h0 : 0 ≤ m.time) : Till (rackM m k g l n) := by
  unfold rackM
  cases decide (leasedR m.time g.items l n < 0)
  · exact till_setI h (till_at h (List.mem_of_getElem? hg) h0)
  · exact h
theorem till_nack {m : MQ} {k : Nat} {g : MG} {l : List Nat} {n d : Int} (h : Till m) (h0 : 0 ≤ m.time) (hd : d ≤ 60000) : Till (rnackM m k g l n d) := by
  unfold rnackM
  cases decide (leasedR m.time g.items l n < 0)
  · refine till_setI h ?_
    simp only [nackI]
    omega
  · exact h
theorem till_stepQ {kind n ms : Int} {k : Nat} {g : MG} {m : MQ} {L : Nat → List Nat} (h : Till m) (hg : m.groups[k]? = some g) (h0 : 0 ≤ m.time) (hc : m.c.l ≤ 60000) : Till (stepQ kind n ms k g m L) := by
  unfold stepQ
  split
  · exact till_enq h h0
  · split
    · exact till_recv h hg hc
    · split
      · exact till_ack h hg h0
      · split
        · exact till_nack h h0 (by have := pickQ_range ms 100 (by decide); omega)
        · exact till_tick h

end Go.Proofs.YtockkceclkcgbaaGreatDoor

/- The contract of a run's step at every kind, over any queue whose log keeps what it must. -/
namespace Go.Proofs.YtockkceclkcgbaaGreatDoor
open Go.RowKit

/-- a run that is played, its floor a multiple of Segment -/
def PlayS (X : World → (Nat → Tag) → Nat → Nat → MQ → Prop) (B : Int) (C : Conf) (w : World) (T : Nat → Tag) (i b : Nat) (m : MQ) (L : Nat → List Nat) : Prop := Play X B w T i b m L ∧ Seg m ∧ Till m ∧ m.c = C
theorem seg_same {m m' : MQ} (h : Seg m) (hf : m'.floor = m.floor) (hc : m'.c = m.c) : Seg m' := by unfold Seg at *; rw [hf, hc]; exact h
theorem stepQ_seg {kind n ms : Int} {k : Nat} {g : MG} {m : MQ} {L : Nat → List Nat} (h : Seg m) : Seg (stepQ kind n ms k g m L) := by
  unfold stepQ
  split
  · unfold menqM
    cases decide (menqE m (bodyN m.bodies.length) = 0)
    · exact h
    · exact seg_same h rfl rfl
  · split
    · exact seg_same h rfl rfl
    · split
      · unfold rackM
        cases decide (leasedR m.time g.items (L k) n < 0)
        · exact seg_same h rfl rfl
        · exact h
      · split
        · unfold rnackM
          cases decide (leasedR m.time g.items (L k) n < 0)
          · exact seg_same h rfl rfl
          · exact h
        · unfold tickM
          cases btw (pickQ n 50) 0 60000
          · exact h
          · exact seg_same h rfl rfl

theorem grp_c {m : MQ} {s : ByteArray} {fr : Int} : (mgrpM m s fr).c = m.c := by
  unfold mgrpM
  cases decide (mgrpE m s fr = 0) <;> rfl
theorem retain_c {m : MQ} : (retainM m).c = m.c := by
  unfold retainM
  cases retainB m <;> rfl
theorem step_c {kind n ms : Int} {k : Nat} {g : MG} {m : MQ} {L : Nat → List Nat} : (stepQ kind n ms k g m L).c = m.c := by
  unfold stepQ
  split
  · unfold menqM
    cases decide (menqE m (bodyN m.bodies.length) = 0) <;> rfl
  · split
    · rfl
    · split
      · unfold rackM
        cases decide (leasedR m.time g.items (L k) n < 0) <;> rfl
      · split
        · unfold rnackM
          cases decide (leasedR m.time g.items (L k) n < 0) <;> rfl
        · unfold tickM
          cases btw (pickQ n 50) 0 60000 <;> rfl
theorem pgroup_any {X : World → (Nat → Tag) → Nat → Nat → MQ → Prop} {B Bm : Int} {C : Conf} (hX : XC X Bm) (hle : B ≤ Bm) (i b : Nat) (m : MQ) (L : Nat → List Nat) (fr : Int) (w : World) (T : Nat → Tag) (h : PlayS X B C w T i b m L) (h0 : -9223372036854775808 ≤ fr) (h1 : fr ≤ 9223372036854775807) :
    Calls Tryz.prog 32 #[.pointer (some ⟨b, 0, none⟩), .int .i64 fr] w fun e w' => e = .returned (.tuple #[]) ∧ ∃ T' m' L', Step (UT i) w T w' T' ∧ PlayS X B C w' T' i b m' L' := by
  obtain ⟨⟨bx, gb, gc, hx, hr, hf, hq, hp⟩, hs, htl, hcc⟩ := h
  by_cases hK : m.groups.length < 6
  · refine (rgroup_any hX hle i b bx m L fr w T hx hf hr.run hq hK h0 h1).mono ?_
    rintro e w' ⟨rfl, T', s', hx', hr', hf', hq'⟩
    have hsg : Seg (mgrpM m (nameB m.groups.length) (startOf m fr)) := by
      unfold mgrpM
      cases decide (mgrpE m (nameB m.groups.length) (startOf m fr) = 0)
      · exact hs
      · exact seg_same hs rfl rfl
    have hpos : 0 < (mgrpM m (nameB m.groups.length) (startOf m fr)).groups.length := by
      unfold mgrpM
      cases decide (mgrpE m (nameB m.groups.length) (startOf m fr) = 0)
      · exact hp
      · simp
    obtain ⟨gb', gc', hr''⟩ := RunM.named hr' hpos
    exact ⟨rfl, T', _, L, s', ⟨bx, gb', gc', hx', hr'', hf', hq', hpos⟩, hsg, till_grp htl hf.ok.time.1, grp_c.trans hcc⟩
  · obtain ⟨c7, lb⟩ := hr.len
    have h6 := hr.few
    have hge : (6 : Int) ≤ (m.groups.length : Int) := by omega
    have P : Hid (PlayS X B C w T i b m L) := hide ⟨⟨bx, gb, gc, hx, hr, hf, hq, hp⟩, hs, htl, hcc⟩
    clear hx hr hf hq hp hs htl hcc
    go_enter Tryz.func32, Tryz.ntmps32
    go_wp2
    refine bodyPost_ret (results_none rfl _ _ _) rfl ?_
    exact ⟨rfl, T, m, L, Step.refl _ _ _, P.out⟩

attribute [local go_sem] over_cell

set_option maxRecDepth 100000 in
set_option maxHeartbeats 4000000 in
theorem pmore_any {X : World → (Nat → Tag) → Nat → Nat → MQ → Prop} {Dec : Conf → ByteArray → MQ → Prop} {Ld : World → (Nat → Tag) → Prop} {B Bm : Int} {C : Conf} (hD : XD X Dec Ld Bm) (hle : B ≤ Bm) (i b : Nat) (m : MQ) (L : Nat → List Nat) (kind G n ms : Int) (w : World) (T : Nat → Tag) (h : PlayS X B C w T i b m L) (k1 : ¬ kind = 1) (k3 : ¬ kind = 3) (k4 : ¬ kind = 4) (k5 : ¬ kind = 5) (k6 : ¬ kind = 6) (hG : i64 G) (hn : i64 n) (hLd : Ld w T) :
    Calls Tryz.prog 34 #[.pointer (some ⟨b, 0, none⟩), .agg #[.int .i64 kind, .int .i64 G, .int .i64 n, .int .i64 ms]] w fun e w' => e = .returned (.tuple #[]) ∧ ∃ T' m' L', Step (UT i) w T w' T' ∧ PlayS X B C w' T' i b m' L' := by
  have hX := hD.xc
  obtain ⟨h, hsg, htl, hcc⟩ := h
  have s1 := step_new w T (.cells #[.int .i64 kind, .int .i64 G, .int .i64 n, .int .i64 ms] 85) .free (fun _ => False)
  have hO := blk_new w T #[.int .i64 kind, .int .i64 G, .int .i64 n, .int .i64 ms] 85 .free
  have h1 := h.step hX s1 (fun _ _ h => h)
  have hpos : 0 < m.groups.length := by obtain ⟨_, _, _, _, _, _, _, hp⟩ := h; exact hp
  have h6 : m.groups.length ≤ 6 := by obtain ⟨_, _, _, _, hr, _⟩ := h; exact hr.few
  have hpk := fun w1 => (pickk_same G m.groups.length w1 hG.1 hG.2 (by omega) (by omega)).mono (fun e w' (h : _ ∧ w' = w1) => (⟨h.1, by rw [h.2]; exact Below.refl _ _⟩ : e = .returned (.int .i64 (pickQ G m.groups.length)) ∧ Below w1.heap.size w1 w'))
  generalize pickQ G m.groups.length = pk at hpk
  have d1 : decide (kind = 1) = false := decide_eq_false k1
  have d3 : decide (kind = 3) = false := decide_eq_false k3
  have d4 : decide (kind = 4) = false := decide_eq_false k4
  have d5 : decide (kind = 5) = false := decide_eq_false k5
  have d6 : decide (kind = 6) = false := decide_eq_false k6
  go_enter Tryz.func34, Tryz.ntmps34
  go_wp2_with fail
  generalize retag T w.heap.size .free = T1 at *
  generalize w.alloc (.cells #[.int .i64 kind, .int .i64 G, .int .i64 n, .int .i64 ms] 85) = w1 at *
  generalize w.heap.size = ob at hO ⊢
  obtain ⟨bx, gb, gc, hx, hr, hf, hq, hp⟩ := id h1
  obtain ⟨c7, lb⟩ := hr.len
  have q1 := hO.cell (j := 1) rfl
  simp only [List.getElem_toArray, List.getElem_cons_succ, List.getElem_cons_zero] at q1
  have lO := hO.lt
  clear hx hr hf hq hp
  refine wp_region_over (by kernel_rfl) (by kernel_rfl) ?_
  repeat (go_big_quiet_step ((go_at_call 33; exact quiet_over hpk)))
  refine wpQuiet_nil ?_
  rintro _ ⟨x2, rfl⟩
  have g2 := step_below (fun _ => False) T1 (over_below w1 x2)
  generalize over w1 x2 = w2 at *
  have h2 := h1.step hX g2 (fun _ _ h => h)
  have hO2 := hO.step g2 (fun h => h)
  have s2 : Step (UT i) w T w2 T1 := (s1.trans g2).mono (fun _ h => h.elim)
  clear h1 hO s1 g2 q1 lO lb c7 hpk h
  have q0 := hO2.cell (j := 0) rfl
  have q2 := hO2.cell (j := 2) rfl
  simp only [List.getElem_toArray, List.getElem_cons_succ, List.getElem_cons_zero] at q0 q2
  have lO := hO2.lt
  by_cases k2 : kind = 2
  · subst k2
    go_wp2_with fail
    refine (pgroup_any hX hle i b m L n w2 T1 ⟨h2, hsg, htl, hcc⟩ hn.1 hn.2).mono ?_
    rintro e w3 ⟨rfl, T3, m', L', s3, h3⟩
    go_wp2
    go_end0
    exact ⟨rfl, T3, m', L', s2.trans s3, h3⟩
  by_cases k7 : kind = 7
  · subst k7
    obtain ⟨bx, gb, gc, hx, hr, hf, hq, hp⟩ := h2
    go_wp2_with fail
    refine (rretain_any hX hle i b bx gb gc m L w2 T1 hx hf hr hq hsg hp).mono ?_
    rintro e w3 ⟨rfl, T3, s3, hx3, hr3⟩
    have hfin : PlayS X B C w3 T3 i b (retainM m) L := ⟨⟨bx, gb, gc, hx3, hr3, fit_retain hf, nice_retain hq hf, by rw [retainM_ns.1]; exact hp⟩, seg_retain hsg, till_retain htl, retain_c.trans hcc⟩
    clear hx hr hf hq hp hx3 hr3
    go_wp2
    go_end0
    exact ⟨rfl, T3, _, L, s2.trans s3, hfin⟩
  by_cases k8 : kind = 8
  · subst k8
    obtain ⟨bx, gb, gc, hx, hr, hf, hq, hp⟩ := h2
    go_wp2_with fail
    refine (rcrash_any hD hle i b bx gb gc m L w2 T1 hx hf hr hq hp (hD.ld hLd s2 (ut_not_old i))).mono ?_
    rintro e w3 ⟨rfl, T3, bx3, ch, s3, hx3, hr3⟩
    have hfin : PlayS X B C w3 T3 i b (wakeM m ch) L := ⟨⟨bx3, gb, gc, hx3, hr3, fit_wake hf, nice_wake hq, by rw [wakeM_glen]; exact hp⟩, seg_same hsg rfl rfl, till_wake, hcc⟩
    clear hx hr hf hq hp hx3 hr3
    go_wp2
    go_end0
    exact ⟨rfl, T3, _, L, s2.trans s3, hfin⟩
  have e2 : decide (kind = 2) = false := decide_eq_false k2
  have e7 : decide (kind = 7) = false := decide_eq_false k7
  have e8 : decide (kind = 8) = false := decide_eq_false k8
  have P := hide (And.intro h2 (And.intro hsg (And.intro htl hcc)))
  clear h2 hsg htl hcc
  go_wp2
  go_end0
  exact ⟨rfl, T1, m, L, s2, P.out⟩

/-- a step, whatever its kind -/
theorem pall_any {X : World → (Nat → Tag) → Nat → Nat → MQ → Prop} {Dec : Conf → ByteArray → MQ → Prop} {Ld : World → (Nat → Tag) → Prop} {B Bm : Int} {C : Conf} (hD : XD X Dec Ld Bm) (hle : B + 60000 ≤ Bm) (hlm : B ≤ 3999999999999940000) (i b : Nat) (m : MQ) (L : Nat → List Nat) (kind G n ms : Int) (w : World) (T : Nat → Tag) (h : PlayS X B C w T i b m L) (hG : i64 G) (hn : i64 n) (hms : i64 ms) (hLd : Ld w T) :
    Calls Tryz.prog 34 #[.pointer (some ⟨b, 0, none⟩), .agg #[.int .i64 kind, .int .i64 G, .int .i64 n, .int .i64 ms]] w fun e w' => e = .returned (.tuple #[]) ∧ ∃ T' m' L', Step (UT i) w T w' T' ∧ PlayS X (B + 60000) C w' T' i b m' L' := by
  by_cases hK : kind = 1 ∨ kind = 3 ∨ kind = 4 ∨ kind = 5 ∨ kind = 6
  · have hpos : 0 < m.groups.length := by obtain ⟨⟨_, _, _, _, _, _, _, hp⟩, _⟩ := h; exact hp
    obtain ⟨p0, p1⟩ := pickQ_range G m.groups.length (by omega)
    obtain ⟨k, hk⟩ : ∃ k : Nat, pickQ G m.groups.length = k := ⟨(pickQ G m.groups.length).toNat, by omega⟩
    obtain ⟨g, hg⟩ : ∃ g, m.groups[k]? = some g := ⟨_, List.getElem?_eq_getElem (by omega)⟩
    refine (pstep_any hD.xc hle hlm i b m L kind G n ms k g w T h.1 hg hk hK hG hn hms).mono ?_
    rintro e w' ⟨rfl, T', s', h'⟩
    have hok : m.Fit B := by obtain ⟨⟨_, _, _, _, _, hf, _⟩, _⟩ := h; exact hf
    exact ⟨rfl, T', _, _, s', h', stepQ_seg h.2.1, till_stepQ h.2.2.1 hg hok.ok.time.1 (good_all hok.ok.good).1.2, step_c.trans h.2.2.2⟩
  · refine (pmore_any hD (by omega) i b m L kind G n ms w T h (fun e => hK (.inl e)) (fun e => hK (.inr (.inl e))) (fun e => hK (.inr (.inr (.inl e)))) (fun e => hK (.inr (.inr (.inr (.inl e))))) (fun e => hK (.inr (.inr (.inr (.inr e))))) hG hn hLd).mono ?_
    rintro e w' ⟨rfl, T', m', L', s', h', hs'⟩
    exact ⟨rfl, T', m', L', s', h'.mono (by omega), hs'⟩

end Go.Proofs.YtockkceclkcgbaaGreatDoor

/- A script, played to its end: the run that comes of it; Right and Kept, walked. -/
namespace Go.Proofs.YtockkceclkcgbaaGreatDoor
open Go.RowKit

theorem till_begin {c : Conf} (h : goodC c = true) : Till (q4 c) := by
  have hc := good_all h
  intro g hg x hx
  simp [q4] at hg
  subst hg
  simp at hx
  subst hx
  show 0 + c.l ≤ 0 + 60000 ∧ (0 : Int) ≤ 0 + 60000
  omega

attribute [local go_sem] over_cell

set_option maxRecDepth 100000 in
set_option maxHeartbeats 4000000 in
theorem played_any {X : World → (Nat → Tag) → Nat → Nat → MQ → Prop} {Dec : Conf → ByteArray → MQ → Prop} {Ld : World → (Nat → Tag) → Prop} (hD : XD X Dec Ld 3000000000000000000) (i : Nat) (l : List Int) (s : List StV) (ao so : Option Addr) (cap scap : Nat) (w : World) (T : Nat → Tag) (hl : ArgI w ao l) (hs : ArgS w so s) (hso : ∀ (k : Nat) (o : StV), s[k]? = some o → ∀ a, so = some a → T a.block = .old) (hlen : l.length ≤ 9223372036854775807) (hsl : s.length ≤ 4398046511104) (hLd : Ld w T) :
    Calls Tryz.prog 19 #[.slice ao l.length cap, .slice so s.length scap] w fun e w' => ∃ b, e = .returned (.pointer (some ⟨b, 0, none⟩)) ∧ ∃ T' m L, Step (UT i) w T w' T' ∧ PlayS X (60000 * s.length) (madeC l) w' T' i b m L := by
  have hX := hD.xc
  go_enter Tryz.func19, Tryz.ntmps19
  go_wp2_with fail
  refine (begin_any hX (by decide) i l ao cap w T hl hlen).mono ?_
  rintro e w1 ⟨b, rfl, T1, s1, p1⟩
  have p0 : PlayS X 0 (madeC l) w1 T1 i b (q4 (madeC l)) L3 := ⟨p1, by show (0 : Int).tmod _ = 0; exact Int.zero_tmod _, till_begin (madeC_good l), rfl⟩
  clear p1 hl
  generalize q4 (madeC l) = m0 at p0
  generalize L3 = l0 at p0
  go_wp2_with fail
  go_loopw [6] (fun v wr => ∃ (j : Nat) (T' : Nat → Tag) (m : MQ) (L : Nat → List Nat), j ≤ s.length ∧ v = .int .i64 j ∧ Step (UT i) w T wr T' ∧ PlayS X (60000 * j) (madeC l) wr T' i b m L) (fun v _ => s.length - (intOf v).toNat)
  case atStart => exact ⟨0, T1, m0, l0, Nat.zero_le _, rfl, s1, by simpa using p0⟩
  case round =>
    obtain ⟨j, T4, m, L, hj, rfl, f4, p4⟩ := hrel
    clear p0 s1
    obtain ⟨⟨bx, gb, gc, hx, hr, hf, hq, hp⟩, hsg, htl, _⟩ := id p4
    obtain ⟨g0, hg0⟩ : ∃ g, m.groups[0]? = some g := ⟨_, List.getElem?_eq_getElem hp⟩
    obtain ⟨bo, bc, so4, sc4, lo4, lc4, A⟩ := hr.at hg0
    have c9 := A.c9
    have c10 := A.c10
    have c11 := A.c11
    have lb := A.lb
    clear hx hr hf hq hp hsg htl A hg0
    by_cases hlt : j < s.length
    · obtain ⟨o, ho⟩ : ∃ o, s[j]? = some o := ⟨_, List.getElem?_eq_getElem hlt⟩
      obtain ⟨hG, hn, hms, ob, off, rfl, hob, hcl⟩ := hs j o ho
      have hold : T ob = .old := hso _ _ ho _ rfl
      have hnot : ¬ UT i (T ob) := by rw [hold]; exact ut_not_old i
      have q0 := (f4.cell (p := ⟨ob, off + j * 4 + 0, none⟩) hob hnot).trans (hcl 0 _ rfl)
      have q1 := (f4.cell (p := ⟨ob, off + j * 4 + 1, none⟩) hob hnot).trans (hcl 1 _ rfl)
      have q2 := (f4.cell (p := ⟨ob, off + j * 4 + 2, none⟩) hob hnot).trans (hcl 2 _ rfl)
      have q3 := (f4.cell (p := ⟨ob, off + j * 4 + 3, none⟩) hob hnot).trans (hcl 3 _ rfl)
      rw [Nat.add_zero] at q0
      simp only [StV.cells, List.getElem_toArray, List.getElem_cons_succ, List.getElem_cons_zero] at q0 q1 q2 q3
      obtain ⟨kind, G, n, ms⟩ := o
      simp only at q0 q1 q2 q3 hG hn hms
      have hst := pall_any hD (B := 60000 * j) (by omega) (by omega) i b m L kind G n ms wr T4 p4 hG hn hms (hD.ld hLd f4 (ut_not_old i))
      clear hcl ho hs hso hold hnot
      go_wp2_with fail
      refine hst.mono ?_
      clear hst
      rintro e w6 ⟨rfl, T6, m6, L6, s6, p6⟩
      have e6 : (60000 : Int) * j + 60000 = 60000 * ((j + 1 : Nat) : Int) := by omega
      rw [e6] at p6
      have f6 := f4.trans s6
      clear p4 q0 q1 q2 q3 c9 c10 c11 lb f4 s6
      go_wp2
      exact ⟨⟨j + 1, T6, m6, L6, by omega, by simp, f6, p6⟩, by simp [intOf]; omega⟩
    · have e : j = s.length := by omega
      subst e
      have P := hide p4
      clear p4
      go_wp2
      go_ret
      exact ⟨b, rfl, T4, m, L, f4, P.out⟩

theorem PlayS.flags {X : World → (Nat → Tag) → Nat → Nat → MQ → Prop} {B : Int} {C : Conf} {w : World} {T : Nat → Tag} {i b : Nat} {m : MQ} {L : Nat → List Nat} (h : PlayS X B C w T i b m L) : w.cell? ⟨b, 9, none⟩ = some (.bool true) ∧ w.cell? ⟨b, 10, none⟩ = some (.bool true) ∧ w.cell? ⟨b, 11, none⟩ = some (.bool true) ∧ b < w.heap.size := by
  obtain ⟨⟨bx, gb, gc, hx, hr, hf, hq, hp⟩, hsg⟩ := h
  obtain ⟨g0, hg0⟩ : ∃ g, m.groups[0]? = some g := ⟨_, List.getElem?_eq_getElem hp⟩
  obtain ⟨bo, bc, so4, sc4, lo4, lc4, A⟩ := hr.at hg0
  exact ⟨A.c9, A.c10, A.c11, A.lb⟩
theorem below_old {w w' : World} {i : Nat} {T' : Nat → Tag} (h : Step (UT i) w (fun _ => .old) w' T') : Below w.heap.size w w' := ⟨h.os, h.tape, h.output, h.size, fun k hk => h.block k hk (ut_not_old i)⟩

end Go.Proofs.YtockkceclkcgbaaGreatDoor

/- The sum of a text, as a function of what was summed before (what it is does not matter, but that it has four bytes): the contract of sum. -/
namespace Go.Proofs.YtockkceclkcgbaaGreatDoor
open Go.RowKit

abbrev Bs := List UInt8
def mkB (l : Bs) : ByteArray := ⟨l.toArray⟩
def halfStep (s : Int) : Int := bits .xor .u32 (s / 2) (bits .and .u32 s 1 * 3988292384 % 4294967296)
def shiftF : Nat → Int → Int
  | 0, s => s
  | n + 1, s => halfStep (shiftF n s)
def crcStep (s : Int) (b : UInt8) : Int := shiftF 8 (bits .xor .u32 s b.toNat)
def notF (s : Int) : Int := bits .xor .u32 IntKind.u32.max s
def crcF (s : Nat) (l : Bs) : Nat := (notF (l.foldl crcStep (notF s))).toNat % 4294967296

theorem bits_u32 (op : BinOp) (a b : Int) : 0 ≤ bits op .u32 a b ∧ bits op .u32 a b ≤ 4294967295 := by
  have := wf_bits op .u32 a b
  simp [Lit.wf, IntKind.min, IntKind.max, IntKind.signed, IntKind.bits] at this
  omega
theorem shiftF_range (s : Int) (h0 : 0 ≤ s) (h1 : s ≤ 4294967295) : ∀ n, 0 ≤ shiftF n s ∧ shiftF n s ≤ 4294967295
  | 0 => ⟨h0, h1⟩
  | _ + 1 => bits_u32 .xor _ _
theorem crcF_lt (s : Nat) (l : Bs) : crcF s l < 256 ^ 4 := Nat.mod_lt _ (by decide)

set_option maxRecDepth 100000 in
set_option maxHeartbeats 1000000 in
theorem shift_any (s : Int) (h0 : 0 ≤ s) (h1 : s ≤ 4294967295) (w : World) : Calls Tryz.prog 122 #[.int .u32 s, .int .i64 8] w fun e w' => e = .returned (.int .u32 (shiftF 8 s)) ∧ w' = w := by
  go_enter Tryz.func122, Tryz.ntmps122
  go_wp2_with fail
  go_loopw [0, 7] (fun u0 u7 wr => ∃ (k : Nat), k ≤ 8 ∧ u7 = .int .i64 k ∧ u0 = .int .u32 (shiftF k s) ∧ wr = w) (fun _ u7 _ => 8 - (intOf u7).toNat)
  case atStart => exact ⟨0, Nat.zero_le _, rfl, rfl, rfl⟩
  case round =>
    obtain ⟨k, hk, rfl, rfl, rfl⟩ := hrel
    obtain ⟨r0, r1⟩ := shiftF_range s h0 h1 k
    by_cases hlt : k < 8
    · have hnext : Hid (shiftF (k + 1) s = bits .xor .u32 (shiftF k s / 2) (bits .and .u32 (shiftF k s) 1 * 3988292384 % 4294967296)) := hide rfl
      generalize shiftF k s = z at *
      have y1 := bits_u32 .and z 1
      go_wp2
      exact ⟨⟨k + 1, by omega, by simp, by rw [hnext.out], trivial⟩, by simp [intOf]; omega⟩
    · have e : k = 8 := by omega
      subst e
      generalize hz : shiftF 8 s = z at *
      go_wp2
      go_ret
      exact ⟨by rw [hz]; rfl, rfl⟩

theorem take_snocB {l : Bs} {k : Nat} {x : UInt8} (h : l[k]? = some x) : l.take (k + 1) = l.take k ++ [x] := by
  obtain ⟨hk, rfl⟩ := List.getElem?_eq_some_iff.1 h
  exact (List.take_append_getElem hk).symm

set_option maxRecDepth 100000 in
set_option maxHeartbeats 1000000 in
theorem sum_any (s : Nat) (_hs : s < 256 ^ 4) (t : ByteArray) (ht : t.size ≤ 9000000000000000000) (w : World) : Calls Tryz.prog 93 #[.int .u32 s, .string t] w fun e w' => e = .returned (.int .u32 (crcF s t.data.toList)) ∧ w' = w := by
  have hn : bits .xor .u32 IntKind.u32.max s = notF s := rfl
  have hsize : t.data.toList.length = t.size := Array.length_toList
  go_enter Tryz.func93, Tryz.ntmps93
  go_wp2_with fail
  go_loopw [5, 11] (fun u5 u11 wr => ∃ (k : Nat), k ≤ t.size ∧ u11 = .int .i64 k ∧ u5 = .int .u32 ((t.data.toList.take k).foldl crcStep (notF s)) ∧ 0 ≤ (t.data.toList.take k).foldl crcStep (notF s) ∧ (t.data.toList.take k).foldl crcStep (notF s) ≤ 4294967295 ∧ wr = w) (fun _ u11 _ => t.size - (intOf u11).toNat)
  case atStart => exact ⟨0, Nat.zero_le _, rfl, rfl, (bits_u32 .xor IntKind.u32.max s).1, (bits_u32 .xor IntKind.u32.max s).2, rfl⟩
  case round =>
    obtain ⟨k, hk, rfl, rfl, r0, r1, rfl⟩ := hrel
    by_cases hlt : k < t.size
    · obtain ⟨x, hx⟩ : ∃ x, t.data.toList[k]? = some x := ⟨_, List.getElem?_eq_getElem (by omega)⟩
      have hnext : Hid ((t.data.toList.take (k + 1)).foldl crcStep (notF s) = crcStep ((t.data.toList.take k).foldl crcStep (notF s)) x) := hide (by rw [take_snocB hx, List.foldl_append]; rfl)
      generalize (t.data.toList.take k).foldl crcStep (notF s) = z at *
      have hxv : ((t[k]'hlt).toNat : Int) % 4294967296 = x.toNat := by
        have h1 : t[k]'hlt = x := by
          have h2 := (List.getElem?_eq_some_iff.1 hx).2
          rw [← h2]
          rfl
        have h3 : x.toNat < 256 := x.toNat_lt
        rw [h1]
        omega
      have y1 := bits_u32 .xor z x.toNat
      have y2 : 0 ≤ crcStep z x ∧ crcStep z x ≤ 4294967295 := shiftF_range _ y1.1 y1.2 8
      have hfin : Hid (crcStep z x = shiftF 8 (bits .xor .u32 z x.toNat)) := hide rfl
      clear hx
      go_wp2_with fail
      simp only [hxv]
      refine (shift_any _ y1.1 y1.2 _).mono ?_
      rintro e w2 ⟨rfl, rfl⟩
      rw [← hfin.out]
      generalize crcStep z x = y at *
      go_wp2
      exact ⟨⟨k + 1, by omega, by simp, by rw [hnext.out], by rw [hnext.out]; exact y2.1, by rw [hnext.out]; exact y2.2, trivial⟩, by simp [intOf]; omega⟩
    · have e : k = t.size := by omega
      subst e
      have hall : t.data.toList.take t.size = t.data.toList := List.take_of_length_le (by omega)
      have hr := bits_u32 .xor IntKind.u32.max ((t.data.toList.take t.size).foldl crcStep (notF s))
      have hfin : Hid (crcF s t.data.toList = (bits .xor .u32 IntKind.u32.max ((t.data.toList.take t.size).foldl crcStep (notF s))).toNat) := hide (by
        unfold crcF
        rw [hall] at hr ⊢
        show (bits .xor .u32 IntKind.u32.max _).toNat % 4294967296 = _
        omega)
      generalize (t.data.toList.take t.size).foldl crcStep (notF s) = z at *
      go_wp2
      go_ret
      refine ⟨?_, rfl⟩
      rw [hfin.out, Int.toNat_of_nonneg hr.1]
      rfl

end Go.Proofs.YtockkceclkcgbaaGreatDoor

/- A log's bytes as plain mathematics: numbers, records with their sums, what a scan of a text finds. -/
namespace Go.Proofs.YtockkceclkcgbaaGreatDoor

def encN : Nat → Nat → Bs
  | 0, _ => []
  | w + 1, n => UInt8.ofNat (n / 256 ^ w) :: encN w n
def decN (l : Bs) : Nat := l.foldl (fun a b => a * 256 + b.toNat) 0

theorem encN_length : ∀ w n, (encN w n).length = w
  | 0, _ => rfl
  | w + 1, n => by simp [encN, encN_length w n]
theorem decN_foldl : ∀ (l : Bs) (a : Nat), l.foldl (fun a b => a * 256 + b.toNat) a = a * 256 ^ l.length + decN l
  | [], a => by simp [decN]
  | x :: r, a => by
    have h1 := decN_foldl r (a * 256 + x.toNat)
    have h2 := decN_foldl r (0 * 256 + x.toNat)
    simp only [decN, List.foldl_cons, List.length_cons] at h1 h2 ⊢
    rw [h1, h2, Nat.pow_succ, Nat.zero_mul, Nat.zero_add, Nat.add_mul, Nat.mul_assoc, Nat.mul_comm 256 (256 ^ r.length)]
    omega
theorem decN_cons (x : UInt8) (r : Bs) : decN (x :: r) = x.toNat * 256 ^ r.length + decN r := by
  have := decN_foldl r (0 * 256 + x.toNat)
  simp only [decN, List.foldl_cons] at this ⊢
  rw [this]
  simp
theorem decN_snoc (l : Bs) (x : UInt8) : decN (l ++ [x]) = decN l * 256 + x.toNat := by simp [decN]
theorem decN_lt : ∀ l : Bs, decN l < 256 ^ l.length
  | [] => by simp [decN]
  | x :: r => by
    have ih := decN_lt r
    have hx : x.toNat < 256 := x.toNat_lt
    rw [decN_cons, List.length_cons, Nat.pow_succ]
    have : x.toNat * 256 ^ r.length + 256 ^ r.length ≤ 256 ^ r.length * 256 := by
      rw [← Nat.succ_mul, Nat.mul_comm]
      exact Nat.mul_le_mul_left _ hx
    omega
theorem decN_encN : ∀ w n, decN (encN w n) = n % 256 ^ w
  | 0, n => by simp [encN, decN, Nat.mod_one]
  | w + 1, n => by
    rw [encN, decN_cons, encN_length, decN_encN w n, Nat.pow_succ, Nat.mod_mul]
    simp
    rw [Nat.mul_comm]
    omega
theorem decN_enc {w n : Nat} (h : n < 256 ^ w) : decN (encN w n) = n := by rw [decN_encN, Nat.mod_eq_of_lt h]

/-! records -/
def headB (k : UInt8) (d : Bs) : Bs := k :: encN 3 d.length
def headS (s : Nat) (k : UInt8) (d : Bs) : Nat := crcF s (headB k d)
def recS (s : Nat) (k : UInt8) (d : Bs) : Nat := crcF (headS s k d) d
def recB (s : Nat) (k : UInt8) (d : Bs) : Bs := headB k d ++ (encN 4 (headS s k d) ++ (d ++ encN 4 (recS s k d)))
theorem headB_length (k : UInt8) (d : Bs) : (headB k d).length = 4 := by simp [headB, encN_length]
theorem recB_length (s : Nat) (k : UInt8) (d : Bs) : (recB s k d).length = d.length + 12 := by simp [recB, headB_length, encN_length]; omega
theorem recS_lt (s : Nat) (k : UInt8) (d : Bs) : recS s k d < 256 ^ 4 := crcF_lt _ _

/-- a part of so many bytes, and the sum behind it: none, the text ends within; some none, the sum is wrong -/
def partOf (s n : Nat) (t : Bs) : Option (Option (Bs × Bs × Nat)) :=
  if t.length < n + 4 then none else if decN ((t.drop n).take 4) = crcF s (t.take n) then some (some (t.take n, t.drop (n + 4), crcF s (t.take n))) else some none
inductive Scan where
  | cut | wrong | got (k : UInt8) (d rest : Bs) (s : Nat)
def scanR (s : Nat) (t : Bs) : Scan := match partOf s 4 t with
  | none => .cut
  | some none => .wrong
  | some (some (h, t1, s1)) => match partOf s1 (decN (h.drop 1)) t1 with
    | none => .cut
    | some none => .wrong
    | some (some (d, t2, s2)) => .got (h.headD 0) d t2 s2

theorem partOf_got (s : Nat) (p rest : Bs) : partOf s p.length (p ++ (encN 4 (crcF s p) ++ rest)) = some (some (p, rest, crcF s p)) := by
  have h0 : ¬ (p ++ (encN 4 (crcF s p) ++ rest)).length < p.length + 4 := by simp [encN_length]
  have h1 : (p ++ (encN 4 (crcF s p) ++ rest)).take p.length = p := by simp
  have h2 : ((p ++ (encN 4 (crcF s p) ++ rest)).drop p.length).take 4 = encN 4 (crcF s p) := by
    rw [List.drop_left, List.take_append_of_le_length (by simp [encN_length])]
    exact List.take_of_length_le (by simp [encN_length])
  have h3 : (p ++ (encN 4 (crcF s p) ++ rest)).drop (p.length + 4) = rest := by
    rw [← List.append_assoc, List.drop_left' (by simp [encN_length])]
  unfold partOf
  rw [if_neg h0, h1, h2, h3, decN_enc (crcF_lt _ _), if_pos rfl]
theorem partOf_cut (s n : Nat) (t : Bs) (h : t.length < n + 4) : partOf s n t = none := by simp [partOf, h]

theorem scan_rec (s : Nat) (k : UInt8) (d rest : Bs) (hd : d.length < 256 ^ 3) : scanR s (recB s k d ++ rest) = .got k d rest (recS s k d) := by
  have e1 : recB s k d ++ rest = headB k d ++ (encN 4 (crcF s (headB k d)) ++ (d ++ (encN 4 (recS s k d) ++ rest))) := by simp [recB, headS]
  have p1 := partOf_got s (headB k d) (d ++ (encN 4 (recS s k d) ++ rest))
  rw [headB_length] at p1
  have p2 := partOf_got (crcF s (headB k d)) d rest
  have e2 : decN ((headB k d).drop 1) = d.length := by
    rw [show (headB k d).drop 1 = encN 3 d.length from rfl, decN_enc hd]
  unfold scanR
  rw [e1, p1]
  simp only [e2]
  rw [show recS s k d = crcF (crcF s (headB k d)) d from rfl, p2]
  rfl
theorem scan_cut (s : Nat) (k : UInt8) (d p q : Bs) (hd : d.length < 256 ^ 3) (hp : p ++ q = recB s k d) (hq : q ≠ []) : scanR s p = .cut := by
  have hl : p.length + q.length = d.length + 12 := by rw [← recB_length s k d, ← hp, List.length_append]
  have hq0 : 0 < q.length := by cases q with
    | nil => exact absurd rfl hq
    | cons _ _ => simp
  by_cases h8 : p.length < 8
  · unfold scanR
    rw [partOf_cut s 4 p h8]
  · have e1 : p = headB k d ++ (encN 4 (crcF s (headB k d)) ++ p.drop 8) := by
      have h1 : (p ++ q).take 8 = headB k d ++ encN 4 (crcF s (headB k d)) := by
        rw [hp, recB, ← List.append_assoc]
        rw [List.take_append_of_le_length (by simp [headB_length, encN_length])]
        exact List.take_of_length_le (by simp [headB_length, encN_length])
      rw [List.take_append_of_le_length (by omega)] at h1
      rw [← List.append_assoc, ← h1, List.take_append_drop]
    have p1 := partOf_got s (headB k d) (p.drop 8)
    rw [headB_length, ← e1] at p1
    have e2 : decN ((headB k d).drop 1) = d.length := by
      rw [show (headB k d).drop 1 = encN 3 d.length from rfl, decN_enc hd]
    unfold scanR
    rw [p1]
    simp only [e2]
    rw [partOf_cut _ _ _ (by simp; omega)]
theorem partOf_less {s n : Nat} {t d r : Bs} {s2 : Nat} (h : partOf s n t = some (some (d, r, s2))) : r.length + 4 ≤ t.length := by
  unfold partOf at h
  split at h
  · cases h
  · split at h
    · simp at h
      rw [← h.2.1, List.length_drop]
      omega
    · simp at h
theorem scan_less {s : Nat} {t d r : Bs} {k : UInt8} {s2 : Nat} (h : scanR s t = .got k d r s2) : r.length < t.length := by
  unfold scanR at h
  split at h
  · cases h
  · cases h
  · rename_i e1
    have l1 := partOf_less e1
    split at h
    · cases h
    · cases h
    · rename_i e2
      have l2 := partOf_less e2
      cases h
      omega

end Go.Proofs.YtockkceclkcgbaaGreatDoor

/- Times are bounded in every run: no lease ends, and no delay, later than the longest time from now on. -/
import Derived.Test.YtockkceclkcgbaaGreatDoorP09
import Derived.Test.YtockkceclkcgbaaGreatDoorP07
import Derived.Test.YtockkceclkcgbaaGreatDoorP08
namespace Go.Proofs.YtockkceclkcgbaaGreatDoor
open Go.RowKit

/-- no lease or delay lasts longer than may be -/
def Till (m : MQ) : Prop := ∀ g ∈ m.groups, ∀ x ∈ g.items, x.till ≤ m.time + 60000 ∧ x.after ≤ m.time + 60000

theorem till_one {P : It → Prop} {m : MQ} {start : Int} {st : RS} {n : Nat} {x : It} (h : ∀ y ∈ st.items, P y) (hx : st.items[n]? = some x) (h2 : ∀ y, P y → P { y with done := 2 }) (ht : ∀ y t, P y → P { y with tries := t, till := m.time + m.c.l }) : ∀ y ∈ (recvOne m start st n x).items, P y := by
  have hP := h x (List.mem_of_getElem? hx)
  unfold recvOne
  cases passed m start n x
  · simp only [cond_false]
    cases decide (m.c.d ≤ x.tries)
    · intro y hy
      rcases List.mem_or_eq_of_mem_set hy with hy | rfl
      · exact h y hy
      · exact ht x _ hP
    · intro y hy
      rcases List.mem_or_eq_of_mem_set hy with hy | rfl
      · exact h y hy
      · exact h2 x hP
  · exact h
theorem till_step {P : It → Prop} {m : MQ} {start : Int} {fr : List Nat} {st : RS} {k : Nat} (h : ∀ y ∈ st.items, P y) (h2 : ∀ y, P y → P { y with done := 2 }) (ht : ∀ y t, P y → P { y with tries := t, till := m.time + m.c.l }) : ∀ y ∈ (recvStep m start fr st k).items, P y := by
  unfold recvStep
  cases decide (k < m.bodies.length)
  · simp only [cond_false]
    cases fr[k - m.bodies.length]? with
    | none => exact h
    | some n =>
      simp only
      cases hx : st.items[n]? with
      | none => exact h
      | some x => exact till_one h hx h2 ht
  · simp only [cond_true]
    cases hx : st.items[k]? with
    | none => exact h
    | some x =>
      simp only
      cases decide (x.tries = 0)
      · exact till_one h hx h2 ht
      · exact h
theorem till_run {P : It → Prop} {m : MQ} {start : Int} {fr : List Nat} {n : Int} (h2 : ∀ y, P y → P { y with done := 2 }) (ht : ∀ y t, P y → P { y with tries := t, till := m.time + m.c.l }) : ∀ (f k : Nat) (st : RS), (∀ y ∈ st.items, P y) → ∀ y ∈ (recvRun m start fr n f k st).items, P y
  | 0, _, _, h => h
  | f + 1, k, st, h => by
    unfold recvRun
    cases decide (n ≤ st.out.length)
    · exact till_run h2 ht f (k + 1) _ (till_step h h2 ht)
    · exact h
theorem till_recv {m : MQ} {k : Nat} {g : MG} {n : Int} (h : Till m) (hg : m.groups[k]? = some g) (hc : m.c.l ≤ 60000) : Till (m.setG k (recvAll m g n)) := by
  intro g' hg' x hx
  obtain ⟨j, hj⟩ := List.getElem?_of_mem hg'
  rw [setG_group] at hj
  have hgm := List.mem_of_getElem? hg
  have hitems : ∀ y ∈ (recvAll m g n).items, y.till ≤ m.time + 60000 ∧ y.after ≤ m.time + 60000 := by
    unfold recvAll
    exact till_run (P := fun y => y.till ≤ m.time + 60000 ∧ y.after ≤ m.time + 60000) (fun y hy => hy) (fun y t hy => ⟨by show m.time + m.c.l ≤ _; omega, hy.2⟩) _ _ _ (fun y hy => h g hgm y hy)
  show x.till ≤ m.time + 60000 ∧ x.after ≤ m.time + 60000
  rw [Option.map_eq_some_iff] at hj
  obtain ⟨g0, h0, rfl⟩ := hj
  by_cases e : k = j
  · rw [if_pos e] at hx
    exact hitems x hx
  · rw [if_neg e] at hx
    exact h g0 (List.mem_of_getElem? h0) x hx
theorem till_setI {m : MQ} {k a : Nat} {y : It} (h : Till m) (hy : y.till ≤ m.time + 60000 ∧ y.after ≤ m.time + 60000) : Till (m.setI k a y) := by
  intro g' hg' x hx
  obtain ⟨j, hj⟩ := List.getElem?_of_mem hg'
  rw [setI_group, Option.map_eq_some_iff] at hj
  obtain ⟨g0, h0, rfl⟩ := hj
  show x.till ≤ m.time + 60000 ∧ x.after ≤ m.time + 60000
  by_cases e : k = j
  · rw [if_pos e] at hx
    rcases List.mem_or_eq_of_mem_set hx with hx | rfl
    · exact h g0 (List.mem_of_getElem? h0) x hx
    · exact hy
  · rw [if_neg e] at hx
    exact h g0 (List.mem_of_getElem? h0) x hx
theorem till_enq {m : MQ} {s : ByteArray} (h : Till m) (h0 : 0 ≤ m.time) : Till (menqM m s) := by
  unfold menqM
  cases decide (menqE m s = 0)
  · exact h
  · intro g hg x hx
    obtain ⟨g0, hg0, rfl⟩ := List.mem_map.1 hg
    show x.till ≤ m.time + 60000 ∧ x.after ≤ m.time + 60000
    rcases List.mem_append.1 hx with hx | hx
    · exact h g0 hg0 x hx
    · simp at hx
      subst hx
      simp
      omega
theorem till_grp {m : MQ} {s : ByteArray} {fr : Int} (h : Till m) (h0 : 0 ≤ m.time) : Till (mgrpM m s fr) := by
  unfold mgrpM
  cases decide (mgrpE m s fr = 0)
  · exact h
  · intro g hg x hx
    show x.till ≤ m.time + 60000 ∧ x.after ≤ m.time + 60000
    rcases List.mem_append.1 hg with hg | hg
    · exact h g hg x hx
    · simp at hg
      subst hg
      have := List.eq_of_mem_replicate hx
      subst this
      simp
      omega
theorem till_tick {m : MQ} {d : Int} (h : Till m) : Till (tickM m d) := by
  unfold tickM
  cases hb : btw d 0 60000
  · exact h
  · have := (btw_true hb).1
    intro g hg x hx
    have h1 := h g hg x hx
    show x.till ≤ m.time + d + 60000 ∧ x.after ≤ m.time + d + 60000
    omega
theorem till_retain {m : MQ} (h : Till m) : Till (retainM m) := by
  unfold retainM
  cases retainB m <;> exact h
theorem till_wake {m : MQ} {ch : Int} : Till (wakeM m ch) := by
  intro g hg x hx
  obtain ⟨g0, _, rfl⟩ := List.mem_map.1 hg
  obtain ⟨y, _, rfl⟩ := List.mem_map.1 hx
  show (0 : Int) ≤ 0 + 60000 ∧ (0 : Int) ≤ 0 + 60000
  omega
theorem till_at {m : MQ} {g : MG} {n : Nat} (h : Till m) (hg : g ∈ m.groups) (h0 : 0 ≤ m.time) : (g.items.getD n It.zero).till ≤ m.time + 60000 ∧ (g.items.getD n It.zero).after ≤ m.time + 60000 := by
  rw [List.getD_eq_getElem?_getD]
  cases hx : g.items[n]? with
  | none => simp [It.zero]; omega
  | some x => exact h g hg x (List.mem_of_getElem? hx)
theorem till_ack {m : MQ} {k : Nat} {g : MG} {l : List Nat} {n : Int} (h : Till m) (hg : m.groups[k]? = some g) (h0 : 0 ≤ m.time) : Till (rackM m k g l n) := by
  unfold rackM
  cases decide (leasedR m.time g.items l n < 0)
  · exact till_setI h (till_at h (List.mem_of_getElem? hg) h0)
  · exact h
theorem till_nack {m : MQ} {k : Nat} {g : MG} {l : List Nat} {n d : Int} (h : Till m) (h0 : 0 ≤ m.time) (hd : d ≤ 60000) : Till (rnackM m k g l n d) := by
  unfold rnackM
  cases decide (leasedR m.time g.items l n < 0)
  · refine till_setI h ?_
    simp only [nackI]
    omega
  · exact h
theorem till_stepQ {kind n ms : Int} {k : Nat} {g : MG} {m : MQ} {L : Nat → List Nat} (h : Till m) (hg : m.groups[k]? = some g) (h0 : 0 ≤ m.time) (hc : m.c.l ≤ 60000) : Till (stepQ kind n ms k g m L) := by
  unfold stepQ
  split
  · exact till_enq h h0
  · split
    · exact till_recv h hg hc
    · split
      · exact till_ack h hg h0
      · split
        · exact till_nack h h0 (by have := pickQ_range ms 100 (by decide); omega)
        · exact till_tick h

end Go.Proofs.YtockkceclkcgbaaGreatDoor

/- The contract of a run's step at every kind, over any queue whose log keeps what it must. -/
namespace Go.Proofs.YtockkceclkcgbaaGreatDoor
open Go.RowKit

/-- a run that is played, its floor a multiple of Segment -/
def PlayS {Gh : Type} (X : World → (Nat → Tag) → Nat → Nat → MQ → Gh → Prop) (B : Int) (C : Conf) (w : World) (T : Nat → Tag) (i b : Nat) (m : MQ) (L : Nat → List Nat) (gh : Gh) : Prop := Play X B w T i b m L gh ∧ Seg m ∧ Till m ∧ m.c = C
theorem seg_same {m m' : MQ} (h : Seg m) (hf : m'.floor = m.floor) (hc : m'.c = m.c) : Seg m' := by unfold Seg at *; rw [hf, hc]; exact h
theorem stepQ_seg {kind n ms : Int} {k : Nat} {g : MG} {m : MQ} {L : Nat → List Nat} (h : Seg m) : Seg (stepQ kind n ms k g m L) := by
  unfold stepQ
  split
  · unfold menqM
    cases decide (menqE m (bodyN m.bodies.length) = 0)
    · exact h
    · exact seg_same h rfl rfl
  · split
    · exact seg_same h rfl rfl
    · split
      · unfold rackM
        cases decide (leasedR m.time g.items (L k) n < 0)
        · exact seg_same h rfl rfl
        · exact h
      · split
        · unfold rnackM
          cases decide (leasedR m.time g.items (L k) n < 0)
          · exact seg_same h rfl rfl
          · exact h
        · unfold tickM
          cases btw (pickQ n 50) 0 60000
          · exact h
          · exact seg_same h rfl rfl

theorem grp_c {m : MQ} {s : ByteArray} {fr : Int} : (mgrpM m s fr).c = m.c := by
  unfold mgrpM
  cases decide (mgrpE m s fr = 0) <;> rfl
theorem retain_c {m : MQ} : (retainM m).c = m.c := by
  unfold retainM
  cases retainB m <;> rfl
theorem step_c {kind n ms : Int} {k : Nat} {g : MG} {m : MQ} {L : Nat → List Nat} : (stepQ kind n ms k g m L).c = m.c := by
  unfold stepQ
  split
  · unfold menqM
    cases decide (menqE m (bodyN m.bodies.length) = 0) <;> rfl
  · split
    · rfl
    · split
      · unfold rackM
        cases decide (leasedR m.time g.items (L k) n < 0) <;> rfl
      · split
        · unfold rnackM
          cases decide (leasedR m.time g.items (L k) n < 0) <;> rfl
        · unfold tickM
          cases btw (pickQ n 50) 0 60000 <;> rfl
/-- what a step comes to: the queue, what was seen, the log -/
def grpP {Gh : Type} (F : GF Gh) (fr : Int) (m : MQ) (L : Nat → List Nat) (gh : Gh) : MQ × (Nat → List Nat) × Gh :=
  if m.groups.length < 6 then (mgrpM m (nameB m.groups.length) (startOf m fr), L, F.grp m (nameB m.groups.length) (startOf m fr) gh) else (m, L, gh)
def moreP {Gh : Type} (F : GF Gh) (kind n : Int) (m : MQ) (L : Nat → List Nat) (gh : Gh) : MQ × (Nat → List Nat) × Gh :=
  if kind = 2 then grpP F n m L gh else if kind = 7 then (retainM m, L, F.ret m gh) else if kind = 8 then (wakeM m 0, L, gh) else (m, L, gh)
def someP {Gh : Type} (F : GF Gh) (kind n ms : Int) (k : Nat) (m : MQ) (L : Nat → List Nat) (gh : Gh) : MQ × (Nat → List Nat) × Gh :=
  match m.groups[k]? with
  | some g => (stepQ kind n ms k g m L, stepL kind n k g m L, stepF F kind n k g m L gh)
  | none => (m, L, gh)
def nextP {Gh : Type} (F : GF Gh) (kind gn n ms : Int) (m : MQ) (L : Nat → List Nat) (gh : Gh) : MQ × (Nat → List Nat) × Gh :=
  if kind = 1 ∨ kind = 3 ∨ kind = 4 ∨ kind = 5 ∨ kind = 6 then someP F kind n ms (pickQ gn m.groups.length).toNat m L gh else moreP F kind n m L gh
theorem pgroup_any {Gh : Type} {X : World → (Nat → Tag) → Nat → Nat → MQ → Gh → Prop} {F : GF Gh} {B Bm : Int} {C : Conf} (hX : XL X F Bm) (hle : B ≤ Bm) (i b : Nat) (m : MQ) (L : Nat → List Nat) (fr : Int) {gh : Gh} (w : World) (T : Nat → Tag) (h : PlayS X B C w T i b m L gh) (h0 : -9223372036854775808 ≤ fr) (h1 : fr ≤ 9223372036854775807) :
    Calls Tryz.prog 32 #[.pointer (some ⟨b, 0, none⟩), .int .i64 fr] w fun e w' => e = .returned (.tuple #[]) ∧ ∃ T' m' L' gh', Step (UT i) w T w' T' ∧ PlayS X B C w' T' i b m' L' gh' ∧ (m', L', gh') = grpP F fr m L gh := by
  obtain ⟨⟨bx, gb, gc, hx, hr, hf, hq, hp⟩, hs, htl, hcc⟩ := h
  by_cases hK : m.groups.length < 6
  · refine (rgroup_any hX hle i b bx m L fr w T hx hf hr.run hq hK h0 h1).mono ?_
    rintro e w' ⟨rfl, T', s', hx', hr', hf', hq'⟩
    have hsg : Seg (mgrpM m (nameB m.groups.length) (startOf m fr)) := by
      unfold mgrpM
      cases decide (mgrpE m (nameB m.groups.length) (startOf m fr) = 0)
      · exact hs
      · exact seg_same hs rfl rfl
    have hpos : 0 < (mgrpM m (nameB m.groups.length) (startOf m fr)).groups.length := by
      unfold mgrpM
      cases decide (mgrpE m (nameB m.groups.length) (startOf m fr) = 0)
      · exact hp
      · simp
    obtain ⟨gb', gc', hr''⟩ := RunM.named hr' hpos
    exact ⟨rfl, T', _, L, _, s', ⟨⟨bx, gb', gc', hx', hr'', hf', hq', hpos⟩, hsg, till_grp htl hf.ok.time.1, grp_c.trans hcc⟩, by simp [grpP, hK]⟩
  · obtain ⟨c7, lb⟩ := hr.len
    have h6 := hr.few
    have hge : (6 : Int) ≤ (m.groups.length : Int) := by omega
    have P : Hid (PlayS X B C w T i b m L gh) := hide ⟨⟨bx, gb, gc, hx, hr, hf, hq, hp⟩, hs, htl, hcc⟩
    clear hx hr hf hq hp hs htl hcc
    go_enter Tryz.func32, Tryz.ntmps32
    go_wp2
    refine bodyPost_ret (results_none rfl _ _ _) rfl ?_
    exact ⟨rfl, T, m, L, gh, Step.refl _ _ _, P.out, by simp [grpP, hK]⟩

attribute [local go_sem] over_cell

set_option maxRecDepth 100000 in
set_option maxHeartbeats 4000000 in
theorem pmore_any {Gh : Type} {X : World → (Nat → Tag) → Nat → Nat → MQ → Gh → Prop} {F : GF Gh} {Ld : World → (Nat → Tag) → Prop} {B Bm : Int} {C : Conf} (hD : XE X F Ld Bm) (hle : B ≤ Bm) (i b : Nat) (m : MQ) (L : Nat → List Nat) (kind G n ms : Int) {gh : Gh} (w : World) (T : Nat → Tag) (h : PlayS X B C w T i b m L gh) (k1 : ¬ kind = 1) (k3 : ¬ kind = 3) (k4 : ¬ kind = 4) (k5 : ¬ kind = 5) (k6 : ¬ kind = 6) (hG : i64 G) (hn : i64 n) (hLd : Ld w T) :
    Calls Tryz.prog 34 #[.pointer (some ⟨b, 0, none⟩), .agg #[.int .i64 kind, .int .i64 G, .int .i64 n, .int .i64 ms]] w fun e w' => e = .returned (.tuple #[]) ∧ ∃ T' m' L' gh', Step (UT i) w T w' T' ∧ PlayS X B C w' T' i b m' L' gh' ∧ (m', L', gh') = moreP F kind n m L gh := by
  have hX := hD.xl
  obtain ⟨h, hsg, htl, hcc⟩ := h
  have s1 := step_new w T (.cells #[.int .i64 kind, .int .i64 G, .int .i64 n, .int .i64 ms] 85) .free (fun _ => False)
  have hO := blk_new w T #[.int .i64 kind, .int .i64 G, .int .i64 n, .int .i64 ms] 85 .free
  have h1 := h.step hX s1 (fun _ _ h => h)
  have hpos : 0 < m.groups.length := by obtain ⟨_, _, _, _, _, _, _, hp⟩ := h; exact hp
  have h6 : m.groups.length ≤ 6 := by obtain ⟨_, _, _, _, hr, _⟩ := h; exact hr.few
  have hpk := fun w1 => (pickk_same G m.groups.length w1 hG.1 hG.2 (by omega) (by omega)).mono (fun e w' (h : _ ∧ w' = w1) => (⟨h.1, by rw [h.2]; exact Below.refl _ _⟩ : e = .returned (.int .i64 (pickQ G m.groups.length)) ∧ Below w1.heap.size w1 w'))
  generalize pickQ G m.groups.length = pk at hpk
  have d1 : decide (kind = 1) = false := decide_eq_false k1
  have d3 : decide (kind = 3) = false := decide_eq_false k3
  have d4 : decide (kind = 4) = false := decide_eq_false k4
  have d5 : decide (kind = 5) = false := decide_eq_false k5
  have d6 : decide (kind = 6) = false := decide_eq_false k6
  go_enter Tryz.func34, Tryz.ntmps34
  go_wp2_with fail
  generalize retag T w.heap.size .free = T1 at *
  generalize w.alloc (.cells #[.int .i64 kind, .int .i64 G, .int .i64 n, .int .i64 ms] 85) = w1 at *
  generalize w.heap.size = ob at hO ⊢
  obtain ⟨bx, gb, gc, hx, hr, hf, hq, hp⟩ := id h1
  obtain ⟨c7, lb⟩ := hr.len
  have q1 := hO.cell (j := 1) rfl
  simp only [List.getElem_toArray, List.getElem_cons_succ, List.getElem_cons_zero] at q1
  have lO := hO.lt
  clear hx hr hf hq hp
  refine wp_region_over (by kernel_rfl) (by kernel_rfl) ?_
  repeat (go_big_quiet_step ((go_at_call 33; exact quiet_over hpk)))
  refine wpQuiet_nil ?_
  rintro _ ⟨x2, rfl⟩
  have g2 := step_below (fun _ => False) T1 (over_below w1 x2)
  generalize over w1 x2 = w2 at *
  have h2 := h1.step hX g2 (fun _ _ h => h)
  have hO2 := hO.step g2 (fun h => h)
  have s2 : Step (UT i) w T w2 T1 := (s1.trans g2).mono (fun _ h => h.elim)
  clear h1 hO s1 g2 q1 lO lb c7 hpk h
  have q0 := hO2.cell (j := 0) rfl
  have q2 := hO2.cell (j := 2) rfl
  simp only [List.getElem_toArray, List.getElem_cons_succ, List.getElem_cons_zero] at q0 q2
  have lO := hO2.lt
  by_cases k2 : kind = 2
  · subst k2
    go_wp2_with fail
    refine (pgroup_any hX hle i b m L n w2 T1 ⟨h2, hsg, htl, hcc⟩ hn.1 hn.2).mono ?_
    rintro e w3 ⟨rfl, T3, m', L', gh', s3, h3, e3⟩
    go_wp2
    go_end0
    exact ⟨rfl, T3, m', L', gh', s2.trans s3, h3, by rw [e3]; simp [moreP]⟩
  by_cases k7 : kind = 7
  · subst k7
    obtain ⟨bx, gb, gc, hx, hr, hf, hq, hp⟩ := h2
    go_wp2_with fail
    refine (rretain_any hX hle i b bx gb gc m L w2 T1 hx hf hr hq hsg hp).mono ?_
    rintro e w3 ⟨rfl, T3, s3, hx3, hr3⟩
    have hfin : PlayS X B C w3 T3 i b (retainM m) L (F.ret m gh) := ⟨⟨bx, gb, gc, hx3, hr3, fit_retain hf, nice_retain hq hf, by rw [retainM_ns.1]; exact hp⟩, seg_retain hsg, till_retain htl, retain_c.trans hcc⟩
    clear hx hr hf hq hp hx3 hr3
    go_wp2
    go_end0
    exact ⟨rfl, T3, _, L, _, s2.trans s3, hfin, by simp [moreP]⟩
  by_cases k8 : kind = 8
  · subst k8
    obtain ⟨bx, gb, gc, hx, hr, hf, hq, hp⟩ := h2
    go_wp2_with fail
    refine (rcrash_any hD hle i b bx gb gc m L w2 T1 hx hf hr hq hp (hD.ld hLd s2 (ut_not_old i))).mono ?_
    rintro e w3 ⟨rfl, T3, bx3, s3, hx3, hr3⟩
    have hfin : PlayS X B C w3 T3 i b (wakeM m 0) L gh := ⟨⟨bx3, gb, gc, hx3, hr3, fit_wake hf, nice_wake hq, by rw [wakeM_glen]; exact hp⟩, seg_same hsg rfl rfl, till_wake, hcc⟩
    clear hx hr hf hq hp hx3 hr3
    go_wp2
    go_end0
    exact ⟨rfl, T3, _, L, _, s2.trans s3, hfin, by simp [moreP]⟩
  have e2 : decide (kind = 2) = false := decide_eq_false k2
  have e7 : decide (kind = 7) = false := decide_eq_false k7
  have e8 : decide (kind = 8) = false := decide_eq_false k8
  have P := hide (And.intro h2 (And.intro hsg (And.intro htl hcc)))
  clear h2 hsg htl hcc
  go_wp2
  go_end0
  exact ⟨rfl, T1, m, L, gh, s2, P.out, by simp [moreP, k2, k7, k8]⟩

/-- a step, whatever its kind -/
theorem pall_any {Gh : Type} {X : World → (Nat → Tag) → Nat → Nat → MQ → Gh → Prop} {F : GF Gh} {Ld : World → (Nat → Tag) → Prop} {B Bm : Int} {C : Conf} (hD : XE X F Ld Bm) (hle : B + 60000 ≤ Bm) (hlm : B ≤ 3999999999999940000) (i b : Nat) (m : MQ) (L : Nat → List Nat) (kind G n ms : Int) {gh : Gh} (w : World) (T : Nat → Tag) (h : PlayS X B C w T i b m L gh) (hG : i64 G) (hn : i64 n) (hms : i64 ms) (hLd : Ld w T) :
    Calls Tryz.prog 34 #[.pointer (some ⟨b, 0, none⟩), .agg #[.int .i64 kind, .int .i64 G, .int .i64 n, .int .i64 ms]] w fun e w' => e = .returned (.tuple #[]) ∧ ∃ T' m' L' gh', Step (UT i) w T w' T' ∧ PlayS X (B + 60000) C w' T' i b m' L' gh' ∧ (m', L', gh') = nextP F kind G n ms m L gh := by
  by_cases hK : kind = 1 ∨ kind = 3 ∨ kind = 4 ∨ kind = 5 ∨ kind = 6
  · have hpos : 0 < m.groups.length := by obtain ⟨⟨_, _, _, _, _, _, _, hp⟩, _⟩ := h; exact hp
    obtain ⟨p0, p1⟩ := pickQ_range G m.groups.length (by omega)
    obtain ⟨k, hk⟩ : ∃ k : Nat, pickQ G m.groups.length = k := ⟨(pickQ G m.groups.length).toNat, by omega⟩
    obtain ⟨g, hg⟩ : ∃ g, m.groups[k]? = some g := ⟨_, List.getElem?_eq_getElem (by omega)⟩
    refine (pstep_any hD.xl hle hlm i b m L kind G n ms k g w T h.1 hg hk hK hG hn hms).mono ?_
    rintro e w' ⟨rfl, T', s', h'⟩
    have hok : m.Fit B := by obtain ⟨⟨_, _, _, _, _, hf, _⟩, _⟩ := h; exact hf
    exact ⟨rfl, T', _, _, _, s', ⟨h', stepQ_seg h.2.1, till_stepQ h.2.2.1 hg hok.ok.time.1 (good_all hok.ok.good).1.2, step_c.trans h.2.2.2⟩, by unfold nextP; rw [if_pos hK, hk, Int.toNat_natCast]; unfold someP; rw [hg]⟩
  · refine (pmore_any hD (by omega) i b m L kind G n ms w T h (fun e => hK (.inl e)) (fun e => hK (.inr (.inl e))) (fun e => hK (.inr (.inr (.inl e)))) (fun e => hK (.inr (.inr (.inr (.inl e))))) (fun e => hK (.inr (.inr (.inr (.inr e))))) hG hn hLd).mono ?_
    rintro e w' ⟨rfl, T', m', L', gh', s', ⟨h', hs'⟩, e'⟩
    exact ⟨rfl, T', m', L', gh', s', ⟨h'.mono (by omega), hs'⟩, by unfold nextP; rw [if_neg hK]; exact e'⟩

end Go.Proofs.YtockkceclkcgbaaGreatDoor

/- A script, played to its end: the run that comes of it; Right and Kept, walked. -/
namespace Go.Proofs.YtockkceclkcgbaaGreatDoor
open Go.RowKit

theorem till_begin {c : Conf} (h : goodC c = true) : Till (q4 c) := by
  have hc := good_all h
  intro g hg x hx
  simp [q4] at hg
  subst hg
  simp at hx
  subst hx
  show 0 + c.l ≤ 0 + 60000 ∧ (0 : Int) ≤ 0 + 60000
  omega

/-- what a script comes to -/
def foldP {Gh : Type} (F : GF Gh) (p : MQ × (Nat → List Nat) × Gh) (o : StV) : MQ × (Nat → List Nat) × Gh := nextP F o.kind o.G o.n o.ms p.1 p.2.1 p.2.2
def playP {Gh : Type} (F : GF Gh) (l : List Int) (s : List StV) : MQ × (Nat → List Nat) × Gh := s.foldl (foldP F) (q4 (madeC l), L3, beginF F (madeC l))
theorem playP_step {Gh : Type} (F : GF Gh) {p0 : MQ × (Nat → List Nat) × Gh} {s : List StV} {j : Nat} {o : StV} (h : s[j]? = some o) : (s.take (j + 1)).foldl (foldP F) p0 = foldP F ((s.take j).foldl (foldP F) p0) o := by
  rw [List.take_add_one, h, List.foldl_append]
  rfl

attribute [local go_sem] over_cell

set_option maxRecDepth 100000 in
set_option maxHeartbeats 4000000 in
theorem played_any {Gh : Type} {X : World → (Nat → Tag) → Nat → Nat → MQ → Gh → Prop} {F : GF Gh} {Ld : World → (Nat → Tag) → Prop} (hD : XE X F Ld 3000000000000000000) (i : Nat) (l : List Int) (s : List StV) (ao so : Option Addr) (cap scap : Nat) (w : World) (T : Nat → Tag) (hl : ArgI w ao l) (hs : ArgS w so s) (hso : ∀ (k : Nat) (o : StV), s[k]? = some o → ∀ a, so = some a → T a.block = .old) (hlen : l.length ≤ 9223372036854775807) (hsl : s.length ≤ 4398046511104) (hLd : Ld w T) :
    Calls Tryz.prog 19 #[.slice ao l.length cap, .slice so s.length scap] w fun e w' => ∃ b, e = .returned (.pointer (some ⟨b, 0, none⟩)) ∧ ∃ T' m L gh, Step (UT i) w T w' T' ∧ PlayS X (60000 * s.length) (madeC l) w' T' i b m L gh ∧ (m, L, gh) = playP F l s := by
  have hX := hD.xl
  go_enter Tryz.func19, Tryz.ntmps19
  go_wp2_with fail
  refine (begin_any hX (by decide) i l ao cap w T hl hlen).mono ?_
  rintro e w1 ⟨b, rfl, T1, s1, p1⟩
  have p0 : PlayS X 0 (madeC l) w1 T1 i b (q4 (madeC l)) L3 (beginF F (madeC l)) := ⟨p1, by show (0 : Int).tmod _ = 0; exact Int.zero_tmod _, till_begin (madeC_good l), rfl⟩
  clear p1 hl
  have hP : playP F l s = s.foldl (foldP F) (q4 (madeC l), L3, beginF F (madeC l)) := rfl
  generalize q4 (madeC l) = m0 at p0 hP
  generalize L3 = l0 at p0 hP
  generalize beginF F (madeC l) = g0 at p0 hP
  go_wp2_with fail
  go_loopw [6] (fun v wr => ∃ (j : Nat) (T' : Nat → Tag) (m : MQ) (L : Nat → List Nat) (gh : Gh), j ≤ s.length ∧ v = .int .i64 j ∧ Step (UT i) w T wr T' ∧ PlayS X (60000 * j) (madeC l) wr T' i b m L gh ∧ (m, L, gh) = (s.take j).foldl (foldP F) (m0, l0, g0)) (fun v _ => s.length - (intOf v).toNat)
  case atStart => exact ⟨0, T1, m0, l0, g0, Nat.zero_le _, rfl, s1, by simpa using p0, by simp⟩
  case round =>
    obtain ⟨j, T4, m, L, gh, hj, rfl, f4, p4, e4⟩ := hrel
    clear p0 s1
    obtain ⟨⟨bx, gb, gc, hx, hr, hf, hq, hp⟩, hsg, htl, _⟩ := id p4
    obtain ⟨gr0, hg0⟩ : ∃ g, m.groups[0]? = some g := ⟨_, List.getElem?_eq_getElem hp⟩
    obtain ⟨bo, bc, so4, sc4, lo4, lc4, A⟩ := hr.at hg0
    have c9 := A.c9
    have c10 := A.c10
    have c11 := A.c11
    have lb := A.lb
    clear hx hr hf hq hp hsg htl A hg0
    by_cases hlt : j < s.length
    · obtain ⟨o, ho⟩ : ∃ o, s[j]? = some o := ⟨_, List.getElem?_eq_getElem hlt⟩
      obtain ⟨hG, hn, hms, ob, off, rfl, hob, hcl⟩ := hs j o ho
      have hold : T ob = .old := hso _ _ ho _ rfl
      have hnot : ¬ UT i (T ob) := by rw [hold]; exact ut_not_old i
      have q0 := (f4.cell (p := ⟨ob, off + j * 4 + 0, none⟩) hob hnot).trans (hcl 0 _ rfl)
      have q1 := (f4.cell (p := ⟨ob, off + j * 4 + 1, none⟩) hob hnot).trans (hcl 1 _ rfl)
      have q2 := (f4.cell (p := ⟨ob, off + j * 4 + 2, none⟩) hob hnot).trans (hcl 2 _ rfl)
      have q3 := (f4.cell (p := ⟨ob, off + j * 4 + 3, none⟩) hob hnot).trans (hcl 3 _ rfl)
      rw [Nat.add_zero] at q0
      simp only [StV.cells, List.getElem_toArray, List.getElem_cons_succ, List.getElem_cons_zero] at q0 q1 q2 q3
      have eN := playP_step F (p0 := (m0, l0, g0)) ho
      rw [← e4] at eN
      obtain ⟨kind, gn, n, ms⟩ := o
      simp only at q0 q1 q2 q3 hG hn hms
      have hst := pall_any hD (B := 60000 * j) (by omega) (by omega) i b m L kind gn n ms wr T4 p4 hG hn hms (hD.ld hLd f4 (ut_not_old i))
      clear hcl ho hs hso hold hnot
      go_wp2_with fail
      refine hst.mono ?_
      clear hst
      rintro e w6 ⟨rfl, T6, m6, L6, gh6, s6, p6, e6'⟩
      have e6 : (60000 : Int) * j + 60000 = 60000 * ((j + 1 : Nat) : Int) := by omega
      rw [e6] at p6
      have f6 := f4.trans s6
      clear p4 q0 q1 q2 q3 c9 c10 c11 lb f4 s6
      go_wp2
      exact ⟨⟨j + 1, T6, m6, L6, gh6, by omega, by simp, f6, p6, by rw [eN, e6']; rfl⟩, by simp [intOf]; omega⟩
    · have e : j = s.length := by omega
      subst e
      have P := hide p4
      clear p4
      go_wp2
      go_ret
      exact ⟨b, rfl, T4, m, L, gh, f4, P.out, by rw [e4, List.take_length, hP]⟩

theorem PlayS.flags {Gh : Type} {X : World → (Nat → Tag) → Nat → Nat → MQ → Gh → Prop} {B : Int} {C : Conf} {w : World} {T : Nat → Tag} {i b : Nat} {m : MQ} {L : Nat → List Nat} {gh : Gh} (h : PlayS X B C w T i b m L gh) : w.cell? ⟨b, 9, none⟩ = some (.bool true) ∧ w.cell? ⟨b, 10, none⟩ = some (.bool true) ∧ w.cell? ⟨b, 11, none⟩ = some (.bool true) ∧ b < w.heap.size := by
  obtain ⟨⟨bx, gb, gc, hx, hr, hf, hq, hp⟩, hsg⟩ := h
  obtain ⟨g0, hg0⟩ : ∃ g, m.groups[0]? = some g := ⟨_, List.getElem?_eq_getElem hp⟩
  obtain ⟨bo, bc, so4, sc4, lo4, lc4, A⟩ := hr.at hg0
  exact ⟨A.c9, A.c10, A.c11, A.lb⟩
theorem below_old {w w' : World} {i : Nat} {T' : Nat → Tag} (h : Step (UT i) w (fun _ => .old) w' T') : Below w.heap.size w w' := ⟨h.os, h.tape, h.output, h.size, fun k hk => h.block k hk (ut_not_old i)⟩

end Go.Proofs.YtockkceclkcgbaaGreatDoor

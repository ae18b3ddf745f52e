/- The mathematics of Apart: two runs, the second with one group more: what group 0 of both holds is the same behind every step; the run as it begins. -/
import Derived.Test.YtockkceclkcgbaaGreatDoorP07
namespace Go.Proofs.YtockkceclkcgbaaGreatDoor
open Go.RowKit

theorem one_ch {m : MQ} {start : Int} {st st' : RS} {n : Nat} {x : It} (h1 : st'.items = st.items) (h2 : st'.dead = st.dead) (h3 : st'.out = st.out) : (recvOne m start st' n x).items = (recvOne m start st n x).items ∧ (recvOne m start st' n x).dead = (recvOne m start st n x).dead ∧ (recvOne m start st' n x).out = (recvOne m start st n x).out := by
  unfold recvOne
  cases passed m start n x
  · cases decide (m.c.d ≤ x.tries) <;> simp [h1, h2, h3]
  · simp [h1, h2, h3]
theorem step_ch {m : MQ} {start : Int} {fr : List Nat} {st st' : RS} {k : Nat} (h1 : st'.items = st.items) (h2 : st'.dead = st.dead) (h3 : st'.out = st.out) : (recvStep m start fr st' k).items = (recvStep m start fr st k).items ∧ (recvStep m start fr st' k).dead = (recvStep m start fr st k).dead ∧ (recvStep m start fr st' k).out = (recvStep m start fr st k).out := by
  unfold recvStep
  rw [h1]
  cases decide (k < m.bodies.length)
  · simp only [cond_false]
    cases fr[k - m.bodies.length]? with
    | none => exact ⟨h1, h2, h3⟩
    | some n =>
      simp only
      cases st.items[n]? with
      | none => exact ⟨h1, h2, h3⟩
      | some x => exact one_ch h1 h2 h3
  · simp only [cond_true]
    cases st.items[k]? with
    | none => exact ⟨h1, h2, h3⟩
    | some x =>
      simp only
      cases decide (x.tries = 0)
      · exact one_ch h1 h2 h3
      · exact ⟨h1, h2, h3⟩
theorem run_ch {m : MQ} {start : Int} {fr : List Nat} {n : Int} : ∀ (f k : Nat) (st st' : RS), st'.items = st.items → st'.dead = st.dead → st'.out = st.out →
    (recvRun m start fr n f k st').items = (recvRun m start fr n f k st).items ∧ (recvRun m start fr n f k st').dead = (recvRun m start fr n f k st).dead ∧ (recvRun m start fr n f k st').out = (recvRun m start fr n f k st).out
  | 0, _, _, _, h1, h2, h3 => ⟨h1, h2, h3⟩
  | f + 1, k, st, st', h1, h2, h3 => by
    unfold recvRun
    rw [h3]
    cases decide (n ≤ st.out.length)
    · obtain ⟨a, b, c⟩ := step_ch (m := m) (start := start) (fr := fr) (k := k) h1 h2 h3
      exact run_ch f (k + 1) _ _ a b c
    · exact ⟨h1, h2, h3⟩

/-- two runs, the second with one group more -/
structure Twin (ma mb : MQ) (La Lb : Nat → List Nat) : Prop where
  c : mb.c = ma.c
  bodies : mb.bodies = ma.bodies
  floor : mb.floor = ma.floor
  time : mb.time = ma.time
  g : mb.groups[0]? = ma.groups[0]?
  last : Lb 0 = La 0
  la : ma.groups.length = 1
  lb : mb.groups.length = 2

theorem twin_recv {ma mb : MQ} {La Lb : Nat → List Nat} (h : Twin ma mb La Lb) (g : MG) (n : Int) : (recvAll mb g n).items = (recvAll ma g n).items ∧ (recvAll mb g n).dead = (recvAll ma g n).dead ∧ (recvAll mb g n).out = (recvAll ma g n).out := by
  obtain ⟨cb, bb, fb, ga, tb, cha⟩ := ma
  obtain ⟨cb, bb, fb, gb, tb, chb⟩ := mb
  obtain ⟨h1, h2, h3, h4, _, _, _, _⟩ := h
  simp only at h1 h2 h3 h4
  subst h1 h2 h3 h4
  have hp : ∀ (start : Int) (k : Nat) (x : It), passed ⟨cb, bb, fb, gb, tb, chb⟩ start k x = passed ⟨cb, bb, fb, ga, tb, cha⟩ start k x := fun _ _ _ => rfl
  have ho : ∀ (start : Int) (st : RS) (k : Nat) (x : It), recvOne ⟨cb, bb, fb, gb, tb, chb⟩ start st k x = recvOne ⟨cb, bb, fb, ga, tb, cha⟩ start st k x := fun _ _ _ _ => rfl
  have hs : ∀ (start : Int) (fr : List Nat) (st : RS) (k : Nat), recvStep ⟨cb, bb, fb, gb, tb, chb⟩ start fr st k = recvStep ⟨cb, bb, fb, ga, tb, cha⟩ start fr st k := fun start fr st k => by
    unfold recvStep
    simp only [ho]
  have hr : ∀ (start : Int) (fr : List Nat) (f k : Nat) (st : RS), recvRun ⟨cb, bb, fb, gb, tb, chb⟩ start fr n f k st = recvRun ⟨cb, bb, fb, ga, tb, cha⟩ start fr n f k st := by
    intro start fr f
    induction f with
    | zero => intro k st; rfl
    | succ f ih =>
      intro k st
      unfold recvRun
      rw [hs, ih]
  unfold recvAll
  rw [hr]
  exact run_ch _ _ _ _ rfl rfl rfl

theorem twin_both {ma mb : MQ} {La Lb : Nat → List Nat} {g : MG} (h : Twin ma mb La Lb) (hg : ma.groups[0]? = some g) (kind n ms : Int) : Twin (stepQ kind n ms 0 g ma La) (stepQ kind n ms 0 g mb Lb) (stepL kind n 0 g ma La) (stepL kind n 0 g mb Lb) := by
  have hgb : mb.groups[0]? = some g := by rw [h.g, hg]
  unfold stepQ stepL
  by_cases k1 : kind = 1
  · subst k1
    simp only [if_true, show ¬ (1 : Int) = 3 by decide, if_false]
    have hE : menqE mb (bodyN mb.bodies.length) = menqE ma (bodyN ma.bodies.length) := by unfold menqE; rw [h.bodies, h.floor, h.c]
    unfold menqM
    rw [hE]
    cases decide (menqE ma (bodyN ma.bodies.length) = 0)
    · exact h
    · simp only [cond_true]
      exact ⟨h.c, by simp [h.bodies], h.floor, h.time, by simp only [List.getElem?_map, h.g], h.last, by simp [h.la], by simp [h.lb]⟩
  · rw [if_neg k1, if_neg k1]
    by_cases k3 : kind = 3
    · rw [if_pos k3, if_pos k3, if_pos k3, if_pos k3]
      obtain ⟨e1, e2, e3⟩ := twin_recv h g (1 + pickQ n 32)
      refine ⟨h.c, h.bodies, h.floor, h.time, ?_, ?_, by rw [setG_glen]; exact h.la, by rw [setG_glen]; exact h.lb⟩
      · rw [setG_group, setG_group, hg, hgb]
        simp [e1, e2]
      · rw [updF_same, updF_same, h.last, e3]
    · rw [if_neg k3, if_neg k3, if_neg k3, if_neg k3]
      have hR : leasedR mb.time g.items (Lb 0) n = leasedR ma.time g.items (La 0) n := by rw [h.time, h.last]
      by_cases k4 : kind = 4
      · rw [if_pos k4, if_pos k4]
        unfold rackM
        rw [hR]
        cases decide (leasedR ma.time g.items (La 0) n < 0)
        · simp only [cond_false]
          refine ⟨h.c, h.bodies, h.floor, h.time, ?_, h.last, by unfold ackQ; rw [setI_len]; exact h.la, by unfold ackQ; rw [setI_len]; exact h.lb⟩
          rw [ackQ_group, ackQ_group, hg, hgb]
        · exact h
      · rw [if_neg k4, if_neg k4]
        by_cases k5 : kind = 5
        · rw [if_pos k5, if_pos k5]
          unfold rnackM
          rw [hR]
          cases decide (leasedR ma.time g.items (La 0) n < 0)
          · simp only [cond_false]
            refine ⟨h.c, h.bodies, h.floor, h.time, ?_, h.last, by rw [setI_len]; exact h.la, by rw [setI_len]; exact h.lb⟩
            rw [setI_group, setI_group, hg, hgb]
            simp [nackI, h.time]
          · exact h
        · rw [if_neg k5, if_neg k5]
          unfold tickM
          cases btw (pickQ n 50) 0 60000
          · exact h
          · exact ⟨h.c, h.bodies, h.floor, by simp [h.time], h.g, h.last, h.la, h.lb⟩

theorem twin_other {ma mb : MQ} {La Lb : Nat → List Nat} {g : MG} (h : Twin ma mb La Lb) (kind n ms : Int) (hK : kind = 3 ∨ kind = 4 ∨ kind = 5) : Twin ma (stepQ kind n ms 1 g mb Lb) La (stepL kind n 1 g mb Lb) := by
  unfold stepQ stepL
  rcases hK with rfl | rfl | rfl
  · simp only [show ¬ (3 : Int) = 1 by decide, if_false, if_true]
    refine ⟨h.c, h.bodies, h.floor, h.time, ?_, ?_, h.la, by rw [setG_glen]; exact h.lb⟩
    · rw [setG_group, h.g]
      cases ma.groups[0]? <;> simp
    · rw [updF_other _ _ _ (by decide)]; exact h.last
  · simp only [show ¬ (4 : Int) = 1 by decide, show ¬ (4 : Int) = 3 by decide, if_false, if_true]
    unfold rackM
    cases decide (leasedR mb.time g.items (Lb 1) n < 0)
    · simp only [cond_false]
      refine ⟨h.c, h.bodies, h.floor, h.time, ?_, h.last, h.la, by unfold ackQ; rw [setI_len]; exact h.lb⟩
      rw [ackQ_group, h.g]
      cases ma.groups[0]? <;> simp
    · exact h
  · simp only [show ¬ (5 : Int) = 1 by decide, show ¬ (5 : Int) = 3 by decide, show ¬ (5 : Int) = 4 by decide, if_false, if_true]
    unfold rnackM
    cases decide (leasedR mb.time g.items (Lb 1) n < 0)
    · simp only [cond_false]
      refine ⟨h.c, h.bodies, h.floor, h.time, ?_, h.last, h.la, by rw [setI_len]; exact h.lb⟩
      rw [setI_group, h.g]
      cases ma.groups[0]? <;> simp
    · exact h

/-- the run as it begins: one group, one message, which is delivered and acked -/
def q0 (c : Conf) : MQ := ⟨c, [], 0, [], 0, 0⟩
def g2 : MG := ⟨nameB 0, 0, [It.zero], []⟩
def ch1 : Int := wrap64 (0 + 1)
def q2 (c : Conf) : MQ := ⟨c, [bodyN 0], 0, [g2], 0, wrap64 (ch1 + 1)⟩
def i3 (c : Conf) : It := ⟨ch1, 0, 0 + c.l, 0⟩
def q3 (c : Conf) : MQ := ⟨c, [bodyN 0], 0, [⟨nameB 0, 0, [i3 c], []⟩], 0, wrap64 (wrap64 (ch1 + 1) + 1)⟩
def q4 (c : Conf) : MQ := ⟨c, [bodyN 0], 0, [⟨nameB 0, 0, [{ i3 c with done := 1 }], []⟩], 0, wrap64 (wrap64 (wrap64 (ch1 + 1) + 1) + 1)⟩
def L0 : Nat → List Nat := fun _ => []
def L3 : Nat → List Nat := updF L0 0 [0]
def q1 (c : Conf) : MQ := ⟨c, [], 0, [⟨nameB 0, 0, [], []⟩], 0, ch1⟩

theorem start0 (c : Conf) : startOf (q0 c) 0 = 0 := rfl
theorem begin1 (c : Conf) : mgrpM (q0 c) (nameB 0) 0 = q1 c := rfl
theorem begin2 {c : Conf} (h : goodC c = true) : menqM (q1 c) (bodyN 0) = q2 c := by
  have hk := (good_all h).2.2
  have hE : menqE (q1 c) (bodyN 0) = 0 := by
    have h3 : ¬ c.k ≤ 0 := by omega
    have hsz : (bodyN 0).size = 3 := rfl
    simp [menqE, enqY, q1, hsz, h3]
  unfold menqM
  rw [hE]
  rfl
theorem begin3 {c : Conf} (h : goodC c = true) : recvAll (q2 c) g2 5 = ⟨[i3 c], [], wrap64 (wrap64 (ch1 + 1) + 1), [⟨0, ch1, bodyN 0⟩]⟩ := by
  have hd := (good_all h).2.1
  have hp : passed (q2 c) 0 0 It.zero = false := rfl
  have hf : freshTo g2.items 1 = [0] := rfl
  have hE' : decide ((q2 c).c.d ≤ It.zero.tries) = false := by
    have : ¬ c.d ≤ 0 := by omega
    exact decide_eq_false this
  unfold recvAll
  rw [show g2.items.length = 1 from rfl, hf]
  have h1 : recvStep (q2 c) g2.start [0] ⟨g2.items, g2.dead, (q2 c).changes, []⟩ 0 = ⟨g2.items, g2.dead, (q2 c).changes, []⟩ := rfl
  have h2 : recvStep (q2 c) g2.start [0] ⟨g2.items, g2.dead, (q2 c).changes, []⟩ 1 = ⟨[i3 c], [], wrap64 (wrap64 (ch1 + 1) + 1), [⟨0, ch1, bodyN 0⟩]⟩ := by
    show recvOne (q2 c) 0 ⟨[It.zero], [], wrap64 (ch1 + 1), []⟩ 0 It.zero = _
    unfold recvOne
    rw [hp, hE']
    rfl
  show recvRun (q2 c) g2.start [0] 5 2 0 ⟨g2.items, g2.dead, (q2 c).changes, []⟩ = _
  rw [recvRun, show decide ((5 : Int) ≤ ((⟨g2.items, g2.dead, (q2 c).changes, []⟩ : RS).out.length : Int)) = false from rfl, cond_false, h1]
  rw [recvRun, show decide ((5 : Int) ≤ ((⟨g2.items, g2.dead, (q2 c).changes, []⟩ : RS).out.length : Int)) = false from rfl, cond_false, h2]
  rfl
theorem begin3q {c : Conf} (h : goodC c = true) : (q2 c).setG 0 (recvAll (q2 c) g2 5) = q3 c ∧ updF L0 0 (L0 0 ++ offs (recvAll (q2 c) g2 5).out) = L3 ∧ (recvAll (q2 c) g2 5).out.length = 1 := by
  rw [begin3 h]
  exact ⟨rfl, rfl, rfl⟩
theorem begin4 {c : Conf} (h : goodC c = true) : rackM (q3 c) 0 ⟨nameB 0, 0, [i3 c], []⟩ (L3 0) 0 = q4 c := by
  have hl := (good_all h).1
  have hL : L3 0 = [0] := rfl
  have h2 : decide (0 + c.l ≤ 0) = false := decide_eq_false (by omega)
  have hR : leasedR (q3 c).time [i3 c] [0] 0 = 0 := by
    show (bif decide ((0 : Int) < 0) || decide (0 + c.l ≤ 0) then (-1 : Int) else ((0 : Nat) : Int)) = 0
    rw [h2]
    rfl
  unfold rackM
  rw [hL, hR]
  rfl

theorem twin_begin (c : Conf) : Twin (q4 c) (mgrpM (q4 c) (nameB 1) (startOf (q4 c) 0)) L3 L3 := by
  have hst : startOf (q4 c) 0 = 0 := rfl
  rw [hst]
  refine ⟨rfl, rfl, rfl, rfl, rfl, rfl, rfl, rfl⟩

end Go.Proofs.YtockkceclkcgbaaGreatDoor

/- The contract of begin: a run of one group and one message, which was delivered and acked. -/
namespace Go.Proofs.YtockkceclkcgbaaGreatDoor
open Go.RowKit

theorem nice0 (c : Conf) : NiceQ (q0 c) L0 := ⟨fun k g h => by simp [q0] at h, fun k g h => by simp [q0] at h, fun _ _ => rfl⟩
theorem run0 {w : World} {T : Nat → Tag} {i b bx : Nat} {c : Conf} (hB : Blk w T (.run i) b #[.pointer (some ⟨bx, 0, none⟩), .int .i64 c.l, .int .i64 c.d, .int .i64 c.s, .int .i64 c.k, .slice none 0 0, .int .i64 0, .slice none 0 0, .int .i64 0, .bool true, .bool true, .bool true] 57) : RunM w T i b bx ((q0 c).rv L0) :=
  ⟨by simp [q0, MQ.rv, MQ.rvU], by simp [q0, MQ.rv, MQ.rvU], .slice none 0 0, .slice none 0 0, fun _ => .slice none 0 0, fun _ => .slice none 0 0, hB, row_nil _ _ _ _ _, row_nil _ _ _ _ _, fun k g h => by simp [q0, MQ.rv, MQ.rvU] at h⟩

/-- what begin makes of the log -/
def beginF {Gh : Type} (F : GF Gh) (c : Conf) : Gh :=
  rackF F (q3 c) 0 ⟨nameB 0, 0, [i3 c], []⟩ (L3 0) 0 (F.recv (q2 c) (nameB 0) 5 (F.enq (q1 c) (bodyN (q1 c).bodies.length) (F.grp (q0 c) (nameB (q0 c).groups.length) (startOf (q0 c) 0) (F.new c))))

attribute [local go_sem] over_cell

set_option maxRecDepth 100000 in
set_option maxHeartbeats 4000000 in
theorem begin_any {Gh : Type} {X : World → (Nat → Tag) → Nat → Nat → MQ → Gh → Prop} {F : GF Gh} {Bm : Int} (hX : XL X F Bm) (h0B : 0 ≤ Bm) (i : Nat) (l : List Int) (ao : Option Addr) (cap : Nat) (w : World) (T : Nat → Tag) (hl : ArgI w ao l) (hlen : l.length ≤ 9223372036854775807) :
    Calls Tryz.prog 31 #[.slice ao l.length cap] w fun e w' => ∃ b, e = .returned (.pointer (some ⟨b, 0, none⟩)) ∧ ∃ T', Step (UT i) w T w' T' ∧ Play X 0 w' T' i b (q4 (madeC l)) L3 (beginF F (madeC l)) := by
  have hgood := madeC_good l
  have hmd := made_any l ao cap w hl hlen
  generalize madeC l = c at *
  unfold Conf.cells at hmd
  go_enter Tryz.func31, Tryz.ntmps31
  go_wp2_with fail
  refine hmd.mono ?_
  clear hmd
  rintro e w1 ⟨rfl, hb1⟩
  have s1 := (step_below (fun _ => False) T hb1).trans (step_new w1 T (.cells #[.int .i64 c.l, .int .i64 c.d, .int .i64 c.s, .int .i64 c.k] 23) .free (fun _ => False))
  have hO := blk_new w1 T #[.int .i64 c.l, .int .i64 c.d, .int .i64 c.s, .int .i64 c.k] 23 .free
  have hop := hX.opn c i (w1.alloc (.cells #[.int .i64 c.l, .int .i64 c.d, .int .i64 c.s, .int .i64 c.k] 23)) (retag T w1.heap.size .free)
  unfold Conf.cells at hop
  go_wp2_with fail
  refine hop.mono ?_
  clear hop
  rintro e w2 (⟨hbad, _, _⟩ | ⟨_, bx, T2, rfl, hs2, hx2⟩)
  · rw [hgood] at hbad
    cases hbad
  have hO2 := hO.step hs2 (by rintro ⟨h, _⟩; simp at h)
  have s2 : Step (XT i) w T w2 T2 := (s1.mono (fun _ h => h.elim)).trans hs2
  generalize w1.heap.size = ob at hO2 ⊢
  clear hO hs2 s1 hb1
  have q0' := hO2.cell (j := 0) rfl
  have q1' := hO2.cell (j := 1) rfl
  have q2' := hO2.cell (j := 2) rfl
  have q3' := hO2.cell (j := 3) rfl
  simp only [List.getElem_toArray, List.getElem_cons_succ, List.getElem_cons_zero] at q0' q1' q2' q3'
  have hB3 := blk_new w2 T2 #[.pointer (some ⟨bx, 0, none⟩), .int .i64 c.l, .int .i64 c.d, .int .i64 c.s, .int .i64 c.k, .slice none 0 0, .int .i64 0, .slice none 0 0, .int .i64 0, .bool true, .bool true, .bool true] 57 (.run i)
  have sn := step_new w2 T2 (.cells #[.pointer (some ⟨bx, 0, none⟩), .int .i64 c.l, .int .i64 c.d, .int .i64 c.s, .int .i64 c.k, .slice none 0 0, .int .i64 0, .slice none 0 0, .int .i64 0, .bool true, .bool true, .bool true] 57) (.run i) (fun _ => False)
  have hx3 := hX.step hx2 sn (fun _ _ h => h)
  have s3 : Step (UT i) w T _ _ := (s2.mono (fun _ h => (.inl h : UT i _))).trans (sn.mono (fun _ h => h.elim))
  have hfit0 : (q0 c).Fit 0 := fit_new c hgood
  have hg1 := rgroup_any hX h0B i _ bx (q0 c) L0 0 _ _ hx3 hfit0 (run0 hB3) (nice0 c) (by show (0 : Nat) < 6; decide) (by decide) (by decide)
  go_wp2_with fail
  refine hg1.mono ?_
  clear hg1
  rintro e w4 ⟨rfl, T4, s4, hx4, hr4, hf4, hn4⟩
  have e1 : mgrpM (q0 c) (nameB (q0 c).groups.length) (startOf (q0 c) 0) = q1 c := begin1 c
  rw [e1] at hx4 hr4 hf4 hn4
  obtain ⟨gb4, gc4, hr4'⟩ := RunM.named hr4 (by show (0 : Nat) < 1; decide)
  have p4 : Play X 0 w4 T4 i w2.heap.size (q1 c) L0 (F.grp (q0 c) (nameB (q0 c).groups.length) (startOf (q0 c) 0) (F.new c)) := ⟨bx, gb4, gc4, hx4, hr4', hf4, hn4, by show (0 : Nat) < 1; decide⟩
  have s04 := s3.trans s4
  clear hx4 hr4 hr4' hf4 hn4 s3 s4 hx3 sn hB3 hx2 hO2 q0' q1' q2' q3' e1 s2
  generalize w2.heap.size = b at *
  go_wp2_with fail
  refine (penq_any hX h0B i b (q1 c) L0 w4 T4 p4).mono ?_
  rintro e w5 ⟨rfl, T5, s5, p5⟩
  rw [show menqM (q1 c) (bodyN (q1 c).bodies.length) = q2 c from begin2 hgood] at p5
  obtain ⟨b3a, b3b, b3c⟩ := begin3q hgood
  go_wp2_with fail
  have hrc := precv_any hX h0B i b (q2 c) L0 0 g2 5 w5 T5 p5 rfl (by decide) (by decide)
  rw [b3a, b3b, b3c] at hrc
  refine hrc.mono ?_
  clear hrc
  rintro e w6 ⟨rfl, T6, s6, p6⟩
  go_wp2_with fail
  have hak := pack_any hX h0B i b (q3 c) L3 0 ⟨nameB 0, 0, [i3 c], []⟩ 0 w6 T6 p6 rfl (by decide) (by decide)
  rw [begin4 hgood] at hak
  refine hak.mono ?_
  clear hak
  rintro e w7 ⟨rfl, T7, s7, p7⟩
  have s07 := ((s04.trans s5).trans s6).trans s7
  obtain ⟨bx7, gb, gc, hx7, hr7, _⟩ := id p7
  obtain ⟨bo, bc, so, sc, lo, lc, A⟩ := hr7.at (k := 0) (g := ⟨nameB 0, 0, [{ i3 c with done := 1 }], []⟩) rfl
  have hsee := A.see
  obtain ⟨gi, _, e⟩ := row_some hsee (by show (0 : Nat) < 1; decide)
  cases e
  have c7 : w7.cell? ⟨b, 7, none⟩ = some (.slice (some ⟨gb, 0, none⟩) 1 gc) := A.c7
  have c9 := A.c9
  have c10 := A.c10
  have c11 := A.c11
  have d2 : w7.cell? ⟨gb, 2, none⟩ = some (.slice (some ⟨gi, 0, none⟩) 1 sc) := A.d2
  have t1 : w7.cell? ⟨gi, 1, none⟩ = some (.bool true) := hsee.cell (seenVals_at [{ i3 c with done := 1 }] 0 _ rfl).2.1
  clear A hsee hr7 hx7 p4 p5 p6 s04 s5 s6 s7
  go_wp2
  go_ret
  exact ⟨b, rfl, T7, s07, p7⟩

end Go.Proofs.YtockkceclkcgbaaGreatDoor

/- A script among the arguments; the tags of a run are no others. -/
namespace Go.Proofs.YtockkceclkcgbaaGreatDoor
open Go.RowKit

/-- a step of a script among the arguments -/
structure StV where
  kind : Int
  G : Int
  n : Int
  ms : Int
def StV.cells (o : StV) : Array Value := #[.int .i64 o.kind, .int .i64 o.G, .int .i64 o.n, .int .i64 o.ms]
def ArgS (w : World) (ao : Option Addr) (l : List StV) : Prop := ∀ k o, l[k]? = some o → i64 o.G ∧ i64 o.n ∧ i64 o.ms ∧ ∃ b off, ao = some ⟨b, off, none⟩ ∧ b < w.heap.size ∧ ∀ j v, o.cells[j]? = some v → w.cell? ⟨b, off + k * 4 + j, none⟩ = some v

theorem ut_free (i : Nat) : ∀ t : Tag, UT i t → ¬ t = .free := by rintro t h rfl; rcases h with h | h <;> simp [XT, RT] at h
theorem ut_old {i : Nat} {t : Tag} (h : UT i t) : t ≠ .old := by rintro rfl; rcases h with h | h <;> simp [XT, RT] at h
theorem ut_ne {i j : Nat} (hij : i ≠ j) : ∀ t : Tag, UT i t → ¬ UT j t := by
  intro t h1 h2
  have a : t.i = i := by rcases h1 with h | h; exact h.2; exact h.2.2
  have b : t.i = j := by rcases h2 with h | h; exact h.2; exact h.2.2
  exact hij (a.symm.trans b)

end Go.Proofs.YtockkceclkcgbaaGreatDoor

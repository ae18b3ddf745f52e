/- The contract of begin: a run of one group and one message, which was delivered and acked. -/
import Derived.Test.YtockkceclkcgbaaGreatDoorB18
import Derived.Test.YtockkceclkcgbaaGreatDoorB14
import Derived.Test.YtockkceclkcgbaaGreatDoorB16
namespace Go.Proofs.YtockkceclkcgbaaGreatDoor
open Go.RowKit

theorem nice0 (c : Conf) : NiceQ (q0 c) L0 := ⟨fun k g h => by simp [q0] at h, fun k g h => by simp [q0] at h, fun _ _ => rfl⟩
theorem run0 {w : World} {T : Nat → Tag} {i b bx : Nat} {c : Conf} (hB : Blk w T (.run i) b #[.pointer (some ⟨bx, 0, none⟩), .int .i64 c.l, .int .i64 c.d, .int .i64 c.s, .int .i64 c.k, .slice none 0 0, .int .i64 0, .slice none 0 0, .int .i64 0, .bool true, .bool true, .bool true] 57) : RunM w T i b bx ((q0 c).rv L0) :=
  ⟨by simp [q0, MQ.rv, MQ.rvU], by simp [q0, MQ.rv, MQ.rvU], .slice none 0 0, .slice none 0 0, fun _ => .slice none 0 0, fun _ => .slice none 0 0, hB, row_nil _ _ _ _ _, row_nil _ _ _ _ _, fun k g h => by simp [q0, MQ.rv, MQ.rvU] at h⟩

attribute [local go_sem] over_cell

set_option maxRecDepth 100000 in
set_option maxHeartbeats 4000000 in
theorem begin_any {X : World → (Nat → Tag) → Nat → Nat → MQ → Prop} {Bm : Int} (hX : XC X Bm) (h0B : 0 ≤ Bm) (i : Nat) (l : List Int) (ao : Option Addr) (cap : Nat) (w : World) (T : Nat → Tag) (hl : ArgI w ao l) (hlen : l.length ≤ 9223372036854775807) :
    Calls Tryz.prog 31 #[.slice ao l.length cap] w fun e w' => ∃ b, e = .returned (.pointer (some ⟨b, 0, none⟩)) ∧ ∃ T', Step (UT i) w T w' T' ∧ Play X 0 w' T' i b (q4 (madeC l)) L3 := by
  have hgood := madeC_good l
  have hmd := made_any l ao cap w hl hlen
  generalize madeC l = c at *
  unfold Conf.cells at hmd
  go_enter Tryz.func31, Tryz.ntmps31
  go_wp2_with fail
  refine hmd.mono ?_
  clear hmd
  rintro e w1 ⟨rfl, hb1⟩
  have s1 := (step_below (fun _ => False) T hb1).trans (step_new w1 T (.cells #[.int .i64 c.l, .int .i64 c.d, .int .i64 c.s, .int .i64 c.k] 23) .free (fun _ => False))
  have hO := blk_new w1 T #[.int .i64 c.l, .int .i64 c.d, .int .i64 c.s, .int .i64 c.k] 23 .free
  have hop := hX.opn c i (w1.alloc (.cells #[.int .i64 c.l, .int .i64 c.d, .int .i64 c.s, .int .i64 c.k] 23)) (retag T w1.heap.size .free)
  unfold Conf.cells at hop
  go_wp2_with fail
  refine hop.mono ?_
  clear hop
  rintro e w2 (⟨hbad, _, _⟩ | ⟨_, bx, T2, rfl, hs2, hx2⟩)
  · rw [hgood] at hbad
    cases hbad
  have hO2 := hO.step hs2 (by rintro ⟨h, _⟩; simp at h)
  have s2 : Step (XT i) w T w2 T2 := (s1.mono (fun _ h => h.elim)).trans hs2
  generalize w1.heap.size = ob at hO2 ⊢
  clear hO hs2 s1 hb1
  have q0' := hO2.cell (j := 0) rfl
  have q1' := hO2.cell (j := 1) rfl
  have q2' := hO2.cell (j := 2) rfl
  have q3' := hO2.cell (j := 3) rfl
  simp only [List.getElem_toArray, List.getElem_cons_succ, List.getElem_cons_zero] at q0' q1' q2' q3'
  have hB3 := blk_new w2 T2 #[.pointer (some ⟨bx, 0, none⟩), .int .i64 c.l, .int .i64 c.d, .int .i64 c.s, .int .i64 c.k, .slice none 0 0, .int .i64 0, .slice none 0 0, .int .i64 0, .bool true, .bool true, .bool true] 57 (.run i)
  have sn := step_new w2 T2 (.cells #[.pointer (some ⟨bx, 0, none⟩), .int .i64 c.l, .int .i64 c.d, .int .i64 c.s, .int .i64 c.k, .slice none 0 0, .int .i64 0, .slice none 0 0, .int .i64 0, .bool true, .bool true, .bool true] 57) (.run i) (fun _ => False)
  have hx3 := hX.step hx2 sn (fun _ _ h => h)
  have s3 : Step (UT i) w T _ _ := (s2.mono (fun _ h => (.inl h : UT i _))).trans (sn.mono (fun _ h => h.elim))
  have hfit0 : (q0 c).Fit 0 := fit_new c hgood
  have hg1 := rgroup_any hX h0B i _ bx (q0 c) L0 0 _ _ hx3 hfit0 (run0 hB3) (nice0 c) (by show (0 : Nat) < 6; decide) (by decide) (by decide)
  go_wp2_with fail
  refine hg1.mono ?_
  clear hg1
  rintro e w4 ⟨rfl, T4, s4, hx4, hr4, hf4, hn4⟩
  have e1 : mgrpM (q0 c) (nameB (q0 c).groups.length) (startOf (q0 c) 0) = q1 c := begin1 c
  rw [e1] at hx4 hr4 hf4 hn4
  obtain ⟨gb4, gc4, hr4'⟩ := RunM.named hr4 (by show (0 : Nat) < 1; decide)
  have p4 : Play X 0 w4 T4 i w2.heap.size (q1 c) L0 := ⟨bx, gb4, gc4, hx4, hr4', hf4, hn4, by show (0 : Nat) < 1; decide⟩
  have s04 := s3.trans s4
  clear hx4 hr4 hr4' hf4 hn4 s3 s4 hx3 sn hB3 hx2 hO2 q0' q1' q2' q3' e1 s2
  generalize w2.heap.size = b at *
  go_wp2_with fail
  refine (penq_any hX h0B i b (q1 c) L0 w4 T4 p4).mono ?_
  rintro e w5 ⟨rfl, T5, s5, p5⟩
  rw [show menqM (q1 c) (bodyN (q1 c).bodies.length) = q2 c from begin2 hgood] at p5
  obtain ⟨b3a, b3b, b3c⟩ := begin3q hgood
  go_wp2_with fail
  have hrc := precv_any hX h0B i b (q2 c) L0 0 g2 5 w5 T5 p5 rfl (by decide) (by decide)
  rw [b3a, b3b, b3c] at hrc
  refine hrc.mono ?_
  clear hrc
  rintro e w6 ⟨rfl, T6, s6, p6⟩
  go_wp2_with fail
  have hak := pack_any hX h0B i b (q3 c) L3 0 ⟨nameB 0, 0, [i3 c], []⟩ 0 w6 T6 p6 rfl (by decide) (by decide)
  rw [begin4 hgood] at hak
  refine hak.mono ?_
  clear hak
  rintro e w7 ⟨rfl, T7, s7, p7⟩
  have s07 := ((s04.trans s5).trans s6).trans s7
  obtain ⟨bx7, gb, gc, hx7, hr7, _⟩ := id p7
  obtain ⟨bo, bc, so, sc, lo, lc, A⟩ := hr7.at (k := 0) (g := ⟨nameB 0, 0, [{ i3 c with done := 1 }], []⟩) rfl
  have hsee := A.see
  obtain ⟨gi, _, e⟩ := row_some hsee (by show (0 : Nat) < 1; decide)
  cases e
  have c7 : w7.cell? ⟨b, 7, none⟩ = some (.slice (some ⟨gb, 0, none⟩) 1 gc) := A.c7
  have c9 := A.c9
  have c10 := A.c10
  have c11 := A.c11
  have d2 : w7.cell? ⟨gb, 2, none⟩ = some (.slice (some ⟨gi, 0, none⟩) 1 sc) := A.d2
  have t1 : w7.cell? ⟨gi, 1, none⟩ = some (.bool true) := hsee.cell (seenVals_at [{ i3 c with done := 1 }] 0 _ rfl).2.1
  clear A hsee hr7 hx7 p4 p5 p6 s04 s5 s6 s7
  go_wp2
  go_ret
  exact ⟨b, rfl, T7, s07, p7⟩

end Go.Proofs.YtockkceclkcgbaaGreatDoor

/- A script among the arguments; the tags of a run are no others. -/
namespace Go.Proofs.YtockkceclkcgbaaGreatDoor
open Go.RowKit

/-- a step of a script among the arguments -/
structure StV where
  kind : Int
  G : Int
  n : Int
  ms : Int
def StV.cells (o : StV) : Array Value := #[.int .i64 o.kind, .int .i64 o.G, .int .i64 o.n, .int .i64 o.ms]
def ArgS (w : World) (ao : Option Addr) (l : List StV) : Prop := ∀ k o, l[k]? = some o → i64 o.G ∧ i64 o.n ∧ i64 o.ms ∧ ∃ b off, ao = some ⟨b, off, none⟩ ∧ b < w.heap.size ∧ ∀ j v, o.cells[j]? = some v → w.cell? ⟨b, off + k * 4 + j, none⟩ = some v

theorem ut_free (i : Nat) : ∀ t : Tag, UT i t → ¬ t = .free := by rintro t h rfl; rcases h with h | h <;> simp [XT, RT] at h
theorem ut_old {i : Nat} {t : Tag} (h : UT i t) : t ≠ .old := by rintro rfl; rcases h with h | h <;> simp [XT, RT] at h
theorem ut_ne {i j : Nat} (hij : i ≠ j) : ∀ t : Tag, UT i t → ¬ UT j t := by
  intro t h1 h2
  have a : t.i = i := by rcases h1 with h | h; exact h.2; exact h.2.2
  have b : t.i = j := by rcases h2 with h | h; exact h.2; exact h.2.2
  exact hij (a.symm.trans b)

end Go.Proofs.YtockkceclkcgbaaGreatDoor

/- The mathematics of a run's retain: what goes is done; the floor is a multiple of Segment. -/
namespace Go.Proofs.YtockkceclkcgbaaGreatDoor
open Go.RowKit

def Seg (m : MQ) : Prop := m.floor.tmod m.c.s = 0

theorem leastTo_mark {m : MQ} : ∀ (n k : Nat) (g : MG), k < n → m.groups[k]? = some g → leastTo m n ≤ markOf g
  | 0, _, _, h, _ => by omega
  | n + 1, k, g, h, hg => by
    by_cases e : k = n
    · subst e
      rw [leastTo_step hg]
      exact Nat.min_le_right _ _
    · have ih := leastTo_mark n k g (by omega) hg
      cases hn : m.groups[n]? with
      | none =>
        have h1 := (List.getElem?_eq_some_iff.1 hg).1
        have : leastTo m (n + 1) = leastTo m n := by rw [leastTo, hn]
        omega
      | some g' =>
        rw [leastTo_step hn]
        exact Nat.le_trans (Nat.min_le_left _ _) ih

theorem retainTo_least {m : MQ} (hg : goodC m.c = true) : retainTo m ≤ leastTo m m.groups.length := by
  have hs := good_seg hg
  unfold retainTo
  rw [Int.tdiv_eq_ediv_of_nonneg (by omega)]
  exact Int.ediv_mul_le _ (by omega)

theorem retain_floor {m : MQ} (hg : goodC m.c = true) (hfl : 0 ≤ m.floor ∧ m.floor ≤ m.bodies.length) : (retainM m).floor = m.floor + retainN m ∧ 0 ≤ retainN m ∧ (retainM m).floor ≤ m.bodies.length := by
  have h := retainTo_le m hg
  unfold retainM retainN
  cases hb : retainB m
  · simp only [cond_false]
    simp only [retainB, Bool.or_eq_false_iff, decide_eq_false_iff_not] at hb
    omega
  · simp only [cond_true]
    omega
theorem retain_done {m : MQ} {L : Nat → List Nat} {B : Int} (hq : NiceQ m L) (hf : m.Fit B) {k n : Nat} {g : MG} {x : It} (hg : m.groups[k]? = some g) (hx : g.items[n]? = some x) (h1 : g.start ≤ n) (h2 : (n : Int) < (retainM m).floor) : 0 < x.done := by
  have hG := hq.grp k g hg
  unfold retainM at h2
  cases hb : retainB m
  · rw [hb] at h2
    simp only [cond_false] at h2
    have h3 := retainTo_least hf.ok.good
    have h4 := leastTo_mark m.groups.length k g (List.getElem?_eq_some_iff.1 hg).1 hg
    have h5 : n < markOf g := by omega
    have hst := hf.ok.start g (List.mem_of_getElem? hg)
    unfold markOf at h5
    have h6 := (markAt_not (l := g.items) g.items.length g.start.toNat (by omega)).2 n (by omega) h5
    have hd : doneB g.items (n : Int) = decide (0 < x.done) := by simp [doneB, itemAt_nat, hx]
    rw [hd] at h6
    simpa using h6
  · rw [hb] at h2
    exact hG.items.low n x hx h1 h2
theorem nice_retain {m : MQ} {L : Nat → List Nat} {B : Int} (hq : NiceQ m L) (hf : m.Fit B) : NiceQ (retainM m) L := by
  have key := fun {k n : Nat} {g : MG} {x : It} => retain_done (k := k) (n := n) (g := g) (x := x) hq hf
  unfold retainM at key ⊢
  cases hb : retainB m
  · rw [hb] at key
    simp only [cond_false] at key ⊢
    exact ⟨hq.named, fun k g hg => ⟨⟨(hq.grp k g hg).items.done, (hq.grp k g hg).items.tries, (hq.grp k g hg).items.since, fun n x hx a b => key hg hx a b⟩, (hq.grp k g hg).last, (hq.grp k g hg).sum⟩, hq.out⟩
  · exact hq
theorem seg_retain {m : MQ} (h : Seg m) : Seg (retainM m) := by
  unfold retainM
  cases retainB m
  · simp only [cond_false]
    unfold Seg retainTo
    exact Int.mul_tmod_left _ _
  · exact h
theorem retainM_ns {m : MQ} : (retainM m).groups = m.groups ∧ (retainM m).c = m.c ∧ (retainM m).bodies = m.bodies ∧ (retainM m).time = m.time := by
  unfold retainM
  cases retainB m <;> exact ⟨rfl, rfl, rfl, rfl⟩

end Go.Proofs.YtockkceclkcgbaaGreatDoor

/- The contract of a run's retain. -/
namespace Go.Proofs.YtockkceclkcgbaaGreatDoor
open Go.RowKit

/-- the run's floor is written -/
theorem RunG.setFloor {w : World} {T : Nat → Tag} {i b bx gb gc : Nat} {m : MQ} {U : Nat → List It} {L : Nat → List Nat} (h : RunG w T i b bx gb gc m U L) (v : Int) :
    RunG (w.setCell ⟨b, 6, none⟩ (.int .i64 v)) T i b bx gb gc { m with floor := v } U L ∧ Step (fun t => t = .run i) w T (w.setCell ⟨b, 6, none⟩ (.int .i64 v)) T := by
  obtain ⟨h1, h2, vB, vi, vd, hB, hR, hG, hI⟩ := h
  have hs : Step (fun t => t = .run i) w T (w.setCell ⟨b, 6, none⟩ (.int .i64 v)) T := step_setCell _ _ _ _ _ hB.1
  exact ⟨⟨h1, h2, vB, vi, vd, hB.set 6 _, hR.step hs (by simp), hG.step hs (by simp), fun k g hk => ⟨(hI k g hk).1.step hs (by simp), (hI k g hk).2.step hs (by simp)⟩⟩, hs⟩

attribute [local go_sem] over_cell

set_option maxRecDepth 100000 in
set_option maxHeartbeats 8000000 in
theorem rretain_any {X : World → (Nat → Tag) → Nat → Nat → MQ → Prop} {B Bm : Int} (hX : XC X Bm) (hle : B ≤ Bm) (i b bx gb gc : Nat) (m : MQ) (L : Nat → List Nat) (w : World) (T : Nat → Tag) (hx : X w T i bx m) (hf : m.Fit B) (hr : RunG w T i b bx gb gc m (itemsOf m) L) (hq : NiceQ m L) (hsg : Seg m) (hp : 0 < m.groups.length) :
    Calls Tryz.prog 23 #[.pointer (some ⟨b, 0, none⟩)] w fun e w' => e = .returned (.tuple #[]) ∧ ∃ T', Step (UT i) w T w' T' ∧ X w' T' i bx (retainM m) ∧ RunG w' T' i b bx gb gc (retainM m) (itemsOf (retainM m)) L := by
  have hsm := hr.small
  have hfew := hr.few
  have hflr := hf.ok.fl
  have hgood := good_all hf.ok.good
  obtain ⟨r1, r2, r3⟩ := retain_floor hf.ok.good hflr
  have hfr := fit_retain hf
  have hseg := seg_retain hsg
  unfold Seg at hseg
  obtain ⟨n1, n2, n3, n4⟩ := retainM_ns (m := m)
  rw [n2] at hseg
  have hdone : ∀ (k n : Nat) (g : MG) (x : It), m.groups[k]? = some g → g.items[n]? = some x → g.start ≤ n → (n : Int) < (retainM m).floor → 0 < x.done := fun k n g x hg hx => retain_done hq hf hg hx
  have hlenA := hf.ok.len
  have hstA := hf.ok.start
  obtain ⟨g0, hg0⟩ : ∃ g, m.groups[0]? = some g := ⟨_, List.getElem?_eq_getElem hp⟩
  obtain ⟨bo, bc, so, sc, lo, lc, A⟩ := hr.at hg0
  have c0 := A.c0
  have lb := A.lb
  have hret := hX.ret i bx m w T hx (hf.mono hle)
  have eM : Hid (retainM m = { retainM m with floor := (retainM m).floor }) := hide rfl
  obtain ⟨fl, hfl⟩ : ∃ fl, Hid ((retainM m).floor = fl) := ⟨_, hide rfl⟩
  obtain ⟨nn, hnn⟩ : ∃ nn, Hid (retainN m = nn) := ⟨_, hide rfl⟩
  rw [hfl.out, hnn.out] at r1
  rw [hnn.out] at r2
  rw [hfl.out] at r3 hseg hdone
  rw [hnn.out] at hret
  have r1' := hide r1
  have hfl0 : 0 ≤ fl := by omega
  clear r1
  go_enter Tryz.func23, Tryz.ntmps23
  go_wp2_with fail
  refine hret.mono ?_
  clear hret
  rintro e w1 ⟨rfl, T1, s1, hx1⟩
  have A1 := A.step s1 (fun _ a c => xt_rt a c)
  have hr1 := hr.step s1 (fun _ a c => xt_rt a c)
  clear c0 lb
  have c0 := A1.c0
  have lb := A1.lb
  have hspan := hX.span i bx (retainM m) w1 T1 hx1 (hfr.mono hle)
  rw [hfl.out, n3] at hspan
  go_wp2_with fail
  refine hspan.mono ?_
  clear hspan
  rintro e w2 ⟨rfl, T2, s2, hx2⟩
  have sn := step_new w2 T2 (.cells #[.int .i64 fl, .int .i64 m.bodies.length] 69) .free (fun _ => False)
  have hO := blk_new w2 T2 #[.int .i64 fl, .int .i64 m.bodies.length] 69 .free
  have A2 := (A1.step s2 (fun _ a c => xt_rt a c)).step sn (fun _ _ h => h)
  have hr2 := (hr1.step s2 (fun _ a c => xt_rt a c)).step sn (fun _ _ h => h)
  have hx2' := hX.step hx2 sn (fun _ _ h => h)
  have s02 : Step (UT i) w T _ _ := ((s1.trans s2).mono (fun _ h => .inl h)).trans (sn.mono (fun _ h => h.elim))
  clear A A1 hr hr1 hx hx1 hx2 s1 s2 sn c0 lb
  go_wp2_with fail
  generalize retag T2 w2.heap.size .free = T3 at *
  generalize w2.alloc (.cells #[.int .i64 fl, .int .i64 (m.bodies.length : Int)] 69) = w3 at *
  generalize w2.heap.size = ob at *
  have q0 := hO.cell (j := 0) rfl
  have q1 := hO.cell (j := 1) rfl
  simp only [List.getElem_toArray, List.getElem_cons_succ, List.getElem_cons_zero] at q0 q1
  have lO := hO.lt
  have lb := A2.lb
  have c3 := A2.c3
  have c5 := A2.c5
  have c6 := A2.c6
  have c11 := A2.c11
  have z11 := A2.fb 11
  have f1 : decide (0 ≤ nn) = true := by simpa using r2
  have f2 : decide (fl ≤ (m.bodies.length : Int)) = true := by simpa using r3
  have hw1 : IntKind.i64.wrap (m.floor + nn) = fl := by rw [IntWalk.i64_left, IntWalk.wrap64_in _ ⟨by have := r1'.out; omega, by have := r1'.out; omega⟩]; exact r1'.out.symm
  have hs0 : m.c.s ≠ 0 := by omega
  have hneO : ob ≠ b := fun e => by have := hO.1; rw [e, A2.tb] at this; simp at this
  obtain ⟨hr4, s4⟩ := hr2.flag 11 (by simp)
  have gdr := step_below (fun _ => False) T3 (Below.refl (w3.setCell ⟨b, 11, none⟩ (.bool true)).heap.size (w3.setCell ⟨b, 11, none⟩ (.bool true))).drew
  have hr4' := hr4.step gdr (fun _ _ h => h)
  have hO4 := (hO.step s4 (by simp)).step gdr (fun h => h)
  have hx4 := hX.step (hX.step hx2' s4 xt_run) gdr (fun _ _ h => h)
  have s04 := (s02.trans (s4.mono (fun _ h => rt_run i h))).trans (gdr.mono (fun _ h => h.elim))
  have P := hide (And.intro hr4' (And.intro hO4 (And.intro hx4 s04)))
  have hdk := hide hdone
  have Pr := hide (And.intro r1'.out r3)
  clear hr4 hr4' s4 gdr hO4 hx4 s04 A2 hr2 hx2' s02 hO r3 hdone hsg hfr hq eM
  refine wp_region_tail 50 (by kernel_rfl) (by kernel_rfl) ?_
  simp only [List.take_succ_cons, List.take_zero, List.drop_succ_cons, List.drop_zero]
  repeat (go_big_quiet_step (fail))
  refine wpQuiet_nil ?_
  go_wp2_with fail
  obtain ⟨hr4, hO4, hx4, s04⟩ := P.out
  have hfm : fl ≤ (m.bodies.length : Int) := Pr.out.2
  clear P c3 c5 c6 c11 z11 q0 q1 lO lb f1 f2 hw1 hs0 hseg r2
  generalize (w3.setCell ⟨b, 11, none⟩ (.bool true)).drew = w4 at *
  go_loopw [4] (fun v wr => ∃ (k : Nat) , k ≤ m.groups.length ∧ v = .int .i64 k ∧ Step (UT i) w T wr T3 ∧ X wr T3 i bx (retainM m) ∧ RunG wr T3 i b bx gb gc m (itemsOf m) L ∧ Blk wr T3 .free ob #[.int .i64 fl, .int .i64 m.bodies.length] 69) (fun v _ => m.groups.length - (intOf v).toNat)
  case atStart => exact ⟨0, Nat.zero_le _, rfl, s04, hx4, hr4, hO4⟩
  case round =>
    obtain ⟨k, hk, rfl, s5, hx5, hr5, hO5⟩ := hrel
    clear hr4 hO4 hx4 s04
    obtain ⟨c7, lb5⟩ := hr5.len
    by_cases hlt : k < m.groups.length
    · obtain ⟨g, hg⟩ : ∃ g, m.groups[k]? = some g := ⟨_, List.getElem?_eq_getElem hlt⟩
      have hlen := hlenA g (List.mem_of_getElem? hg)
      have hst := hstA g (List.mem_of_getElem? hg)
      obtain ⟨bo5, bc5, so5, sc5, lo5, lc5, A5⟩ := hr5.at hg
      have d1 := A5.d1
      have lg5 := A5.lg
      clear A5
      go_wp2
      go_loopw [5] (fun v wr => ∃ (q : Int), g.start ≤ q ∧ (q ≤ fl ∨ q = g.start) ∧ v = .int .i64 q ∧ Step (UT i) w T wr T3 ∧ X wr T3 i bx (retainM m) ∧ RunG wr T3 i b bx gb gc m (itemsOf m) L ∧ Blk wr T3 .free ob #[.int .i64 fl, .int .i64 m.bodies.length] 69) (fun v _ => (fl - intOf v).toNat)
      case atStart => exact ⟨g.start, Int.le_refl _, .inr rfl, rfl, s5, hx5, hr5, hO5⟩
      case round =>
        obtain ⟨q, hq0, hq1, rfl, s6, hx6, hr6, hO6⟩ := hrel
        clear s5 hx5 hr5 hO5 c7 lb5 d1 lg5
        have q0 := hO6.cell (j := 0) rfl
        simp only [List.getElem_toArray, List.getElem_cons_zero] at q0
        have lO := hO6.lt
        by_cases hql : q < fl
        · obtain ⟨n, rfl⟩ : ∃ n : Nat, q = n := ⟨q.toNat, by omega⟩
          have hnl : n < m.bodies.length := by omega
          obtain ⟨x, hxn⟩ : ∃ x, g.items[n]? = some x := ⟨_, List.getElem?_eq_getElem (by omega)⟩
          have hdn := hdk.out k n g x hg hxn hq0 hql
          obtain ⟨bo6, bc6, so6, sc6, lo6, lc6, A6⟩ := hr6.at hg
          rw [itemsOf_at hg] at A6
          have hsee := A6.see
          obtain ⟨gi, _, e⟩ := row_some hsee (by omega)
          cases e
          have t1 := hsee.cell (seenVals_at _ n x hxn).2.1
          rw [decide_eq_true hdn] at t1
          have c7 := A6.c7
          have c11 := A6.c11
          have z11 := A6.fb 11
          have d2 := A6.d2
          have lb := A6.lb
          have lg := A6.lg
          have li := hsee.lt
          obtain ⟨hr7, s7⟩ := hr6.flag 11 (by simp)
          have hx7 := hX.step hx6 s7 xt_run
          have hO7 := hO6.step s7 (by simp)
          have s07 := s6.trans (s7.mono (fun _ h => rt_run i h))
          clear A6 hsee hr6 hx6 hO6 s6 s7 hq1
          go_wp2
          exact ⟨⟨(n : Int) + 1, by omega, .inl (by omega), by simp, s07, hx7, hr7, hO7⟩, by simp [intOf]; omega⟩
        · go_wp2
          exact ⟨⟨k + 1, by omega, by simp, s6, hx6, hr6, hO6⟩, by simp [intOf]; omega⟩
    · have q0 := hO5.cell (j := 0) rfl
      simp only [List.getElem_toArray, List.getElem_cons_zero] at q0
      have lO := hO5.lt
      obtain ⟨bo5, bc5, so5, sc5, lo5, lc5, A5⟩ := hr5.at hg0
      have c6 := A5.c6
      have z6 := A5.fb 6
      obtain ⟨hr6, s6⟩ := hr5.setFloor fl
      have hx6 := hX.step hx5 s6 xt_run
      have s06 := s5.trans (s6.mono (fun _ h => rt_run i h))
      have hr7 : RunG (w := _) (T := T3) (i := i) (b := b) (bx := bx) (gb := gb) (gc := gc) (m := retainM m) (U := itemsOf (retainM m)) (L := L) := hr6.congr n2 n3 hfl.out n4 (by rw [n1]) (fun j _ => by unfold itemsOf; rw [n1]) (fun _ _ => rfl)
      clear A5 hr5 hx5 hO5 s5 hr6
      go_wp2
      go_end0
      exact ⟨rfl, T3, s06, hx6, hr7⟩

end Go.Proofs.YtockkceclkcgbaaGreatDoor

/- A queue that is opened anew of its log: the time is 0, nothing is leased, every message may be delivered; what a queue's log must keep so that a run can crash. -/
namespace Go.Proofs.YtockkceclkcgbaaGreatDoor
open Go.RowKit

def wakeI (x : It) : It := { x with till := 0, after := 0 }
def wakeG (g : MG) : MG := { g with items := g.items.map wakeI }
def wakeM (m : MQ) (ch : Int) : MQ := { m with time := 0, groups := m.groups.map wakeG, changes := ch }

theorem wakeM_group {m : MQ} {ch : Int} {k : Nat} : (wakeM m ch).groups[k]? = (m.groups[k]?).map wakeG := by simp [wakeM]
theorem wakeM_glen {m : MQ} {ch : Int} : (wakeM m ch).groups.length = m.groups.length := by simp [wakeM]
theorem wakeM_ns {m : MQ} {ch : Int} : (wakeM m ch).groups.map (fun g => (g.name, g.start)) = m.groups.map (fun g => (g.name, g.start)) := by
  simp [wakeM, wakeG, Function.comp_def]
theorem wake_items {m : MQ} {ch : Int} {k : Nat} : itemsOf (wakeM m ch) k = (itemsOf m k).map wakeI := by
  unfold itemsOf
  rw [wakeM_group]
  cases m.groups[k]? <;> simp [wakeG]
theorem cnt_wake : ∀ l : List It, cnt (l.map wakeI) = cnt l
  | [] => rfl
  | x :: r => by
    have ih := cnt_wake r
    simp only [cnt, List.map_cons] at ih ⊢
    by_cases h : 0 < x.done
    · have h' : 0 < (wakeI x).done := h
      simp only [List.filter_cons, h, h', decide_true, if_true, List.length_cons, ih]
    · have h' : ¬ 0 < (wakeI x).done := h
      simp only [List.filter_cons, h, h', decide_false, Bool.false_eq_true, if_false, ih]
theorem fit_wake {m : MQ} {B ch : Int} (h : m.Fit B) : (wakeM m ch).Fit B := by
  have ht := h.ok.time
  have hB := h.time
  have key : ∀ g ∈ (wakeM m ch).groups, ∃ g0 ∈ m.groups, g = wakeG g0 := by
    intro g hg
    simp only [wakeM, List.mem_map] at hg
    obtain ⟨g0, h0, rfl⟩ := hg
    exact ⟨g0, h0, rfl⟩
  refine ⟨⟨h.ok.good, fun g hg => ?_, fun g hg n hn => ?_, ⟨by show (0 : Int) ≤ 0; omega, by show (0 : Int) ≤ _; omega⟩, h.ok.fl, fun g hg => ?_⟩, fun g hg => ?_, by show (0 : Int) ≤ B; omega⟩
  · obtain ⟨g0, h0, rfl⟩ := key g hg
    show (g0.items.map wakeI).length = m.bodies.length
    rw [List.length_map]
    exact h.ok.len g0 h0
  · obtain ⟨g0, h0, rfl⟩ := key g hg
    exact h.ok.dead g0 h0 n hn
  · obtain ⟨g0, h0, rfl⟩ := key g hg
    exact h.ok.start g0 h0
  · obtain ⟨g0, h0, rfl⟩ := key g hg
    show g0.dead.length ≤ cnt (g0.items.map wakeI)
    rw [cnt_wake]
    exact h.cnt g0 h0
theorem tsum_wake (l : List It) : tsum (l.map wakeI) = tsum l := by simp [tsum, wakeI, Function.comp_def]
theorem nice_wake {m : MQ} {L : Nat → List Nat} {ch : Int} (h : NiceQ m L) : NiceQ (wakeM m ch) L := by
  have key : ∀ {l : List It} {n : Nat} {x : It}, (l.map wakeI)[n]? = some x → ∃ y, l[n]? = some y ∧ x = wakeI y := by
    intro l n x hx
    simp only [List.getElem?_map, Option.map_eq_some_iff] at hx
    obtain ⟨y, hy, rfl⟩ := hx
    exact ⟨y, hy, rfl⟩
  refine ⟨fun k g hg => ?_, fun k g hg => ?_, fun k hk => h.out k (by rw [wakeM_glen] at hk; exact hk)⟩
  · rw [wakeM_group, Option.map_eq_some_iff] at hg
    obtain ⟨g0, h0, rfl⟩ := hg
    exact h.named k g0 h0
  · rw [wakeM_group, Option.map_eq_some_iff] at hg
    obtain ⟨g0, h0, rfl⟩ := hg
    have hG := h.grp k g0 h0
    refine ⟨⟨fun n x hx => ?_, fun n x hx => ?_, fun n x hx a => ?_, fun n x hx a b => ?_⟩, hG.last, by show (L k).length = tsum (g0.items.map wakeI); rw [tsum_wake]; exact hG.sum⟩
    · obtain ⟨y, hy, rfl⟩ := key hx
      exact hG.items.done n y hy
    · obtain ⟨y, hy, rfl⟩ := key hx
      exact hG.items.tries n y hy
    · obtain ⟨y, hy, rfl⟩ := key hx
      exact hG.items.since n y hy a
    · obtain ⟨y, hy, rfl⟩ := key hx
      exact hG.items.low n y hy a b

/-- What a queue's log must keep: Log answers a text that speaks of the queue as it is behind a crash; Open of a text that speaks of a queue makes that queue. -/
structure XD (X : World → (Nat → Tag) → Nat → Nat → MQ → Prop) (Dec : Conf → ByteArray → MQ → Prop) (Ld : World → (Nat → Tag) → Prop) (B : Int) : Prop where
  xc : XC X B
  log : ∀ (i b : Nat) (m : MQ) (w : World) (T : Nat → Tag), X w T i b m → m.Fit B → Calls Tryz.prog 26 #[.pointer (some ⟨b, 0, none⟩)] w fun e w' => ∃ s, e = .returned (.string s) ∧ ∃ ch T', Dec m.c s (wakeM m ch) ∧ Step (XT i) w T w' T' ∧ X w' T' i b m
  ld : ∀ {S : Tag → Prop} {w w' : World} {T T' : Nat → Tag}, Ld w T → Step S w T w' T' → ¬ S .old → Ld w' T'
  opn : ∀ (c : Conf) (s : ByteArray) (q : MQ) (i : Nat) (w : World) (T : Nat → Tag), Ld w T → Dec c s q → Calls Tryz.prog 25 #[.agg c.cells, .string s] w fun e w' => ∃ b, e = .returned (.tuple #[.pointer (some ⟨b, 0, none⟩), .int .i64 0]) ∧ ∃ T', Step (fun _ => False) w T w' T' ∧ X w' T' i b q

end Go.Proofs.YtockkceclkcgbaaGreatDoor

/- The contract of a run's crash, over any queue whose log keeps what it must. -/
namespace Go.Proofs.YtockkceclkcgbaaGreatDoor
open Go.RowKit

/-- the run has another queue; its time is written -/
theorem RunG.setQueue {w : World} {T : Nat → Tag} {i b bx gb gc : Nat} {m : MQ} {U : Nat → List It} {L : Nat → List Nat} (h : RunG w T i b bx gb gc m U L) (bx' : Nat) :
    RunG (w.setCell ⟨b, 0, none⟩ (.pointer (some ⟨bx', 0, none⟩))) T i b bx' gb gc m U L ∧ Step (fun t => t = .run i) w T (w.setCell ⟨b, 0, none⟩ (.pointer (some ⟨bx', 0, none⟩))) T := by
  obtain ⟨h1, h2, vB, vi, vd, hB, hR, hG, hI⟩ := h
  have hs : Step (fun t => t = .run i) w T (w.setCell ⟨b, 0, none⟩ (.pointer (some ⟨bx', 0, none⟩))) T := step_setCell _ _ _ _ _ hB.1
  exact ⟨⟨h1, h2, vB, vi, vd, hB.set 0 _, hR.step hs (by simp), hG.step hs (by simp), fun k g hk => ⟨(hI k g hk).1.step hs (by simp), (hI k g hk).2.step hs (by simp)⟩⟩, hs⟩
theorem RunG.setTime {w : World} {T : Nat → Tag} {i b bx gb gc : Nat} {m : MQ} {U : Nat → List It} {L : Nat → List Nat} (h : RunG w T i b bx gb gc m U L) (v : Int) :
    RunG (w.setCell ⟨b, 8, none⟩ (.int .i64 v)) T i b bx gb gc { m with time := v } U L ∧ Step (fun t => t = .run i) w T (w.setCell ⟨b, 8, none⟩ (.int .i64 v)) T := by
  obtain ⟨h1, h2, vB, vi, vd, hB, hR, hG, hI⟩ := h
  have hs : Step (fun t => t = .run i) w T (w.setCell ⟨b, 8, none⟩ (.int .i64 v)) T := step_setCell _ _ _ _ _ hB.1
  exact ⟨⟨h1, h2, vB, vi, vd, hB.set 8 _, hR.step hs (by simp), hG.step hs (by simp), fun k g hk => ⟨(hI k g hk).1.step hs (by simp), (hI k g hk).2.step hs (by simp)⟩⟩, hs⟩

theorem ut_not_old (i : Nat) : ¬ UT i .old := by rintro (h | h) <;> simp [XT, RT] at h

attribute [local go_sem] over_cell

set_option maxRecDepth 100000 in
set_option maxHeartbeats 8000000 in
theorem rcrash_any {X : World → (Nat → Tag) → Nat → Nat → MQ → Prop} {Dec : Conf → ByteArray → MQ → Prop} {Ld : World → (Nat → Tag) → Prop} {B Bm : Int} (hD : XD X Dec Ld Bm) (hle : B ≤ Bm) (i b bx gb gc : Nat) (m : MQ) (L : Nat → List Nat) (w : World) (T : Nat → Tag) (hx : X w T i bx m) (hf : m.Fit B) (hr : RunG w T i b bx gb gc m (itemsOf m) L) (hq : NiceQ m L) (hp : 0 < m.groups.length) (hLd : Ld w T) :
    Calls Tryz.prog 76 #[.pointer (some ⟨b, 0, none⟩)] w fun e w' => e = .returned (.tuple #[]) ∧ ∃ T' bx' ch, Step (UT i) w T w' T' ∧ X w' T' i bx' (wakeM m ch) ∧ RunG w' T' i b bx' gb gc (wakeM m ch) (itemsOf (wakeM m ch)) L := by
  have hX := hD.xc
  have hsm := hr.small
  have hfew := hr.few
  have hlenA := hf.ok.len
  obtain ⟨g0, hg0⟩ : ∃ g, m.groups[0]? = some g := ⟨_, List.getElem?_eq_getElem hp⟩
  obtain ⟨bo, bc, so, sc, lo, lc, A⟩ := hr.at hg0
  have c0 := A.c0
  have c1 := A.c1
  have c2 := A.c2
  have c3 := A.c3
  have c4 := A.c4
  have lb := A.lb
  have gd1 := step_below (fun _ => False) T (Below.refl w.heap.size w).drew
  have Ad := A.step gd1 (fun _ _ h => h)
  have hrd := hr.step gd1 (fun _ _ h => h)
  have hlog := hD.log i bx m _ T (hX.step hx gd1 (fun _ _ h => h)) (hf.mono hle)
  have hl1 := hD.ld hLd gd1 (fun h => h)
  have hopn := fun (s : ByteArray) (q : MQ) (w1 : World) (T1 : Nat → Tag) (hl : Ld w1 T1) (h : Dec m.c s q) => hD.opn m.c s q i w1 T1 hl h
  unfold Conf.cells at hopn
  go_enter Tryz.func76, Tryz.ntmps76
  go_wp2_with fail
  go_region_held3 (fun w' => w'.cell? ⟨b, 0, none⟩ = some (.pointer (some ⟨bx, 0, none⟩)) ∧ w'.cell? ⟨b, 1, none⟩ = some (.int .i64 m.c.l) ∧ w'.cell? ⟨b, 2, none⟩ = some (.int .i64 m.c.d) ∧ w'.cell? ⟨b, 3, none⟩ = some (.int .i64 m.c.s) ∧ w'.cell? ⟨b, 4, none⟩ = some (.int .i64 m.c.k)) (go_keep) (first
    | (go_at_call 26; refine hlog.mono ?_; clear hlog; rintro e w2 ⟨s, rfl, ch, T2, hdec, s2, hx2⟩; have hl2 := hD.ld hl1 s2 (by simp [XT]); have A2 := Ad.step s2 (fun _ a c => xt_rt a c); have k0 := A2.c0; have k1 := A2.c1; have k2 := A2.c2; have k3 := A2.c3; have k4 := A2.c4)
    | (go_at_call 25; refine (hopn s (wakeM m ch) w2 T2 hl2 hdec).mono ?_; clear hopn; rintro e w3 ⟨bx3, rfl, T3, s3, hx3⟩; have A3 := A2.step s3 (fun _ _ h => h); have l0 := A3.c0; have l1 := A3.c1; have l2 := A3.c2; have l3 := A3.c3; have l4 := A3.c4))
  have hr3 := (hrd.step s2 (fun _ a c => xt_rt a c)).step s3 (fun _ _ h => h)
  have s03 : Step (UT i) w T w3 T3 := ((gd1.mono (fun _ h => (h.elim : UT i _))).trans (s2.mono (fun _ h => .inl h))).trans (s3.mono (fun _ h => h.elim))
  have hfq : (wakeM m ch).Fit B := fit_wake hf
  have hnq : NiceQ (wakeM m ch) L := nice_wake hq
  have lb3 := A3.lb
  have z0 := A3.fb 0
  have z8 := A3.fb 8
  have c8 := A3.c8
  obtain ⟨hr4, s4⟩ := hr3.setQueue bx3
  obtain ⟨hr5, s5⟩ := hr4.setTime 0
  have hx5 := hX.step (hX.step hx3 s4 xt_run) s5 xt_run
  have s05 := (s03.trans (s4.mono (fun _ h => rt_run i h))).trans (s5.mono (fun _ h => rt_run i h))
  clear hLd hl1 hl2 A Ad A2 k0 k1 k2 k3 k4 l1 l2 l3 l4 hr hrd hr3 hr4 hx hx2 hx3 s2 s3 s4 s5 s03 gd1 c0 c1 c2 c3 c4 lb hdec A3
  go_wp2_with fail
  clear c8 z0 z8 l0 lb3
  generalize ((w3.setCell ⟨b, 0, none⟩ (.pointer (some ⟨bx3, 0, none⟩))).setCell ⟨b, 8, none⟩ (.int .i64 0)) = w5 at *
  go_loopw [4] (fun v wr => ∃ (k : Nat), k ≤ m.groups.length ∧ v = .int .i64 k ∧ Step (UT i) w T wr T3 ∧ X wr T3 i bx3 (wakeM m ch) ∧ RunG wr T3 i b bx3 gb gc { m with time := 0 } (mixU (wakeM m ch) (itemsOf m) k) L) (fun v _ => m.groups.length - (intOf v).toNat)
  case atStart => exact ⟨0, Nat.zero_le _, rfl, s05, hx5, hr5.congr rfl rfl rfl rfl rfl (fun _ _ => by simp [mixU]) (fun _ _ => rfl)⟩
  case round =>
    obtain ⟨k, hk, rfl, s6, hx6, hr6⟩ := hrel
    clear hr5 hx5 s05
    obtain ⟨c7, lb6⟩ := hr6.len
    by_cases hlt : k < m.groups.length
    · obtain ⟨g, hg⟩ : ∃ g, m.groups[k]? = some g := ⟨_, List.getElem?_eq_getElem hlt⟩
      have hlen := hlenA g (List.mem_of_getElem? hg)
      have hwl : g.items.length = (g.items.map wakeI).length := by simp
      go_wp2
      go_loopw [5] (fun v wr => ∃ (n : Nat), n ≤ m.bodies.length ∧ v = .int .i64 n ∧ Step (UT i) w T wr T3 ∧ X wr T3 i bx3 (wakeM m ch) ∧ RunG wr T3 i b bx3 gb gc { m with time := 0 } (updF (mixU (wakeM m ch) (itemsOf m) k) k (mixI (g.items.map wakeI) g.items n)) L) (fun v _ => m.bodies.length - (intOf v).toNat)
      case atStart => exact ⟨0, Nat.zero_le _, rfl, s6, hx6, by rw [mixI_zero, ← itemsOf_at hg, ← mixU_self (wakeM m ch) (itemsOf m) k, updF_self]; exact hr6⟩
      case round =>
        obtain ⟨n, hnl, rfl, s7, hx7, hr7⟩ := hrel
        clear hr6 hx6 s6 c7 lb6
        obtain ⟨bo7, bc7, so7, sc7, lo7, lc7, A7⟩ := hr7.at (g := g) hg
        rw [updF_same] at A7
        have c7 : wr.cell? ⟨b, 7, none⟩ = some (.slice (some ⟨gb, 0, none⟩) m.groups.length gc) := A7.c7
        have d2 : wr.cell? ⟨gb, k * 4 + 2, none⟩ = some (.slice so7 m.bodies.length sc7) := A7.d2
        have lb := A7.lb
        have lg := A7.lg
        by_cases hnn : n < m.bodies.length
        · obtain ⟨x, hxn⟩ : ∃ x, g.items[n]? = some x := ⟨_, List.getElem?_eq_getElem (by omega)⟩
          have hxw : (g.items.map wakeI)[n]? = some (wakeI x) := by simp [hxn]
          have hmix : (mixI (g.items.map wakeI) g.items n)[n]? = some x := by rw [mixI_at _ _ _ (by rw [List.length_map]; omega) hwl]; simp [hxn]
          have hsee := A7.see
          obtain ⟨gi, _, e⟩ := row_some hsee (by exact Nat.lt_of_le_of_lt (Nat.zero_le n) hnn)
          cases e
          have t2 := hsee.cell (seenVals_at _ n x hmix).2.2.1
          have t3 := hsee.cell (seenVals_at _ n x hmix).2.2.2
          have z2 := hsee.frozen (n * 4 + 2)
          have z3 := hsee.frozen (n * 4 + 3)
          have li := hsee.lt
          have nei : gi ≠ b := fun e => by have := hsee.2 gi rfl; rw [e, A7.tb] at this; simp at this
          have neg : gi ≠ gb := fun e => by have := hsee.2 gi rfl; rw [e, A7.tg] at this; simp at this
          obtain ⟨hr8, s8⟩ := hr7.seen (k := k) (g := g) (j := n * 4 + 2) (v := .int .i64 0) (u' := (mixI (g.items.map wakeI) g.items n).set n { x with till := 0 }) hg d2 (by show n * 4 + 2 < m.bodies.length * 4; omega) (by rw [updF_same]; exact (seenVals_set _ n x hmix).2.2.1 0)
          have d28 := (s8.cell (p := ⟨gb, k * 4 + 2, none⟩) lg (by rw [A7.tg]; simp)).trans d2
          have hmixl : (mixI (g.items.map wakeI) g.items n).length = g.items.length := by rw [mixI_len _ _ _ hwl (by rw [List.length_map]; omega), List.length_map]
          have hmix8 : ((mixI (g.items.map wakeI) g.items n).set n { x with till := 0 })[n]? = some { x with till := 0 } := by rw [List.getElem?_set, if_pos rfl, if_pos (by rw [hmixl]; omega)]
          obtain ⟨hr9, s9⟩ := hr8.seen (k := k) (g := g) (j := n * 4 + 3) (v := .int .i64 0) (u' := mixI (g.items.map wakeI) g.items (n + 1)) hg d28 (by show n * 4 + 3 < m.bodies.length * 4; omega) (by
            rw [updF_same, (seenVals_set _ n _ hmix8).2.2.2 0, List.set_set, mixI_succ _ _ n (wakeI x) hwl hxw]
            rfl)
          rw [updF_twice, updF_twice] at hr9
          have hx9 := hX.step (hX.step hx7 s8 (by rintro t h rfl; exact absurd h.1 (by simp))) s9 (by rintro t h rfl; exact absurd h.1 (by simp))
          have s09 := (s7.trans (s8.mono (fun _ h => .inr (rt_rseen i k h)))).trans (s9.mono (fun _ h => .inr (rt_rseen i k h)))
          clear A7 hsee hr7 hr8 hx7 s7 s8 s9 d28 hmix hmix8 hxn hxw
          go_wp2
          exact ⟨⟨n + 1, by omega, by simp, s09, hx9, hr9⟩, by simp [intOf]; omega⟩
        · have e : n = m.bodies.length := by omega
          have hr8 : RunG wr T3 i b bx3 gb gc { m with time := 0 } (mixU (wakeM m ch) (itemsOf m) (k + 1)) L := by
            rw [← mixU_succ, wake_items, itemsOf_at hg]
            have e2 : n = (g.items.map wakeI).length := by rw [List.length_map]; omega
            rw [e2, mixI_all _ _ hwl] at hr7
            exact hr7
          clear A7 hr7
          go_wp2
          exact ⟨⟨k + 1, by omega, by simp, s7, hx7, hr8⟩, by simp [intOf]; omega⟩
    · have hr7 : RunG wr T3 i b bx3 gb gc (wakeM m ch) (itemsOf (wakeM m ch)) L := hr6.congr rfl rfl rfl rfl wakeM_ns (fun j hj => by
        have hj' : j < m.groups.length := hj
        simp [mixU, show j < k by omega]) (fun _ _ => rfl)
      have hlk := look_any hX hle i b bx3 gb gc (wakeM m ch) _ L wr T3 hx6 hfq hr7 hnq.named (fun j g' hj => ⟨(hnq.grp j g' hj).items, by rw [itemsOf_at hj]; exact SimI.refl _ _ _ _⟩)
      replace c7 : wr.cell? ⟨b, 7, none⟩ = some (.slice (some ⟨gb, 0, none⟩) m.groups.length gc) := c7
      clear hr6 hr7 hfq hnq
      go_wp2_with fail
      refine hlk.mono ?_
      clear hlk
      rintro e w8 ⟨rfl, T8, s8, hx8, hr8⟩
      go_wp2
      go_end0
      exact ⟨rfl, T8, bx3, ch, s6.trans s8, hx8, hr8⟩

end Go.Proofs.YtockkceclkcgbaaGreatDoor
